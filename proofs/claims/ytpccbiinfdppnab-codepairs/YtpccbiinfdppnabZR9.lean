/- Texts of ours, one behind the other: R9 R10 R11 R12 R13 R18 R14 B4 B5 B6 R15. -/
import Derived.Test.YtpccbiinfdppnabZR5
import Derived.Test.YtpccbiinfdppnabZB3
import Derived.Deep.RegionWith
import Derived.Deep.RegionHeld3
/- The reference: no field; what undoes a product, powers, logarithms. -/
namespace Go.Proofs.Ytpccbiinfdppnab
open Go.RowKit

theorem pp_zero : (allB 65 fun q => decide (q < 2) || !((pp q).2 == 0) || (pp q).1 == 0) = true := by decide +kernel
def rf0 : Value := .agg #[.int .i64 0, .int .i64 0, .int .i64 0, .int .i64 0, .slice none 0 0]

set_option maxHeartbeats 2000000 in
theorem rfield_none (q : Int) (w : World) (h : ∀ D ∈ fieldsL, (D.q : Int) ≠ q) :
    Calls Try.prog 43 #[.int .i64 q] w fun e w' => e = .returned (.tuple #[rf0, .int .i64 1]) ∧ Below w.heap.size w w' := by
  unfold rf0
  by_cases h0 : q < 2
  · clear h
    go_enter Try.func43, Try.ntmps43
    go_wp2
    exact bodyPost_ret (v := .tuple #[.agg #[.int .i64 0, .int .i64 0, .int .i64 0, .int .i64 0, .slice none 0 0], .int .i64 1]) (by simp [results, Try.results43, go_sem]) rfl ⟨rfl, (Below.refl _ _).alloc (Nat.le_refl _) _⟩
  by_cases h1 : 64 < q
  · clear h
    go_enter Try.func43, Try.ntmps43
    go_wp2
    exact bodyPost_ret (v := .tuple #[.agg #[.int .i64 0, .int .i64 0, .int .i64 0, .int .i64 0, .slice none 0 0], .int .i64 1]) (by simp [results, Try.results43, go_sem]) rfl ⟨rfl, (Below.refl _ _).alloc (Nat.le_refl _) _⟩
  obtain ⟨n, rfl⟩ := Int.eq_ofNat_of_zero_le (show 0 ≤ q from by omega)
  have hz : (pp n).1 = 0 := by
    have h3 := no_field (q := n) (by omega) (fun D hD e => h D hD (by rw [e]))
    have h4 := allB_of pp_zero n (by omega)
    rcases h3 with h3 | h3
    · omega
    · simp only [h3, beq_self_eq_true, Bool.not_true, Bool.or_false, Bool.or_eq_true, decide_eq_true_eq, beq_iff_eq] at h4
      rcases h4 with h4 | h4
      · omega
      · exact h4
  have HZ : Hid ((pp n).1 = 0) := hz
  clear h hz
  go_enter Try.func43, Try.ntmps43
  go_wp2_with fail
  refine (prime_any n _ (by omega) (by omega)).mono ?_
  rintro e w' ⟨rfl, rfl⟩
  rw [HZ.out]
  go_wp2
  exact bodyPost_ret (v := .tuple #[.agg #[.int .i64 0, .int .i64 0, .int .i64 0, .int .i64 0, .slice none 0 0], .int .i64 1]) (by simp [results, Try.results43, go_sem]) rfl ⟨rfl, (Below.refl _ _).alloc (Nat.le_refl _) _⟩

theorem rfield_any {D : FD} (hD : D ∈ fieldsL) (w : World) :
    Calls Try.prog 43 #[.int .i64 D.q] w fun e w' => ∃ v, e = .returned (.tuple #[rf D.q D.p D.m D.gen v, .int .i64 0]) ∧ OwnI w.heap.size v D.modL w' ∧ ModAt D v D.md w' ∧ Below w.heap.size w w' := by
  by_cases hm : D.m = 1
  · refine (rfield_prime hD hm w).mono ?_
    rintro e w' ⟨v, h1, h2, h3⟩
    exact ⟨v, h1, h2, modAt_one hm (fld hD).p2 v w', h3⟩
  · exact rfield_power hD hm w

/-! ### Plain mathematics -/
theorem pw_zero {D : FD} (_hD : D ∈ fieldsL) (a : Nat) : D.pw a 0 = 1 := by
  unfold FD.pw; rw [Nat.mul_zero, Nat.zero_mod]; rfl
theorem pw_succ {D : FD} (hD : D ∈ fieldsL) (a k : Nat) (h0 : a ≠ 0) : D.mul (D.pw a k) a = D.pw a (k + 1) := by
  have hp := pw_ne hD a k
  rw [FD.mul, if_neg (by omega), hp.2, Nat.mod_add_mod, FD.pw, Nat.mul_add, Nat.mul_one]
theorem inv_uniq {D : FD} (hD : D ∈ fieldsL) (a b : Nat) (ha : a < D.q) (hb : b < D.q) (h0 : a ≠ 0) (h : D.mul a b = 1) : b = D.pw a (D.q - 2) := by
  have F := fld hD
  have h1 := t11 hD ha h0
  rw [inv_nat hD ha h0, mulZ_nat F ha (pw_lt hD _ _)] at h1
  have h1 : D.mul a (D.pw a (D.q - 2)) = 1 := by exact_mod_cast h1
  have h2 := F.mul_assoc (D.pw a (D.q - 2)) a b
  rw [h, F.mul_comm _ a, h1, F.mul_comm 1 b, F.mul_one b hb, F.mul_one _ (pw_lt hD _ _)] at h2
  exact h2
theorem mul_gen {D : FD} (hD : D ∈ fieldsL) (a : Nat) (ha : a < D.q) : D.mul a D.gen = D.st a := by
  have F := fld hD
  have hs := List.all_eq_true.1 st_one D hD
  simp only [Bool.and_eq_true, beq_iff_eq, decide_eq_true_eq] at hs
  obtain ⟨⟨hs1, hs2⟩, hs3⟩ := hs
  rw [F.mul_comm, F.mul_eq D.gen a hs3 ha]
  by_cases hq : D.q = 2
  · have hg : D.gen = 1 := by omega
    rw [hg, F.lg_one]
    show a = D.st a
    by_cases h0 : a = 0
    · rw [h0, F.st_zero]
    · have : a = 1 := by omega
      rw [this, hs1, hg]
  · have h2 := F.q2
    have hg : D.lg D.gen = 1 := by
      have := F.lg_pow 1 (by omega)
      rw [show again D.st 1 1 = D.gen from hs1] at this
      exact this
    rw [hg]; rfl

/-! ### Calls -/
set_option maxHeartbeats 4000000 in
theorem rinv_any {D : FD} (hD : D ∈ fieldsL) (gen : Nat) {v : Value} (a : Int) {w : World} (hM : ModAt D v D.md w) :
    Calls Try.prog 93 #[rf D.q D.p D.m gen v, .int .i64 a] w fun e w' => e = .returned (.int .i64 (D.powZ a (-1))) ∧ Below w.heap.size w w' := by
  have F := fld hD
  have h64 := F.q64
  have h2 := F.q2
  have HM : Hid (ModAt D v D.md w ∧ D ∈ fieldsL ∧ Fld D) := ⟨hM, hD, F⟩
  by_cases ha : D.has a = true
  · obtain ⟨x, rfl, hx⟩ := has_nat ha
    by_cases h0 : x = 0
    · have HV : Hid (D.powZ x (-1) = -1) := inv_zero hx h0
      have hz : ((x : Int) == 0) = true := beq_iff_eq.2 (by omega)
      clear hM hD F h0
      unfold rf
      go_enter Try.func93, Try.ntmps93
      go_wp2_with fail
      refine (rhas_any D gen v x _).mono ?_
      rintro e w1 ⟨rfl, hb1⟩
      have HB1 : Hid (Below w.heap.size w w1) := ((Below.refl _ _).alloc (Nat.le_refl _) _).trans (hb1.mono (by simp))
      clear hb1
      go_wp2
      go_ret
      exact ⟨ret_int (by rw [HV.out]), HB1.out⟩
    · obtain ⟨i, hi⟩ : ∃ i, i = D.pw x (D.q - 2) := ⟨_, rfl⟩
      have HV : Hid (D.powZ x (-1) = (i : Nat)) := by show _ = _; rw [inv_nat hD hx h0, hi]
      have hiq : i < D.q := by rw [hi]; exact pw_lt hD _ _
      have hi1 : 1 ≤ i := by have := (pw_ne hD x (D.q - 2)).1; omega
      have HI : Hid (∀ b, b < D.q → (D.mulZ x b = 1 ↔ b = i)) := by
        intro b hb
        rw [mulZ_nat F hx hb]
        constructor
        · intro h; rw [hi]; exact inv_uniq hD x b hx hb h0 (by exact_mod_cast h)
        · intro h
          have h1 := t11 hD hx h0
          rw [inv_nat hD hx h0, mulZ_nat F hx (pw_lt hD _ _)] at h1
          rw [h, hi]; exact h1
      have hz : ((x : Int) == 0) = false := by rw [beq_eq_false_iff_ne]; omega
      clear hM hD F h0 hi
      unfold rf
      go_enter Try.func93, Try.ntmps93
      go_wp2_with fail
      refine (rhas_any D gen v x _).mono ?_
      rintro e w1 ⟨rfl, hb1⟩
      have HX1 : Hid (Box w.heap.size D gen v w1 ∧ Below w.heap.size w w1) := ⟨(box_new D gen v w).below hb1 (by simp), ((Below.refl _ _).alloc (Nat.le_refl _) _).trans (hb1.mono (by simp))⟩
      have hs1 : w.heap.size < w1.heap.size := by have := hb1.size; simp at this; omega
      clear hb1
      go_wp2
      go_loopw [5] (fun j wr => ∃ b : Nat, 1 ≤ b ∧ b ≤ i ∧ j = .int .i64 b ∧ Box w.heap.size D gen v wr ∧ Below w.heap.size w wr ∧ w.heap.size < wr.heap.size) (fun j _ => D.q - (intOf j).toNat)
      case atStart => exact ⟨1, by omega, hi1, rfl, HX1.out.1, HX1.out.2, hs1⟩
      case round =>
        obtain ⟨b, hb1, hbi, rfl, hbox, hbel, hlt⟩ := hrel
        obtain ⟨c0, c1, c2, c3, c4⟩ := hbox
        have HG : Hid (Box w.heap.size D gen v wr ∧ Below w.heap.size w wr) := ⟨⟨c0, c1, c2, c3, c4⟩, hbel⟩
        clear hbel
        have HC : Hid (Calls Try.prog 85 #[.agg #[.int .i64 D.q, .int .i64 D.p, .int .i64 D.m, .int .i64 gen, v], .int .i64 x, .int .i64 b] wr fun e w' => e = .returned (.int .i64 (D.mulZ x b)) ∧ Below wr.heap.size wr w') :=
          rmul_any HM.out.2.1 gen x b (HM.out.1.below HG.out.2)
        have HT := HI.out b (by omega)
        by_cases he : b = i
        · have hm1 : (D.mulZ x b == 1) = true := beq_iff_eq.2 (HT.2 he)
          have HE : Hid (b = i) := he
          clear he HT
          go_wp2_with fail
          refine HC.out.mono ?_
          rintro e w2 ⟨rfl, hb2⟩
          have HB2 : Hid (Below w.heap.size w w2) := HG.out.2.trans (hb2.mono (by omega))
          clear hb2 c0 c1 c2 c3 c4 HC
          go_wp2
          go_ret
          exact ⟨ret_int (by rw [HV.out, HE.out]), HB2.out⟩
        · have hm1 : (D.mulZ x b == 1) = false := beq_eq_false_iff_ne.2 (fun h => he (HT.1 h))
          clear HT
          go_wp2_with fail
          refine HC.out.mono ?_
          rintro e w2 ⟨rfl, hb2⟩
          have HR : Hid (Box w.heap.size D gen v w2 ∧ Below w.heap.size w w2 ∧ w.heap.size < w2.heap.size) := ⟨HG.out.1.below hb2 hlt, HG.out.2.trans (hb2.mono (by omega)), by have := hb2.size; omega⟩
          clear hb2 c0 c1 c2 c3 c4 HC
          go_wp2
          go_roundw
          case rel => exact ⟨b + 1, by omega, by omega, by go_num, HR.out⟩
          case measure => simp [intOf]; omega
  · have ha' : D.has a = false := by simpa using ha
    have HV : Hid (D.powZ a (-1) = -1) := by show _ = _; rw [FD.powZ, if_pos ha']
    clear ha hM hD F
    unfold rf
    go_enter Try.func93, Try.ntmps93
    go_wp2_with fail
    refine (rhas_any D gen v a _).mono ?_
    rintro e w1 ⟨rfl, hb1⟩
    have HB1 : Hid (Below w.heap.size w w1) := ((Below.refl _ _).alloc (Nat.le_refl _) _).trans (hb1.mono (by simp))
    clear hb1
    go_wp2
    go_ret
    exact ⟨ret_int (by rw [HV.out]), HB1.out⟩
end Go.Proofs.Ytpccbiinfdppnab

/- The reference: powers, logarithms, and what Frobenius makes. -/
namespace Go.Proofs.Ytpccbiinfdppnab
open Go.RowKit

/-! ### Plain mathematics -/
/-- An element times itself, so many times. -/
def FD.pwr (D : FD) (x k : Nat) : Nat := again (fun r => D.mul r x) k 1
/-- An element to the power p. -/
def FD.frob1 (D : FD) (a : Nat) : Nat := if a = 0 then 0 else D.pw a D.p
def FD.frobZ (D : FD) (a t : Int) : Int := if D.has a = true then (again D.frob1 (t % (D.m : Int)).toNat a.toNat : Nat) else -1

theorem pwr_lt {D : FD} (hD : D ∈ fieldsL) (x : Nat) : ∀ k, D.pwr x k < D.q
  | 0 => by have := (fld hD).q2; show 1 < D.q; omega
  | k + 1 => (fld hD).mul_lt _ _
theorem pwr_is {D : FD} (hD : D ∈ fieldsL) (x : Nat) (h0 : x ≠ 0) : ∀ k, D.pwr x k = D.pw x k
  | 0 => (pw_zero hD x).symm
  | k + 1 => by
    show D.mul (D.pwr x k) x = _
    rw [pwr_is hD x h0 k, pw_succ hD x k h0]
theorem pwr_frob {D : FD} (hD : D ∈ fieldsL) (x : Nat) : D.pwr x D.p = D.frob1 x := by
  unfold FD.frob1
  by_cases h0 : x = 0
  · have := (fld hD).p2
    rw [if_pos h0, h0, show D.p = (D.p - 1) + 1 from by omega]
    show D.mul (D.pwr 0 (D.p - 1)) 0 = 0
    simp [FD.mul]
  · rw [if_neg h0, pwr_is hD x h0]
theorem frob1_lt {D : FD} (hD : D ∈ fieldsL) (x : Nat) : D.frob1 x < D.q := by rw [← pwr_frob hD]; exact pwr_lt hD x D.p
theorem frob_lt {D : FD} (hD : D ∈ fieldsL) (x : Nat) (hx : x < D.q) (k : Nat) : again D.frob1 k x < D.q := again_lt _ _ (fun a _ => frob1_lt hD a) k x hx

/-- The product, as a call of the reference in whatever world behind. -/
theorem rmul_nat {D : FD} (hD : D ∈ fieldsL) (gen : Nat) {v : Value} {w : World} (hM : ModAt D v D.md w) (a b : Nat) (ha : a < D.q) (hb : b < D.q) (wr : World) (h : Below w.heap.size w wr) :
    Calls Try.prog 85 #[.agg #[.int .i64 D.q, .int .i64 D.p, .int .i64 D.m, .int .i64 gen, v], .int .i64 a, .int .i64 b] wr fun e w' => e = .returned (.int .i64 (D.mul a b : Nat)) ∧ Below wr.heap.size wr w' := by
  rw [← mulZ_nat (fld hD) ha hb]
  exact rmul_any hD gen a b (hM.below h)

theorem emod_tmod (k n : Int) : k.tmod n % n = k % n := by
  rw [Int.tmod_def]
  exact Int.sub_mul_emod_self_left _ _ _
theorem emod_of_tmod_neg (k n : Int) (hn : 0 < n) (h : k.tmod n < 0) : k.tmod n + n = k % n := by
  have h2 := Int.lt_tmod_of_pos k hn
  rw [← emod_tmod k n, ← Int.add_emod_right (k.tmod n) n]
  exact (Int.emod_eq_of_lt (by omega) (by omega)).symm
theorem emod_of_tmod_pos (k n : Int) (hn : 0 < n) (h : 0 ≤ k.tmod n) : k.tmod n = k % n := by
  have h2 := Int.tmod_lt_of_pos k hn
  rw [← emod_tmod k n]
  exact (Int.emod_eq_of_lt h h2).symm

/-! ### Calls -/
end Go.Proofs.Ytpccbiinfdppnab

/- The reference: logarithms, Frobenius, traces and norms. -/
namespace Go.Proofs.Ytpccbiinfdppnab
open Go.RowKit

def FD.traceTo (D : FD) (a : Nat) : Nat → Nat
  | 0 => 0
  | k + 1 => sumD D.p D.q (D.traceTo a k) (again D.frob1 k a)
def FD.normTo (D : FD) (a : Nat) : Nat → Nat
  | 0 => 1
  | k + 1 => D.mul (D.normTo a k) (again D.frob1 k a)
def FD.traceZ (D : FD) (a : Int) : Int := if D.has a = true then (D.traceTo a.toNat D.m : Nat) else -1
def FD.normZ (D : FD) (a : Int) : Int := if D.has a = true then (D.normTo a.toNat D.m : Nat) else -1
theorem traceTo_lt {D : FD} (hD : D ∈ fieldsL) (a : Nat) (ha : a < D.q) : ∀ k, D.traceTo a k < D.q
  | 0 => by have := (fld hD).q2; show 0 < D.q; omega
  | k + 1 => (fld hD).sum_lt _ _ (traceTo_lt hD a ha k) (frob_lt hD a ha k)
theorem normTo_lt {D : FD} (hD : D ∈ fieldsL) (a : Nat) : ∀ k, D.normTo a k < D.q
  | 0 => by have := (fld hD).q2; show 1 < D.q; omega
  | k + 1 => (fld hD).mul_lt _ _

end Go.Proofs.Ytpccbiinfdppnab

/- The reference: traces and norms. -/
namespace Go.Proofs.Ytpccbiinfdppnab
open Go.RowKit

theorem frobZ_nat {D : FD} {x j : Nat} (ha : D.has (x : Int) = true) (hj : j < D.m) : D.frobZ x j = (again D.frob1 j x : Nat) := by
  rw [FD.frobZ, if_pos ha, ← Int.natCast_emod, Int.toNat_natCast, Int.toNat_natCast, Nat.mod_eq_of_lt hj]

end Go.Proofs.Ytpccbiinfdppnab

/- The reference: are two lists the same (Same); the elements of a smaller field (Within). -/
namespace Go.Proofs.Ytpccbiinfdppnab
open Go.RowKit

/-- The slice v reads as the numbers l. -/
def SliceI (v : Value) (l : List Int) (w : World) : Prop :=
  (l = [] ∧ ∃ ao cap, v = .slice ao 0 cap) ∨ (l ≠ [] ∧ l.length ≤ 1000000 ∧ ∃ b off cap, v = .slice (some ⟨b, off, none⟩) l.length cap ∧ ∀ j, j < l.length → w.cell? ⟨b, off + j, none⟩ = some (.int .i64 (l.getD j 0)))
theorem OwnI.slice {base : Nat} {v : Value} {l : List Int} {w : World} (h : OwnI base v l w) (hl : l.length ≤ 1000000) : SliceI v l w := by
  by_cases e : l = []
  · refine Or.inl ⟨e, ?_⟩
    rcases h.2 with ⟨h1, _⟩ | ⟨g, cap, cur, hv, _⟩
    · exact ⟨none, 0, h1⟩
    · rw [e] at hv; exact ⟨_, cap, hv⟩
  · obtain ⟨g, cap, hv, _, _, hc, _⟩ := h.at e
    exact Or.inr ⟨e, hl, g, 0, cap, hv, fun j hj => by rw [Nat.zero_add]; exact hc j hj⟩
theorem SliceI.below {B : Nat} {v : Value} {l : List Int} {w w' : World} (h : SliceI v l w) (hb : Below B w w') (hB : ∀ k, v.ownBlock = some k → k < B) : SliceI v l w' := by
  rcases h with h | ⟨h1, h2, b, off, cap, rfl, hc⟩
  · exact Or.inl h
  · exact Or.inr ⟨h1, h2, b, off, cap, rfl, fun j hj => ((bcell hb).1 b (off + j) (hB b rfl)).trans (hc j hj)⟩
theorem SliceI.drewN {v : Value} {l : List Int} {w : World} (h : SliceI v l w) (n : Nat) : SliceI v l (w.drewN n) := h

theorem list_ext_getD (l m : List Int) (h : l.length = m.length) (e : ∀ j, j < l.length → l.getD j 0 = m.getD j 0) : l = m := by
  apply List.ext_getElem h
  intro i h1 h2
  have := e i h1
  rwa [List.getD_eq_getElem?_getD, List.getD_eq_getElem?_getD, List.getElem?_eq_getElem h1, List.getElem?_eq_getElem h2] at this

set_option maxHeartbeats 2000000 in
theorem same_any {va vb : Value} {la lb : List Int} {w : World} (ha : SliceI va la w) (hb : SliceI vb lb w) :
    Calls Try.prog 37 #[va, vb] w fun e w' => e = .returned (.bool (decide (la = lb))) ∧ ∃ n, w' = w.drewN n := by
  by_cases hlen : la.length = lb.length
  · rcases ha with ⟨rfl, ao, ca, rfl⟩ | ⟨h1, h2, b, off, cap, rfl, hc⟩
    · have h0 : lb = [] := List.length_eq_zero_iff.1 hlen.symm
      subst h0
      rcases hb with ⟨_, bo, cb, rfl⟩ | ⟨h3, _⟩
      · clear hlen
        go_enter Try.func37, Try.ntmps37
        go_wp2
        refine wp_loop_rounds 1 ?_
        rw [rounds_succ]
        go_wp2
        go_ret
        exact ⟨rfl, 0, rfl⟩
      · exact absurd rfl h3
    · rcases hb with ⟨rfl, bo, cb, rfl⟩ | ⟨h3, h4, b', off', cap', rfl, hc'⟩
      · exact absurd (List.length_eq_zero_iff.1 hlen) h1
      · obtain ⟨n, hn⟩ : ∃ n, n = la.length := ⟨_, rfl⟩
        rw [← hlen, ← hn]
        have HC : Hid ((∀ j, j < n → w.cell? ⟨b, off + j, none⟩ = some (.int .i64 (la.getD j 0))) ∧ (∀ j, j < n → w.cell? ⟨b', off' + j, none⟩ = some (.int .i64 (lb.getD j 0)))) := ⟨fun j hj => hc j (by omega), fun j hj => hc' j (by omega)⟩
        have HL : Hid (n = la.length ∧ la.length = lb.length) := ⟨hn, hlen⟩
        have hnb : n ≤ 1000000 := by omega
        clear hc hc' h1 h2 h3 h4 hlen hn
        go_enter Try.func37, Try.ntmps37
        go_wp2
        go_loopw [5] (fun i wr => ∃ k : Nat, k ≤ n ∧ i = .int .i64 k ∧ Hid (∀ j, j < k → la.getD j 0 = lb.getD j 0) ∧ ∃ d, wr = w.drewN d) (fun i _ => n - (intOf i).toNat)
        case atStart => exact ⟨0, by omega, rfl, fun j hj => by omega, 0, rfl⟩
        case round =>
          obtain ⟨k, hk, rfl, HK, d, rfl⟩ := hrel
          by_cases hlt : k < n
          · have c1 := HC.out.1 k hlt
            have c2 := HC.out.2 k hlt
            obtain ⟨x, hx⟩ : ∃ x, x = la.getD k 0 := ⟨_, rfl⟩
            obtain ⟨y, hy⟩ : ∃ y, y = lb.getD k 0 := ⟨_, rfl⟩
            rw [← hx] at c1
            rw [← hy] at c2
            have HX : Hid (x = la.getD k 0 ∧ y = lb.getD k 0) := ⟨hx, hy⟩
            clear hx hy
            by_cases he : x = y
            · have hb : (x != y) = false := by rw [he]; simp
              have HK2 : Hid (∀ j, j < k + 1 → la.getD j 0 = lb.getD j 0) := fun j hj => if e : j = k then by rw [e, ← HX.out.1, ← HX.out.2, he] else HK.out j (by omega)
              clear he
              go_wp2
              go_quiet (fail)
              go_wp2
              go_roundw
              case rel => exact ⟨k + 1, by omega, by go_num, HK2.out, _, rfl⟩
              case measure => simp [intOf]; omega
            · have hb : (x != y) = true := by rw [bne_iff_ne]; exact he
              have HV : Hid (decide (la = lb) = false) := by
                show _ = _
                rw [decide_eq_false_iff_not]; intro e; exact he (by rw [HX.out.1, HX.out.2, e])
              clear he
              go_wp2
              go_quiet (fail)
              go_wp2
              go_ret
              exact ⟨ret_bool (by rw [HV.out]), _, by rw [World.drewN_drewN]⟩
          · have HV : Hid (decide (la = lb) = true) := by
              show _ = _
              rw [decide_eq_true_eq]; exact list_ext_getD la lb HL.out.2 (fun j hj => HK.out j (by have := HL.out.1; omega))
            go_wp2
            go_ret
            exact ⟨ret_bool (by rw [HV.out]), _, rfl⟩
  · have HV : Hid (decide (la = lb) = false) := by
      show _ = _
      rw [decide_eq_false_iff_not]; intro e; exact hlen (by rw [e])
    obtain ⟨ao, ca, ea⟩ : ∃ ao ca, va = .slice ao la.length ca := by
      rcases ha with ⟨rfl, ao, ca, rfl⟩ | ⟨_, _, b, off, cap, rfl, _⟩
      · exact ⟨ao, ca, rfl⟩
      · exact ⟨_, cap, rfl⟩
    obtain ⟨bo, cb, eb⟩ : ∃ bo cb, vb = .slice bo lb.length cb := by
      rcases hb with ⟨rfl, ao, ca, rfl⟩ | ⟨_, _, b, off, cap, rfl, _⟩
      · exact ⟨ao, ca, rfl⟩
      · exact ⟨_, cap, rfl⟩
    subst ea eb
    have hne : (((la.length : Nat) : Int) != ((lb.length : Nat) : Int)) = true := by rw [bne_iff_ne]; exact_mod_cast hlen
    generalize la.length = n at *
    generalize lb.length = m at *
    clear ha hb hlen
    go_enter Try.func37, Try.ntmps37
    go_wp2
    go_ret
    exact ⟨ret_bool (by rw [HV.out]), 0, rfl⟩
end Go.Proofs.Ytpccbiinfdppnab

/- The reference: is a number in a list (In). -/
namespace Go.Proofs.Ytpccbiinfdppnab
open Go.RowKit

theorem mem_getD {l : List Int} {x : Int} : x ∈ l ↔ ∃ j, j < l.length ∧ l.getD j 0 = x := by
  constructor
  · intro h
    obtain ⟨j, hj, e⟩ := List.getElem_of_mem h
    exact ⟨j, hj, by rw [List.getD_eq_getElem?_getD, List.getElem?_eq_getElem hj]; exact e⟩
  · rintro ⟨j, hj, e⟩
    rw [List.getD_eq_getElem?_getD, List.getElem?_eq_getElem hj] at e
    rw [← e]; exact List.getElem_mem hj

set_option maxHeartbeats 2000000 in
theorem in_any {v : Value} {l : List Int} {w : World} (x : Int) (h : SliceI v l w) :
    Calls Try.prog 94 #[.int .i64 x, v] w fun e w' => e = .returned (.bool (decide (x ∈ l))) ∧ ∃ n, w' = w.drewN n := by
  rcases h with ⟨rfl, ao, ca, rfl⟩ | ⟨h1, h2, b, off, cap, rfl, hc⟩
  · go_enter Try.func94, Try.ntmps94
    go_wp2
    refine wp_loop_rounds 1 ?_
    rw [rounds_succ]
    go_wp2
    go_ret
    exact ⟨rfl, 0, rfl⟩
  · obtain ⟨n, hn⟩ : ∃ n, n = l.length := ⟨_, rfl⟩
    rw [← hn]
    have HC : Hid ((∀ j, j < n → w.cell? ⟨b, off + j, none⟩ = some (.int .i64 (l.getD j 0))) ∧ n = l.length) := ⟨fun j hj => hc j (by omega), hn⟩
    have hnb : n ≤ 1000000 := by omega
    clear hc h1 h2 hn
    go_enter Try.func94, Try.ntmps94
    go_wp2
    go_loopw [5] (fun i wr => ∃ k : Nat, k ≤ n ∧ i = .int .i64 k ∧ Hid (∀ j, j < k → l.getD j 0 ≠ x) ∧ ∃ d, wr = w.drewN d) (fun i _ => n - (intOf i).toNat)
    case atStart => exact ⟨0, by omega, rfl, fun j hj => by omega, 0, rfl⟩
    case round =>
      obtain ⟨k, hk, rfl, HK, d, rfl⟩ := hrel
      by_cases hlt : k < n
      · have c1 := HC.out.1 k hlt
        obtain ⟨y, hy⟩ : ∃ y, y = l.getD k 0 := ⟨_, rfl⟩
        rw [← hy] at c1
        have HX : Hid (y = l.getD k 0) := hy
        clear hy
        by_cases he : y = x
        · have hb : (y == x) = true := beq_iff_eq.2 he
          have HV : Hid (decide (x ∈ l) = true) := by
            show _ = _
            rw [decide_eq_true_eq]; exact mem_getD.2 ⟨k, by have := HC.out.2; omega, by rw [← HX.out, he]⟩
          clear he
          go_wp2
          go_ret
          exact ⟨ret_bool (by rw [HV.out]), _, by first | rfl | rw [World.drewN_drewN]⟩
        · have hb : (y == x) = false := beq_eq_false_iff_ne.2 he
          have HK2 : Hid (∀ j, j < k + 1 → l.getD j 0 ≠ x) := fun j hj => if e : j = k then by rw [e, ← HX.out]; exact he else HK.out j (by omega)
          clear he
          go_wp2
          go_roundw
          case rel => exact ⟨k + 1, by omega, by go_num, HK2.out, _, rfl⟩
          case measure => simp [intOf]; omega
      · have HV : Hid (decide (x ∈ l) = false) := by
          show _ = _
          rw [decide_eq_false_iff_not]; intro e
          obtain ⟨j, hj, e⟩ := mem_getD.1 e
          exact HK.out j (by have := HC.out.2; omega) e
        go_wp2
        go_ret
        exact ⟨ret_bool (by rw [HV.out]), _, rfl⟩
end Go.Proofs.Ytpccbiinfdppnab

/- The reference: the elements of a smaller field within one (Within). -/
namespace Go.Proofs.Ytpccbiinfdppnab
open Go.RowKit

/-- Of the first k elements those that stay under Frobenius, so many times. -/
def FD.stayTo (D : FD) (m k : Nat) : List Int := ((List.range k).filter fun a => again D.frob1 (m % D.m) a == a).map Int.ofNat
theorem stayTo_yes {D : FD} {m k : Nat} (h : again D.frob1 (m % D.m) k = k) : D.stayTo m (k + 1) = D.stayTo m k ++ [(k : Int)] := by
  unfold FD.stayTo; rw [List.range_succ, List.filter_append, List.map_append]; simp [h]
theorem stayTo_no {D : FD} {m k : Nat} (h : ¬ again D.frob1 (m % D.m) k = k) : D.stayTo m (k + 1) = D.stayTo m k := by
  unfold FD.stayTo; rw [List.range_succ, List.filter_append, List.map_append]; simp [h]
theorem stayTo_len (D : FD) (m k : Nat) : (D.stayTo m k).length ≤ k := by
  unfold FD.stayTo; rw [List.length_map]; exact Nat.le_trans (List.length_filter_le _ _) (by simp)

/-- The elements of the field of so many within this one. -/
def FD.withinL (D : FD) (size : Int) : List Int := if 2 ≤ size ∧ size ≤ 64 ∧ (pp size.toNat).1 = D.p ∧ (pp size.toNat).2 ≠ 0 ∧ D.m % (pp size.toNat).2 = 0 then D.stayTo (pp size.toNat).2 D.q else []

theorem pp_bd : (allB 65 fun q => decide ((pp q).2 ≤ 6) || decide (q < 2)) = true := by decide +kernel

end Go.Proofs.Ytpccbiinfdppnab

/- A field's calls, gone on: Frobenius, traces, norms. -/
namespace Go.Proofs.Ytpccbiinfdppnab
open Go.RowKit

theorem powZ_frob {D : FD} (hD : D ∈ fieldsL) {z : Nat} (hz : z < D.q) : D.powZ z D.p = (D.frob1 z : Nat) := by
  have F := fld hD
  have hp := F.p2
  rw [FD.powZ, if_neg (by simp [nat_has hz]), if_neg (by omega)]
  unfold FD.frob1
  by_cases h0 : z = 0
  · rw [if_pos (by omega), if_neg (by omega), if_pos h0]; rfl
  · rw [if_neg (by omega), if_neg h0, ← Int.natCast_emod, Int.toNat_natCast, Int.toNat_natCast]
    unfold FD.pw
    rw [Nat.mul_mod, Nat.mod_mod, ← Nat.mul_mod]

end Go.Proofs.Ytpccbiinfdppnab

/- A field's calls, gone on: its modulus, the elements of a smaller field. -/
namespace Go.Proofs.Ytpccbiinfdppnab
open Go.RowKit

theorem RowF.own {g n base : Nat} {f : Nat → Value} {l : List Int} {w : World} (h : RowF g n 3 f w) (hl : l.length = n) (hf : ∀ j, j < n → f j = .int .i64 (l.getD j 0)) (hb : base ≤ g) (hn : n ≤ 1000000) : OwnI base (.slice (some ⟨g, 0, none⟩) n n) l w := by
  obtain ⟨cs, h1, h2, h3⟩ := h
  refine ⟨by simp, Or.inr ⟨g, n, cs, by rw [hl], hb, h1, by omega, by unfold maxLen; omega, by omega, ?_⟩⟩
  rw [hl, Nat.mul_one, List.take_of_length_le (by simp; omega)]
  apply List.ext_getElem?
  intro i
  by_cases hi : i < n
  · rw [Array.getElem?_toList, h3 i hi, hf i hi, List.getElem?_map, List.getD_eq_getElem?_getD, List.getElem?_eq_getElem (by omega)]; rfl
  · rw [List.getElem?_eq_none (by simp; omega), List.getElem?_eq_none (by simp; omega)]

theorem low_lt {D : FD} (hD : D ∈ fieldsL) : D.low < D.q := by
  have F := fld hD
  by_cases hm : D.m = 1
  · have := (F.least1 hm).2.2.2.1; have := F.q2; omega
  · exact (F.least2 hm).2.1

/-- 'append(l, y)', l the call's own, at a step of a region that draws its order. -/
theorem step_append_int {ops : Array Oper} {o : Oper} {a : Act} {w : World} {K : Act → World → Prop} {Q : Exit → Act → World → Prop} {E : Prop} (hgd : o.guard = none) (s x : Operand)
    (ho : o.op = .call { callee := .builtin .append, args := #[s, x], argTypes := #[22, 22] })
    (base : Nat) (v : Value) (l : List Int) (hs : a.eval s = v) (hown : OwnI base v l w) (ad : Addr) (c : Nat) (y : Int) (hx : a.eval x = .slice (some ad) 1 c) (hcell : w.cell? ad = some (.int .i64 y))
    (hlen : l.length ≤ 1000000) (hbase : base ≤ w.heap.size)
    (h : ∀ v' w', OwnI base v' (l ++ [y]) w' → w.grownBy w' v.ownBlock → K (a.put o.dst v') w') : if Region.wanted o (yielded ops a.tmps) = true then Oper.wp Try.prog o a w K Q else E := by
  have hw : Region.wanted o (yielded ops a.tmps) = true := by simp [Region.wanted, hgd]
  rw [if_pos hw]
  obtain ⟨i0, hi, hz0, hz1, hz2⟩ := info_parts Try.infoInt
  refine wp_append_own w s x 22 ho base 3 i0 (.int .i64 0) 1 8 Try.underlying22 hi hz0 hz1 hz2 rfl (by decide) v l.length _ hs hown ad 1 c [.int .i64 y] hx rfl ?_ ?_ ?_ ?_ hbase ?_
  · intro j u hj
    match j, hj with
    | 0, hj =>
      simp at hj; subst hj
      have : ad.add 0 = ad := by cases ad with | mk b o s => cases s <;> simp [Addr.add]
      rw [this]; exact hcell
  · intro u hu; simp at hu; subst hu; rfl
  · unfold maxLen; omega
  · omega
  · intro v' w' hown' hgrow _
    refine h v' w' ?_ hgrow
    unfold OwnI
    rw [List.map_append, List.length_append]
    exact hown'

theorem bel_up {B : Nat} {w W w1 : World} (h0 : Below B w W) (h : Below W.heap.size W w1) (hB : B ≤ w.heap.size := by exact Nat.le_refl _) : Below B w w1 := h0.trans (h.mono (Nat.le_trans hB h0.size))

end Go.Proofs.Ytpccbiinfdppnab

/- A field's calls, gone on: a field within another (holds, Within). -/
namespace Go.Proofs.Ytpccbiinfdppnab
open Go.RowKit

/-! ### Plain mathematics -/
theorem pw_pw {D : FD} (hD : D ∈ fieldsL) (a x y : Nat) : D.pw (D.pw a x) y = D.pw a (x * y) := by
  have h := pw_ne hD a x
  unfold FD.pw at *
  rw [h.2, Nat.mul_mod, Nat.mod_mod, ← Nat.mul_mod, Nat.mul_assoc]
theorem pw_one {D : FD} (hD : D ∈ fieldsL) (a : Nat) (ha : a < D.q) (h0 : a ≠ 0) : D.pw a 1 = a := by
  have h := (fld hD).lg_is a ha h0
  unfold FD.pw
  rw [Nat.mul_one, Nat.mod_eq_of_lt h.1, h.2]
theorem pw_q {D : FD} (hD : D ∈ fieldsL) (a : Nat) (ha : a < D.q) (h0 : a ≠ 0) : D.pw a D.q = a := by
  have h := (fld hD).lg_is a ha h0
  have h2 := (fld hD).q2
  unfold FD.pw
  rw [show D.q = (D.q - 1) + 1 from by omega, Nat.mul_add, Nat.mul_one, show D.q - 1 + 1 - 1 = D.q - 1 from by omega, Nat.add_comm, Nat.add_mul_mod_self_right, Nat.mod_eq_of_lt h.1, h.2]
theorem frob_pw {D : FD} (hD : D ∈ fieldsL) (a : Nat) (ha : a < D.q) (h0 : a ≠ 0) : ∀ k, again D.frob1 k a = D.pw a (D.p ^ k)
  | 0 => by rw [Nat.pow_zero, pw_one hD a ha h0]; rfl
  | k + 1 => by
    show D.frob1 (again D.frob1 k a) = _
    rw [frob_pw hD a ha h0 k, FD.frob1, if_neg (pw_ne hD a _).1, pw_pw hD, Nat.pow_succ]
theorem frob_zero {D : FD} : ∀ k, again D.frob1 k 0 = 0
  | 0 => rfl
  | k + 1 => by show D.frob1 (again D.frob1 k 0) = 0; rw [frob_zero k, FD.frob1, if_pos rfl]
theorem powZ_size {D E : FD} (hD : D ∈ fieldsL) (hE : E ∈ fieldsL) (hp : E.p = D.p) (hm : D.m % E.m = 0) {a : Nat} (ha : a < D.q) : D.powZ a E.q = (again D.frob1 (E.m % D.m) a : Nat) := by
  have hq := (fld hE).q2
  have h1 := (fld hD).m1
  have h2 := (fld hE).m1
  rw [FD.powZ, if_neg (by simp [nat_has ha]), if_neg (by omega)]
  by_cases h0 : a = 0
  · rw [if_pos (by omega), if_neg (by omega), h0, frob_zero]; rfl
  · rw [if_neg (by omega), ← Int.natCast_emod, Int.toNat_natCast, Int.toNat_natCast]
    have e : D.pw a (E.q % (D.q - 1)) = D.pw a E.q := by unfold FD.pw; rw [Nat.mul_mod, Nat.mod_mod, ← Nat.mul_mod]
    rw [e, frob_pw hD a ha h0]
    have hle : E.m ≤ D.m := Nat.le_of_dvd (by omega) (Nat.dvd_of_mod_eq_zero hm)
    by_cases hmm : E.m = D.m
    · rw [hmm, Nat.mod_self, Nat.pow_zero, pw_one hD a ha h0, (fld hE).qp, hp, hmm, ← (fld hD).qp, pw_q hD a ha h0]
    · rw [Nat.mod_eq_of_lt (by omega), (fld hE).qp, hp]
theorem within_field {D E : FD} (hE : E ∈ fieldsL) : D.withinL E.q = if E.p = D.p ∧ D.m % E.m = 0 then D.stayTo E.m D.q else [] := by
  have hpp : pp E.q = (E.p, E.m) := beq_iff_eq.1 (List.all_eq_true.1 pp_fields E hE)
  have h2 := (fld hE).q2
  have h3 := (fld hE).q64
  have h4 := (fld hE).m1
  rw [FD.withinL, Int.toNat_natCast, hpp]
  by_cases h : E.p = D.p ∧ D.m % E.m = 0
  · rw [if_pos h, if_pos ⟨by omega, by omega, h.1, by show E.m ≠ 0; omega, h.2⟩]
  · rw [if_neg h, if_neg (fun k => h ⟨k.2.2.1, k.2.2.2.2⟩)]
theorem within_none {D : FD} {size : Int} (h : ∀ E ∈ fieldsL, (E.q : Int) ≠ size) : D.withinL size = [] := by
  rw [FD.withinL, if_neg]
  rintro ⟨h1, h2, _, h4, _⟩
  have h3 := no_field (q := size.toNat) (by omega) (fun E hE e => h E hE (by omega))
  rcases h3 with h3 | h3
  · omega
  · exact h4 h3

/-! ### Calls -/
end Go.Proofs.Ytpccbiinfdppnab

/- The reference: a polynomial's value at an element (value). -/
namespace Go.Proofs.Ytpccbiinfdppnab
open Go.RowKit

/-- The value of n coefficients at x, from the highest one down, k of them. -/
def FD.val (D : FD) (c : Nat → Nat) (n x : Nat) : Nat → Nat
  | 0 => 0
  | k + 1 => sumD D.p D.q (D.mul (D.val c n x k) x) (c (n - 1 - k))
theorem val_lt {D : FD} (hD : D ∈ fieldsL) (c : Nat → Nat) (n x : Nat) (hc : ∀ j, c j < D.q) : ∀ k, D.val c n x k < D.q
  | 0 => by have := (fld hD).q2; show 0 < D.q; omega
  | k + 1 => (fld hD).sum_lt _ _ ((fld hD).mul_lt _ _) (hc _)

theorem bel_up' {B : Nat} {w W w1 : World} (h0 : Below B w W) (h : Below W.heap.size W w1) (hB : B ≤ w.heap.size := by exact Nat.le_refl _) : Below B w w1 := h0.trans (h.mono (Nat.le_trans hB h0.size))

theorem radd_nat {D : FD} (hD : D ∈ fieldsL) (gen : Nat) (v : Value) (a b : Nat) (ha : a < D.q) (hb : b < D.q) (wr : World) :
    Calls Try.prog 84 #[.agg #[.int .i64 D.q, .int .i64 D.p, .int .i64 D.m, .int .i64 gen, v], .int .i64 a, .int .i64 b] wr fun e w' => e = .returned (.int .i64 (sumD D.p D.q a b : Nat)) ∧ Below wr.heap.size wr w' := by
  rw [← addZ_nat (fld hD) ha hb]
  exact radd_any hD gen v a b wr

end Go.Proofs.Ytpccbiinfdppnab
