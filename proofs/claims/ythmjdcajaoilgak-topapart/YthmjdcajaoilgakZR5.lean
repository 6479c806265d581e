/- Texts of ours, one behind the other: R5 R6 R7 R8 R9 R10 R11 R12 R13 R18 R14 B4 B5. -/
import Derived.Test.YthmjdcajaoilgakZR4
import Derived.Test.YthmjdcajaoilgakZM6
import Derived.Test.YthmjdcajaoilgakZA3
import Derived.Test.YthmjdcajaoilgakZM3
import Derived.Test.YthmjdcajaoilgakZC1
import Derived.Test.YthmjdcajaoilgakZB2
import Derived.Deep.RegionWith
import Derived.Deep.RegionHeld3
/- The reference: products, all cases (Mul). -/
namespace Go.Proofs.Ythmjdcajaoilgak
open Go.RowKit

/-- A modulus that lies in memory: digits, and what is behind them. -/
structure ModAt (D : FD) (v : Value) (md : Nat → Nat) (w : World) : Prop where
  lies : D.m = 1 ∨ ∃ gm lm cm, v = .slice (some ⟨gm, 0, none⟩) lm cm ∧ D.m < lm ∧ gm < w.heap.size ∧ Nums gm D.m md w
  lt : ∀ j, md j < D.p
theorem ModAt.below {D : FD} {v : Value} {md : Nat → Nat} {w w' : World} (h : ModAt D v md w) (hb : Below w.heap.size w w') : ModAt D v md w' := by
  refine ⟨?_, h.lt⟩
  rcases h.lies with h1 | ⟨gm, lm, cm, h1, h2, h3, h4⟩
  · exact Or.inl h1
  · exact Or.inr ⟨gm, lm, cm, h1, h2, Nat.lt_of_lt_of_le h3 hb.size, h4.below hb h3⟩

end Go.Proofs.Ythmjdcajaoilgak

/- The reference: are the powers of an element all but 0 (full)? -/
namespace Go.Proofs.Ythmjdcajaoilgak
open Go.RowKit

theorem Try.infoBool : (Try.prog.info? 4).map (fun i => (i.zero, i.size, i.bytes)) = some (some (.bool false), 1, 1) := by kernel_rfl

/-- Has a number been met among the first k powers? -/
def seenB (st : Nat → Nat) (k x : Nat) : Bool := (List.range k).any fun i => again st i 1 == x
theorem seenB_true {st : Nat → Nat} {k x : Nat} : seenB st k x = true ↔ ∃ i, i < k ∧ again st i 1 = x := by
  unfold seenB
  rw [List.any_eq_true]
  constructor
  · rintro ⟨i, hi, h⟩; exact ⟨i, List.mem_range.1 hi, beq_iff_eq.1 h⟩
  · rintro ⟨i, hi, h⟩; exact ⟨i, List.mem_range.2 hi, beq_iff_eq.2 h⟩
theorem seenB_succ (st : Nat → Nat) (k x : Nat) : seenB st (k + 1) x = (seenB st k x || again st k 1 == x) := by
  unfold seenB; rw [List.range_succ, List.any_append]; simp

end Go.Proofs.Ythmjdcajaoilgak

/- The reference: a field (Field). -/
namespace Go.Proofs.Ythmjdcajaoilgak
open Go.RowKit

/-- The modulus, whole. -/
def FD.modL (D : FD) : List Int := digL D.p D.low D.m ++ [1]

/-- Five cells, as a reference field has them. -/
def F5 (D : FD) (gen : Nat) (v : Value) : Nat → Value := fun o => if o = 0 then .int .i64 D.q else if o = 1 then .int .i64 D.p else if o = 2 then .int .i64 D.m else if o = 3 then .int .i64 gen else v
theorem row_of_cells {w : World} {T n : Nat} {t : TypeId} {f : Nat → Value} {cs : Array Value} (h : w.heap[T]? = some (.cells cs t (0, 0))) (hs : cs.size = n) (hf : ∀ o, o < n → cs[o]? = some (f o)) : RowF T n t f w := ⟨cs, h, hs, hf⟩
theorem ownI_lit (w : World) (l : List Int) (hl : l.length ≤ 1000000) : OwnI w.heap.size (.slice (some ⟨w.heap.size, 0, none⟩) l.length l.length) l (w.alloc (.cells (l.map (Value.int .i64)).toArray 3)) := by
  have := World.ownsRow_lit (base := w.heap.size) (e := 3) (size := 1) w (l.map (Value.int .i64)).toArray l.length (Nat.le_refl _) (by unfold maxLen; omega) (by simp)
  simpa [OwnI] using this

def Z5 : Nat → Value := fun o => if o < 4 then .int .i64 0 else .slice none 0 0
theorem modAt_one {D : FD} (hm : D.m = 1) (hp : 2 ≤ D.p) (v : Value) (w : World) : ModAt D v D.md w := ⟨Or.inl hm, fun j => Nat.mod_lt _ (by omega)⟩
theorem full_prime {D : FD} (hD : D ∈ fieldsL) (hm : D.m = 1) (g : Nat) (hg1 : 1 ≤ g) (hg : g ≤ D.gen) : fullB (fun a => rmulN D.p D.m D.md a g) (D.q - 1) = decide (g = D.gen) := by
  have F := fld hD
  obtain ⟨h1, h2, h3, h4, h5⟩ := F.least1 hm
  have e : (fun a => rmulN D.p D.m D.md a g) = fun a => a * g % D.q := by funext a; rw [rmulN, if_pos hm, h1]
  rw [e]
  by_cases hgg : g = D.gen
  · rw [decide_eq_true hgg, fullB_iff, hgg]
    have hst : D.st = fun a => a * D.gen % D.q := by funext a; rw [FD.st, if_pos hm]
    have := F.full
    rw [hst] at this; exact this
  · rw [decide_eq_false hgg, ← Bool.not_eq_true, fullB_iff]; exact h5 g hg1 (by omega)

end Go.Proofs.Ythmjdcajaoilgak

/- The reference: a field that is no prime one (Field). -/
namespace Go.Proofs.Ythmjdcajaoilgak
open Go.RowKit

def chkLow (D : FD) : Bool := D.m == 1 || allB (D.low + 1) fun l => fullB (fun a => rmulN D.p D.m (dgt D.p l) a D.p) (D.q - 1) == (l == D.low) && allB D.q fun a => decide (rmulN D.p D.m (dgt D.p l) a D.p < D.q)
theorem chkLow_all : fieldsL.all chkLow = true := by decide +kernel
theorem low_is {D : FD} (hD : D ∈ fieldsL) (hm : D.m ≠ 1) (l : Nat) (hl : l ≤ D.low) : fullB (fun a => rmulN D.p D.m (dgt D.p l) a D.p) (D.q - 1) = (l == D.low) ∧ ∀ a, a < D.q → rmulN D.p D.m (dgt D.p l) a D.p < D.q := by
  have h := List.all_eq_true.1 chkLow_all D hD
  unfold chkLow at h
  rw [Bool.or_eq_true, beq_iff_eq] at h
  have h := allB_of (h.resolve_left hm) l (by omega)
  rw [Bool.and_eq_true, beq_iff_eq] at h
  exact ⟨h.1, fun a ha => of_decide_eq_true (allB_of h.2 a ha)⟩

theorem modAt_of {D : FD} {l g cap base : Nat} {w : World} (hp : 2 ≤ D.p) (h : OwnI base (.slice (some ⟨g, 0, none⟩) (D.m + 1) cap) (digL D.p l D.m ++ [1]) w) : ModAt D (.slice (some ⟨g, 0, none⟩) (D.m + 1) cap) (dgt D.p l) w := by
  have hlen : (digL D.p l D.m ++ [(1 : Int)]).length = D.m + 1 := by rw [List.length_append, digL_len]; rfl
  refine ⟨Or.inr ⟨g, D.m + 1, cap, rfl, by omega, (h.lt g rfl).2, fun j hj => ?_⟩, fun j => Nat.mod_lt _ (by omega)⟩
  obtain ⟨g', cap', hv, _, _, hc, _⟩ := h.at (by intro e; rw [e] at hlen; simp at hlen)
  simp only [Value.slice.injEq, Option.some.injEq, Addr.mk.injEq, and_true] at hv
  obtain ⟨rfl, _, _⟩ := hv
  rw [hc j (by omega), List.getD_eq_getElem?_getD, List.getElem?_append_left (by rw [digL_len]; exact hj), ← List.getD_eq_getElem?_getD, digL_get _ _ _ _ hj]
  rfl

theorem F5_upd (D : FD) (gen : Nat) (v v' : Value) : ∀ o, o < 5 → upd (F5 D gen v) 4 v' o = F5 D gen v' o := by
  intro o ho
  match o, ho with
  | 0, _ => rfl
  | 1, _ => rfl
  | 2, _ => rfl
  | 3, _ => rfl
  | 4, _ => rfl

end Go.Proofs.Ythmjdcajaoilgak

/- The reference: no field; what undoes a product, powers, logarithms. -/
namespace Go.Proofs.Ythmjdcajaoilgak
open Go.RowKit

theorem pp_zero : (allB 65 fun q => decide (q < 2) || !((pp q).2 == 0) || (pp q).1 == 0) = true := by decide +kernel
def rf0 : Value := .agg #[.int .i64 0, .int .i64 0, .int .i64 0, .int .i64 0, .slice none 0 0]

/-! ### Plain mathematics -/
theorem pw_zero {D : FD} (_hD : D ∈ fieldsL) (a : Nat) : D.pw a 0 = 1 := by
  unfold FD.pw; rw [Nat.mul_zero, Nat.zero_mod]; rfl
theorem pw_succ {D : FD} (hD : D ∈ fieldsL) (a k : Nat) (h0 : a ≠ 0) : D.mul (D.pw a k) a = D.pw a (k + 1) := by
  have hp := pw_ne hD a k
  rw [FD.mul, if_neg (by omega), hp.2, Nat.mod_add_mod, FD.pw, Nat.mul_add, Nat.mul_one]
theorem inv_uniq {D : FD} (hD : D ∈ fieldsL) (a b : Nat) (ha : a < D.q) (hb : b < D.q) (h0 : a ≠ 0) (h : D.mul a b = 1) : b = D.pw a (D.q - 2) := by
  have F := fld hD
  have h1 := t11 hD ha h0
  rw [inv_nat hD ha h0, mulZ_nat F ha (pw_lt hD _ _)] at h1
  have h1 : D.mul a (D.pw a (D.q - 2)) = 1 := by exact_mod_cast h1
  have h2 := F.mul_assoc (D.pw a (D.q - 2)) a b
  rw [h, F.mul_comm _ a, h1, F.mul_comm 1 b, F.mul_one b hb, F.mul_one _ (pw_lt hD _ _)] at h2
  exact h2
theorem mul_gen {D : FD} (hD : D ∈ fieldsL) (a : Nat) (ha : a < D.q) : D.mul a D.gen = D.st a := by
  have F := fld hD
  have hs := List.all_eq_true.1 st_one D hD
  simp only [Bool.and_eq_true, beq_iff_eq, decide_eq_true_eq] at hs
  obtain ⟨⟨hs1, hs2⟩, hs3⟩ := hs
  rw [F.mul_comm, F.mul_eq D.gen a hs3 ha]
  by_cases hq : D.q = 2
  · have hg : D.gen = 1 := by omega
    rw [hg, F.lg_one]
    show a = D.st a
    by_cases h0 : a = 0
    · rw [h0, F.st_zero]
    · have : a = 1 := by omega
      rw [this, hs1, hg]
  · have h2 := F.q2
    have hg : D.lg D.gen = 1 := by
      have := F.lg_pow 1 (by omega)
      rw [show again D.st 1 1 = D.gen from hs1] at this
      exact this
    rw [hg]; rfl

/-! ### Calls -/
end Go.Proofs.Ythmjdcajaoilgak

/- The reference: powers, logarithms, and what Frobenius makes. -/
namespace Go.Proofs.Ythmjdcajaoilgak
open Go.RowKit

/-! ### Plain mathematics -/
/-- An element times itself, so many times. -/
def FD.pwr (D : FD) (x k : Nat) : Nat := again (fun r => D.mul r x) k 1
/-- An element to the power p. -/
def FD.frob1 (D : FD) (a : Nat) : Nat := if a = 0 then 0 else D.pw a D.p
def FD.frobZ (D : FD) (a t : Int) : Int := if D.has a = true then (again D.frob1 (t % (D.m : Int)).toNat a.toNat : Nat) else -1

theorem pwr_lt {D : FD} (hD : D ∈ fieldsL) (x : Nat) : ∀ k, D.pwr x k < D.q
  | 0 => by have := (fld hD).q2; show 1 < D.q; omega
  | k + 1 => (fld hD).mul_lt _ _
theorem pwr_is {D : FD} (hD : D ∈ fieldsL) (x : Nat) (h0 : x ≠ 0) : ∀ k, D.pwr x k = D.pw x k
  | 0 => (pw_zero hD x).symm
  | k + 1 => by
    show D.mul (D.pwr x k) x = _
    rw [pwr_is hD x h0 k, pw_succ hD x k h0]
theorem pwr_frob {D : FD} (hD : D ∈ fieldsL) (x : Nat) : D.pwr x D.p = D.frob1 x := by
  unfold FD.frob1
  by_cases h0 : x = 0
  · have := (fld hD).p2
    rw [if_pos h0, h0, show D.p = (D.p - 1) + 1 from by omega]
    show D.mul (D.pwr 0 (D.p - 1)) 0 = 0
    simp [FD.mul]
  · rw [if_neg h0, pwr_is hD x h0]
theorem frob1_lt {D : FD} (hD : D ∈ fieldsL) (x : Nat) : D.frob1 x < D.q := by rw [← pwr_frob hD]; exact pwr_lt hD x D.p
theorem frob_lt {D : FD} (hD : D ∈ fieldsL) (x : Nat) (hx : x < D.q) (k : Nat) : again D.frob1 k x < D.q := again_lt _ _ (fun a _ => frob1_lt hD a) k x hx

theorem emod_tmod (k n : Int) : k.tmod n % n = k % n := by
  rw [Int.tmod_def]
  exact Int.sub_mul_emod_self_left _ _ _
theorem emod_of_tmod_neg (k n : Int) (hn : 0 < n) (h : k.tmod n < 0) : k.tmod n + n = k % n := by
  have h2 := Int.lt_tmod_of_pos k hn
  rw [← emod_tmod k n, ← Int.add_emod_right (k.tmod n) n]
  exact (Int.emod_eq_of_lt (by omega) (by omega)).symm
theorem emod_of_tmod_pos (k n : Int) (hn : 0 < n) (h : 0 ≤ k.tmod n) : k.tmod n = k % n := by
  have h2 := Int.tmod_lt_of_pos k hn
  rw [← emod_tmod k n]
  exact (Int.emod_eq_of_lt h h2).symm

/-! ### Calls -/
end Go.Proofs.Ythmjdcajaoilgak

/- The reference: logarithms, Frobenius, traces and norms. -/
namespace Go.Proofs.Ythmjdcajaoilgak
open Go.RowKit

def FD.traceTo (D : FD) (a : Nat) : Nat → Nat
  | 0 => 0
  | k + 1 => sumD D.p D.q (D.traceTo a k) (again D.frob1 k a)
def FD.normTo (D : FD) (a : Nat) : Nat → Nat
  | 0 => 1
  | k + 1 => D.mul (D.normTo a k) (again D.frob1 k a)
def FD.traceZ (D : FD) (a : Int) : Int := if D.has a = true then (D.traceTo a.toNat D.m : Nat) else -1
def FD.normZ (D : FD) (a : Int) : Int := if D.has a = true then (D.normTo a.toNat D.m : Nat) else -1
theorem traceTo_lt {D : FD} (hD : D ∈ fieldsL) (a : Nat) (ha : a < D.q) : ∀ k, D.traceTo a k < D.q
  | 0 => by have := (fld hD).q2; show 0 < D.q; omega
  | k + 1 => (fld hD).sum_lt _ _ (traceTo_lt hD a ha k) (frob_lt hD a ha k)
theorem normTo_lt {D : FD} (hD : D ∈ fieldsL) (a : Nat) : ∀ k, D.normTo a k < D.q
  | 0 => by have := (fld hD).q2; show 1 < D.q; omega
  | k + 1 => (fld hD).mul_lt _ _

end Go.Proofs.Ythmjdcajaoilgak

/- The reference: traces and norms. -/
namespace Go.Proofs.Ythmjdcajaoilgak
open Go.RowKit

theorem frobZ_nat {D : FD} {x j : Nat} (ha : D.has (x : Int) = true) (hj : j < D.m) : D.frobZ x j = (again D.frob1 j x : Nat) := by
  rw [FD.frobZ, if_pos ha, ← Int.natCast_emod, Int.toNat_natCast, Int.toNat_natCast, Nat.mod_eq_of_lt hj]

end Go.Proofs.Ythmjdcajaoilgak

/- The reference: are two lists the same (Same); the elements of a smaller field (Within). -/
namespace Go.Proofs.Ythmjdcajaoilgak
open Go.RowKit

/-- The slice v reads as the numbers l. -/
def SliceI (v : Value) (l : List Int) (w : World) : Prop :=
  (l = [] ∧ ∃ ao cap, v = .slice ao 0 cap) ∨ (l ≠ [] ∧ l.length ≤ 1000000 ∧ ∃ b off cap, v = .slice (some ⟨b, off, none⟩) l.length cap ∧ ∀ j, j < l.length → w.cell? ⟨b, off + j, none⟩ = some (.int .i64 (l.getD j 0)))
theorem OwnI.slice {base : Nat} {v : Value} {l : List Int} {w : World} (h : OwnI base v l w) (hl : l.length ≤ 1000000) : SliceI v l w := by
  by_cases e : l = []
  · refine Or.inl ⟨e, ?_⟩
    rcases h.2 with ⟨h1, _⟩ | ⟨g, cap, cur, hv, _⟩
    · exact ⟨none, 0, h1⟩
    · rw [e] at hv; exact ⟨_, cap, hv⟩
  · obtain ⟨g, cap, hv, _, _, hc, _⟩ := h.at e
    exact Or.inr ⟨e, hl, g, 0, cap, hv, fun j hj => by rw [Nat.zero_add]; exact hc j hj⟩
theorem SliceI.below {B : Nat} {v : Value} {l : List Int} {w w' : World} (h : SliceI v l w) (hb : Below B w w') (hB : ∀ k, v.ownBlock = some k → k < B) : SliceI v l w' := by
  rcases h with h | ⟨h1, h2, b, off, cap, rfl, hc⟩
  · exact Or.inl h
  · exact Or.inr ⟨h1, h2, b, off, cap, rfl, fun j hj => ((bcell hb).1 b (off + j) (hB b rfl)).trans (hc j hj)⟩
theorem SliceI.drewN {v : Value} {l : List Int} {w : World} (h : SliceI v l w) (n : Nat) : SliceI v l (w.drewN n) := h

theorem list_ext_getD (l m : List Int) (h : l.length = m.length) (e : ∀ j, j < l.length → l.getD j 0 = m.getD j 0) : l = m := by
  apply List.ext_getElem h
  intro i h1 h2
  have := e i h1
  rwa [List.getD_eq_getElem?_getD, List.getD_eq_getElem?_getD, List.getElem?_eq_getElem h1, List.getElem?_eq_getElem h2] at this

set_option maxHeartbeats 2000000 in
theorem same_any {va vb : Value} {la lb : List Int} {w : World} (ha : SliceI va la w) (hb : SliceI vb lb w) :
    Calls Try.prog 15 #[va, vb] w fun e w' => e = .returned (.bool (decide (la = lb))) ∧ ∃ n, w' = w.drewN n := by
  by_cases hlen : la.length = lb.length
  · rcases ha with ⟨rfl, ao, ca, rfl⟩ | ⟨h1, h2, b, off, cap, rfl, hc⟩
    · have h0 : lb = [] := List.length_eq_zero_iff.1 hlen.symm
      subst h0
      rcases hb with ⟨_, bo, cb, rfl⟩ | ⟨h3, _⟩
      · clear hlen
        go_enter Try.func15, Try.ntmps15
        go_wp2
        refine wp_loop_rounds 1 ?_
        rw [rounds_succ]
        go_wp2
        go_ret
        exact ⟨rfl, 0, rfl⟩
      · exact absurd rfl h3
    · rcases hb with ⟨rfl, bo, cb, rfl⟩ | ⟨h3, h4, b', off', cap', rfl, hc'⟩
      · exact absurd (List.length_eq_zero_iff.1 hlen) h1
      · obtain ⟨n, hn⟩ : ∃ n, n = la.length := ⟨_, rfl⟩
        rw [← hlen, ← hn]
        have HC : Hid ((∀ j, j < n → w.cell? ⟨b, off + j, none⟩ = some (.int .i64 (la.getD j 0))) ∧ (∀ j, j < n → w.cell? ⟨b', off' + j, none⟩ = some (.int .i64 (lb.getD j 0)))) := ⟨fun j hj => hc j (by omega), fun j hj => hc' j (by omega)⟩
        have HL : Hid (n = la.length ∧ la.length = lb.length) := ⟨hn, hlen⟩
        have hnb : n ≤ 1000000 := by omega
        clear hc hc' h1 h2 h3 h4 hlen hn
        go_enter Try.func15, Try.ntmps15
        go_wp2
        go_loopw [5] (fun i wr => ∃ k : Nat, k ≤ n ∧ i = .int .i64 k ∧ Hid (∀ j, j < k → la.getD j 0 = lb.getD j 0) ∧ ∃ d, wr = w.drewN d) (fun i _ => n - (intOf i).toNat)
        case atStart => exact ⟨0, by omega, rfl, fun j hj => by omega, 0, rfl⟩
        case round =>
          obtain ⟨k, hk, rfl, HK, d, rfl⟩ := hrel
          by_cases hlt : k < n
          · have c1 := HC.out.1 k hlt
            have c2 := HC.out.2 k hlt
            obtain ⟨x, hx⟩ : ∃ x, x = la.getD k 0 := ⟨_, rfl⟩
            obtain ⟨y, hy⟩ : ∃ y, y = lb.getD k 0 := ⟨_, rfl⟩
            rw [← hx] at c1
            rw [← hy] at c2
            have HX : Hid (x = la.getD k 0 ∧ y = lb.getD k 0) := ⟨hx, hy⟩
            clear hx hy
            by_cases he : x = y
            · have hb : (x != y) = false := by rw [he]; simp
              have HK2 : Hid (∀ j, j < k + 1 → la.getD j 0 = lb.getD j 0) := fun j hj => if e : j = k then by rw [e, ← HX.out.1, ← HX.out.2, he] else HK.out j (by omega)
              clear he
              go_wp2
              go_quiet (fail)
              go_wp2
              go_roundw
              case rel => exact ⟨k + 1, by omega, by go_num, HK2.out, _, rfl⟩
              case measure => simp [intOf]; omega
            · have hb : (x != y) = true := by rw [bne_iff_ne]; exact he
              have HV : Hid (decide (la = lb) = false) := by
                show _ = _
                rw [decide_eq_false_iff_not]; intro e; exact he (by rw [HX.out.1, HX.out.2, e])
              clear he
              go_wp2
              go_quiet (fail)
              go_wp2
              go_ret
              exact ⟨ret_bool (by rw [HV.out]), _, by rw [World.drewN_drewN]⟩
          · have HV : Hid (decide (la = lb) = true) := by
              show _ = _
              rw [decide_eq_true_eq]; exact list_ext_getD la lb HL.out.2 (fun j hj => HK.out j (by have := HL.out.1; omega))
            go_wp2
            go_ret
            exact ⟨ret_bool (by rw [HV.out]), _, rfl⟩
  · have HV : Hid (decide (la = lb) = false) := by
      show _ = _
      rw [decide_eq_false_iff_not]; intro e; exact hlen (by rw [e])
    obtain ⟨ao, ca, ea⟩ : ∃ ao ca, va = .slice ao la.length ca := by
      rcases ha with ⟨rfl, ao, ca, rfl⟩ | ⟨_, _, b, off, cap, rfl, _⟩
      · exact ⟨ao, ca, rfl⟩
      · exact ⟨_, cap, rfl⟩
    obtain ⟨bo, cb, eb⟩ : ∃ bo cb, vb = .slice bo lb.length cb := by
      rcases hb with ⟨rfl, ao, ca, rfl⟩ | ⟨_, _, b, off, cap, rfl, _⟩
      · exact ⟨ao, ca, rfl⟩
      · exact ⟨_, cap, rfl⟩
    subst ea eb
    have hne : (((la.length : Nat) : Int) != ((lb.length : Nat) : Int)) = true := by rw [bne_iff_ne]; exact_mod_cast hlen
    generalize la.length = n at *
    generalize lb.length = m at *
    clear ha hb hlen
    go_enter Try.func15, Try.ntmps15
    go_wp2
    go_ret
    exact ⟨ret_bool (by rw [HV.out]), 0, rfl⟩
end Go.Proofs.Ythmjdcajaoilgak

/- The reference: is a number in a list (In). -/
namespace Go.Proofs.Ythmjdcajaoilgak
open Go.RowKit

theorem mem_getD {l : List Int} {x : Int} : x ∈ l ↔ ∃ j, j < l.length ∧ l.getD j 0 = x := by
  constructor
  · intro h
    obtain ⟨j, hj, e⟩ := List.getElem_of_mem h
    exact ⟨j, hj, by rw [List.getD_eq_getElem?_getD, List.getElem?_eq_getElem hj]; exact e⟩
  · rintro ⟨j, hj, e⟩
    rw [List.getD_eq_getElem?_getD, List.getElem?_eq_getElem hj] at e
    rw [← e]; exact List.getElem_mem hj

end Go.Proofs.Ythmjdcajaoilgak

/- The reference: the elements of a smaller field within one (Within). -/
namespace Go.Proofs.Ythmjdcajaoilgak
open Go.RowKit

/-- Of the first k elements those that stay under Frobenius, so many times. -/
def FD.stayTo (D : FD) (m k : Nat) : List Int := ((List.range k).filter fun a => again D.frob1 (m % D.m) a == a).map Int.ofNat
theorem stayTo_yes {D : FD} {m k : Nat} (h : again D.frob1 (m % D.m) k = k) : D.stayTo m (k + 1) = D.stayTo m k ++ [(k : Int)] := by
  unfold FD.stayTo; rw [List.range_succ, List.filter_append, List.map_append]; simp [h]
theorem stayTo_no {D : FD} {m k : Nat} (h : ¬ again D.frob1 (m % D.m) k = k) : D.stayTo m (k + 1) = D.stayTo m k := by
  unfold FD.stayTo; rw [List.range_succ, List.filter_append, List.map_append]; simp [h]
theorem stayTo_len (D : FD) (m k : Nat) : (D.stayTo m k).length ≤ k := by
  unfold FD.stayTo; rw [List.length_map]; exact Nat.le_trans (List.length_filter_le _ _) (by simp)

/-- The elements of the field of so many within this one. -/
def FD.withinL (D : FD) (size : Int) : List Int := if 2 ≤ size ∧ size ≤ 64 ∧ (pp size.toNat).1 = D.p ∧ (pp size.toNat).2 ≠ 0 ∧ D.m % (pp size.toNat).2 = 0 then D.stayTo (pp size.toNat).2 D.q else []

theorem pp_bd : (allB 65 fun q => decide ((pp q).2 ≤ 6) || decide (q < 2)) = true := by decide +kernel

end Go.Proofs.Ythmjdcajaoilgak

/- A field's calls, gone on: Frobenius, traces, norms. -/
namespace Go.Proofs.Ythmjdcajaoilgak
open Go.RowKit

theorem powZ_frob {D : FD} (hD : D ∈ fieldsL) {z : Nat} (hz : z < D.q) : D.powZ z D.p = (D.frob1 z : Nat) := by
  have F := fld hD
  have hp := F.p2
  rw [FD.powZ, if_neg (by simp [nat_has hz]), if_neg (by omega)]
  unfold FD.frob1
  by_cases h0 : z = 0
  · rw [if_pos (by omega), if_neg (by omega), if_pos h0]; rfl
  · rw [if_neg (by omega), if_neg h0, ← Int.natCast_emod, Int.toNat_natCast, Int.toNat_natCast]
    unfold FD.pw
    rw [Nat.mul_mod, Nat.mod_mod, ← Nat.mul_mod]

end Go.Proofs.Ythmjdcajaoilgak

/- A field's calls, gone on: its modulus, the elements of a smaller field. -/
namespace Go.Proofs.Ythmjdcajaoilgak
open Go.RowKit

theorem RowF.own {g n base : Nat} {f : Nat → Value} {l : List Int} {w : World} (h : RowF g n 3 f w) (hl : l.length = n) (hf : ∀ j, j < n → f j = .int .i64 (l.getD j 0)) (hb : base ≤ g) (hn : n ≤ 1000000) : OwnI base (.slice (some ⟨g, 0, none⟩) n n) l w := by
  obtain ⟨cs, h1, h2, h3⟩ := h
  refine ⟨by simp, Or.inr ⟨g, n, cs, by rw [hl], hb, h1, by omega, by unfold maxLen; omega, by omega, ?_⟩⟩
  rw [hl, Nat.mul_one, List.take_of_length_le (by simp; omega)]
  apply List.ext_getElem?
  intro i
  by_cases hi : i < n
  · rw [Array.getElem?_toList, h3 i hi, hf i hi, List.getElem?_map, List.getD_eq_getElem?_getD, List.getElem?_eq_getElem (by omega)]; rfl
  · rw [List.getElem?_eq_none (by simp; omega), List.getElem?_eq_none (by simp; omega)]

theorem low_lt {D : FD} (hD : D ∈ fieldsL) : D.low < D.q := by
  have F := fld hD
  by_cases hm : D.m = 1
  · have := (F.least1 hm).2.2.2.1; have := F.q2; omega
  · exact (F.least2 hm).2.1

/-- 'append(l, y)', l the call's own, at a step of a region that draws its order. -/
theorem step_append_int {ops : Array Oper} {o : Oper} {a : Act} {w : World} {K : Act → World → Prop} {Q : Exit → Act → World → Prop} {E : Prop} (hgd : o.guard = none) (s x : Operand)
    (ho : o.op = .call { callee := .builtin .append, args := #[s, x], argTypes := #[22, 22] })
    (base : Nat) (v : Value) (l : List Int) (hs : a.eval s = v) (hown : OwnI base v l w) (ad : Addr) (c : Nat) (y : Int) (hx : a.eval x = .slice (some ad) 1 c) (hcell : w.cell? ad = some (.int .i64 y))
    (hlen : l.length ≤ 1000000) (hbase : base ≤ w.heap.size)
    (h : ∀ v' w', OwnI base v' (l ++ [y]) w' → w.grownBy w' v.ownBlock → K (a.put o.dst v') w') : if Region.wanted o (yielded ops a.tmps) = true then Oper.wp Try.prog o a w K Q else E := by
  have hw : Region.wanted o (yielded ops a.tmps) = true := by simp [Region.wanted, hgd]
  rw [if_pos hw]
  obtain ⟨i0, hi, hz0, hz1, hz2⟩ := info_parts Try.infoInt
  refine wp_append_own w s x 22 ho base 3 i0 (.int .i64 0) 1 8 Try.underlying22 hi hz0 hz1 hz2 rfl (by decide) v l.length _ hs hown ad 1 c [.int .i64 y] hx rfl ?_ ?_ ?_ ?_ hbase ?_
  · intro j u hj
    match j, hj with
    | 0, hj =>
      simp at hj; subst hj
      have : ad.add 0 = ad := by cases ad with | mk b o s => cases s <;> simp [Addr.add]
      rw [this]; exact hcell
  · intro u hu; simp at hu; subst hu; rfl
  · unfold maxLen; omega
  · omega
  · intro v' w' hown' hgrow _
    refine h v' w' ?_ hgrow
    unfold OwnI
    rw [List.map_append, List.length_append]
    exact hown'

theorem bel_up {B : Nat} {w W w1 : World} (h0 : Below B w W) (h : Below W.heap.size W w1) (hB : B ≤ w.heap.size := by exact Nat.le_refl _) : Below B w w1 := h0.trans (h.mono (Nat.le_trans hB h0.size))

end Go.Proofs.Ythmjdcajaoilgak
