/- Texts of ours, one behind the other: R7 R8. -/
import Derived.Test.YtjkncdmbcckcdaaZR5
import Derived.Test.YtjkncdmbcckcdaaZM3
/- The reference: a field (Field). -/
namespace Go.Proofs.Ytjkncdmbcckcdaa
open Go.RowKit

/-- The modulus, whole. -/
def FD.modL (D : FD) : List Int := digL D.p D.low D.m ++ [1]

/-- Five cells, as a reference field has them. -/
def F5 (D : FD) (gen : Nat) (v : Value) : Nat → Value := fun o => if o = 0 then .int .i64 D.q else if o = 1 then .int .i64 D.p else if o = 2 then .int .i64 D.m else if o = 3 then .int .i64 gen else v
theorem row_box {b : Nat} {D : FD} {gen : Nat} {v : Value} {w : World} (h : RowF b 5 27 (F5 D gen v) w) : Box b D gen v w :=
  ⟨h.cell 0 (by omega), h.cell 1 (by omega), h.cell 2 (by omega), h.cell 3 (by omega), h.cell 4 (by omega)⟩
theorem row_of_cells {w : World} {T n : Nat} {t : TypeId} {f : Nat → Value} {cs : Array Value} (h : w.heap[T]? = some (.cells cs t (0, 0))) (hs : cs.size = n) (hf : ∀ o, o < n → cs[o]? = some (f o)) : RowF T n t f w := ⟨cs, h, hs, hf⟩
theorem row5_new (D : FD) (gen : Nat) (v : Value) (w : World) : RowF w.heap.size 5 27 (F5 D gen v) (w.alloc (.cells #[.int .i64 D.q, .int .i64 D.p, .int .i64 D.m, .int .i64 gen, v] 27)) := by
  refine row_of_cells (two_new _) rfl (fun o ho => ?_)
  match o, ho with
  | 0, _ => rfl
  | 1, _ => rfl
  | 2, _ => rfl
  | 3, _ => rfl
  | 4, _ => rfl

theorem ownI_lit (w : World) (l : List Int) (hl : l.length ≤ 1000000) : OwnI w.heap.size (.slice (some ⟨w.heap.size, 0, none⟩) l.length l.length) l (w.alloc (.cells (l.map (Value.int .i64)).toArray 3)) := by
  have := World.ownsRow_lit (base := w.heap.size) (e := 3) (size := 1) w (l.map (Value.int .i64)).toArray l.length (Nat.le_refl _) (by unfold maxLen; omega) (by simp)
  simpa [OwnI] using this

def Z5 : Nat → Value := fun o => if o < 4 then .int .i64 0 else .slice none 0 0
theorem row5_zero (w : World) : RowF w.heap.size 5 27 Z5 (w.alloc (.cells #[.int .i64 0, .int .i64 0, .int .i64 0, .int .i64 0, .slice none 0 0] 27)) := by
  refine row_of_cells (two_new _) rfl (fun o ho => ?_)
  match o, ho with
  | 0, _ => rfl
  | 1, _ => rfl
  | 2, _ => rfl
  | 3, _ => rfl
  | 4, _ => rfl
theorem modAt_one {D : FD} (hm : D.m = 1) (hp : 2 ≤ D.p) (v : Value) (w : World) : ModAt D v D.md w := ⟨Or.inl hm, fun j => Nat.mod_lt _ (by omega)⟩
theorem full_prime {D : FD} (hD : D ∈ fieldsL) (hm : D.m = 1) (g : Nat) (hg1 : 1 ≤ g) (hg : g ≤ D.gen) : fullB (fun a => rmulN D.p D.m D.md a g) (D.q - 1) = decide (g = D.gen) := by
  have F := fld hD
  obtain ⟨h1, h2, h3, h4, h5⟩ := F.least1 hm
  have e : (fun a => rmulN D.p D.m D.md a g) = fun a => a * g % D.q := by funext a; rw [rmulN, if_pos hm, h1]
  rw [e]
  by_cases hgg : g = D.gen
  · rw [decide_eq_true hgg, fullB_iff, hgg]
    have hst : D.st = fun a => a * D.gen % D.q := by funext a; rw [FD.st, if_pos hm]
    have := F.full
    rw [hst] at this; exact this
  · rw [decide_eq_false hgg, ← Bool.not_eq_true, fullB_iff]; exact h5 g hg1 (by omega)

set_option maxHeartbeats 4000000 in
set_option maxRecDepth 100000 in
theorem rfield_prime {D : FD} (hD : D ∈ fieldsL) (hm : D.m = 1) (w : World) :
    Calls Try.prog 11 #[.int .i64 D.q] w fun e w' => ∃ v, e = .returned (.tuple #[rf D.q D.p D.m D.gen v, .int .i64 0]) ∧ OwnI w.heap.size v D.modL w' ∧ Below w.heap.size w w' := by
  have F := fld hD
  have h2 := F.q2
  have h64 := F.q64
  have hp2 := F.p2
  have HP : Hid (pp D.q = (D.p, D.m)) := beq_iff_eq.1 (List.all_eq_true.1 pp_fields D hD)
  have hpz : ((D.p : Int) == 0) = false := by rw [beq_eq_false_iff_ne]; omega
  have hm' : ((D.m : Int) == 1) = true := by rw [hm]; rfl
  have HD : Hid (D ∈ fieldsL ∧ D.m = 1) := ⟨hD, hm⟩
  clear hm F hD
  go_enter Try.func11, Try.ntmps11
  go_wp2_with fail
  refine (prime_any D.q _ h2 h64).mono ?_
  rintro e w' ⟨rfl, rfl⟩
  rw [HP.out]
  go_wp2
  obtain ⟨v, hv⟩ : ∃ v : Value, v = .slice (some ⟨w.heap.size + 1 + 1, 0, none⟩) 2 2 := ⟨_, rfl⟩
  rw [← hv]
  have h0 := row5_zero w
  have h1 := row5_new D 0 v (w.alloc (.cells #[.int .i64 0, .int .i64 0, .int .i64 0, .int .i64 0, .slice none 0 0] 27))
  have h3 := ownI_lit ((w.alloc (.cells #[.int .i64 0, .int .i64 0, .int .i64 0, .int .i64 0, .slice none 0 0] 27)).alloc (.cells #[.int .i64 D.q, .int .i64 D.p, .int .i64 D.m, .int .i64 (0 : Nat), v] 27)) [0, 1] (by simp)
  have HS : Hid (∀ wr, wr = (((w.alloc (.cells #[.int .i64 0, .int .i64 0, .int .i64 0, .int .i64 0, .slice none 0 0] 27)).alloc (.cells #[.int .i64 D.q, .int .i64 D.p, .int .i64 D.m, .int .i64 0, v] 27)).alloc (.cells #[.int .i64 0, .int .i64 1] 3)) →
      RowF w.heap.size 5 27 Z5 wr ∧ RowF (w.heap.size + 1) 5 27 (F5 D 0 v) wr ∧ OwnI w.heap.size v [0, 1] wr ∧ Below w.heap.size w wr) := by
    rintro wr rfl
    refine ⟨(h0.alloc _).alloc _, ?_, ?_, (((Below.refl _ _).alloc (Nat.le_refl _) _).alloc (by simp) _).alloc (by simp; omega) _⟩
    · have := h1.alloc (.cells #[.int .i64 0, .int .i64 1] 3); simpa using this
    · have := h3.mono (base' := w.heap.size) (by simp; omega)
      simp at this
      rw [← hv] at this
      exact this
  have HV : Hid (v = .slice (some ⟨w.heap.size + 1 + 1, 0, none⟩) 2 2) := hv
  clear h0 h1 h3 hv
  go_loopw [7] (fun i wr => ∃ g : Nat, 1 ≤ g ∧ g ≤ D.gen ∧ i = .int .i64 g ∧ RowF w.heap.size 5 27 Z5 wr ∧ RowF (w.heap.size + 1) 5 27 (F5 D 0 v) wr ∧ OwnI w.heap.size v [0, 1] wr ∧ Below w.heap.size w wr) (fun i _ => D.q - (intOf i).toNat)
  case atStart => exact ⟨1, by omega, ((fld HD.out.1).least1 HD.out.2).2.1, rfl, HS.out _ rfl⟩
  case round =>
    clear HS
    obtain ⟨g, hg1, hg, rfl, hR, hF, hO, hbel⟩ := hrel
    obtain ⟨c0, c1, c2, c3, c4⟩ := row_box hF
    have hgq := ((fld HD.out.1).least1 HD.out.2).2.2.1
    have HG : Hid (RowF w.heap.size 5 27 Z5 wr ∧ RowF (w.heap.size + 1) 5 27 (F5 D 0 v) wr ∧ OwnI w.heap.size v [0, 1] wr ∧ Below w.heap.size w wr) := ⟨hR, hF, hO, hbel⟩
    have hl1 := hF.lt
    clear hR hF hO hbel
    have HC : Hid (Calls Try.prog 43 #[.agg #[.int .i64 D.q, .int .i64 D.p, .int .i64 D.m, .int .i64 0, v], .int .i64 g] wr fun e w2 => e = .returned (.bool (decide (g = D.gen))) ∧ Below wr.heap.size wr w2) := by
      rw [← full_prime HD.out.1 HD.out.2 g hg1 hg]
      have F := fld HD.out.1
      exact full_any F.m1 F.m6 F.p2 F.p64 F.q2 F.q64 0 g (by omega) (modAt_one HD.out.2 F.p2 v wr) (fun a _ => by rw [rmulN, if_pos HD.out.2, (F.least1 HD.out.2).1]; exact Nat.mod_lt _ (by omega))
    go_wp2_with fail
    refine HC.out.mono ?_
    rintro e w2 ⟨rfl, hb2⟩
    have HG2 : Hid (RowF w.heap.size 5 27 Z5 w2 ∧ RowF (w.heap.size + 1) 5 27 (F5 D 0 v) w2 ∧ OwnI w.heap.size v [0, 1] w2 ∧ Below w.heap.size w w2) :=
      ⟨HG.out.1.below hb2 (by omega), HG.out.2.1.below hb2 (by omega), HG.out.2.2.1.below hb2 (fun k hk => (HG.out.2.2.1.lt k hk).2), HG.out.2.2.2.trans (hb2.mono (by omega))⟩
    clear hb2 c0 c1 c2 c3 c4 HC
    obtain ⟨c0, c1, c2, c3, c4⟩ := row_box HG2.out.2.1
    by_cases hgg : g = D.gen
    · have hd : decide (g = D.gen) = true := decide_eq_true hgg
      rw [hd]
      have hfF := HG2.out.2.1.free
      have hfR := HG2.out.1.free
      have r0 := HG2.out.1.cell 0 (by omega)
      have r1 := HG2.out.1.cell 1 (by omega)
      have r2 := HG2.out.1.cell 2 (by omega)
      have r3 := HG2.out.1.cell 3 (by omega)
      have r4 := HG2.out.1.cell 4 (by omega)
      have HE : Hid (g = D.gen) := hgg
      clear hgg hd
      have hv := HV.out
      clear HV
      subst hv
      go_wp2
      refine bodyPost_ret (v := .tuple #[.agg #[.int .i64 D.q, .int .i64 D.p, .int .i64 D.m, .int .i64 g, .slice (some ⟨w.heap.size + 1 + 1, 0, none⟩) 2 2], .int .i64 0]) (by simp [results, Try.results11, go_sem, r0, r1, r2, r3, r4]) rfl ?_
      refine ⟨.slice (some ⟨w.heap.size + 1 + 1, 0, none⟩) 2 2, by rw [HE.out]; rfl, ?_, ?_⟩
      · have e : D.modL = [0, 1] := by
          have := (fld HD.out.1).least1 HD.out.2
          unfold FD.modL digL dg
          rw [HD.out.2, this.2.2.2.1]; simp
        rw [e]
        have hn : ∀ a : Addr, a.block < w.heap.size + 2 → (Value.slice (some ⟨w.heap.size + 1 + 1, 0, none⟩) 2 2).ownBlock ≠ some a.block := by
          intro a ha h; simp [Value.ownBlock] at h; omega
        exact ownsRow_setCell_other (ownsRow_setCell_other (ownsRow_setCell_other (ownsRow_setCell_other (ownsRow_setCell_other (ownsRow_setCell_other HG2.out.2.2.1 (hn _ (by simp)) _) (hn _ (by simp)) _) (hn _ (by simp)) _) (hn _ (by simp)) _) (hn _ (by simp)) _) (hn _ (by simp)) _
      · exact (((((HG2.out.2.2.2.setCell (by simp) _).setCell (by simp) _).setCell (by simp) _).setCell (by simp) _).setCell (by simp) _).setCell (by simp) _
    · have hd : decide (g = D.gen) = false := decide_eq_false hgg
      rw [hd]
      clear hd
      go_wp2
      go_roundw
      case rel => exact ⟨g + 1, by omega, by omega, by go_num, HG2.out⟩
      case measure => simp [intOf]; omega
end Go.Proofs.Ytjkncdmbcckcdaa

/- The reference: a field that is no prime one (Field). -/
namespace Go.Proofs.Ytjkncdmbcckcdaa
open Go.RowKit

def chkLow (D : FD) : Bool := D.m == 1 || allB (D.low + 1) fun l => fullB (fun a => rmulN D.p D.m (dgt D.p l) a D.p) (D.q - 1) == (l == D.low) && allB D.q fun a => decide (rmulN D.p D.m (dgt D.p l) a D.p < D.q)
theorem chkLow_all : fieldsL.all chkLow = true := by decide +kernel
theorem low_is {D : FD} (hD : D ∈ fieldsL) (hm : D.m ≠ 1) (l : Nat) (hl : l ≤ D.low) : fullB (fun a => rmulN D.p D.m (dgt D.p l) a D.p) (D.q - 1) = (l == D.low) ∧ ∀ a, a < D.q → rmulN D.p D.m (dgt D.p l) a D.p < D.q := by
  have h := List.all_eq_true.1 chkLow_all D hD
  unfold chkLow at h
  rw [Bool.or_eq_true, beq_iff_eq] at h
  have h := allB_of (h.resolve_left hm) l (by omega)
  rw [Bool.and_eq_true, beq_iff_eq] at h
  exact ⟨h.1, fun a ha => of_decide_eq_true (allB_of h.2 a ha)⟩

theorem modAt_of {D : FD} {l g cap base : Nat} {w : World} (hp : 2 ≤ D.p) (h : OwnI base (.slice (some ⟨g, 0, none⟩) (D.m + 1) cap) (digL D.p l D.m ++ [1]) w) : ModAt D (.slice (some ⟨g, 0, none⟩) (D.m + 1) cap) (dgt D.p l) w := by
  have hlen : (digL D.p l D.m ++ [(1 : Int)]).length = D.m + 1 := by rw [List.length_append, digL_len]; rfl
  refine ⟨Or.inr ⟨g, D.m + 1, cap, rfl, by omega, (h.lt g rfl).2, fun j hj => ?_⟩, fun j => Nat.mod_lt _ (by omega)⟩
  obtain ⟨g', cap', hv, _, _, hc, _⟩ := h.at (by intro e; rw [e] at hlen; simp at hlen)
  simp only [Value.slice.injEq, Option.some.injEq, Addr.mk.injEq, and_true] at hv
  obtain ⟨rfl, _, _⟩ := hv
  rw [hc j (by omega), List.getD_eq_getElem?_getD, List.getElem?_append_left (by rw [digL_len]; exact hj), ← List.getD_eq_getElem?_getD, digL_get _ _ _ _ hj]
  rfl

theorem F5_upd (D : FD) (gen : Nat) (v v' : Value) : ∀ o, o < 5 → upd (F5 D gen v) 4 v' o = F5 D gen v' o := by
  intro o ho
  match o, ho with
  | 0, _ => rfl
  | 1, _ => rfl
  | 2, _ => rfl
  | 3, _ => rfl
  | 4, _ => rfl

set_option maxHeartbeats 4000000 in
set_option maxRecDepth 100000 in
theorem rfield_power {D : FD} (hD : D ∈ fieldsL) (hm : D.m ≠ 1) (w : World) :
    Calls Try.prog 11 #[.int .i64 D.q] w fun e w' => ∃ v, e = .returned (.tuple #[rf D.q D.p D.m D.gen v, .int .i64 0]) ∧ OwnI w.heap.size v D.modL w' ∧ ModAt D v D.md w' ∧ Below w.heap.size w w' := by
  have F := fld hD
  have h2 := F.q2
  have h64 := F.q64
  have hp2 := F.p2
  have hp64 := F.p64
  have hm6 := F.m6
  have hm1 := F.m1
  have hpq : D.p < D.q := by
    rw [F.qp]
    have : D.p ^ 1 < D.p ^ D.m := Nat.pow_lt_pow_right hp2 (by omega)
    simpa using this
  have HP : Hid (pp D.q = (D.p, D.m)) := beq_iff_eq.1 (List.all_eq_true.1 pp_fields D hD)
  have hpz : ((D.p : Int) == 0) = false := by rw [beq_eq_false_iff_ne]; omega
  have hm' : ((D.m : Int) == 1) = false := by rw [beq_eq_false_iff_ne]; omega
  have HD : Hid (D ∈ fieldsL ∧ D.m ≠ 1) := ⟨hD, hm⟩
  have hlow := (F.least2 hm).2.1
  have HGen : Hid (D.gen = D.p) := (F.least2 hm).1
  clear hm F hD
  go_enter Try.func11, Try.ntmps11
  go_wp2_with fail
  refine (prime_any D.q _ h2 h64).mono ?_
  rintro e w' ⟨rfl, rfl⟩
  rw [HP.out]
  go_wp2
  have h0 := row5_zero w
  have h1 := row5_new D D.p (.slice none 0 0) (w.alloc (.cells #[.int .i64 0, .int .i64 0, .int .i64 0, .int .i64 0, .slice none 0 0] 27))
  have HS : Hid (∀ wr, wr = ((w.alloc (.cells #[.int .i64 0, .int .i64 0, .int .i64 0, .int .i64 0, .slice none 0 0] 27)).alloc (.cells #[.int .i64 D.q, .int .i64 D.p, .int .i64 D.m, .int .i64 D.p, .slice none 0 0] 27)) →
      RowF w.heap.size 5 27 Z5 wr ∧ RowF (w.heap.size + 1) 5 27 (F5 D D.p (.slice none 0 0)) wr ∧ Below w.heap.size w wr) := by
    rintro wr rfl
    refine ⟨h0.alloc _, ?_, ((Below.refl _ _).alloc (Nat.le_refl _) _).alloc (by simp) _⟩
    simpa using h1
  clear h0 h1
  go_loopw [8] (fun i wr => ∃ (l : Nat) (vm : Value), l ≤ D.low ∧ i = .int .i64 l ∧ RowF w.heap.size 5 27 Z5 wr ∧ RowF (w.heap.size + 1) 5 27 (F5 D D.p vm) wr ∧ Below w.heap.size w wr) (fun i _ => D.q - (intOf i).toNat)
  case atStart => exact ⟨0, _, by omega, rfl, HS.out _ rfl⟩
  case round =>
    clear HS
    obtain ⟨l, vm, hl, rfl, hR, hF, hbel⟩ := hrel
    have HG : Hid (RowF w.heap.size 5 27 Z5 wr ∧ RowF (w.heap.size + 1) 5 27 (F5 D D.p vm) wr ∧ Below w.heap.size w wr) := ⟨hR, hF, hbel⟩
    have hl1 := hF.lt
    have hsz := hbel.size
    clear hR hF hbel
    go_wp2_with fail
    refine (digits_any l D.p D.m _ (by omega) (by omega) hp64 (by omega)).mono ?_
    rintro e w1 ⟨v1, rfl, hown1, hb1⟩
    have HG1 : Hid (RowF w.heap.size 5 27 Z5 w1 ∧ RowF (w.heap.size + 1) 5 27 (F5 D D.p vm) w1 ∧ Below w.heap.size w w1) := ⟨HG.out.1.below hb1 (by omega), HG.out.2.1.below hb1 hl1, HG.out.2.2.trans (hb1.mono hsz)⟩
    have HO1 : Hid (OwnI wr.heap.size v1 (digL D.p l D.m) w1) := hown1
    have hs1 : wr.heap.size ≤ w1.heap.size := hb1.size
    clear hb1 hown1
    go_wp2_with (at_builtin; refine append_int rfl _ _ rfl wr.heap.size _ (digL D.p l D.m) rfl (HO1.out.alloc _) ⟨_, 0, none⟩ 1 1 rfl (by simp) (by rw [digL_len]; omega) (by simp; omega) ?_; intro v2 w2 hown2 hgrow2; obtain ⟨g, cap, f2, rfl, hg, hg', hle, hcm, hr2, hf2⟩ := hown2.row (D.m + 1) (by rw [List.length_append, digL_len]; rfl) (by omega); have hb2 : Below wr.heap.size w1 w2 := (((Below.refl wr.heap.size w1).alloc hs1 _).grown hgrow2 (by simp; omega) (fun k hk => (HO1.out.lt k hk).1)); have HR2 := HG1.out.2.1.below hb2 hl1; obtain ⟨c0, c1, c2, c3, c4⟩ := row_box HR2; have hfF := HR2.free)
    obtain ⟨v, hv⟩ : ∃ v : Value, v = .slice (some ⟨g, 0, none⟩) (D.m + 1) cap := ⟨_, rfl⟩
    have HV : Hid (v = .slice (some ⟨g, 0, none⟩) (D.m + 1) cap) := hv
    have HW3 : Hid (∀ w3, w3 = w2.setCell ⟨w.heap.size + 1, 4, none⟩ v → RowF w.heap.size 5 27 Z5 w3 ∧ RowF (w.heap.size + 1) 5 27 (F5 D D.p v) w3 ∧ OwnI wr.heap.size v (digL D.p l D.m ++ [1]) w3 ∧ Below w.heap.size w w3 ∧ ModAt D v (dgt D.p l) w3) := by
      rintro w3 rfl
      have ho : OwnI wr.heap.size v (digL D.p l D.m ++ [1]) (w2.setCell ⟨w.heap.size + 1, 4, none⟩ v) := ownsRow_setCell_other (hv ▸ hown2) (by rw [hv]; intro h; simp [Value.ownBlock] at h; omega) _
      refine ⟨(HG1.out.1.below hb2 (by omega)).setOther _ (by show w.heap.size ≠ w.heap.size + 1; omega) _, (HR2.store 4 v).congr (F5_upd D D.p vm v), ho, (HG1.out.2.2.trans (hb2.mono hsz)).setCell (by show w.heap.size ≤ w.heap.size + 1; omega) _, ?_⟩
      rw [hv] at ho ⊢; exact modAt_of hp2 ho
    have hsz2 : (w2.setCell ⟨w.heap.size + 1, 4, none⟩ v).heap.size = w2.heap.size := by simp
    have hs2 : w.heap.size + 1 < w2.heap.size := by have := hb2.size; omega
    rw [← hv]
    clear c0 c1 c2 c3 c4 hfF HR2 hb2 hr2 hf2 hown2 hgrow2 HO1 HG1 HG
    have HC : Hid (Calls Try.prog 43 #[.agg #[.int .i64 D.q, .int .i64 D.p, .int .i64 D.m, .int .i64 D.p, v], .int .i64 D.p] (w2.setCell ⟨w.heap.size + 1, 4, none⟩ v) fun e w' => e = .returned (.bool (l == D.low)) ∧ Below (w2.setCell ⟨w.heap.size + 1, 4, none⟩ v).heap.size (w2.setCell ⟨w.heap.size + 1, 4, none⟩ v) w') := by
      have hlw := low_is HD.out.1 HD.out.2 l hl
      rw [← hlw.1]
      exact full_any (by omega) hm6 hp2 hp64 h2 h64 D.p D.p hpq (HW3.out _ rfl).2.2.2.2 hlw.2
    refine HC.out.mono ?_
    rintro e w4 ⟨rfl, hb4⟩
    have HG4 : Hid (RowF w.heap.size 5 27 Z5 w4 ∧ RowF (w.heap.size + 1) 5 27 (F5 D D.p v) w4 ∧ OwnI wr.heap.size v (digL D.p l D.m ++ [1]) w4 ∧ Below w.heap.size w w4 ∧ ModAt D v (dgt D.p l) w4) := by
      obtain ⟨k1, k2, k3, k4, k5⟩ := HW3.out _ rfl
      exact ⟨k1.below hb4 (by omega), k2.below hb4 (by omega), k3.below hb4 (fun k hk => (k3.lt k hk).2), k4.trans (hb4.mono k4.size), k5.below hb4⟩
    clear hb4 HC HW3 hsz2
    by_cases hll : l = D.low
    · have hd : (l == D.low) = true := beq_iff_eq.2 hll
      rw [hd]
      obtain ⟨c0, c1, c2, c3, c4⟩ := row_box HG4.out.2.1
      have hfR := HG4.out.1.free
      have r0 := HG4.out.1.cell 0 (by omega)
      have r1 := HG4.out.1.cell 1 (by omega)
      have r2 := HG4.out.1.cell 2 (by omega)
      have r3 := HG4.out.1.cell 3 (by omega)
      have r4 := HG4.out.1.cell 4 (by omega)
      have HE : Hid (l = D.low) := hll
      clear hll hd hv
      have hv := HV.out
      clear HV
      subst hv
      go_wp2
      refine bodyPost_ret (v := .tuple #[.agg #[.int .i64 D.q, .int .i64 D.p, .int .i64 D.m, .int .i64 D.p, .slice (some ⟨g, 0, none⟩) (D.m + 1) cap], .int .i64 0]) (by simp [results, Try.results11, go_sem, r0, r1, r2, r3, r4]) rfl ?_
      have hn : ∀ a : Addr, a.block = w.heap.size → (Value.slice (some ⟨g, 0, none⟩) (D.m + 1) cap).ownBlock ≠ some a.block := by
        intro a ha h; simp [Value.ownBlock] at h; omega
      have ho := ownsRow_setCell_other (ownsRow_setCell_other (ownsRow_setCell_other (ownsRow_setCell_other (ownsRow_setCell_other HG4.out.2.2.1 (hn ⟨w.heap.size, 0, none⟩ rfl) (.int .i64 D.q)) (hn ⟨w.heap.size, 1, none⟩ rfl) (.int .i64 D.p)) (hn ⟨w.heap.size, 2, none⟩ rfl) (.int .i64 D.m)) (hn ⟨w.heap.size, 3, none⟩ rfl) (.int .i64 D.p)) (hn ⟨w.heap.size, 4, none⟩ rfl) (.slice (some ⟨g, 0, none⟩) (D.m + 1) cap)
      have hmod : digL D.p l D.m ++ [(1 : Int)] = D.modL := by rw [HE.out]; rfl
      refine ⟨.slice (some ⟨g, 0, none⟩) (D.m + 1) cap, by rw [HGen.out]; rfl, ?_, ?_, ?_⟩
      · rw [← hmod]; exact OwnI.mono ho hsz
      · have := modAt_of (D := D) (l := l) hp2 ho
        rw [HE.out] at this; exact this
      · exact ((((HG4.out.2.2.2.1.setCell (by simp) _).setCell (by simp) _).setCell (by simp) _).setCell (by simp) _).setCell (by simp) _
    · have hd : (l == D.low) = false := beq_eq_false_iff_ne.2 hll
      rw [hd]
      clear hd hv HV
      go_wp2
      go_roundw
      case rel => exact ⟨l + 1, v, by omega, by go_num, HG4.out.1, HG4.out.2.1, HG4.out.2.2.2.1⟩
      case measure => simp [intOf]; omega
end Go.Proofs.Ytjkncdmbcckcdaa
