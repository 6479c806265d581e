/- Texts of ours, one behind the other: KT5 KT6. -/
import Derived.Test.YtppggchhkckobaaGreatZKT2
import Derived.Test.YtppggchhkckobaaGreatZS69
import Derived.Test.YtppggchhkckobaaGreatZB7
import Derived.Test.YtppggchhkckobaaGreatZT9
import Derived.Test.YtppggchhkckobaaGreatZS24
import Derived.Test.YtppggchhkckobaaGreatZS49
/- Cyclic: toldOver. -/
namespace Go.Proofs.YtppggchhkckobaaGreat
open Go.RowKit Go.Sort

set_option maxHeartbeats 4000000 in
set_option maxRecDepth 100000 in
theorem toldOver_any {D E : FD} (hD : D ∈ fieldsL) (hE : E ∈ fieldsL) (h : E.p = D.p ∧ D.m % E.m = 0) {ao : Option Addr} {n ca : Nat} {c : Nat → Nat} {w : World} (hs : SlZ ao n (fun j => ((c j : Nat) : Int)) w) (hl : LtB ao w.heap.size) (hn : n ≤ 100) (hc : ∀ j, j < n → gtl D E (c j) < E.q ∧ D.emb E (D.root E) (gtl D E (c j)) = c j) :
    Calls Tryz.prog 42 #[.int .i64 E.q, .int .i64 D.q, .slice ao n ca] w fun e w' => ∃ v, e = .returned (.tuple #[v, .int .i64 0]) ∧ OwnI w.heap.size v (zl n fun j => ((gtl D E (c j) : Nat) : Int)) w' ∧ Below w.heap.size w w' := by
  have HEm : Hid (Calls Tryz.prog 87 #[.int .i64 E.q, .int .i64 D.q] w fun e w' => ∃ eo ec, e = .returned (.tuple #[.slice eo E.q ec, .int .i64 0]) ∧ ArgL eo E.q ec (fun i => ((D.emb E (D.root E) i : Nat) : Int)) w' ∧ Below w.heap.size w w') := by
    refine (embed_any hD hE w h).mono ?_
    rintro e w' ⟨v, rfl, ho, hb⟩
    obtain ⟨eo, ec, rfl, hA⟩ := ho.argOf (n := E.q) (by unfold FD.embL; rw [List.length_map, List.length_range])
    refine ⟨eo, ec, rfl, ⟨fun i hi => ?_, hA.lt, hA.nil, hA.le, hA.cap⟩, hb⟩
    obtain ⟨b, off, e, k⟩ := hA.sl i hi
    refine ⟨b, off, e, k.trans ?_⟩
    show some (Value.int .i64 ((D.embL E).getD i 0)) = some (Value.int .i64 ((D.emb E (D.root E) i : Nat) : Int))
    unfold FD.embL
    rw [List.getD_eq_getElem?_getD, List.getElem?_map, List.getElem?_range hi]
    rfl
  have hq64 := (good hE).q64
  have HX : Hid ((SlZ ao n (fun j => ((c j : Nat) : Int)) w ∧ LtB ao w.heap.size) ∧ (∀ j, j < n → gtl D E (c j) < E.q ∧ D.emb E (D.root E) (gtl D E (c j)) = c j) ∧ ∀ a b, a < E.q → b < E.q → D.emb E (D.root E) a = D.emb E (D.root E) b → a = b) := ⟨⟨hs, hl⟩, hc, fun a b ha hb e => emb_inj hD hE h ha hb e⟩
  obtain ⟨Q, hQ⟩ : ∃ Q, Q = E.q := ⟨_, rfl⟩
  rw [← hQ] at HEm HX hq64 ⊢
  obtain ⟨P, hP⟩ : ∃ P, P = D.q := ⟨_, rfl⟩
  rw [← hP] at HEm ⊢
  clear hD hE h hs hl hc hQ hP
  go_enter Tryz.func42, Tryz.ntmps42
  go_wp2_with fail
  refine HEm.out.mono ?_
  rintro e w1 ⟨eo, ec, rfl, hA1, hb1⟩
  have H1 : Hid (ArgL eo Q ec (fun i => ((D.emb E (D.root E) i : Nat) : Int)) w1 ∧ Below w.heap.size w w1) := ⟨hA1, hb1⟩
  clear hA1 hb1 HEm
  go_wp2_with (at_make; refine make_int rfl _ _ rfl _ n rfl rfl rfl (by omega) ?_; intro w3 hown3 hgrow3)
  have hrz0 := rowE_zeros hown3
  obtain ⟨g, hg⟩ : ∃ g, g = w1.heap.size := ⟨_, rfl⟩
  rw [← hg] at hrz0
  try rw [← hg]
  have HI0 : Hid (RowE g n (fun _ => 0) w3 ∧ Below w1.heap.size w1 w3 ∧ g = w1.heap.size) := ⟨hrz0, below_grown hgrow3 (Nat.le_refl _) (fun k hk => by cases hk), hg⟩
  clear hown3 hgrow3 hrz0 hg
  go_loopw [27] (fun vi wr => ∃ (t : Nat) (oo : Nat → Int), t ≤ n ∧ vi = .int .i64 (t : Nat) ∧ Hid (RowE g n oo wr ∧ (∀ j, j < t → oo j = ((gtl D E (c j) : Nat) : Int)) ∧ Below w1.heap.size w1 wr)) (fun vi _ => n - (intOf vi).toNat)
  case atStart => exact ⟨0, _, by omega, rfl, HI0.out.1, fun j hj => absurd hj (by omega), HI0.out.2.1⟩
  case round =>
    obtain ⟨t, oo, ht, rfl, HG⟩ := hrel
    rename World => wr
    by_cases hlt : t < n
    · have hib : (t : Int) < (n : Int) := by omega
      have hib0 : (0 : Int) ≤ (t : Int) := by omega
      obtain ⟨b2, o2, e2, q2⟩ := HX.out.1.1 t hlt
      have l2 := HX.out.1.2 _ e2
      obtain ⟨x, hx⟩ : ∃ x, x = c t := ⟨_, rfl⟩
      obtain ⟨y, hy⟩ : ∃ y, y = gtl D E (c t) := ⟨_, rfl⟩
      have k2 : wr.cell? ⟨b2, o2 + t, none⟩ = some (.int .i64 (x : Nat)) := by
        rw [hx]
        have l3 : b2 < w.heap.size := l2
        exact (HG.out.2.2.cell (p := ⟨b2, o2 + t, none⟩) (by have := H1.out.2.size; show b2 < _; omega)).trans ((H1.out.2.cell (p := ⟨b2, o2 + t, none⟩) l3).trans q2)
      have HIx : Hid (Calls Tryz.prog 88 #[.slice eo Q ec, .int .i64 (x : Nat)] wr fun e w' => e = .returned (.int .i64 (y : Nat)) ∧ w' = wr) := by
        have hyq := HX.out.2.1 t hlt
        rw [← hy, ← hx] at hyq
        refine (indexI_any (z := fun i => ((D.emb E (D.root E) i : Nat) : Int)) (x : Int) (fun i hi => ?_) (by omega)).mono ?_
        · obtain ⟨b, off, e, k⟩ := H1.out.1.sl i hi
          exact ⟨b, off, e, (HG.out.2.2.cell (p := ⟨b, off + i, none⟩) (show b < w1.heap.size from H1.out.1.lt _ e)).trans k⟩
        · rintro e w' ⟨rfl, ⟨i, hi, hz, rfl⟩ | ⟨hno, _⟩⟩
          · have : i = y := HX.out.2.2 i y hi hyq.1 (by have hz : ((D.emb E (D.root E) i : Nat) : Int) = (x : Int) := hz; omega)
            rw [this]; exact ⟨rfl, rfl⟩
          · exact absurd (by show ((D.emb E (D.root E) y : Nat) : Int) = (x : Int); rw [hyq.2]) (hno y hyq.1)
      have hc0 := RowF.cell HG.out.1 t hlt
      have hf0 := RowF.free HG.out.1 t
      obtain ⟨o0, ho0⟩ : ∃ o0, o0 = oo t := ⟨_, rfl⟩
      rw [← ho0] at hc0
      have HS2 : Hid (RowE g n (fun j => if j = t then (y : Int) else oo j) (wr.setCell ⟨g, t, none⟩ (.int .i64 (y : Nat))) ∧ (∀ j, j < t + 1 → (fun j => if j = t then (y : Int) else oo j) j = ((gtl D E (c j) : Nat) : Int)) ∧ Below w1.heap.size w1 (wr.setCell ⟨g, t, none⟩ (.int .i64 (y : Nat)))) := by
        refine ⟨RowE.store HG.out.1 t _, fun j hj => ?_, HG.out.2.2.setCell (by have := HI0.out.2.2; show _ ≤ g; omega) _⟩
        dsimp only
        by_cases e : j = t
        · rw [if_pos e, hy, e]
        · rw [if_neg e]; exact HG.out.2.1 j (by omega)
      subst e2
      clear ho0 hx hy q2 l2
      go_wp2_with fail
      refine HIx.out.mono ?_
      rintro e w' ⟨rfl, hw⟩
      have hw := hw.symm
      subst hw
      go_wp2
      go_roundw
      case rel => exact ⟨t + 1, _, by omega, by go_num, HS2.out⟩
      case measure => simp [intOf]; omega
    · have hib : ¬ (t : Int) < (n : Int) := by omega
      have hie : n = t := by omega
      subst hie
      have HF : Hid (OwnI w.heap.size (.slice (some ⟨g, 0, none⟩) n n) (zl n fun j => ((gtl D E (c j) : Nat) : Int)) wr ∧ Below w.heap.size w wr) := by
        refine ⟨?_, bel_up' H1.out.2 HG.out.2.2⟩
        rw [← zl_congr (z := oo) HG.out.2.1]
        exact RowE.own HG.out.1 (by have := HI0.out.2.2; have := H1.out.2.size; omega) (by omega)
      clear HG
      go_wp2
      go_ret2
      exact ⟨_, rfl, HF.out⟩
end Go.Proofs.YtppggchhkckobaaGreat

/- Cyclic: Generator. -/
namespace Go.Proofs.YtppggchhkckobaaGreat
open Go.RowKit Go.Sort

/-- The first n values, the last one first. -/
def rvl (c : Nat → Nat) : Nat → List Nat
  | 0 => []
  | i + 1 => c i :: rvl c i
theorem rvl_len (c : Nat → Nat) : ∀ i, (rvl c i).length = i
  | 0 => rfl
  | i + 1 => by show (rvl c i).length + 1 = i + 1; rw [rvl_len c i]
theorem rvl_is (c : Nat → Nat) : ∀ i, rvl c i = ((List.range i).map c).reverse
  | 0 => rfl
  | i + 1 => by
    show c i :: rvl c i = _
    rw [List.range_succ, List.map_append, List.reverse_append, rvl_is c i]
    rfl
theorem nal_prL {D : FD} (F : Fld D) {c : Nat → Nat} {n : Nat} (hc : ∀ i, i < n → c i < D.q) : ∀ i, i ≤ n → nal D c i = prL D (rvl c i)
  | 0, _ => rfl
  | i + 1, hi => by
    rw [← nal_succ F hc (show i < n by omega), nal_prL F hc i (by omega)]
    show pmul D (i + 1) (prL D (rvl c i)) (xmr D (c i)) = pmul D ((rvl c i).length + 1) (prL D (rvl c i)) (lnf D (c i))
    rw [rvl_len]
    rfl
theorem map_range (f : Nat → Nat) (l : List Nat) : (List.range l.length).map (fun i => f (l.getD i 0)) = l.map f := by
  apply List.ext_getElem?
  intro i
  rw [List.getElem?_map, List.getElem?_map]
  by_cases h : i < l.length
  · rw [List.getElem?_range h, List.getElem?_eq_getElem h]
    show some (f (l.getD i 0)) = some (f l[i])
    rw [List.getD_eq_getElem?_getD, List.getElem?_eq_getElem h]
    rfl
  · rw [List.getElem?_eq_none (by rw [List.length_range]; omega), List.getElem?_eq_none (by omega)]
    rfl
/-- The product over a list's powers, as it is multiplied. -/
theorem nal_gen {D : FD} (hD : D ∈ fieldsL) (b : Nat) (S : List Nat) : nal D (fun i => D.xp b (S.getD i 0)) S.length = prL D (S.map (D.xp b)) := by
  have F := fld hD
  rw [nal_prL F (n := S.length) (fun i _ => xp_lt F b _) S.length (Nat.le_refl _), rvl_is, map_range]
  exact prL_perm F (List.reverse_perm _) (fun r hr => by
    obtain ⟨j, _, rfl⟩ := List.mem_map.1 (List.mem_reverse.1 hr)
    exact xp_lt F b j)
theorem rsn_nd (n : Nat) (L : List Nat) : (rsn n L).Nodup := List.nodup_range.filter _
theorem rsn_lt {n : Nat} {L : List Nat} : ∀ k ∈ rsn n L, k < n := fun _ hk => List.mem_range.1 (List.mem_filter.1 hk).1
theorem rsn_mem {n : Nat} {L : List Nat} (hl : ∀ k ∈ L, k < n) (k : Nat) : k ∈ rsn n L ↔ k ∈ L := by
  unfold rsn
  rw [List.mem_filter, List.mem_range, List.contains_iff_mem]
  exact ⟨fun h => h.2, fun h => ⟨hl k h, h⟩⟩
theorem rsn_len {n : Nat} {L : List Nat} : (rsn n L).length ≤ n := nd_len (rsn_nd n L) rsn_lt
theorem rsn_cl {q n : Nat} {L : List Nat} (hl : ∀ k ∈ L, k < n) (hc : Clq q n L) : Clq q n (rsn n L) := fun k hk => (rsn_mem hl _).2 (hc k ((rsn_mem hl k).1 hk))
end Go.Proofs.YtppggchhkckobaaGreat
