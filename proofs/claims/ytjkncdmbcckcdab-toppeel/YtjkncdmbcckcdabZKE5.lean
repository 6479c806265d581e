/- Codes of few checks: a round of peeling (the program's fill; printed by make/ke5.py). -/
import Derived.Test.YtjkncdmbcckcdabZKE3
import Derived.Test.YtjkncdmbcckcdabZS13
import Derived.Test.YtjkncdmbcckcdabZS23
namespace Go.Proofs.Ytjkncdmbcckcdab
open Go.RowKit Go.Sort

theorem RowZ.lt' {g n : Nat} {z : Nat → Int} {w : World} (h : RowZ g n z w) : g < w.heap.size := by
  obtain ⟨cap, f, h1, _⟩ := h
  exact h1.lt
theorem RowZ.slz {g n : Nat} {z : Nat → Int} {w : World} (h : RowZ g n z w) : SlZ (some ⟨g, 0, none⟩) n z w := fun j hj => ⟨g, 0, rfl, by rw [Nat.zero_add]; exact h.cell j hj⟩
theorem OwnI.rowZ {base : Nat} {v : Value} {n : Nat} {z : Nat → Int} {w : World} (h : OwnI base v (zl n z) w) (h0 : 0 < n) : ∃ g cap, v = .slice (some ⟨g, 0, none⟩) n cap ∧ n ≤ cap ∧ cap ≤ 9223372036854775807 ∧ base ≤ g ∧ RowZ g n z w := by
  obtain ⟨g, cap, f, e1, g1, g2, g3, g4, g5, g6⟩ := h.row n (zl_len _ _) h0
  exact ⟨g, cap, e1, g3, by unfold maxLen at g4; omega, g1, cap, f, g5, g3, fun k hk => by rw [g6 k hk, zl_getD _ _ k hk]⟩
set_option maxHeartbeats 4000000 in
theorem sclone_any {b off n cap : Nat} {z : Nat → Int} {w : World} (h : SlZ (some ⟨b, off, none⟩) n z w) (h0 : 0 < n) (hn : n ≤ 1000000) (hl : b < w.heap.size) :
    Calls Try.prog 23 #[.slice (some ⟨b, off, none⟩) n cap] w fun e w' => ∃ g c, e = .returned (.slice (some ⟨g, 0, none⟩) n c) ∧ n ≤ c ∧ c ≤ 9223372036854775807 ∧ w.heap.size ≤ g ∧ RowZ g n z w' ∧ Below w.heap.size w w' := by
  have HS : Hid (SlZ (some ⟨b, off, none⟩) n z w ∧ LtB (some ⟨b, off, none⟩) w.heap.size) := ⟨h, fun x hx => by cases hx; exact hl⟩
  clear h hl
  have hrn : ∀ w1 : World, Sem.run Try.prog (binOp BinOp.eql 22 (Value.slice (some ⟨b, off, none⟩) n cap) (Value.slice none 0 0)) w1 = .ok (.bool false) w1 := fun w1 => Lib.run_eql_slice_nil w1 _ 3 (some ⟨b, off, none⟩) n cap 0 0 Try.underlying22
  go_enter Try.func23, Try.ntmps23
  go_wp2_with (at_builtin; refine append_ints rfl _ _ rfl w.heap.size _ [] rfl (own_empty (two_new _) (Nat.le_refl _)) (some ⟨b, off, none⟩) n cap z rfl (HS.out.1.below ((Below.refl _ _).alloc (Nat.le_refl _) _) HS.out.2) (fun e => by cases e) (by simpa using hn) (by simp) ?_; intro v' w' hown hgrow)
  obtain ⟨g, c, e1, g1, g2, g3, g4⟩ := OwnI.rowZ hown h0
  subst e1
  have HB : Hid (Below w.heap.size w w') := ((Below.refl _ _).alloc (Nat.le_refl _) _).grown hgrow (by simp) (by intro k hk; have hk : some w.heap.size = some k := hk; cases hk; exact Nat.le_refl _)
  have HR : Hid (n ≤ c ∧ c ≤ 9223372036854775807 ∧ w.heap.size ≤ g ∧ RowZ g n z w') := ⟨g1, g2, g3, g4⟩
  clear hown hgrow g1 g2 g3 g4
  go_ret
  exact ⟨g, c, rfl, HR.out.1, HR.out.2.1, HR.out.2.2.1, HR.out.2.2.2, HB.out⟩
theorem pfil_none {N : Nat → Nat} {Z : Nat → Nat → Int} {y : Nat → Int} {i : Nat} (h : (losts y (Z i) (N i)).length ≠ 1) : pfil N Z y i = none := by
  unfold pfil
  cases hl : losts y (Z i) (N i) with
  | nil => rfl
  | cons a l =>
    cases l with
    | nil => rw [hl] at h; exact absurd rfl h
    | cons b l => rfl
theorem pfil_some {N : Nat → Nat} {Z : Nat → Nat → Int} {y : Nat → Int} {i : Nat} {x : Int} (h : losts y (Z i) (N i) = [x]) : pfil N Z y i = some (x.toNat, ((par y (Z i) (N i) : Nat) : Int)) := by
  unfold pfil
  rw [h]
theorem flP_none {pr : Fil} {y : Nat → Int} {i : Nat} (h : pr i = none) : flP pr y (i + 1) = flP pr y i := by
  show (match pr i with
    | some x => if flP pr y i x.1 = -1 then fun p => if p = x.1 then x.2 else flP pr y i p else flP pr y i
    | none => flP pr y i) = _
  rw [h]
theorem flP_put {pr : Fil} {y : Nat → Int} {i : Nat} {x : Nat × Int} (h : pr i = some x) (h1 : flP pr y i x.1 = -1) : flP pr y (i + 1) = fun p => if p = x.1 then x.2 else flP pr y i p := by
  show (match pr i with
    | some x => if flP pr y i x.1 = -1 then fun p => if p = x.1 then x.2 else flP pr y i p else flP pr y i
    | none => flP pr y i) = _
  rw [h]
  exact if_pos h1
theorem flP_keep {pr : Fil} {y : Nat → Int} {i : Nat} {x : Nat × Int} (h : pr i = some x) (h1 : flP pr y i x.1 ≠ -1) : flP pr y (i + 1) = flP pr y i := by
  show (match pr i with
    | some x => if flP pr y i x.1 = -1 then fun p => if p = x.1 then x.2 else flP pr y i p else flP pr y i
    | none => flP pr y i) = _
  rw [h]
  exact if_neg h1
def FlI (N : Nat → Nat) (Z : Nat → Nat → Int) (y : Nat → Int) (n m g : Nat) (w0 : World) (vi : Value) (wx : World) : Prop := ∃ i : Nat, i ≤ m ∧ vi = .int .i64 (i : Nat) ∧ Hid (RowZ g n (flP (pfil N Z y) y i) wx ∧ Below w0.heap.size w0 wx)

set_option maxHeartbeats 16000000 in
set_option maxRecDepth 100000 in
theorem fill_any {ao : Option Addr} {m ca n bw ow cw : Nat} {A : Nat → Option Addr} {N C : Nat → Nat} {Z : Nat → Nat → Int} {y : Nat → Int} {w : World} (hA : MatZ ao m A N C Z w) (hy : SlZ (some ⟨bw, ow, none⟩) n y w) (hlw : bw < w.heap.size) (hm : m ≤ 64) (hn1 : 1 ≤ n) (hn : n ≤ 64) (hN : ∀ i, i < m → N i ≤ 6000) (hZ : ∀ i, i < m → ∀ j, j < N i → 0 ≤ Z i j ∧ Z i j < (n : Int)) :
    Calls Try.prog 24 #[.slice ao m ca, .slice (some ⟨bw, ow, none⟩) n cw] w fun e w' => ∃ g c, e = .returned (.slice (some ⟨g, 0, none⟩) n c) ∧ n ≤ c ∧ c ≤ 9223372036854775807 ∧ w.heap.size ≤ g ∧ RowZ g n (pround m N Z y) w' ∧ Below w.heap.size w w' := by
  obtain ⟨w0, hw0⟩ : ∃ w0, w0 = w.alloc (.cells #[.slice (some ⟨bw, ow, none⟩) n cw] 22) := ⟨_, rfl⟩
  have hb0 : Below w.heap.size w w0 := by rw [hw0]; exact (Below.refl _ _).alloc (Nat.le_refl _) _
  have hs0 : w0.heap.size = w.heap.size + 1 := by rw [hw0]; simp
  have hc0 : w0.cell? ⟨w.heap.size, 0, none⟩ = some (.slice (some ⟨bw, ow, none⟩) n cw) := by rw [hw0, cell_of_row _ _ _ _ _ (0, 0) (two_new _)]; rfl
  have HF : Hid (MatZ ao m A N C Z w0 ∧ SlZ (some ⟨bw, ow, none⟩) n y w0 ∧ (∀ i, i < m → N i ≤ 6000) ∧ (∀ i, i < m → ∀ j, j < N i → 0 ≤ Z i j ∧ Z i j < (n : Int)) ∧ Below w.heap.size w w0 ∧ w0.cell? ⟨w.heap.size, 0, none⟩ = some (.slice (some ⟨bw, ow, none⟩) n cw)) := ⟨hA.below hb0, slz_below hy hb0, hN, hZ, hb0, hc0⟩
  have HCl : Hid (Calls Try.prog 23 #[.slice (some ⟨bw, ow, none⟩) n cw] w0 fun e w' => ∃ g c, e = .returned (.slice (some ⟨g, 0, none⟩) n c) ∧ n ≤ c ∧ c ≤ 9223372036854775807 ∧ w0.heap.size ≤ g ∧ RowZ g n y w' ∧ Below w0.heap.size w0 w') := sclone_any (slz_below hy hb0) (by omega) (by omega) (by omega)
  have hl0 : w.heap.size < w0.heap.size := by omega
  clear hA hy hlw hN hZ hb0 hs0
  go_enter Try.func24, Try.ntmps24
  go_wp2_with fail
  rw [← hw0]
  clear hw0
  refine HCl.out.mono ?_
  rintro e w1 ⟨g, c, rfl, hc1, hc2, hg, hr1, hb1⟩
  have H1 : Hid (RowZ g n y w1 ∧ Below w0.heap.size w0 w1 ∧ w0.heap.size ≤ g ∧ n ≤ c ∧ c ≤ 9223372036854775807) := ⟨hr1, hb1, hg, hc1, hc2⟩
  clear hr1 hb1 hg hc1 hc2 hc0 HCl
  go_wp2
  go_loopw [15] (fun vi wx => FlI N Z y n m g w0 vi wx) (fun vi _ => m - (intOf vi).toNat)
  case atStart => exact ⟨0, by omega, rfl, H1.out.1, H1.out.2.1⟩
  case round =>
    obtain ⟨i, hi, rfl, HI⟩ := hrel
    rename World => wA
    by_cases hlt : i < m
    · have hib : (i : Int) < (m : Int) := by omega
      have hib0 : (0 : Int) ≤ (i : Int) := by omega
      have hlA : w.heap.size < wA.heap.size := by have := HI.out.2.size; omega
      obtain ⟨b, off, rfl, hci⟩ := (HF.out.1.below HI.out.2).cell i hlt
      obtain ⟨Ni, hNi⟩ : ∃ Ni, Ni = N i := ⟨_, rfl⟩
      obtain ⟨Ai, hAi⟩ : ∃ Ai, Ai = A i := ⟨_, rfl⟩
      obtain ⟨Ci, hCi⟩ : ∃ Ci, Ci = C i := ⟨_, rfl⟩
      rw [← hNi, ← hAi, ← hCi] at hci
      have HN : Hid (Ni = N i ∧ Ni ≤ 6000 ∧ SlZ Ai Ni (Z i) w0 ∧ ∀ j, j < Ni → 0 ≤ Z i j ∧ Z i j < (n : Int)) := ⟨hNi, by rw [hNi]; exact HF.out.2.2.1 i hlt, by rw [hNi, hAi]; exact HF.out.1.sl i hlt, fun j hj => HF.out.2.2.2.1 i hlt j (by rw [← hNi]; exact hj)⟩
      clear hNi hAi hCi
      obtain ⟨L, hL⟩ : ∃ L, L = losts y (Z i) Ni := ⟨_, rfl⟩
      have HTh : Hid (Calls Try.prog 27 #[.slice Ai Ni Ci, .func (.func 44) #[] #[.pointer (some ⟨w.heap.size, 0, none⟩)]] wA fun e w' => ∃ v, e = .returned v ∧ OwnI wA.heap.size v L w' ∧ Below wA.heap.size wA w') := by
        rw [hL]
        refine those_any enters_fill1 (slz_below HN.out.2.2.1 HI.out.2) (by have := HN.out.2.1; omega) (fun wx hb j hj => ?_)
        have e : (#[Value.int .i64 (Z i j)] ++ #[Value.pointer (some ⟨w.heap.size, 0, none⟩)] : Array Value) = #[.int .i64 (Z i j), .pointer (some ⟨w.heap.size, 0, none⟩)] := rfl
        rw [e]
        have hb0x := bel_up' HI.out.2 hb
        exact fill1_any (((bcell hb0x).1 w.heap.size 0 hl0).trans HF.out.2.2.2.2.2) (slz_below HF.out.2.1 hb0x) (Z i j) (HN.out.2.2.2 j hj).1 (HN.out.2.2.2 j hj).2
      obtain ⟨k, hk⟩ : ∃ k, k = L.length := ⟨_, rfl⟩
      have hk6 : k ≤ 6000 := by rw [hk, hL]; have h1 := selZ_len (fun x => decide (y x.toNat = -1)) (Z i) Ni; have := HN.out.2.1; unfold losts; omega
      have HL : Hid (L = losts y (Z i) (N i) ∧ L.length = k) := ⟨by rw [hL, HN.out.1], hk.symm⟩
      clear hL hk
      go_wp2_with fail
      refine HTh.out.mono ?_
      rintro e w2 ⟨v, rfl, hv, hb2⟩
      obtain ⟨vo, vc, hvv⟩ := own_form hv
      rw [HL.out.2] at hvv
      subst hvv
      have H2 : Hid (OwnI wA.heap.size (.slice vo k vc) L w2 ∧ Below wA.heap.size wA w2 ∧ Below w0.heap.size w0 w2 ∧ RowZ g n (flP (pfil N Z y) y i) w2) := ⟨hv, hb2, bel_up' HI.out.2 hb2, HI.out.1.below hb2 HI.out.1.lt'⟩
      clear hv hb2 HTh hci
      by_cases hk1 : k = 1
      · subst hk1
        obtain ⟨x, hx⟩ : ∃ x, L = [x] := by
          have h1 := HL.out.2
          match L, h1 with
          | [x], _ => exact ⟨x, rfl⟩
        have hmem : x ∈ losts y (Z i) (N i) := by rw [← HL.out.1, hx]; exact List.mem_singleton.2 rfl
        obtain ⟨_, jx, hjx, ejx⟩ := selZ_mem _ hmem
        have hxr := HN.out.2.2.2 jx (by rw [HN.out.1]; exact hjx)
        rw [ejx] at hxr
        obtain ⟨X, hX⟩ : ∃ X : Nat, x = (X : Int) := ⟨x.toNat, by omega⟩
        subst hX
        have hXn : X < n := by omega
        have hXb : (X : Int) < (n : Int) := by omega
        have hX0 : (0 : Int) ≤ (X : Int) := by omega
        obtain ⟨ga, gc, e3, ga1, _, ga3, har⟩ := OwnI.rowZ (z := fun _ => (X : Int)) (n := 1) (by rw [show zl 1 (fun _ => (X : Int)) = [(X : Int)] from rfl, ← hx]; exact H2.out.1) (by omega)
        cases e3
        have hca := har.cell 0 (by omega)
        have hPF : pfil N Z y i = some (X, ((par y (Z i) (N i) : Nat) : Int)) := pfil_some (by rw [← HL.out.1]; exact hx)
        obtain ⟨ov, hov⟩ : ∃ ov, ov = flP (pfil N Z y) y i X := ⟨_, rfl⟩
        have hco := H2.out.2.2.2.cell X hXn
        rw [← hov] at hco
        by_cases ho : ov = -1
        · have hoz : (ov == -1) = true := by rw [ho]; rfl
          obtain ⟨S, hS⟩ : ∃ S, S = par y (Z i) Ni := ⟨_, rfl⟩
          have HV : Hid (flP (pfil N Z y) y (i + 1) = fun p => if p = X then ((S : Nat) : Int) else flP (pfil N Z y) y i p) := by
            show _ = _
            rw [flP_put hPF (by show flP (pfil N Z y) y i X = -1; rw [← hov]; exact ho), hS, HN.out.1]
          have HSm : Hid (∀ wx, Below w0.heap.size w0 wx → Calls Try.prog 45 #[.slice Ai Ni Ci, .slice (some ⟨bw, ow, none⟩) n cw] wx fun e w' => e = .returned (.int .i64 (S : Nat)) ∧ Below wx.heap.size wx w') := fun wx hb => by
            rw [hS]
            exact ssum_any (slz_below HN.out.2.2.1 hb) (slz_below HF.out.2.1 hb) (by have := HN.out.2.1; omega) HN.out.2.2.2
          have HSk2 : Hid (∀ wx, Below w2.heap.size w2 wx → wx.cell? ⟨w.heap.size, 0, none⟩ = some (.slice (some ⟨bw, ow, none⟩) n cw) ∧ wx.cell? ⟨ga, 0, none⟩ = some (.int .i64 (X : Nat))) := fun wx hb => ⟨((bcell (bel_up' H2.out.2.2.1 hb)).1 w.heap.size 0 hl0).trans HF.out.2.2.2.2.2, ((bcell hb).1 ga 0 har.lt').trans hca⟩
          clear ho hov hS hPF hmem hx
          obtain ⟨q0, q1⟩ := HSk2.out w2 (Below.refl _ _)
          go_upto_region 8 with fail
          clear q0 q1
          refine wp_region_noPanic ?_
          have hS0 := HSk2.out w2.drew (Below.refl _ _).drew
          refine wp_region_L (S := fun wz => wz.cell? ⟨w.heap.size, 0, none⟩ = some (.slice (some ⟨bw, ow, none⟩) n cw) ∧ wz.cell? ⟨ga, 0, none⟩ = some (.int .i64 (X : Nat))) [8] (by kernel_rfl) ?_
          refine wpAnyL_take (i := 0) (v := ?_) (by rw [List.getElem?_toArray]; rfl) (by decide +kernel) (by decide +kernel) (by decide +kernel) (by decide +kernel) (by decide +kernel) (fun _ _ _ h => h) hS0 (Or.inl ⟨by rfl, ?_⟩) ?_
          rotate_left
          · intro wz hSz; obtain ⟨z0, z1⟩ := hSz; go_simp; first | done | with_reducible rfl
          try simp only [Act.put, List.setIfInBounds_toArray, List.set_cons_zero, List.set_cons_succ]
          refine wpAnyL_take (i := 1) (v := ?_) (by rw [List.getElem?_toArray]; rfl) (by decide +kernel) (by decide +kernel) (by decide +kernel) (by decide +kernel) (by decide +kernel) (fun _ _ _ h => h) hS0 (Or.inl ⟨by rfl, ?_⟩) ?_
          rotate_left
          · intro wz hSz; obtain ⟨z0, z1⟩ := hSz; go_simp; first | done | with_reducible rfl
          try simp only [Act.put, List.setIfInBounds_toArray, List.set_cons_zero, List.set_cons_succ]
          refine wpAnyL_take (i := 2) (v := ?_) (by rw [List.getElem?_toArray]; rfl) (by decide +kernel) (by decide +kernel) (by decide +kernel) (by decide +kernel) (by decide +kernel) (fun _ _ _ h => h) hS0 (Or.inl ⟨by rfl, ?_⟩) ?_
          rotate_left
          · intro wz hSz; obtain ⟨z0, z1⟩ := hSz; go_simp; first | done | with_reducible rfl
          try simp only [Act.put, List.setIfInBounds_toArray, List.set_cons_zero, List.set_cons_succ]
          refine wpAnyL_take (i := 3) (v := ?_) (by rw [List.getElem?_toArray]; rfl) (by decide +kernel) (by decide +kernel) (by decide +kernel) (by decide +kernel) (by decide +kernel) (fun _ _ _ h => h) hS0 (Or.inl ⟨by rfl, ?_⟩) ?_
          rotate_left
          · intro wz hSz; obtain ⟨z0, z1⟩ := hSz; go_simp; first | done | with_reducible rfl
          try simp only [Act.put, List.setIfInBounds_toArray, List.set_cons_zero, List.set_cons_succ]
          refine wpAnyL_take (i := 4) (v := ?_) (by rw [List.getElem?_toArray]; rfl) (by decide +kernel) (by decide +kernel) (by decide +kernel) (by decide +kernel) (by decide +kernel) (fun _ _ _ h => h) hS0 (Or.inl ⟨by rfl, ?_⟩) ?_
          rotate_left
          · intro wz hSz; obtain ⟨z0, z1⟩ := hSz; go_simp; first | done | with_reducible rfl
          try simp only [Act.put, List.setIfInBounds_toArray, List.set_cons_zero, List.set_cons_succ]
          refine wpAnyL_take (i := 5) (v := ?_) (by rw [List.getElem?_toArray]; rfl) (by decide +kernel) (by decide +kernel) (by decide +kernel) (by decide +kernel) (by decide +kernel) (fun _ _ _ h => h) hS0 (Or.inl ⟨by rfl, ?_⟩) ?_
          rotate_left
          · intro wz hSz; obtain ⟨z0, z1⟩ := hSz; go_simp; first | done | with_reducible rfl
          try simp only [Act.put, List.setIfInBounds_toArray, List.set_cons_zero, List.set_cons_succ]
          refine wpAnyL_one (i := 6) (by kernel_rfl) (by rw [List.getElem?_toArray]; rfl) (fun K hK => ?_)
          have HK : Hid _ := hK
          clear hK
          go_simp
          refine (HSm.out w2.drew (bel_up' H2.out.2.2.1 (Below.refl _ _).drew)).mono ?_
          rintro e w4 ⟨rfl, hb4⟩
          have H4 : Hid (Below w2.heap.size w2 w4) := bel_up' (Below.refl _ _).drew hb4
          have hS4 := HSk2.out w4 H4.out
          clear hb4
          refine HK.out _ _ (fun _ => hS4) ?_
          clear HK K
          try simp only [Act.put, List.setIfInBounds_toArray, List.set_cons_zero, List.set_cons_succ]
          refine wpAnyL_take (i := 7) (v := ?_) (by rw [List.getElem?_toArray]; rfl) (by decide +kernel) (by decide +kernel) (by decide +kernel) (by decide +kernel) (by decide +kernel) (fun _ _ _ h => h) hS4 (Or.inl ⟨by rfl, ?_⟩) ?_
          rotate_left
          · intro wz hSz; obtain ⟨z0, z1⟩ := hSz; go_simp; first | done | with_reducible rfl
          try simp only [Act.put, List.setIfInBounds_toArray, List.set_cons_zero, List.set_cons_succ]
          have hr4 := H2.out.2.2.2.below H4.out H2.out.2.2.2.lt'
          have hco4 := hr4.cell X hXn
          have hfo4 := hr4.free X
          have HR : Hid (FlI N Z y n m g w0 (.int .i64 ((i : Nat) + 1 : Int)) (w4.setCell ⟨g, X, none⟩ (.int .i64 ((S : Nat) : Int)))) := by
            refine ⟨i + 1, by omega, rfl, ?_, (bel_up' H2.out.2.2.1 H4.out).setCell H1.out.2.2.1 _⟩
            rw [HV.out]
            exact hr4.store X _ (fun j _ => rfl)
          clear hr4
          refine wpAnyL_one (i := 8) (by kernel_rfl) (by rw [List.getElem?_toArray]; rfl) (fun K hK => ?_)
          have HK : Hid _ := hK
          clear hK
          go_simp
          refine HK.out _ _ (fun h => absurd (by simp) h) ?_
          clear HK K
          try simp only [Act.put, List.setIfInBounds_toArray, List.set_cons_zero, List.set_cons_succ]
          refine wpAnyL_done (by kernel_rfl) (NoPanic.normal ?_)
          clear hS0 hS4 hco4 hfo4
          go_wp2
          go_roundw
          case rel => exact HR.out
          case measure => simp [intOf]; omega
        · have hoz : (ov == -1) = false := beq_eq_false_iff_ne.2 ho
          have HV : Hid (flP (pfil N Z y) y (i + 1) = flP (pfil N Z y) y i) := flP_keep hPF (by show flP (pfil N Z y) y i X ≠ -1; rw [← hov]; exact ho)
          clear ho hov hPF hmem hx
          go_wp2
          go_roundw
          case rel => exact ⟨i + 1, by omega, by go_num, by rw [HV.out]; exact H2.out.2.2.2, H2.out.2.2.1⟩
          case measure => simp [intOf]; omega
      · have hkz : ((k : Int) == 1) = false := by rw [beq_eq_false_iff_ne]; omega
        have HV : Hid (flP (pfil N Z y) y (i + 1) = flP (pfil N Z y) y i) := flP_none (pfil_none (by rw [← HL.out.1, HL.out.2]; exact hk1))
        clear hk1
        go_wp2
        go_roundw
        case rel => exact ⟨i + 1, by omega, by go_num, by rw [HV.out]; exact H2.out.2.2.2, H2.out.2.2.1⟩
        case measure => simp [intOf]; omega
    · have hib : ¬ (i : Int) < (m : Int) := by omega
      have hie : m = i := by omega
      subst hie
      have HR : Hid (w.heap.size ≤ g ∧ RowZ g n (pround m N Z y) wA ∧ Below w.heap.size w wA) := ⟨by have := H1.out.2.2.1; omega, HI.out.1, bel_up' HF.out.2.2.2.2.1 HI.out.2⟩
      go_wp2
      go_ret
      exact ⟨g, c, rfl, H1.out.2.2.2.1, H1.out.2.2.2.2, HR.out⟩
end Go.Proofs.Ytjkncdmbcckcdab
