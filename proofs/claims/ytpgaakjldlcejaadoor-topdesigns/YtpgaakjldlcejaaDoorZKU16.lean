/- Golay: Blocks. -/
import Derived.Test.YtpgaakjldlcejaaDoorZKU13
import Derived.Test.YtpgaakjldlcejaaDoorZS62
import Derived.Test.YtpgaakjldlcejaaDoorZW14
import Derived.Maps.OwnIn
namespace Go.Proofs.YtpgaakjldlcejaaDoor
open Go.RowKit Go.Sort Go.Maps Go.Shelf
attribute [local go_sem] Oper.semAt_some

theorem own_iter {base sz n r b d : Nat} {t : TypeId} {a : Option Nat} {v : Value} {l : List Value} {s : Array Nat} {w : World} (h : w.ownsRow base t sz v n l) (hr : w.heap[r]? = some (.mapIter a b s d)) : v.ownBlock = none ∨ v.ownBlock ≠ some r := by
  rcases h.2 with ⟨h1, _⟩ | ⟨g, cap, cur, hv, _, hh, _⟩
  · left; rw [h1]; rfl
  · right
    rw [hv]
    intro e
    cases e
    rw [hr] at hh
    cases hh
theorem KLm.iter {base m r n cnt B : Nat} {v : Value} {N : List Nat} {Dm : DataW Value} {left : Lit → Bool} {w w' : World} (h : KLm base v m N w) (hr : w.ranges Tryd.prog 43 (plainElem Tryd.prog 3) B r n Dm left cnt) (hg : w.grownBy w' (some r)) : KLm base v m N w' := by
  obtain ⟨_, _, _, _, _, _, _, _, _, hi, _⟩ := hr
  obtain ⟨l, ho, hl, he⟩ := h
  refine ⟨l, World.ownsRow.kept ho hg (own_iter ho hi), hl, fun j u k hu hk => ?_⟩
  obtain ⟨c, h1, h2⟩ := he j u k hu hk
  exact ⟨c, h1.kept hg (own_iter h1 hi), h2⟩
theorem own_defd {base sz n r : Nat} {t : TypeId} {v : Value} {l : List Value} {x : Option (List Deferred)} {w : World} (h : w.ownsRow base t sz v n l) (hr : w.heap[r]? = some (.deferred x)) : v.ownBlock = none ∨ v.ownBlock ≠ some r := by
  rcases h.2 with ⟨h1, _⟩ | ⟨g, cap, cur, hv, _, hh, _⟩
  · left; rw [h1]; rfl
  · right
    rw [hv]
    intro e
    cases e
    rw [hr] at hh
    cases hh
theorem KLm.defd {base m r : Nat} {v : Value} {N : List Nat} {x : Option (List Deferred)} {w w' : World} (h : KLm base v m N w) (hi : w.heap[r]? = some (.deferred x)) (hg : w.grownBy w' (some r)) : KLm base v m N w' := by
  obtain ⟨l, ho, hl, he⟩ := h
  refine ⟨l, World.ownsRow.kept ho hg (own_defd ho hi), hl, fun j u k hu hk => ?_⟩
  obtain ⟨c, h1, h2⟩ := he j u k hu hk
  exact ⟨c, h1.kept hg (own_defd h1 hi), h2⟩
theorem gi_wf {k : Nat} (h : k ≤ 1000000) : (Lit.int .i64 (k : Nat)).wf = true := by
  have h1 : IntKind.i64.min = -9223372036854775808 := by decide +kernel
  have h2 : IntKind.i64.max = 9223372036854775807 := by decide +kernel
  simp only [Lit.wf, h1, h2, Bool.and_eq_true, decide_eq_true_eq]
  omega
theorem glit_inj {a b : Int} (h : (DataW.lit (.int .i64 a) : DataW Value) = .lit (.int .i64 b)) : a = b := by cases h; rfl

theorem Cod.makeG {D : FD} (hD : D ∈ fieldsL) {n m : Nat} (ca : Nat) {ao : Option Addr} {M : Nat → Nat → Nat} {w : World} (h : Cod D n ao m M w) :
    Calls Tryd.prog 10 #[.agg #[.int .i64 D.q, .int .i64 (n : Nat), .slice ao m ca]] w fun x w' => ∃ k R ro rc, x = .returned (.tuple #[.agg #[.int .i64 D.q, .int .i64 (n : Nat), .slice ro k rc], .int .i64 0]) ∧ (k ≤ rc ∧ rc ≤ 1000000) ∧ MV w.heap.size (.slice ro k rc) k n R w' ∧ Red D n m M k R ∧ Below w.heap.size w w' := by
  have hc := h.chk hD ca
  obtain ⟨A, N, C, Z, h1, h2⟩ := h
  refine (cMakeC_ok hD h1 hc).mono ?_
  rintro x w' ⟨k, R, ro, rc, rfl, hkr, hmv, hred, hb⟩
  exact ⟨k, R, ro, rc, rfl, hkr, hmv, hred.of_eq h2, hb⟩
set_option maxHeartbeats 8000000 in
set_option maxRecDepth 100000 in
theorem gblocks_ok {D : FD} (hD : D ∈ fieldsL) {n m wt : Nat} (ca : Nat) {ao : Option Addr} {M : Nat → Nat → Nat} {w : World} (h : Cod D n ao m M w) (hn : n ≤ 64) (hw1 : 1 ≤ wt) (hwn : wt ≤ n) (hT : TzOk w) (hF : ∀ k R, Red D n m M k R → D.q ^ k ≤ 4096) :
    Calls Tryd.prog 5 #[.agg #[.int .i64 D.q, .int .i64 (n : Nat), .slice ao m ca], .int .i64 (wt : Nat)] w fun e w' => ∃ (k : Nat) (R : Nat → Nat → Nat) (v : Value) (A L : List Nat) (base : Nat), Red D n m M k R ∧ e = .returned (.tuple #[v, .int .i64 0]) ∧ List.Pairwise (fun a b => a ≤ b) A ∧ A.Perm (L.map fun s => kyP (plN s)) ∧ L.Perm (gsl D R n k wt (D.q ^ k)) ∧ w.heap.size ≤ base ∧ KLm base v wt A w' ∧ Below w.heap.size w w' := by
  have hn1 : 1 ≤ n := by omega
  obtain ⟨w0, hw0⟩ : ∃ w0, w0 = w.alloc (.cells #[.int .i64 D.q, .int .i64 (n : Nat), .slice ao m ca] 28) := ⟨_, rfl⟩
  have H0 : Hid (Below w.heap.size w w0 ∧ CB w.heap.size D.q n (.slice ao m ca) w0 ∧ w0.heap.size = w.heap.size + 1) := by
    have := box_at D.q (n : Nat) (.slice ao m ca) w
    rw [← hw0] at this; exact this
  obtain ⟨wa, hwa⟩ : ∃ wa, wa = w0.alloc (.cells #[.int .i64 (wt : Nat)] 3) := ⟨_, rfl⟩
  have hba : Below w0.heap.size w0 wa := by rw [hwa]; exact (Below.refl _ _).alloc (Nat.le_refl _) _
  have HA : Hid (Below w.heap.size w wa ∧ CB w.heap.size D.q n (.slice ao m ca) wa ∧ wa.heap.size = w.heap.size + 2 ∧ wa.cell? ⟨w.heap.size + 1, 0, none⟩ = some (.int .i64 (wt : Nat))) := by
    refine ⟨below_two' H0.out.1 hba, H0.out.2.1.keep hba, by rw [hwa]; simp [H0.out.2.2], ?_⟩
    rw [hwa, ← H0.out.2.2]; simp
  have HW : Hid (Calls Tryd.prog 9 #[.agg #[.int .i64 D.q, .int .i64 (n : Nat), .slice ao m ca]] wa (WsP D n m M wa)) := Cod.wts hD ca (h.below HA.out.1)
  have HM : Hid (∀ wx, Below w.heap.size w wx → Calls Tryd.prog 10 #[.agg #[.int .i64 D.q, .int .i64 (n : Nat), .slice ao m ca]] wx fun x w' => ∃ k R ro rc, x = .returned (.tuple #[.agg #[.int .i64 D.q, .int .i64 (n : Nat), .slice ro k rc], .int .i64 0]) ∧ (k ≤ rc ∧ rc ≤ 1000000) ∧ MV wx.heap.size (.slice ro k rc) k n R w' ∧ Red D n m M k R ∧ Below wx.heap.size wx w') := fun wx hb => Cod.makeG hD ca (h.below hb)
  have HF : Hid (D ∈ fieldsL ∧ TzOk w ∧ ∀ k R, Red D n m M k R → D.q ^ k ≤ 4096) := ⟨hD, hT, hF⟩
  have g1 : ¬ (wt : Int) < 1 := by omega
  have g2 : ¬ (wt : Int) > (n : Int) := by omega
  have hmm := @run_makeMap Tryd.prog
  clear h hT hF hba
  obtain ⟨q0, q1, q2⟩ := H0.out.2.1
  rw [hw0] at q0 q1 q2
  refine callsIn_wide.1 (callsIn_of_wp_marks (n := 0) Tryd.func5 rfl trivial ?_ rfl)
  refine wpIn_wide.2 ?_
  simp only [Tryd.ntmps5, List.size_toArray, List.length_cons, List.length_nil, Nat.reduceAdd, Nat.reduceSub, Array.replicate_succ, Array.replicate_zero, List.push_toArray, List.append_toArray, List.nil_append, List.cons_append]
  go_wp2_with fail
  rw [← hw0, ← hwa]
  clear q0 q1 q2
  have hs1 : w0.heap.size = w.heap.size + 1 := H0.out.2.2
  try rw [hs1]
  clear hw0 hwa
  refine HW.out.mono ?_
  rintro x w1 ⟨k0, R0, hre, hb1, hx⟩
  rcases hx with ⟨_, gW, _, _, rfl⟩ | ⟨hmany, _⟩
  case inr => exact absurd (HF.out.2.2 k0 R0 hre) hmany
  have H1 : Hid (Below w.heap.size w w1 ∧ CB w.heap.size D.q n (.slice ao m ca) w1 ∧ w1.cell? ⟨w.heap.size + 1, 0, none⟩ = some (.int .i64 (wt : Nat)) ∧ w.heap.size + 2 ≤ w1.heap.size) := ⟨below_two' HA.out.1 hb1, HA.out.2.1.keep hb1, (hb1.cell (p := ⟨w.heap.size + 1, 0, none⟩) (by rw [HA.out.2.2.1]; show w.heap.size + 1 < _; omega)).trans HA.out.2.2.2, by have := hb1.size; have := HA.out.2.2.1; omega⟩
  clear hre hb1 HW
  obtain ⟨p0, p1, p2⟩ := H1.out.2.1
  have hcw := H1.out.2.2.1
  go_wp2_with fail
  refine (HM.out w1 H1.out.1).mono ?_
  rintro x w2 ⟨k, R, ro, rc, rfl, hkr, hmv, hred, hb2⟩
  have H2 : Hid (Below w.heap.size w w2 ∧ w2.cell? ⟨w.heap.size + 1, 0, none⟩ = some (.int .i64 (wt : Nat)) ∧ w.heap.size + 2 ≤ w2.heap.size ∧ MV w1.heap.size (.slice ro k rc) k n R w2 ∧ Red D n m M k R) := ⟨below_two' H1.out.1 hb2, (hb2.cell (p := ⟨w.heap.size + 1, 0, none⟩) (by have := H1.out.2.2.2; show w.heap.size + 1 < _; omega)).trans H1.out.2.2.1, by have := hb2.size; have := H1.out.2.2.2; omega, hmv, hred⟩
  have HKR : Hid (D.q ^ k ≤ 4096 ∧ k ≤ rc ∧ rc ≤ 1000000) := ⟨HF.out.2.2 k R hred, hkr⟩
  have hs12 := hb2.size
  clear hmv hred hb2 p0 p1 p2 hcw HM hkr
  go_wp2_with fail
  obtain ⟨w3, hw3⟩ : ∃ w3, w3 = ((w2.alloc (.cells #[.int .i64 D.q, .int .i64 (n : Nat), .slice ro k rc] 28)).alloc (.map #[] 0)).alloc (.cells #[.map (some (w2.heap.size + 1))] 38) := ⟨_, rfl⟩
  obtain ⟨B, hB⟩ : ∃ B, B = w2.heap.size + 1 := ⟨_, rfl⟩
  have H3 : Hid (Below w2.heap.size w2 w3 ∧ Ug B 0 [] (fun _ => 0) w3 ∧ w3.cell? ⟨B + 1, 0, none⟩ = some (.map (some B)) ∧ w3.heap.size = B + 2) := by
    have hm1 : Ug B 0 [] (fun _ => 0) ((w2.alloc (.cells #[.int .i64 D.q, .int .i64 (n : Nat), .slice ro k rc] 28)).alloc (.map #[] 0)) := by
      have e : B = (w2.alloc (.cells #[.int .i64 D.q, .int .i64 (n : Nat), .slice ro k rc] 28)).heap.size := by rw [hB]; simp
      rw [e]
      exact ⟨.map [], World.ownsMap_made _ _ _ _, UgD.nil⟩
    have b1 : Below w2.heap.size w2 (w2.alloc (.cells #[.int .i64 D.q, .int .i64 (n : Nat), .slice ro k rc] 28)) := (Below.refl _ _).alloc (Nat.le_refl _) _
    have b2 := b1.alloc b1.size (.map #[] 0)
    have b3 := b2.alloc b2.size (.cells #[.map (some (w2.heap.size + 1))] 38)
    refine ⟨by rw [hw3]; exact b3, hm1.grc ?_, ?_, by rw [hw3, hB]; simp⟩
    case refine_2 =>
      have c4 : ∀ (x : World) (o : Value) (t : TypeId), (x.alloc (.cells #[o] t)).cell? ⟨x.heap.size, 0, none⟩ = some o := fun x o t => by simp
      have e : ((w2.alloc (.cells #[.int .i64 D.q, .int .i64 (n : Nat), .slice ro k rc] 28)).alloc (.map #[] 0)).heap.size = B + 1 := by rw [hB]; simp
      rw [hw3, ← e, hB]
      exact c4 _ _ _
    rw [hw3]
    have b4 : ∀ (x : World) (o : Obj), B < x.heap.size → (x.alloc o).heap[B]? = x.heap[B]? := fun x o hx => ((Below.refl x.heap.size x).alloc (Nat.le_refl _) o).block B hx
    exact b4 _ _ (by rw [hB]; simp)
  rw [← hw3]
  clear hw3
  refine (words_any D.q n (.slice ro k rc) w3).mono ?_
  rintro e w5 ⟨rfl, he5⟩
  have hb5 : Below w3.heap.size w3 w5 := by rw [he5]; exact (Below.refl _ _).alloc (Nat.le_refl _) _
  have hcb5 : CB w3.heap.size D.q n (.slice ro k rc) w5 := by rw [he5]; exact CB.new _ _ _ _
  have hs5 : w5.heap.size = w3.heap.size + 1 := by rw [he5]; simp
  clear he5
  obtain ⟨Gm, mm, hm, hWR2, hGl2, hhl2⟩ := H2.out.2.2.2.1.wdr
  have hWR5 : WdR ro n k w1.heap.size Gm mm R hm w5 := fun hk => ⟨(hWR2 hk).1, ((hWR2 hk).2.below H3.out.1).below hb5⟩
  have HX : Hid (CB w3.heap.size D.q n (.slice ro k rc) w5 ∧ Ug B 0 [] (fun _ => 0) w5 ∧ w5.cell? ⟨B + 1, 0, none⟩ = some (.map (some B)) ∧ Below w.heap.size w w5 ∧ w5.cell? ⟨w.heap.size + 1, 0, none⟩ = some (.int .i64 (wt : Nat)) ∧ w5.heap.size = B + 3 ∧ w3.heap.size = B + 2 ∧ w.heap.size + 2 < B) := by
    have h4 := H3.out.2.2.2
    have h5 := H2.out.2.2.1
    refine ⟨hcb5, H3.out.2.1.grc (hb5.block B (by omega)), (hb5.cell (p := ⟨B + 1, 0, none⟩) (by show B + 1 < _; omega)).trans H3.out.2.2.1, below_two' (below_two' H2.out.1 H3.out.1) hb5, ?_, by omega, h4, by omega⟩
    exact ((hb5.cell (p := ⟨w.heap.size + 1, 0, none⟩) (by show w.heap.size + 1 < _; omega)).trans (H3.out.1.cell (p := ⟨w.heap.size + 1, 0, none⟩) (by show w.heap.size + 1 < _; omega))).trans H2.out.2.1
  have hX6 := HX.out.2.2.2.2.2
  have HRel : Hid (∀ i, i < k → El D (R i)) := H2.out.2.2.2.2.rows.1
  have hseq := words_seq (own := fun x => x = B) hD HX.out.1 hWR5 hn1 (by omega) HKR.out.2.1 HKR.out.2.2 (by have := HKR.out.1; omega) HRel.out (fun x e => by omega) (fun e => by omega) (fun hk e => by have := hGl2 hk; omega) (fun i hi e => by have := hhl2 i hi; omega)
  have HQ : Hid (SeqI Tryd.prog 26 #[.pointer (some ⟨w3.heap.size, 0, none⟩)] (D.q ^ k) (WdE D R n k w5.heap.size) (fun x => x = B) w5) := hseq
  clear hseq hWR5 hWR2 hGl2 hhl2 hcb5 hb5 hs5 hs12
  obtain ⟨cb, hcb⟩ : ∃ cb, cb = w3.heap.size := ⟨_, rfl⟩
  rw [← hcb] at HQ ⊢
  clear hcb
  try rw [← hB]
  clear hB
  have hFl := fld HF.out.1
  have hwd : decide ((wt : Int) < 1) = false := decide_eq_false (by omega)
  go_wp2
  try simp only [hwd]
  clear hwd
  have HO : Hid (w.heap.size + 2 < B ∧ w5.heap.size = B + 3) := ⟨hX6.2.2, hX6.1⟩
  refine range_law (gf := 26) (lb := #[.pointer (some ⟨cb, 0, none⟩)]) rfl (enters_of Tryd.func26 (by kernel_rfl) rfl) HQ.out (fun x e => by have := HO.out; omega) (fun r args X h => by obtain ⟨z, g, c, _, _, ha, _⟩ := h; rw [ha]; rfl)
    (fun r X => ∃ N, N ≤ r ∧ Ug B N (gsl D R n k wt r) (gsc D R n k wt r) X ∧ X.cell? ⟨B + 1, 0, none⟩ = some (.map (some B)) ∧ X.cell? ⟨w.heap.size + 1, 0, none⟩ = some (.int .i64 (wt : Nat)) ∧ Below w.heap.size w X ∧ w5.heap.size ≤ X.heap.size) ?stable (fun r args X Y h hg => h.grc hg) ?start
    (fun args => { tmps := #[.agg #[.int .i64 D.q, .int .i64 (n : Nat), .slice ao m ca], .int .i64 (wt : Nat), .pointer (some ⟨w.heap.size, 0, none⟩), .pointer (some ⟨w.heap.size + 1, 0, none⟩), .slice none 0 0, .int .i64 0, .slice (some ⟨gW, 0, none⟩) (n + 1) (n + 1), .int .i64 0, .pointer (some ⟨w2.heap.size, 0, none⟩), .int .i64 0, .pointer (some ⟨B + 1, 0, none⟩), args.getD 0 undef, undef, undef, undef, .tuple #[.slice (some ⟨gW, 0, none⟩) (n + 1) (n + 1), .int .i64 0], .agg #[.int .i64 D.q, .int .i64 (n : Nat), .slice ao m ca], .tuple #[.slice (some ⟨gW, 0, none⟩) (n + 1) (n + 1), .int .i64 0], .slice (some ⟨gW, 0, none⟩) (n + 1) (n + 1), .int .i64 0, .int .i64 0, .bool false, undef, .int .i64 (wt : Nat), .bool false, .bool false, .int .i64 (wt : Nat), .pointer (some ⟨w.heap.size, 1, none⟩), .int .i64 (n : Nat), .bool false, .bool false, .tuple #[.agg #[.int .i64 D.q, .int .i64 (n : Nat), .slice ro k rc], .int .i64 0], .agg #[.int .i64 D.q, .int .i64 (n : Nat), .slice ao m ca], .tuple #[.agg #[.int .i64 D.q, .int .i64 (n : Nat), .slice ro k rc], .int .i64 0], .agg #[.int .i64 D.q, .int .i64 (n : Nat), .slice ro k rc], .int .i64 0, .int .i64 0, .bool false, undef, .map (some B), .agg #[.int .i64 D.q, .int .i64 (n : Nat), .slice ro k rc], .func (.func 26) #[] #[.pointer (some ⟨cb, 0, none⟩)], args.getD 0 undef, undef, undef, undef, undef, undef, undef, undef, undef, undef, undef, undef, undef, undef, undef, undef, undef, undef, undef, undef, undef, undef, undef, undef, undef], defers := [] })
    ?assign ?body ?done
  case stable =>
    rintro r X Y ⟨N, hN, h1, h2, h2b, h3, h4⟩ hg
    have hO := HO.out
    have hcl : ∀ b v, b < w5.heap.size → X.cell? ⟨b, 0, none⟩ = some v → Y.cell? ⟨b, 0, none⟩ = some v := fun b v hb h => by
      have e := hg.same b (by omega) (Or.inl hb)
      unfold World.cell? at h ⊢
      rw [e]; exact h
    exact ⟨N, hN, h1.grc (hg.same B (by omega) (Or.inl (by omega))), hcl _ _ (by omega) h2, hcl _ _ (by omega) h2b, h3.trans ⟨hg.os, hg.tape, hg.output, hg.size, fun i hi => hg.same i (by have := h3.size; omega) (Or.inl (by omega))⟩, by have := hg.size; omega⟩
  case start => exact ⟨0, Nat.le_refl _, HX.out.2.1, HX.out.2.2.1, HX.out.2.2.2.2.1, HX.out.2.2.2.1, Nat.le_refl _⟩
  case assign =>
    intro l r args X K he hK
    obtain ⟨g, c, ha, _⟩ := he.word hFl
    subst ha
    gi_wp2
    exact hK
  case body =>
    rintro l r args X hr ⟨N, hN, h1, h2, h2b, h3, h4⟩ he
    obtain ⟨g, c, ha, hc1, hc2, hrow, hge⟩ := he.word hFl
    subst ha
    obtain ⟨s, hs⟩ : ∃ s, s = wst D R n k r := ⟨_, rfl⟩
    have hsb : s < 18446744073709551616 := by rw [hs]; exact wst_lt D R k r hn
    have HNz : Hid (Calls Tryd.prog 12 #[.slice (some ⟨g, 0, none⟩) n c] X fun e w' => e = .returned (.int .u64 (s : Nat)) ∧ w' = X) := by
      rw [hs]; exact notZero_any (z := fun i => ((wdr D R k r i : Nat) : Int)) (hrow.sl (Nat.le_refl _)).z hn
    obtain ⟨t, ht⟩ : ∃ t, t = wgr D R n k r := ⟨_, rfl⟩
    have htb : bcn 64 s = t := by rw [hs, ht]; exact nzs_count (p := wnz D R k r) hn
    have htn : t ≤ n := by rw [ht]; exact ct_most _ _
    have HSz : Hid (∀ j, Calls Tryd.prog 13 #[.int .u64 (s : Nat)] (X.drewN j) fun e w' => e = .returned (.int .i64 (t : Nat)) ∧ w' = X.drewN j) := fun j => by rw [← htb]; exact gsize_any hsb _
    have HI : Hid (X.cell? ⟨B + 1, 0, none⟩ = some (.map (some B)) ∧ X.cell? ⟨w.heap.size + 1, 0, none⟩ = some (.int .i64 (wt : Nat)) ∧ Below w.heap.size w X ∧ w5.heap.size ≤ X.heap.size ∧ Ug B N (gsl D R n k wt r) (gsc D R n k wt r) X ∧ s = wst D R n k r ∧ t = wgr D R n k r ∧ N ≤ r ∧ r < D.q ^ k) := ⟨h2, h2b, h3, h4, h1, hs, ht, hN, hr⟩
    clear hs ht htb he hrow h1 h3 h4 hN hr
    gi_wp2
    refine ⟨trivial, rfl, (CallsIn.inRound l (callsIn_wide.2 HNz.out)).mono ?_⟩
    rintro e wz ⟨rfl, hw⟩
    have hw := hw.symm
    subst hw
    by_cases hte : t = wt
    · have HSw : Hid (∀ j, Calls Tryd.prog 13 #[.int .u64 (s : Nat)] (X.drewN j) fun e w' => e = .returned (.int .i64 (wt : Nat)) ∧ w' = X.drewN j) := by rw [← hte]; exact HSz.out
      have HTe : Hid (wgr D R n k r = wt) := by rw [← hte]; exact HI.out.2.2.2.2.2.2.1.symm
      clear HSz hte htn
      gi_wp2
      refine quiet_round 3 (by rintro ⟨a, w, h⟩; exact absurd h.1 (by intro h; cases h)) (by kernel_rfl) (by kernel_rfl) (by kernel_rfl) ?_
      simp only [List.take_succ_cons, List.take_zero, List.drop_succ_cons, List.drop_zero]
      repeat (go_big_quiet_step ((go_at_call 13; exact Calls.quiet_of_same (HSw.out _))))
      refine wpQuiet_nil ?_
      intro Xq hw'
      obtain ⟨nq, hw''⟩ := hw'
      have HXq : Hid (Ug B N (gsl D R n k wt r) (gsc D R n k wt r) (X.drewN nq) ∧ (X.drewN nq).cell? ⟨B + 1, 0, none⟩ = some (.map (some B)) ∧ (X.drewN nq).cell? ⟨w.heap.size + 1, 0, none⟩ = some (.int .i64 (wt : Nat)) ∧ Below w.heap.size w (X.drewN nq) ∧ w5.heap.size ≤ (X.drewN nq).heap.size ∧ Below X.heap.size X (X.drewN nq)) := ⟨HI.out.2.2.2.2.1.grc rfl, HI.out.1, HI.out.2.1, below_drewN2 HI.out.2.2.1 nq, HI.out.2.2.2.1, below_drewN2 (Below.refl _ _) nq⟩
      rw [← hw''] at HXq
      clear hw''
      obtain ⟨y, hy⟩ : ∃ y, y = gsc D R n k wt r s := ⟨_, rfl⟩
      have hyr : y ≤ 4096 := by
        have h5 := gsc_le D R n k wt r s
        have h6 := HKR.out.1
        have h7 := HI.out.2.2.2.2.2.2.2.2
        omega
      obtain ⟨y1, hy1⟩ : ∃ y1, y1 = y + 1 := ⟨_, rfl⟩
      have wy : IntKind.i64.wrap ((y : Int) + 1) = (y1 : Int) := wrap_to (by omega) (by omega)
      obtain ⟨Dm, hown, hUD⟩ := HXq.out.1
      have HOw : Hid (Xq.ownsMap Tryd.prog 43 (plainElem Tryd.prog 3) B N Dm ∧ UgD Dm (gsl D R n k wt r) (gsc D R n k wt r) ∧ N ≤ 4096) := ⟨hown, hUD, by have h6 := HKR.out.1; have h7 := HI.out.2.2.2.2.2.2.2; omega⟩
      have HY : Hid (Dm.atKey (.int .u64 (s : Nat)) (.lit (.int .i64 0)) = .lit (.int .i64 (y : Nat)) ∧ y = gsc D R n k wt r s ∧ y1 = y + 1) := ⟨by rw [hy]; exact hUD.at' s, hy, hy1⟩
      have hy1b : y1 ≤ 1000000 := by omega
      have hcq := HXq.out.2.1
      clear hown hUD hy hy1 h2 h2b
      go_wp2
      gi_wp2_with (first
        | (gi_at_lookup; refine wpListIn_lookup_own_int _ rfl _ _ 38 rfl 43 3 .i64 gt_law gt_map gty_int (gt_zero _) B N _ rfl HOw.out.1 _ _ rfl (gt_key hsb) ?_; intro c0 hat hwc; obtain rfl : c0 = ((y : Nat) : Int) := glit_inj (hat.symm.trans HY.out.1); clear hat hwc)
        | (gi_at_mapUpdate; refine wpListIn_mapUpdate_own _ rfl _ _ _ 38 rfl 43 3 gt_law gt_map _ B N _ rfl HOw.out.1 (by have := HOw.out.2.2; unfold maxLen; omega) _ _ _ rfl rfl (gt_key hsb) _ [] (plainElem_int gty_int (gi_wf hy1b)) ?_; intro w7 hown7 hgrow7))
      have hO := HO.out
      have hX := HXq.out
      have hcl : ∀ b v, b < w5.heap.size → b ≠ B → Xq.cell? ⟨b, 0, none⟩ = some v → w7.cell? ⟨b, 0, none⟩ = some v := fun b v hb hne h => by
        have e := hgrow7.block b (by omega) (by intro e; cases e; exact hne rfl)
        unfold World.cell? at h ⊢
        rw [e]; exact h
      refine ⟨⟨hgrow7.os.trans hX.2.2.2.2.2.os, hgrow7.tape.trans hX.2.2.2.2.2.tape, hgrow7.output.trans hX.2.2.2.2.2.output, Nat.le_trans hX.2.2.2.2.2.size hgrow7.size, fun x hx hno => (hgrow7.block x (Nat.lt_of_lt_of_le hx hX.2.2.2.2.2.size) (by intro e; cases e; exact hno rfl)).trans (hX.2.2.2.2.2.block x hx)⟩, N + 1, by have := HI.out.2.2.2.2.2.2.2.1; omega, ?_, hcl _ _ (by omega) (by omega) hX.2.1, hcl _ _ (by omega) (by omega) hX.2.2.1, hX.2.2.2.1.grown hgrow7 hX.2.2.2.1.size (fun j hj => by cases hj; omega), by have h8 := hX.2.2.2.2.1; have h9 := hgrow7.size; omega⟩
      have e1 : gsl D R n k wt (r + 1) = addL (gsl D R n k wt r) s := by show (if _ then _ else _) = _; rw [if_pos HTe.out, HI.out.2.2.2.2.2.1]
      have e2 : gsc D R n k wt (r + 1) = fun j => if j = s then y1 else gsc D R n k wt r j := by
        show (if wgr D R n k r = wt then fun j => if j = wst D R n k r then gsc D R n k wt r (wst D R n k r) + 1 else gsc D R n k wt r j else gsc D R n k wt r) = _
        rw [if_pos HTe.out, ← HI.out.2.2.2.2.2.1, HY.out.2.2, HY.out.2.1]
      rw [e1, e2]
      exact ⟨_, hown7, HOw.out.2.1.put s y1⟩
    · have hz : ((t : Int) == (wt : Int)) = false := beq_eq_false_iff_ne.2 (by omega)
      have hz2 : decide ((t : Int) = (wt : Int)) = false := decide_eq_false (by omega)
      have hz3 : ¬ (t : Int) = (wt : Int) := by omega
      have HTe : Hid (¬ wgr D R n k r = wt) := by have := HI.out.2.2.2.2.2.2.1; rw [← this]; exact hte
      have hz4 : (t == wt) = false := beq_eq_false_iff_ne.2 hte
      gi_wp2
      refine quiet_round 3 (by rintro ⟨a, w, h⟩; exact absurd h.1 (by intro h; cases h)) (by kernel_rfl) (by kernel_rfl) (by kernel_rfl) ?_
      simp only [List.take_succ_cons, List.take_zero, List.drop_succ_cons, List.drop_zero]
      repeat (go_big_quiet_step ((go_at_call 13; exact Calls.quiet_of_same (HSz.out _))))
      refine wpQuiet_nil ?_
      intro _ hw'
      obtain ⟨nq, hw''⟩ := hw'
      subst hw''
      clear h2 h2b
      go_wp2
      gi_wp2
      have hb := below_drewN2 (Below.refl X.heap.size X) nq
      refine ⟨⟨hb.os, hb.tape, hb.output, hb.size, fun x hx _ => hb.block x hx⟩, N, by have := HI.out.2.2.2.2.2.2.2.1; omega, ?_, HI.out.1, HI.out.2.1, below_drewN2 HI.out.2.2.1 nq, by have h8 := HI.out.2.2.2.1; have h9 := HO.out; show _ ≤ X.heap.size; omega⟩
      have e1 : gsl D R n k wt (r + 1) = gsl D R n k wt r := by show (if _ then _ else _) = _; rw [if_neg HTe.out]
      have e2 : gsc D R n k wt (r + 1) = gsc D R n k wt r := by show (if _ then _ else _) = _; rw [if_neg HTe.out]
      rw [e1, e2]
      exact HI.out.2.2.2.2.1.grc rfl
  case done =>
    rintro De We hDe ⟨N, hN, h1, h2, h2b, h3, h4⟩ hK
    obtain ⟨L, hL⟩ : ∃ L, L = gsl D R n k wt (D.q ^ k) := ⟨_, rfl⟩
    rw [← hL] at h1
    obtain ⟨Dm, hown, hUD⟩ := h1
    obtain ⟨rB, hrB⟩ : ∃ rB, rB = We.heap.size := ⟨_, rfl⟩
    have hLl : L.length ≤ 4096 := by rw [hL]; have := gsl_len D R n k wt (D.q ^ k); have := HKR.out.1; omega
    have HL : Hid (L = gsl D R n k wt (D.q ^ k) ∧ (∀ s ∈ L, s < 18446744073709551616 ∧ (plN s).length = wt ∧ ∀ x ∈ plN s, x < 64)) := by
      refine ⟨hL, fun s hs => ?_⟩
      rw [hL] at hs
      obtain ⟨r, _, h6, h7⟩ := (gsl_mem D R n k wt s _).1 hs
      rw [h7, wst_places D R k r hn]
      exact ⟨wst_lt D R k r hn, by rw [wnz_len, h6], fun x hx => by have := pLs_lt x hx; omega⟩
    have HW : Hid (We.ownsMap Tryd.prog 43 (plainElem Tryd.prog 3) B N Dm ∧ UgD Dm L (gsc D R n k wt (D.q ^ k)) ∧ Below w.heap.size w We ∧ B < We.heap.size ∧ We.heap[De]? = some (.deferred (some [])) ∧ rB = We.heap.size ∧ w5.heap.size ≤ De ∧ w.heap.size < We.heap.size) := ⟨hown, hUD, h3, by have := HO.out; omega, hK, hrB, hDe, by have := HO.out; omega⟩
    clear hown hUD h3 h4 hL hK hN
    go_wp2_with (first
      | (at_range; refine wpList_range_own _ rfl _ 38 rfl 43 3 gt_law gt_map _ B N Dm rfl HW.out.1 ?_; intro w6 hrg6 hg6 hs6)
      | go_in)
    rw [← hrB] at hrg6 hs6 ⊢
    have H6 : Hid (w6.ranges Tryd.prog 43 (plainElem Tryd.prog 3) B rB N Dm (Maps.has Dm) (Maps.size Dm) ∧ Below We.heap.size We w6 ∧ w6.heap.size = rB + 1) := ⟨hrg6, below_grown hg6 (Nat.le_refl _) (fun k hk => by cases hk), hs6⟩
    clear hrg6 hg6 hs6 hrB h2 h2b
    try go_frame
    go_loopw [13] (fun vl wr => ∃ (V : List Nat) (left : Lit → Bool) (cnt : Nat), Hid (wr.ranges Tryd.prog 43 (plainElem Tryd.prog 3) B rB N Dm left cnt ∧ Lf L V left ∧ KLm (rB + 1) vl wt (V.map fun s => kyP (plN s)) wr ∧ Below We.heap.size We wr ∧ rB < wr.heap.size)) (fun _ wr => wr.rangeLeft B rB)
    case atStart => exact ⟨[], _, _, H6.out.1, Lf.start HW.out.2.1, KLm.nil _ _ _, H6.out.2.1, by have := H6.out.2.2; omega⟩
    case round =>
      obtain ⟨V, left, cnt, HR⟩ := hrel
      rename World => wr
      go_wp2_with (first
        | (at_next; refine wpList_next_ranges_ii _ rfl _ rfl 43 3 .u64 .i64 gt_law gty_set gty_int B rB N _ _ _ rfl HR.out.1 ?_ ?_)
        | go_in)
      · intro hc0 hl0
        have HV : Hid (V.Perm L ∧ V.length ≤ 4096) := by
          have hp := HR.out.2.1.done hl0 (HW.out.2.1.nd)
          exact ⟨hp, by rw [hp.length_eq]; exact hLl⟩
        clear hc0 hl0
        have HS : Hid (Calls Tryd.prog 15 #[u13, .func (.func 16) #[] #[]] wr fun e w' => e = .returned (.tuple #[]) ∧ Below We.heap.size We w' ∧ ∃ A, A.length = (V.map fun s => kyP (plN s)).length ∧ KLm (rB + 1) u13 wt A w' ∧ List.Pairwise (fun a b => a ≤ b) A ∧ A.Perm (V.map fun s => kyP (plN s))) := ssort_klm (by omega) (by rw [List.length_map]; have := HV.out.2; omega) HR.out.2.2.1 HR.out.2.2.2.1 (by have := HW.out.2.2.2.2.2.1; omega)
        go_wp2_with fail
        refine HS.out.mono ?_
        rintro e w8 ⟨rfl, hb8, A, _, hA2, hA3, hA4⟩
        have HE : Hid (KLm (rB + 1) u13 wt A w8 ∧ List.Pairwise (fun a b => a ≤ b) A ∧ A.Perm (V.map fun s => kyP (plN s)) ∧ w8.heap[De]? = some (.deferred (some [])) ∧ Below w.heap.size w w8) := ⟨hA2, hA3, hA4, (hb8.block De (Array.getElem?_eq_some_iff.1 HW.out.2.2.2.2.1).1).trans HW.out.2.2.2.2.1, below_two' HW.out.2.2.1 hb8⟩
        clear hb8 hA2 hA3 hA4 HS
        have hK8 := HE.out.2.2.2.1
        have HF9 : Hid (KLm (rB + 1) u13 wt A (w8.putObj De (.deferred none)) ∧ Below w.heap.size w (w8.putObj De (.deferred none))) := by
          have hO := HO.out
          exact ⟨HE.out.1.defd hK8 (grownBy_putObj' _ _ _), HE.out.2.2.2.2.grown (grownBy_putObj' _ _ _) HE.out.2.2.2.2.size (fun k hk => by cases hk; have := HW.out.2.2.2.2.2.2.1; omega)⟩
        go_wp2
        refine ⟨by simp, .inl ⟨_, _, rfl, run_takeDeferred hK8, ?_⟩⟩
        refine ⟨.tuple #[u13, .int .i64 0], by simp [results, Tryd.results5, go_sem], ?_⟩
        exact ⟨k, R, u13, A, V, rB + 1, H2.out.2.2.2.2, rfl, HE.out.2.1, HE.out.2.2.1, by rw [← HL.out.1]; exact HV.out.1, by have := HW.out.2.2.2.2.2.2.2; have := HW.out.2.2.2.2.2.1; omega, HF9.out⟩
      · intro x c w7 cnt7 hwx hwc hlx hat hrg7 hlt7 hg7 hs7 hen
        obtain ⟨s, hsL, hsV, hxs, hLf⟩ := HR.out.2.1.step hlx
        subst hxs
        have hsp := HL.out.2 s hsL
        have H7 : Hid (w7.ranges Tryd.prog 43 (plainElem Tryd.prog 3) B rB N Dm (fun z => left z && !z.sameKey (.int .u64 (s : Nat))) cnt7 ∧ Lf L (V ++ [s]) (fun z => left z && !z.sameKey (.int .u64 (s : Nat))) ∧ KLm (rB + 1) u13 wt (V.map fun s => kyP (plN s)) w7 ∧ Below We.heap.size We w7 ∧ rB < w7.heap.size ∧ V.length ≤ 4096 ∧ cnt7 < cnt) := by
          have hlen := HR.out.2.1.len
          have hr5 := HW.out.2.2.2.2.2.1
          exact ⟨hrg7, hLf, HR.out.2.2.1.iter HR.out.1 hg7, HR.out.2.2.2.1.grown hg7 HR.out.2.2.2.1.size (fun j hj => by cases hj; omega), by have := HR.out.2.2.2.2; omega, by omega, hlt7⟩
        have HPl : Hid (Calls Tryd.prog 14 #[.int .u64 (s : Nat)] w7 fun e w' => ∃ v, e = .returned v ∧ OwnI w7.heap.size v (pzl (plN s)) w' ∧ Below w7.heap.size w7 w') := places_of hsp.1 (fun x wx hb => HF.out.2.1 x wx (below_two' (below_two' HW.out.2.2.1 H7.out.2.2.2.1) hb))
        have hszr := H7.out.2.2.2.2.1
        clear hwx hwc hlx hat hrg7 hlt7 hg7 hs7 hLf hsL hsV
        go_wp2_with fail
        refine HPl.out.mono ?_
        rintro e w9 ⟨v, rfl, hv9, hb9⟩
        obtain ⟨so, sk, sc, hvs⟩ : ∃ so sk sc, v = .slice so sk sc := by
          rcases hv9.2 with ⟨h1, _⟩ | ⟨g, cap, cur, hv, _⟩
          · exact ⟨_, _, _, h1⟩
          · exact ⟨_, _, _, hv⟩
        subst hvs
        obtain ⟨lst, hov, hln, hels⟩ := H7.out.2.2.1.below hb9
        have hll : lst.length ≤ 1000000 := by rw [hln, List.length_map]; have := H7.out.2.2.2.2.2.1; omega
        have H9 : Hid (OwnV (rB + 1) u13 lst w9 ∧ lst.length = (V.map fun s => kyP (plN s)).length ∧ (∀ (j : Nat) (u : Value) (d : Nat), lst[j]? = some u → (V.map fun s => kyP (plN s))[j]? = some d → WdL wt u d w9) ∧ WdL wt (.slice so sk sc) (kyP (plN s)) w9 ∧ Below We.heap.size We w9 ∧ w9.ranges Tryd.prog 43 (plainElem Tryd.prog 3) B rB N Dm (fun z => left z && !z.sameKey (.int .u64 (s : Nat))) cnt7 ∧ rB < w9.heap.size) := by
          have hb9g : w7.grownBy w9 none := ⟨hb9.os, hb9.tape, hb9.output, hb9.size, fun i hi _ => hb9.block i hi⟩
          exact ⟨hov, hln, hels, wdl_of hv9 hsp.2.1 hsp.2.2, bel_up' H7.out.2.2.2.1 hb9, H7.out.1.kept hb9g (by simp) (by simp), by have := hb9.size; omega⟩
        have hsz9 := H9.out.2.2.2.2.2.2
        clear hov hln hels hv9 hb9 HPl hsp hen
        go_wp2_with (at_builtin; refine append_sl rfl _ _ rfl (rB + 1) u13 lst rfl (H9.out.1.below ((Below.refl _ _).alloc (Nat.le_refl _) _) (Nat.le_refl _)) ⟨w9.heap.size, 0, none⟩ 1 (.slice so sk sc) rfl rfl (by rw [cell_of_row _ _ _ _ _ (0, 0) (two_new _)]; rfl) hll (by simp; omega) ?_; intro v' wa hown6 hg6)
        have hal : Below w9.heap.size w9 (w9.alloc (.cells #[.slice so sk sc] 32)) := (Below.refl _ _).alloc (Nat.le_refl _) _
        have ho := H9.out.1.below hal (Nat.le_refl _)
        have HA2 : Hid (wa.ranges Tryd.prog 43 (plainElem Tryd.prog 3) B rB N Dm (fun z => left z && !z.sameKey (.int .u64 (s : Nat))) cnt7 ∧ Lf L (V ++ [s]) (fun z => left z && !z.sameKey (.int .u64 (s : Nat))) ∧ KLm (rB + 1) v' wt ((V ++ [s]).map fun s => kyP (plN s)) wa ∧ Below We.heap.size We wa ∧ rB < wa.heap.size) := by
          have hp := klm_push ho H9.out.2.1 (fun j u d hu hd => (H9.out.2.2.1 j u d hu hd).below hal) (H9.out.2.2.2.1.below hal) hg6
          have hB := HW.out.2.2.2.1
          have hr5 := HW.out.2.2.2.2.2.1
          have hge : ∀ q, u13.ownBlock = some q → rB + 1 ≤ q := fun q hq => ho.open_ge q hq
          have hbw := (bel_up' H9.out.2.2.2.2.1 hal).grown hg6 (by simp; omega) (fun q hq => by have := hge q hq; omega)
          refine ⟨(H9.out.2.2.2.2.2.1.alloc _).kept hg6 (fun e => by have := hge B e.symm; omega) (fun e => by have := hge rB e.symm; omega), H7.out.2.1, ?_, hbw, by have h8 := hg6.size; simp at h8; omega⟩
          rw [List.map_append]
          exact ⟨_, hown6, hp.1, hp.2⟩
        have hcn := H7.out.2.2.2.2.2.2
        clear hown6 hg6 hal ho
        try go_wp2
        go_roundw
        case rel => exact ⟨V ++ [s], _, _, HA2.out⟩
        case measure => rw [HA2.out.1.left_eq, HR.out.1.left_eq]; exact hcn
end Go.Proofs.YtpgaakjldlcejaaDoor
