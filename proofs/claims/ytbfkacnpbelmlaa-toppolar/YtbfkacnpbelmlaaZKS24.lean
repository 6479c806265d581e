/- Polar: Decode. -/
import Derived.Test.YtbfkacnpbelmlaaZKS23
import Derived.Laws.ResultCell
namespace Go.Proofs.Ytbfkacnpbelmlaa
open Go.RowKit Go.Sort

theorem loadVar_sl (w : World) (g : Nat) (v : Value) (h : w.cell? ⟨g, 0, none⟩ = some v) : (loadVar 22 ⟨g, 0, none⟩).run Try.prog w = .ok v w := by
  simp [loadVar, go_sem, h]
theorem results_c3 {fn : Func} {p u x : Tmp} {ty : TypeId} (h : fn.results = #[.cell p ty, .tmp u, .tmp x]) (tmps : Array Value) (w : World) (g : Nat) (v : Value) (hp : tmps.getD p undef = .pointer (some ⟨g, 0, none⟩)) (hl : (loadVar ty ⟨g, 0, none⟩).run Try.prog w = .ok v w) :
    (results fn tmps).run Try.prog w = .ok (.tuple #[v, tmps.getD u undef, tmps.getD x undef]) w := by
  have hp' : tmps[p]?.getD undef = .pointer (some ⟨g, 0, none⟩) := by simpa using hp
  simp [results, h, hp', asAddr, hl]

theorem froz_row {w : World} {g : Nat} {cs : Array Value} {t : TypeId} (h : w.heap[g]? = some (.cells cs t (0, 0))) : w.frozen? ⟨g, 0, none⟩ = false := by
  simp [World.frozen?, h]

/-- The message that Decode tells. -/
def dml (fr : Nat → Bool) (N : Nat) : Option ((Nat → Int) × (Nat → Int)) → List Int
  | none => []
  | some r => msl fr r.1 0 N

set_option maxHeartbeats 8000000 in
set_option maxRecDepth 100000 in
theorem dec_ok {m N k : Nat} (hm : m ≤ 5) (hN : N = 2 ^ m) (hk : k ≤ N) {b off c : Nat} {x p : Nat → Int} {w : World} (hX : Prt b off N x w) (hc1 : N ≤ c) (hc2 : c ≤ 9223372036854775807) (hB : ∀ w0, Calls Try.prog 9 #[.int .i64 (m : Nat), .int .i64 (k : Nat)] w0 fun x w' => ∃ v, x = .returned (.tuple #[v, .int .i64 0]) ∧ OwnI w0.heap.size v (zl k p) w' ∧ Below w0.heap.size w0 w')
    (hH : ∀ w1, Below w.heap.size w w1 → Calls Try.prog 36 #[.slice (some ⟨b, off, none⟩) N c, .int .i64 (N : Nat)] w1 fun x w' => x = .returned (.int .i64 0) ∧ w' = w1) :
    Calls Try.prog 22 #[.int .i64 (m : Nat), .int .i64 (k : Nat), .slice (some ⟨b, off, none⟩) N c] w fun e w' => ∃ v, e = .returned (.tuple #[v, .bool (rdp (fun j => decide ((j : Int) ∈ zl k p)) m 0 x).isSome, .int .i64 0]) ∧ OwnI w.heap.size v (dml (fun j => decide ((j : Int) ∈ zl k p)) N (rdp (fun j => decide ((j : Int) ∈ zl k p)) m 0 x)) w' ∧ Below w.heap.size w w' := by
  obtain ⟨fr, hfr⟩ : ∃ fr : Nat → Bool, fr = fun j : Nat => decide ((j : Int) ∈ zl k p) := ⟨_, rfl⟩
  rw [← hfr]
  obtain ⟨o, ho⟩ : ∃ o, o = rdp fr m 0 x := ⟨_, rfl⟩
  rw [← ho]
  have HO : Hid (o = rdp fr m 0 x) := ho
  clear ho
  obtain ⟨w0, hw0⟩ : ∃ w0, w0 = w.alloc (.cells #[.slice none 0 0] 22) := ⟨_, rfl⟩
  have hb0 : Below w.heap.size w w0 := by rw [hw0]; exact (Below.refl _ _).alloc (Nat.le_refl _) _
  have hs0 : w0.heap.size = w.heap.size + 1 := by rw [hw0]; simp
  have hc0 : w0.heap[w.heap.size]? = some (.cells #[.slice none 0 0] 22 (0, 0)) := by rw [hw0]; exact heap_alloc_new _ _
  have H0 : Hid (Below w.heap.size w w0 ∧ w0.heap.size = w.heap.size + 1 ∧ w0.heap[w.heap.size]? = some (.cells #[.slice none 0 0] 22 (0, 0))) := ⟨hb0, hs0, hc0⟩
  have HB : Hid (Calls Try.prog 9 #[.int .i64 (m : Nat), .int .i64 (k : Nat)] w0 fun x w' => ∃ v, x = .returned (.tuple #[v, .int .i64 0]) ∧ OwnI w0.heap.size v (zl k p) w' ∧ Below w0.heap.size w0 w') := hB w0
  have HH : Hid (∀ w1, Below w.heap.size w w1 → Calls Try.prog 36 #[.slice (some ⟨b, off, none⟩) N c, .int .i64 (N : Nat)] w1 fun x w' => x = .returned (.int .i64 0) ∧ w' = w1) := hH
  have hNb : N ≤ 32 := by rw [hN]; exact Nat.le_trans (Nat.pow_le_pow_right (by omega) hm) (by decide)
  have hNi : (2 : Int) ^ m = (N : Int) := by rw [hN]; simp
  have hNw : IntKind.i64.wrap (N : Int) = (N : Int) := wrap_to rfl (by omega)
  have HX : Hid (Prt b off N x w ∧ N ≤ c ∧ c ≤ 9223372036854775807 ∧ N = 2 ^ m ∧ fr = (fun j : Nat => decide ((j : Int) ∈ zl k p)) ∧ k ≤ 64) := ⟨hX, hc1, hc2, hN, hfr, by omega⟩
  clear hb0 hs0 hc0 hB hH hN hX hc1 hc2 hfr
  go_enter Try.func22, Try.ntmps22
  go_wp2_with fail
  rw [← hw0]
  clear hw0
  refine HB.out.mono ?_
  rintro e w1 ⟨v, rfl, ho1, hb1⟩
  obtain ⟨M, hM⟩ : ∃ M, M = w.heap.size := ⟨_, rfl⟩
  have hMl : M < w1.heap.size := by have := H0.out.2.1; have := hb1.size; omega
  have hc1 : w1.heap[M]? = some (.cells #[.slice none 0 0] 22 (0, 0)) := by rw [hM]; exact (hb1.block _ (by have := H0.out.2.1; omega)).trans H0.out.2.2
  obtain ⟨bo, bc, hv, hA1⟩ := ho1.argL
  subst hv
  obtain ⟨B, hBe⟩ : ∃ B, B = w1.heap.size := ⟨_, rfl⟩
  obtain ⟨w2, hw2⟩ : ∃ w2, w2 = w1.alloc (.cells #[.slice bo k bc] 22) := ⟨_, rfl⟩
  have hb2 : Below w1.heap.size w1 w2 := by rw [hw2]; exact (Below.refl _ _).alloc (Nat.le_refl _) _
  have hs2 : w2.heap.size = w1.heap.size + 1 := by rw [hw2]; simp
  have hd2 : w2.heap[B]? = some (.cells #[.slice bo k bc] 22 (0, 0)) := by rw [hw2, hBe]; exact heap_alloc_new _ _
  obtain ⟨P, hPe⟩ : ∃ P, P = w2.heap.size := ⟨_, rfl⟩
  obtain ⟨w3, hw3⟩ : ∃ w3, w3 = w2.alloc (.cells #[.int .i64 (-1)] 3) := ⟨_, rfl⟩
  have hb3 : Below w2.heap.size w2 w3 := by rw [hw3]; exact (Below.refl _ _).alloc (Nat.le_refl _) _
  have hs3 : w3.heap.size = w2.heap.size + 1 := by rw [hw3]; simp
  have hd3 : w3.heap[P]? = some (.cells #[.int .i64 (-1)] 3 (0, 0)) := by rw [hw3, hPe]; exact heap_alloc_new _ _
  have hb13 : Below w1.heap.size w1 w3 := bel_up' hb2 hb3
  have H3 : Hid (Fx w.heap.size w3.heap.size P B M bo ∧ Cls w3.heap.size P B M k bo bc p 0 (.slice none 0 0) [] w3 ∧ Below w.heap.size w w3 ∧ Below w.heap.size w w2 ∧ M < w3.heap.size) := by
    have e0 := H0.out.2.1
    refine ⟨⟨by omega, by omega, by omega, by omega, fun a e => ⟨?_, ?_⟩⟩, ⟨?_, froz_row hd3, ?_, ?_, ?_, ?_, OwnI.nil _ _, Nat.le_refl _⟩, bel_up' (bel_up' H0.out.1 hb1) hb13, bel_up' (bel_up' H0.out.1 hb1) hb2, by omega⟩
    · have := (ho1.lt a.block (by rw [e]; rfl)).1
      omega
    · have := hA1.lt a e
      omega
    · rw [cell_of_row _ _ _ _ _ (0, 0) hd3]; rfl
    · have hd4 : w3.heap[B]? = some (.cells #[.slice bo k bc] 22 (0, 0)) := (hb3.block B (by omega)).trans hd2
      rw [cell_of_row _ _ _ _ _ (0, 0) hd4]; rfl
    · intro i hi
      obtain ⟨b9, o9, e9, q9⟩ := hA1.sl i hi
      exact ⟨b9, o9, e9, (cell_blk (a := ⟨b9, o9 + i, none⟩) (hb13.block b9 (hA1.lt _ e9))).trans q9⟩
    · have hd4 : w3.heap[M]? = some (.cells #[.slice none 0 0] 22 (0, 0)) := (hb13.block M hMl).trans hc1
      rw [cell_of_row _ _ _ _ _ (0, 0) hd4]; rfl
    · exact froz_row ((hb13.block M hMl).trans hc1)
  have HR : Hid (Calls Try.prog 39 #[.slice (some ⟨b, off, none⟩) (N : Nat) c, .func (.func 37) #[] #[.pointer (some ⟨P, 0, none⟩), .pointer (some ⟨B, 0, none⟩), .pointer (some ⟨M, 0, none⟩)]] w3
      (RdQ w.heap.size w3.heap.size P B M k bo bc p N 0 (.slice none 0 0) [] w3 o)) := by
    have e0 := H0.out.2.1
    have hbl := HX.out.1.1
    rw [HO.out, HX.out.2.2.2.2.1]
    have hp3 := HX.out.1.same (H3.out.2.2.1.block b HX.out.1.1) H3.out.2.2.1.size
    have h1 := HX.out.2.1
    have hN64 : 0 + N ≤ 64 := by omega
    rw [HX.out.2.2.2.1] at hp3 h1 hN64 ⊢
    exact read_any H3.out.1 HX.out.2.2.2.2.2 m hm hN64 (Nat.le_refl 0) hp3 (by omega) (by omega) (fun e => by cases e) h1 HX.out.2.2.1 H3.out.2.1
  have H9 : Hid (M = w.heap.size) := hM
  rw [← hM]
  subst hBe hPe
  clear hM hb1 hc1 HB H0 ho1 hA1 hb2 hs2 hd2 hb3 hs3 hd3 hb13 hMl
  go_wp2_with fail
  rw [← hw2]
  refine (HH.out w2 H3.out.2.2.2.1).mono ?_
  rintro e w' ⟨rfl, hw⟩
  have hw := hw.symm
  subst hw
  clear hw2 HH
  go_wp2_with fail
  rw [← hw3]
  clear hw3
  refine HR.out.mono ?_
  clear HR
  cases o with
  | none =>
    rintro e x5 ⟨hb5, hm5, vs, he, _⟩
    have he : e = .returned (.tuple #[vs, .bool false]) := he
    subst he
    obtain ⟨⟨u5, k1⟩, k2⟩ := hm5
    have H5 : Hid (Below w.heap.size w x5) := (H3.out.2.2.1).trans hb5
    clear hb5
    go_wp2
    refine bodyPost_ret (results_c3 rfl _ _ M (.slice none 0 0) rfl (loadVar_sl _ _ _ (World.cell?_setCell_same _ _ _ k1))) rfl ?_
    exact ⟨.slice none 0 0, rfl, OwnI.nil _ _, H5.out.setCell (p := ⟨M, 0, none⟩) (by rw [H9.out]; exact Nat.le_refl _) _⟩
  | some r =>
    rintro e x5 ⟨hb5, _, vs, he, hs⟩
    have he : e = .returned (.tuple #[vs, .bool true]) := he
    subst he
    obtain ⟨v2, s2, ho2, hs2, hv2, hC2, hf2⟩ := hs r rfl
    rw [← HX.out.2.2.2.2.1, List.nil_append] at hC2
    obtain ⟨ao, ca, hv⟩ := own_form hC2.own
    obtain ⟨l9, hl9⟩ : ∃ l9, l9 = (msl fr r.1 0 N).length := ⟨_, rfl⟩
    rw [← hl9] at hv
    subst hv
    have k1 := hC2.cm
    have k2 := hC2.fm
    have H5 : Hid (Below w.heap.size w x5 ∧ OwnI w3.heap.size (.slice ao l9 ca) (msl fr r.1 0 N) x5) := ⟨(H3.out.2.2.1).trans hb5, hC2.own⟩
    clear hb5 hs ho2 hs2 hv2 hC2 hf2 hl9
    go_wp2
    refine bodyPost_ret (results_c3 rfl _ _ M (.slice ao l9 ca) rfl (loadVar_sl _ _ _ (World.cell?_setCell_same _ _ _ k1))) rfl ?_
    exact ⟨_, rfl, ((OwnI.same H5.out.2 (fun i hi => Below.heap_setCell _ _ _ i (by have := (OwnI.lt H5.out.2 i hi).1; have := H3.out.2.2.2.2; show i ≠ M; omega))).mono H3.out.2.2.1.size), H5.out.1.setCell (p := ⟨M, 0, none⟩) (by rw [H9.out]; exact Nat.le_refl _) _⟩
end Go.Proofs.Ytbfkacnpbelmlaa
