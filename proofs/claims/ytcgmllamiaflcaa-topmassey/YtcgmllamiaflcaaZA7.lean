/- The calls that make a field's table, one by one: the modulus of a field that is no prime one (layByModulus). -/
import Derived.Test.YtcgmllamiaflcaaZA6
namespace Go.Proofs.Ytcgmllamiaflcaa
open Go.RowKit

set_option maxHeartbeats 1000000 in
theorem byModulus_step (T P L a low p q : Nat) (f : Nat → Value) (w : World) (hp1 : 2 ≤ p) (hp2 : p ≤ 64) (hq0 : 1 ≤ q) (hq : q ≤ 64) (ha : a < q) (hl : low < q)
    (hsum : ∀ a b, a < q → b < q → sumD p q a b < q) (hneg : ∀ a, a < q → negD p q a < q)
    (hr : RowF T 133 59 f w) (ht : TabS p q f)
    (hcp : w.cell? ⟨P, 0, none⟩ = some (.pointer (some ⟨T, 0, none⟩))) (hcl : w.cell? ⟨L, 0, none⟩ = some (.int .i64 low)) :
    Calls Try.prog 96 #[.int .i64 a, .pointer (some ⟨P, 0, none⟩), .pointer (some ⟨L, 0, none⟩)] w fun e w' => e = .returned (.int .i64 (timesX p q low a)) ∧ ∃ n, w' = w.drewN n := by
  have HT : Hid (Calls Try.prog 97 #[.pointer (some ⟨T, 0, none⟩), .int .i64 a, .int .i64 low] w fun e w' => e = .returned (.int .i64 (timesX p q low a)) ∧ ∃ n, w' = w.drewN n) :=
    timesX_any T p q a low f w hp1 hp2 hq0 hq ha hl hsum hneg hr ht
  clear hsum hneg hr ht
  go_enter Try.func96, Try.ntmps96
  go_wp2_with fail
  refine HT.out.mono ?_
  rintro e w' ⟨rfl, n, rfl⟩
  go_wp2
  go_ret
  exact ⟨rfl, n, rfl⟩

set_option maxHeartbeats 2000000 in
set_option maxRecDepth 100000 in
theorem layByModulus_any (T p q low : Nat) (f : Nat → Value) (w : World) (hp1 : 2 ≤ p) (hp2 : p ≤ 64) (hq2 : 2 ≤ q) (hq : q ≤ 64)
    (hsum : ∀ a b, a < q → b < q → sumD p q a b < q) (hneg : ∀ a, a < q → negD p q a < q)
    (hr : RowF T 133 59 f w) (ht : TabS p q f)
    (hlq : low < q) (hlow : Full (timesX p q low) (q - 1)) (hleast : ∀ l, l < low → ¬ Full (timesX p q l) (q - 1)) :
    Calls Try.prog 84 #[.pointer (some ⟨T, 0, none⟩)] w fun e w' => e = .returned (.tuple #[]) ∧ ∃ g, RowF T 133 59 g w' ∧ (∀ o, o < 5 → o ≠ 3 → o ≠ 4 → g o = f o) ∧ g 3 = .int .i64 low ∧ g 4 = .int .i64 p ∧
      Pows (timesX p q low) (q - 1) g ∧ w.grownBy w' (some T) := by
  have hT := hr.lt
  have hc0 : w.cell? ⟨T, 0, none⟩ = some (.int .i64 q) := by rw [hr.cell 0 (by omega), ht.c0]
  have hc1 : w.cell? ⟨T, 1, none⟩ = some (.int .i64 p) := by rw [hr.cell 1 (by omega), ht.c1]
  have hc4 : w.cell? ⟨T, 4, none⟩ = some (f 4) := hr.cell 4 (by omega)
  have hfree : ∀ o, w.frozen? ⟨T, o, none⟩ = false := hr.free
  have HR : Hid (RowF T 133 59 f w ∧ TabS p q f) := ⟨hr, ht⟩
  have HS : Hid ((∀ a b, a < q → b < q → sumD p q a b < q) ∧ (∀ a, a < q → negD p q a < q)) := ⟨hsum, hneg⟩
  have HN : Hid (Full (timesX p q low) (q - 1) ∧ ∀ l, l < low → ¬ Full (timesX p q l) (q - 1)) := ⟨hlow, hleast⟩
  clear hr ht hlow hleast hsum hneg
  go_enter Try.func84, Try.ntmps84
  go_wp2
  go_region
  go_wp2
  go_loopg [14] q (fun k i wr => ∃ (l : Nat) (f' : Nat → Value), k = q - l ∧ l ≤ low ∧ i = .int .i64 l ∧
      wr.heap[w.heap.size]? = some (.cells #[.pointer (some ⟨T, 0, none⟩)] 60 (0, 0)) ∧ RowF T 133 59 f' wr ∧ (∀ o, o < 5 → o ≠ 4 → f' o = f o) ∧ f' 4 = .int .i64 p ∧ w.grownBy wr (some T))
  case atStart =>
    refine ⟨0, upd f 4 (.int .i64 p), rfl, by omega, rfl, ?_, ((HR.out.1.store _ _).alloc _).drew, fun o _ ho4 => upd_ne _ _ _ ho4, upd_at _ _ _, grown_drew (grown_trans (grown_set (grown_refl _ _) _ _) (World.grownBy_alloc _ _ _))⟩
    have := two_new (w := w.setCell ⟨T, 4, none⟩ (.int .i64 p)) (.cells #[.pointer (some ⟨T, 0, none⟩)] 60)
    rw [show (w.setCell ⟨T, 4, none⟩ (.int .i64 p)).heap.size = w.heap.size from by simp] at this
    exact this
  case round =>
    clear hc0 hc1 hc4 hfree
    obtain ⟨l, f', hk, hll, rfl, hbP, hrow, hsame, hf4, hgrow⟩ := hrel
    have hcP := cell_of_one hbP
    have hsz := hgrow.size
    have hPl := lt_of_block hbP
    have HG : Hid (gk = q - l ∧ 
      wr.heap[w.heap.size]? = some (.cells #[.pointer (some ⟨T, 0, none⟩)] 60 (0, 0)) ∧ RowF T 133 59 f' wr ∧ (∀ o, o < 5 → o ≠ 4 → f' o = f o) ∧ f' 4 = .int .i64 p ∧ w.grownBy wr (some T)) := ⟨hk, hbP, hrow, hsame, hf4, hgrow⟩
    clear hk hbP hrow hsame hgrow hf4
    go_wp2_with fail
    have hnL := two_new (w := wr) (.cells #[.int .i64 l] 3)
    refine (layPowers_any T 96 q #[.pointer (some ⟨w.heap.size, 0, none⟩), .pointer (some ⟨wr.heap.size, 0, none⟩)] (timesX p q l) f' (wr.alloc (.cells #[.int .i64 l] 3)) hq2 hq (fun a ha => timesX_lt HS.out.1 HS.out.2 (by omega) (by omega)) run113 (HG.out.2.2.1.alloc _) (by rw [HG.out.2.2.2.1 0 (by omega) (by omega), HR.out.2.c0]) ?_).mono ?_
    · intro a g1 w1 ha hrow1 hsame1 hgrow1
      have e1 : w1.heap[wr.heap.size]? = some (.cells #[.int .i64 l] 3 (0, 0)) := (hgrow1.block wr.heap.size (by simp) (by simp; omega)).trans hnL
      have e2 : w1.heap[w.heap.size]? = wr.heap[w.heap.size]? := (hgrow1.block _ (by simp; omega) (by simp; omega)).trans (Below.heap_alloc _ _ _ hPl)
      exact byModulus_step T w.heap.size wr.heap.size a l p q g1 w1 hp1 hp2 (by omega) hq ha (by omega) HS.out.1 HS.out.2 hrow1 (HR.out.2.congr (fun o ho h2 h3 h4 => (hsame1 o ho).trans (HG.out.2.2.2.1 o ho h4))) (cell_of_one (e2.trans HG.out.2.1)) (cell_of_one e1)
    · rintro e w' ⟨f2, hrow2, hsame2, hgrow2, hres⟩
      have e1 : w'.heap[wr.heap.size]? = some (.cells #[.int .i64 l] 3 (0, 0)) := (hgrow2.block wr.heap.size (by simp) (by simp; omega)).trans hnL
      have e2 : w'.heap[w.heap.size]? = wr.heap[w.heap.size]? := (hgrow2.block _ (by simp; omega) (by simp; omega)).trans (Below.heap_alloc _ _ _ hPl)
      have hbP := e2.trans HG.out.2.1
      have hgrow3 : w.grownBy w' (some T) := grown_trans (grown_trans HG.out.2.2.2.2.2 (World.grownBy_alloc _ _ _)) hgrow2
      have hcL' := cell_of_one e1
      have hcP' := cell_of_one hbP
      have hfree := hrow2.free
      have hc3 := hrow2.cell 3 (by omega)
      clear hcP e1 e2 hnL
      by_cases hgq' : l = low
      · rcases hres with ⟨hfull, hpows, rfl⟩ | ⟨hn, rfl⟩
        · have HH : Hid (RowF T 133 59 f2 w' ∧ (∀ o, o < 5 → f2 o = f' o) ∧ Pows (timesX p q l) (q - 1) f2 ∧ w.grownBy w' (some T) ∧ l = low) := ⟨hrow2, hsame2, hpows, hgrow3, hgq'⟩
          clear hrow2 hsame2 hgrow2 hfull hpows hgrow3 hbP hgq'
          go_wp2
          refine bodyPost_ret (results_none rfl _ _ _) rfl ?_
          exact ⟨rfl, _, HH.out.1.store _ _, fun o ho ho3 ho4 => (upd_ne _ _ _ ho3).trans ((HH.out.2.1 o ho).trans (HG.out.2.2.2.1 o ho ho4)), by rw [upd_at, HH.out.2.2.2.2], (upd_ne _ _ _ (by omega)).trans ((HH.out.2.1 4 (by omega)).trans HG.out.2.2.2.2.1), HH.out.2.2.2.2 ▸ HH.out.2.2.1.congr (fun o ho => upd_ne _ _ _ (by omega)), grown_set HH.out.2.2.2.1 _ _⟩
        · exact absurd (hgq' ▸ HN.out.1) hn
      · rcases hres with ⟨hfull, hpows, rfl⟩ | ⟨hn, rfl⟩
        · exact absurd hfull (HN.out.2 l (by omega))
        · have HH : Hid (RowF T 133 59 f2 w' ∧ (∀ o, o < 5 → f2 o = f' o) ∧ w.grownBy w' (some T) ∧ w'.heap[w.heap.size]? = some (.cells #[.pointer (some ⟨T, 0, none⟩)] 60 (0, 0))) := ⟨hrow2, hsame2, hgrow3, hbP⟩
          clear hrow2 hsame2 hgrow2 hn hgrow3 hbP
          go_wp2
          go_roundg (q - (l + 1))
          case measure => rw [HG.out.1]; omega
          case rel => exact ⟨l + 1, f2, rfl, by omega, by go_num, HH.out.2.2.2, HH.out.1, fun o ho ho4 => (HH.out.2.1 o ho).trans (HG.out.2.2.2.1 o ho ho4), (HH.out.2.1 4 (by omega)).trans HG.out.2.2.2.2.1, HH.out.2.2.1⟩
end Go.Proofs.Ytcgmllamiaflcaa
