/- Texts of ours, one behind the other: A6 A7 A8. -/
import Derived.Test.YtjkncdmbcckcdabZA3
import Derived.Deep.LoopGhost
/- The calls that make a field's table, one by one: the generator of a prime field (layByNumber). -/
namespace Go.Proofs.Ytjkncdmbcckcdab
open Go.RowKit

set_option maxHeartbeats 1000000 in
theorem byNumber_step (T G P a g p : Nat) (w : World) (ha : a < 64) (hg : g < 64) (hp1 : 1 ≤ p) (hp : p ≤ 64)
    (hcg : w.cell? ⟨G, 0, none⟩ = some (.int .i64 g)) (hcp : w.cell? ⟨P, 0, none⟩ = some (.pointer (some ⟨T, 0, none⟩))) (hc1 : w.cell? ⟨T, 1, none⟩ = some (.int .i64 p)) :
    Calls Try.prog 71 #[.int .i64 a, .pointer (some ⟨G, 0, none⟩), .pointer (some ⟨P, 0, none⟩)] w fun e w' => e = .returned (.int .i64 ((a * g % p : Nat) : Int)) ∧ ∃ n, w' = w.drewN n := by
  have h1 : a * g ≤ 64 * 64 := Nat.mul_le_mul (by omega) (by omega)
  have h4 : (a : Int) * (g : Int) ≤ 4096 := by rw [← Int.natCast_mul]; omega
  have h5 : 0 ≤ (a : Int) * (g : Int) := by rw [← Int.natCast_mul]; omega
  go_enter Try.func71, Try.ntmps71
  go_wp2
  go_quiet (fail)
  go_wp2
  go_ret
  exact ⟨ret_int (by rw [← Int.natCast_mul, ← Int.natCast_emod]), _, rfl⟩

theorem two_new {w : World} (o : Obj) : (w.alloc o).heap[w.heap.size]? = some o := by
  show (w.heap.push o)[w.heap.size]? = some o
  simp

set_option maxHeartbeats 2000000 in
set_option maxRecDepth 100000 in
theorem layByNumber_any (T q gen : Nat) (f : Nat → Value) (w : World) (hq2 : 2 ≤ q) (hq : q ≤ 64)
    (hr : RowF T 133 83 f w) (h0 : f 0 = .int .i64 q) (h1 : f 1 = .int .i64 q)
    (hg1 : 1 ≤ gen) (hgq : gen < q) (hgen : Full (fun a => a * gen % q) (q - 1)) (hleast : ∀ g, 1 ≤ g → g < gen → ¬ Full (fun a => a * g % q) (q - 1)) :
    Calls Try.prog 61 #[.pointer (some ⟨T, 0, none⟩)] w fun e w' => e = .returned (.tuple #[]) ∧ ∃ g, RowF T 133 83 g w' ∧ (∀ o, o < 5 → o ≠ 4 → g o = f o) ∧ g 4 = .int .i64 gen ∧
      Pows (fun a => a * gen % q) (q - 1) g ∧ w.grownBy w' (some T) := by
  have HR : Hid (RowF T 133 83 f w) := hr
  have hT := hr.lt
  have H0 : Hid (f 0 = .int .i64 q ∧ f 1 = .int .i64 q) := ⟨h0, h1⟩
  have HN : Hid (Full (fun a => a * gen % q) (q - 1) ∧ ∀ g, 1 ≤ g → g < gen → ¬ Full (fun a => a * g % q) (q - 1)) := ⟨hgen, hleast⟩
  clear hr h0 h1 hgen hleast
  go_enter Try.func61, Try.ntmps61
  go_wp2
  go_loopg [2] (q - 1) (fun k pg wr => ∃ (g G : Nat) (f' : Nat → Value), k = q - g ∧ 1 ≤ g ∧ g ≤ gen ∧ w.heap.size < G ∧ pg = .pointer (some ⟨G, 0, none⟩) ∧ wr.heap[G]? = some (.cells #[.int .i64 g] 3 (0, 0)) ∧
      wr.heap[w.heap.size]? = some (.cells #[.pointer (some ⟨T, 0, none⟩)] 68 (0, 0)) ∧ RowF T 133 83 f' wr ∧ (∀ o, o < 5 → f' o = f o) ∧ w.grownBy wr (some T))
  case atStart =>
    refine ⟨1, w.heap.size + 1, f, rfl, by omega, hg1, by omega, rfl, ?_, ?_, (HR.out.alloc _).alloc _, fun _ _ => rfl, grown_trans (World.grownBy_alloc _ _ _) (World.grownBy_alloc _ _ _)⟩
    · have := two_new (w := w.alloc (.cells #[.pointer (some ⟨T, 0, none⟩)] 68)) (.cells #[.int .i64 1] 3)
      simpa using this
    · rw [Below.heap_alloc _ _ _ (by simp)]; exact two_new _
  case round =>
    obtain ⟨g, G, f', hk, hg, hgg, hG, rfl, hbG, hbP, hrow, hsame, hgrow⟩ := hrel
    have hcG := cell_of_one hbG
    have hfG := free_of_one hbG
    have hcP := cell_of_one hbP
    have hltG := lt_of_block hbG
    have hc0 : wr.cell? ⟨T, 0, none⟩ = some (.int .i64 q) := by rw [hrow.cell 0 (by omega), hsame 0 (by omega), H0.out.1]
    have HG : Hid (gk = q - g ∧ wr.heap[G]? = some (.cells #[.int .i64 g] 3 (0, 0)) ∧
      wr.heap[w.heap.size]? = some (.cells #[.pointer (some ⟨T, 0, none⟩)] 68 (0, 0)) ∧ RowF T 133 83 f' wr ∧ (∀ o, o < 5 → f' o = f o) ∧ w.grownBy wr (some T)) := ⟨hk, hbG, hbP, hrow, hsame, hgrow⟩
    clear hk hbG hbP hrow hsame hgrow
    go_wp2
    go_quiet (fail)
    go_wp2_with fail
    refine (layPowers_any T 71 q #[.pointer (some ⟨G, 0, none⟩), .pointer (some ⟨w.heap.size, 0, none⟩)] (fun a => a * g % q) f' (wr.drewN nq) hq2 hq (fun a _ => Nat.mod_lt _ (by omega)) run112 (HG.out.2.2.2.1.drewN nq) (by rw [HG.out.2.2.2.2.1 0 (by omega), H0.out.1]) ?_).mono ?_
    · intro a g1 w1 ha hrow1 hsame1 hgrow1
      have e1 : w1.heap[G]? = wr.heap[G]? := hgrow1.block G hltG (by simp; omega)
      have e2 : w1.heap[w.heap.size]? = wr.heap[w.heap.size]? := hgrow1.block _ (by have := HG.out.2.2.2.2.2.size; show _ < wr.heap.size; omega) (by simp; omega)
      exact byNumber_step T G w.heap.size a g q w1 (by omega) (by omega) (by omega) hq (cell_of_one (e1.trans HG.out.2.1)) (cell_of_one (e2.trans HG.out.2.2.1)) (by rw [hrow1.cell 1 (by omega), hsame1 1 (by omega), HG.out.2.2.2.2.1 1 (by omega), H0.out.2])
    · rintro e w' ⟨f2, hrow2, hsame2, hgrow2, hres⟩
      have e1 : w'.heap[G]? = wr.heap[G]? := hgrow2.block G hltG (by simp; omega)
      have e2 : w'.heap[w.heap.size]? = wr.heap[w.heap.size]? := hgrow2.block _ (by have := HG.out.2.2.2.2.2.size; show _ < wr.heap.size; omega) (by simp; omega)
      have hbG := e1.trans HG.out.2.1
      have hbP := e2.trans HG.out.2.2.1
      have hgrow3 : w.grownBy w' (some T) := grown_trans (grown_drewN HG.out.2.2.2.2.2 nq) hgrow2
      have hcG' := cell_of_one hbG
      have hcP' := cell_of_one hbP
      have hfree := hrow2.free
      have hc4 := hrow2.cell 4 (by omega)
      have hlt' := lt_of_block hbG
      clear hcG hfG hcP hc0 e1 e2
      by_cases hgq' : g = gen
      · rcases hres with ⟨hfull, hpows, rfl⟩ | ⟨hn, rfl⟩
        · have HH : Hid (RowF T 133 83 f2 w' ∧ (∀ o, o < 5 → f2 o = f' o) ∧ Pows (fun a => a * g % q) (q - 1) f2 ∧ w.grownBy w' (some T) ∧ g = gen) := ⟨hrow2, hsame2, hpows, hgrow3, hgq'⟩
          clear hrow2 hsame2 hgrow2 hfull hpows hgrow3 hbG hbP hgq'
          go_wp2
          refine bodyPost_ret (results_none rfl _ _ _) rfl ?_
          exact ⟨rfl, _, HH.out.1.store _ _, fun o ho ho4 => (upd_ne _ _ _ ho4).trans ((HH.out.2.1 o ho).trans (HG.out.2.2.2.2.1 o ho)), by rw [upd_at, HH.out.2.2.2.2], HH.out.2.2.2.2 ▸ HH.out.2.2.1.congr (fun o ho => upd_ne _ _ _ (by omega)), grown_set HH.out.2.2.2.1 _ _⟩
        · exact absurd (hgq' ▸ HN.out.1) hn
      · rcases hres with ⟨hfull, hpows, rfl⟩ | ⟨hn, rfl⟩
        · exact absurd hfull (HN.out.2 g hg (by omega))
        · have HH : Hid (RowF T 133 83 f2 w' ∧ (∀ o, o < 5 → f2 o = f' o) ∧ w.grownBy w' (some T) ∧ w'.heap[G]? = some (.cells #[.int .i64 g] 3 (0, 0)) ∧ w'.heap[w.heap.size]? = some (.cells #[.pointer (some ⟨T, 0, none⟩)] 68 (0, 0))) := ⟨hrow2, hsame2, hgrow3, hbG, hbP⟩
          clear hrow2 hsame2 hgrow2 hn hgrow3 hbG hbP
          go_wp2
          go_roundg (q - (g + 1))
          case measure => rw [HG.out.1]; omega
          case rel =>
            refine ⟨g + 1, w'.heap.size, f2, rfl, by omega, by omega, by omega, rfl, ?_, ?_, HH.out.1.alloc _, fun o ho => (HH.out.2.1 o ho).trans (HG.out.2.2.2.2.1 o ho), grown_trans HH.out.2.2.1 (World.grownBy_alloc _ _ _)⟩
            · exact two_new _
            · rw [Below.heap_alloc _ _ _ (by omega)]; exact HH.out.2.2.2.2
end Go.Proofs.Ytjkncdmbcckcdab

/- The calls that make a field's table, one by one: the modulus of a field that is no prime one (layByModulus). -/
namespace Go.Proofs.Ytjkncdmbcckcdab
open Go.RowKit

set_option maxHeartbeats 1000000 in
theorem byModulus_step (T P L a low p q : Nat) (f : Nat → Value) (w : World) (hp1 : 2 ≤ p) (hp2 : p ≤ 64) (hq0 : 1 ≤ q) (hq : q ≤ 64) (ha : a < q) (hl : low < q)
    (hsum : ∀ a b, a < q → b < q → sumD p q a b < q) (hneg : ∀ a, a < q → negD p q a < q)
    (hr : RowF T 133 83 f w) (ht : TabS p q f)
    (hcp : w.cell? ⟨P, 0, none⟩ = some (.pointer (some ⟨T, 0, none⟩))) (hcl : w.cell? ⟨L, 0, none⟩ = some (.int .i64 low)) :
    Calls Try.prog 72 #[.int .i64 a, .pointer (some ⟨P, 0, none⟩), .pointer (some ⟨L, 0, none⟩)] w fun e w' => e = .returned (.int .i64 (timesX p q low a)) ∧ ∃ n, w' = w.drewN n := by
  have HT : Hid (Calls Try.prog 73 #[.pointer (some ⟨T, 0, none⟩), .int .i64 a, .int .i64 low] w fun e w' => e = .returned (.int .i64 (timesX p q low a)) ∧ ∃ n, w' = w.drewN n) :=
    timesX_any T p q a low f w hp1 hp2 hq0 hq ha hl hsum hneg hr ht
  clear hsum hneg hr ht
  go_enter Try.func72, Try.ntmps72
  go_wp2_with fail
  refine HT.out.mono ?_
  rintro e w' ⟨rfl, n, rfl⟩
  go_wp2
  go_ret
  exact ⟨rfl, n, rfl⟩

set_option maxHeartbeats 2000000 in
set_option maxRecDepth 100000 in
theorem layByModulus_any (T p q low : Nat) (f : Nat → Value) (w : World) (hp1 : 2 ≤ p) (hp2 : p ≤ 64) (hq2 : 2 ≤ q) (hq : q ≤ 64)
    (hsum : ∀ a b, a < q → b < q → sumD p q a b < q) (hneg : ∀ a, a < q → negD p q a < q)
    (hr : RowF T 133 83 f w) (ht : TabS p q f)
    (hlq : low < q) (hlow : Full (timesX p q low) (q - 1)) (hleast : ∀ l, l < low → ¬ Full (timesX p q l) (q - 1)) :
    Calls Try.prog 62 #[.pointer (some ⟨T, 0, none⟩)] w fun e w' => e = .returned (.tuple #[]) ∧ ∃ g, RowF T 133 83 g w' ∧ (∀ o, o < 5 → o ≠ 3 → o ≠ 4 → g o = f o) ∧ g 3 = .int .i64 low ∧ g 4 = .int .i64 p ∧
      Pows (timesX p q low) (q - 1) g ∧ w.grownBy w' (some T) := by
  have hT := hr.lt
  have hc0 : w.cell? ⟨T, 0, none⟩ = some (.int .i64 q) := by rw [hr.cell 0 (by omega), ht.c0]
  have hc1 : w.cell? ⟨T, 1, none⟩ = some (.int .i64 p) := by rw [hr.cell 1 (by omega), ht.c1]
  have hc4 : w.cell? ⟨T, 4, none⟩ = some (f 4) := hr.cell 4 (by omega)
  have hfree : ∀ o, w.frozen? ⟨T, o, none⟩ = false := hr.free
  have HR : Hid (RowF T 133 83 f w ∧ TabS p q f) := ⟨hr, ht⟩
  have HS : Hid ((∀ a b, a < q → b < q → sumD p q a b < q) ∧ (∀ a, a < q → negD p q a < q)) := ⟨hsum, hneg⟩
  have HN : Hid (Full (timesX p q low) (q - 1) ∧ ∀ l, l < low → ¬ Full (timesX p q l) (q - 1)) := ⟨hlow, hleast⟩
  clear hr ht hlow hleast hsum hneg
  go_enter Try.func62, Try.ntmps62
  go_wp2
  go_region
  go_wp2
  go_loopg [14] q (fun k i wr => ∃ (l : Nat) (f' : Nat → Value), k = q - l ∧ l ≤ low ∧ i = .int .i64 l ∧
      wr.heap[w.heap.size]? = some (.cells #[.pointer (some ⟨T, 0, none⟩)] 68 (0, 0)) ∧ RowF T 133 83 f' wr ∧ (∀ o, o < 5 → o ≠ 4 → f' o = f o) ∧ f' 4 = .int .i64 p ∧ w.grownBy wr (some T))
  case atStart =>
    refine ⟨0, upd f 4 (.int .i64 p), rfl, by omega, rfl, ?_, ((HR.out.1.store _ _).alloc _).drew, fun o _ ho4 => upd_ne _ _ _ ho4, upd_at _ _ _, grown_drew (grown_trans (grown_set (grown_refl _ _) _ _) (World.grownBy_alloc _ _ _))⟩
    have := two_new (w := w.setCell ⟨T, 4, none⟩ (.int .i64 p)) (.cells #[.pointer (some ⟨T, 0, none⟩)] 68)
    rw [show (w.setCell ⟨T, 4, none⟩ (.int .i64 p)).heap.size = w.heap.size from by simp] at this
    exact this
  case round =>
    clear hc0 hc1 hc4 hfree
    obtain ⟨l, f', hk, hll, rfl, hbP, hrow, hsame, hf4, hgrow⟩ := hrel
    have hcP := cell_of_one hbP
    have hsz := hgrow.size
    have hPl := lt_of_block hbP
    have HG : Hid (gk = q - l ∧ 
      wr.heap[w.heap.size]? = some (.cells #[.pointer (some ⟨T, 0, none⟩)] 68 (0, 0)) ∧ RowF T 133 83 f' wr ∧ (∀ o, o < 5 → o ≠ 4 → f' o = f o) ∧ f' 4 = .int .i64 p ∧ w.grownBy wr (some T)) := ⟨hk, hbP, hrow, hsame, hf4, hgrow⟩
    clear hk hbP hrow hsame hgrow hf4
    go_wp2_with fail
    have hnL := two_new (w := wr) (.cells #[.int .i64 l] 3)
    refine (layPowers_any T 72 q #[.pointer (some ⟨w.heap.size, 0, none⟩), .pointer (some ⟨wr.heap.size, 0, none⟩)] (timesX p q l) f' (wr.alloc (.cells #[.int .i64 l] 3)) hq2 hq (fun a ha => timesX_lt HS.out.1 HS.out.2 (by omega) (by omega)) run113 (HG.out.2.2.1.alloc _) (by rw [HG.out.2.2.2.1 0 (by omega) (by omega), HR.out.2.c0]) ?_).mono ?_
    · intro a g1 w1 ha hrow1 hsame1 hgrow1
      have e1 : w1.heap[wr.heap.size]? = some (.cells #[.int .i64 l] 3 (0, 0)) := (hgrow1.block wr.heap.size (by simp) (by simp; omega)).trans hnL
      have e2 : w1.heap[w.heap.size]? = wr.heap[w.heap.size]? := (hgrow1.block _ (by simp; omega) (by simp; omega)).trans (Below.heap_alloc _ _ _ hPl)
      exact byModulus_step T w.heap.size wr.heap.size a l p q g1 w1 hp1 hp2 (by omega) hq ha (by omega) HS.out.1 HS.out.2 hrow1 (HR.out.2.congr (fun o ho h2 h3 h4 => (hsame1 o ho).trans (HG.out.2.2.2.1 o ho h4))) (cell_of_one (e2.trans HG.out.2.1)) (cell_of_one e1)
    · rintro e w' ⟨f2, hrow2, hsame2, hgrow2, hres⟩
      have e1 : w'.heap[wr.heap.size]? = some (.cells #[.int .i64 l] 3 (0, 0)) := (hgrow2.block wr.heap.size (by simp) (by simp; omega)).trans hnL
      have e2 : w'.heap[w.heap.size]? = wr.heap[w.heap.size]? := (hgrow2.block _ (by simp; omega) (by simp; omega)).trans (Below.heap_alloc _ _ _ hPl)
      have hbP := e2.trans HG.out.2.1
      have hgrow3 : w.grownBy w' (some T) := grown_trans (grown_trans HG.out.2.2.2.2.2 (World.grownBy_alloc _ _ _)) hgrow2
      have hcL' := cell_of_one e1
      have hcP' := cell_of_one hbP
      have hfree := hrow2.free
      have hc3 := hrow2.cell 3 (by omega)
      clear hcP e1 e2 hnL
      by_cases hgq' : l = low
      · rcases hres with ⟨hfull, hpows, rfl⟩ | ⟨hn, rfl⟩
        · have HH : Hid (RowF T 133 83 f2 w' ∧ (∀ o, o < 5 → f2 o = f' o) ∧ Pows (timesX p q l) (q - 1) f2 ∧ w.grownBy w' (some T) ∧ l = low) := ⟨hrow2, hsame2, hpows, hgrow3, hgq'⟩
          clear hrow2 hsame2 hgrow2 hfull hpows hgrow3 hbP hgq'
          go_wp2
          refine bodyPost_ret (results_none rfl _ _ _) rfl ?_
          exact ⟨rfl, _, HH.out.1.store _ _, fun o ho ho3 ho4 => (upd_ne _ _ _ ho3).trans ((HH.out.2.1 o ho).trans (HG.out.2.2.2.1 o ho ho4)), by rw [upd_at, HH.out.2.2.2.2], (upd_ne _ _ _ (by omega)).trans ((HH.out.2.1 4 (by omega)).trans HG.out.2.2.2.2.1), HH.out.2.2.2.2 ▸ HH.out.2.2.1.congr (fun o ho => upd_ne _ _ _ (by omega)), grown_set HH.out.2.2.2.1 _ _⟩
        · exact absurd (hgq' ▸ HN.out.1) hn
      · rcases hres with ⟨hfull, hpows, rfl⟩ | ⟨hn, rfl⟩
        · exact absurd hfull (HN.out.2 l (by omega))
        · have HH : Hid (RowF T 133 83 f2 w' ∧ (∀ o, o < 5 → f2 o = f' o) ∧ w.grownBy w' (some T) ∧ w'.heap[w.heap.size]? = some (.cells #[.pointer (some ⟨T, 0, none⟩)] 68 (0, 0))) := ⟨hrow2, hsame2, hgrow3, hbP⟩
          clear hrow2 hsame2 hgrow2 hn hgrow3 hbP
          go_wp2
          go_roundg (q - (l + 1))
          case measure => rw [HG.out.1]; omega
          case rel => exact ⟨l + 1, f2, rfl, by omega, by go_num, HH.out.2.2.2, HH.out.1, fun o ho ho4 => (HH.out.2.1 o ho).trans (HG.out.2.2.2.1 o ho ho4), (HH.out.2.1 4 (by omega)).trans HG.out.2.2.2.2.1, HH.out.2.2.1⟩
end Go.Proofs.Ytjkncdmbcckcdab

/- The program's own search for the prime of which a number is a power (primePower). -/
namespace Go.Proofs.Ytjkncdmbcckcdab
open Go.RowKit

set_option maxHeartbeats 1000000 in
theorem primePower_any (q : Nat) (w : World) (h2 : 2 ≤ q) (h64 : q ≤ 64) :
    Calls Try.prog 60 #[.int .i64 q] w fun e w' => e = .returned (.tuple #[.int .i64 (pp q).1, .int .i64 (pp q).2]) ∧ w' = w := by
  go_enter Try.func60, Try.ntmps60
  go_wp2
  go_loop [2] (fun p => ∃ k : Nat, 2 ≤ k ∧ k ≤ q ∧ p = .int .i64 k ∧ Hid (∀ r < k, 2 ≤ r → ¬ q % r = 0)) (fun p => q - (intOf p).toNat)
  case atStart => exact ⟨2, by omega, h2, rfl, fun r h h' => by omega⟩
  case round =>
    obtain ⟨k, hk, hkq, rfl, HN⟩ := hrel
    by_cases hd : q % k = 0
    · have hz : ((q : Int) % (k : Int) != 0) = false := by simp; exact_mod_cast hd
      have HD : Hid (q % k = 0) := hd
      clear hd
      go_wp2
      go_loop [0, 3] (fun a m => ∃ j x : Nat, j ≤ 6 ∧ 1 ≤ x ∧ x ≤ 64 ∧ a = .int .i64 x ∧ m = .int .i64 j ∧ Hid (q % k ^ j = 0 ∧ x = q / k ^ j)) (fun a _ => (intOf a).toNat)
      case atStart => exact ⟨0, q, by omega, by omega, by omega, rfl, rfl, by simp [Hid, Nat.mod_one]⟩
      case round =>
        obtain ⟨j, x, hj, hx1, hx, rfl, rfl, HX⟩ := hrel
        by_cases hd : x % k = 0
        · have hz : ((x : Int) % (k : Int) == 0) = true := by simp; exact_mod_cast hd
          have HE : Hid (x % k = 0) := hd
          clear hd
          have hq1 : 1 ≤ x / k := Nat.div_pos (Nat.le_of_dvd (by omega) (Nat.dvd_of_mod_eq_zero HE.out)) (by omega)
          have hq2 : x / k < x := Nat.div_lt_self (by omega) (by omega)
          have hj6 : j + 1 < 7 := pow_le_of_dvd q k (j + 1) (by omega) h2 hk (cut_step q k j HX.out.1 (by rw [← HX.out.2]; exact HE.out))
          go_wp2
          go_round
          case rel => exact ⟨j + 1, x / k, by omega, hq1, by omega, rfl, by go_num, cut_step q k j HX.out.1 (by rw [← HX.out.2]; exact HE.out), by rw [HX.out.2, Nat.div_div_eq_div_mul, Nat.pow_succ]⟩
          case measure =>
            show (((x / k : Nat) : Int)).toNat < ((x : Nat) : Int).toNat
            rw [Int.toNat_natCast, Int.toNat_natCast]; exact hq2
        · have hz : ((x : Int) % (k : Int) == 0) = false := by rw [beq_eq_false_iff_ne]; exact_mod_cast hd
          have HE : Hid (¬ x % k = 0) := hd
          clear hd
          have HP : Hid ((x = 1 → pp q = (k, j)) ∧ (x ≠ 1 → pp q = (0, 0))) := prime_end q k j (by omega) h2 (by omega) hk HD.out HN.out HX.out.1 (by rw [← HX.out.2]; exact HE.out) x HX.out.2
          by_cases h1 : x = 1
          · have hb : ((x : Int) != 1) = false := by rw [h1]; rfl
            have HV : Hid (pp q = (k, j)) := HP.out.1 h1
            clear h1
            go_wp2
            go_ret2
            exact ⟨ret_int2 (by rw [HV.out]) (by rw [HV.out]), rfl⟩
          · have hb : ((x : Int) != 1) = true := by rw [bne_iff_ne]; exact_mod_cast h1
            have HV : Hid (pp q = (0, 0)) := HP.out.2 h1
            clear h1
            go_wp2
            go_ret2
            exact ⟨ret_int2 (by rw [HV.out]; rfl) (by rw [HV.out]; rfl), rfl⟩
    · have hz : ((q : Int) % (k : Int) != 0) = true := by rw [bne_iff_ne]; exact_mod_cast hd
      have HD : Hid (¬ q % k = 0) := hd
      clear hd
      have hne : k ≠ q := by intro e; subst e; exact HD.out (Nat.mod_self _)
      go_wp2
      go_round
      case rel => exact ⟨k + 1, by omega, by omega, by go_num, fun r h h' => if e : r = k then e ▸ HD.out else HN.out r (by omega) h'⟩
      case measure => simp [intOf]; omega
end Go.Proofs.Ytjkncdmbcckcdab
