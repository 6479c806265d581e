/- The calls that make a field's table, one by one: the generator of a prime field (layByNumber). -/
import Derived.Test.YtcgmllamiaflcaaZA5
import Derived.Deep.LoopGhost
namespace Go.Proofs.Ytcgmllamiaflcaa
open Go.RowKit

set_option maxHeartbeats 1000000 in
theorem byNumber_step (T G P a g p : Nat) (w : World) (ha : a < 64) (hg : g < 64) (hp1 : 1 ≤ p) (hp : p ≤ 64)
    (hcg : w.cell? ⟨G, 0, none⟩ = some (.int .i64 g)) (hcp : w.cell? ⟨P, 0, none⟩ = some (.pointer (some ⟨T, 0, none⟩))) (hc1 : w.cell? ⟨T, 1, none⟩ = some (.int .i64 p)) :
    Calls Try.prog 95 #[.int .i64 a, .pointer (some ⟨G, 0, none⟩), .pointer (some ⟨P, 0, none⟩)] w fun e w' => e = .returned (.int .i64 ((a * g % p : Nat) : Int)) ∧ ∃ n, w' = w.drewN n := by
  have h1 : a * g ≤ 64 * 64 := Nat.mul_le_mul (by omega) (by omega)
  have h4 : (a : Int) * (g : Int) ≤ 4096 := by rw [← Int.natCast_mul]; omega
  have h5 : 0 ≤ (a : Int) * (g : Int) := by rw [← Int.natCast_mul]; omega
  go_enter Try.func95, Try.ntmps95
  go_wp2
  go_quiet (fail)
  go_wp2
  go_ret
  exact ⟨ret_int (by rw [← Int.natCast_mul, ← Int.natCast_emod]), _, rfl⟩

theorem two_new {w : World} (o : Obj) : (w.alloc o).heap[w.heap.size]? = some o := by
  show (w.heap.push o)[w.heap.size]? = some o
  simp

set_option maxHeartbeats 2000000 in
set_option maxRecDepth 100000 in
theorem layByNumber_any (T q gen : Nat) (f : Nat → Value) (w : World) (hq2 : 2 ≤ q) (hq : q ≤ 64)
    (hr : RowF T 133 59 f w) (h0 : f 0 = .int .i64 q) (h1 : f 1 = .int .i64 q)
    (hg1 : 1 ≤ gen) (hgq : gen < q) (hgen : Full (fun a => a * gen % q) (q - 1)) (hleast : ∀ g, 1 ≤ g → g < gen → ¬ Full (fun a => a * g % q) (q - 1)) :
    Calls Try.prog 83 #[.pointer (some ⟨T, 0, none⟩)] w fun e w' => e = .returned (.tuple #[]) ∧ ∃ g, RowF T 133 59 g w' ∧ (∀ o, o < 5 → o ≠ 4 → g o = f o) ∧ g 4 = .int .i64 gen ∧
      Pows (fun a => a * gen % q) (q - 1) g ∧ w.grownBy w' (some T) := by
  have HR : Hid (RowF T 133 59 f w) := hr
  have hT := hr.lt
  have H0 : Hid (f 0 = .int .i64 q ∧ f 1 = .int .i64 q) := ⟨h0, h1⟩
  have HN : Hid (Full (fun a => a * gen % q) (q - 1) ∧ ∀ g, 1 ≤ g → g < gen → ¬ Full (fun a => a * g % q) (q - 1)) := ⟨hgen, hleast⟩
  clear hr h0 h1 hgen hleast
  go_enter Try.func83, Try.ntmps83
  go_wp2
  go_loopg [2] (q - 1) (fun k pg wr => ∃ (g G : Nat) (f' : Nat → Value), k = q - g ∧ 1 ≤ g ∧ g ≤ gen ∧ w.heap.size < G ∧ pg = .pointer (some ⟨G, 0, none⟩) ∧ wr.heap[G]? = some (.cells #[.int .i64 g] 3 (0, 0)) ∧
      wr.heap[w.heap.size]? = some (.cells #[.pointer (some ⟨T, 0, none⟩)] 60 (0, 0)) ∧ RowF T 133 59 f' wr ∧ (∀ o, o < 5 → f' o = f o) ∧ w.grownBy wr (some T))
  case atStart =>
    refine ⟨1, w.heap.size + 1, f, rfl, by omega, hg1, by omega, rfl, ?_, ?_, (HR.out.alloc _).alloc _, fun _ _ => rfl, grown_trans (World.grownBy_alloc _ _ _) (World.grownBy_alloc _ _ _)⟩
    · have := two_new (w := w.alloc (.cells #[.pointer (some ⟨T, 0, none⟩)] 60)) (.cells #[.int .i64 1] 3)
      simpa using this
    · rw [Below.heap_alloc _ _ _ (by simp)]; exact two_new _
  case round =>
    obtain ⟨g, G, f', hk, hg, hgg, hG, rfl, hbG, hbP, hrow, hsame, hgrow⟩ := hrel
    have hcG := cell_of_one hbG
    have hfG := free_of_one hbG
    have hcP := cell_of_one hbP
    have hltG := lt_of_block hbG
    have hc0 : wr.cell? ⟨T, 0, none⟩ = some (.int .i64 q) := by rw [hrow.cell 0 (by omega), hsame 0 (by omega), H0.out.1]
    have HG : Hid (gk = q - g ∧ wr.heap[G]? = some (.cells #[.int .i64 g] 3 (0, 0)) ∧
      wr.heap[w.heap.size]? = some (.cells #[.pointer (some ⟨T, 0, none⟩)] 60 (0, 0)) ∧ RowF T 133 59 f' wr ∧ (∀ o, o < 5 → f' o = f o) ∧ w.grownBy wr (some T)) := ⟨hk, hbG, hbP, hrow, hsame, hgrow⟩
    clear hk hbG hbP hrow hsame hgrow
    go_wp2
    go_quiet (fail)
    go_wp2_with fail
    refine (layPowers_any T 95 q #[.pointer (some ⟨G, 0, none⟩), .pointer (some ⟨w.heap.size, 0, none⟩)] (fun a => a * g % q) f' (wr.drewN nq) hq2 hq (fun a _ => Nat.mod_lt _ (by omega)) run112 (HG.out.2.2.2.1.drewN nq) (by rw [HG.out.2.2.2.2.1 0 (by omega), H0.out.1]) ?_).mono ?_
    · intro a g1 w1 ha hrow1 hsame1 hgrow1
      have e1 : w1.heap[G]? = wr.heap[G]? := hgrow1.block G hltG (by simp; omega)
      have e2 : w1.heap[w.heap.size]? = wr.heap[w.heap.size]? := hgrow1.block _ (by have := HG.out.2.2.2.2.2.size; show _ < wr.heap.size; omega) (by simp; omega)
      exact byNumber_step T G w.heap.size a g q w1 (by omega) (by omega) (by omega) hq (cell_of_one (e1.trans HG.out.2.1)) (cell_of_one (e2.trans HG.out.2.2.1)) (by rw [hrow1.cell 1 (by omega), hsame1 1 (by omega), HG.out.2.2.2.2.1 1 (by omega), H0.out.2])
    · rintro e w' ⟨f2, hrow2, hsame2, hgrow2, hres⟩
      have e1 : w'.heap[G]? = wr.heap[G]? := hgrow2.block G hltG (by simp; omega)
      have e2 : w'.heap[w.heap.size]? = wr.heap[w.heap.size]? := hgrow2.block _ (by have := HG.out.2.2.2.2.2.size; show _ < wr.heap.size; omega) (by simp; omega)
      have hbG := e1.trans HG.out.2.1
      have hbP := e2.trans HG.out.2.2.1
      have hgrow3 : w.grownBy w' (some T) := grown_trans (grown_drewN HG.out.2.2.2.2.2 nq) hgrow2
      have hcG' := cell_of_one hbG
      have hcP' := cell_of_one hbP
      have hfree := hrow2.free
      have hc4 := hrow2.cell 4 (by omega)
      have hlt' := lt_of_block hbG
      clear hcG hfG hcP hc0 e1 e2
      by_cases hgq' : g = gen
      · rcases hres with ⟨hfull, hpows, rfl⟩ | ⟨hn, rfl⟩
        · have HH : Hid (RowF T 133 59 f2 w' ∧ (∀ o, o < 5 → f2 o = f' o) ∧ Pows (fun a => a * g % q) (q - 1) f2 ∧ w.grownBy w' (some T) ∧ g = gen) := ⟨hrow2, hsame2, hpows, hgrow3, hgq'⟩
          clear hrow2 hsame2 hgrow2 hfull hpows hgrow3 hbG hbP hgq'
          go_wp2
          refine bodyPost_ret (results_none rfl _ _ _) rfl ?_
          exact ⟨rfl, _, HH.out.1.store _ _, fun o ho ho4 => (upd_ne _ _ _ ho4).trans ((HH.out.2.1 o ho).trans (HG.out.2.2.2.2.1 o ho)), by rw [upd_at, HH.out.2.2.2.2], HH.out.2.2.2.2 ▸ HH.out.2.2.1.congr (fun o ho => upd_ne _ _ _ (by omega)), grown_set HH.out.2.2.2.1 _ _⟩
        · exact absurd (hgq' ▸ HN.out.1) hn
      · rcases hres with ⟨hfull, hpows, rfl⟩ | ⟨hn, rfl⟩
        · exact absurd hfull (HN.out.2 g hg (by omega))
        · have HH : Hid (RowF T 133 59 f2 w' ∧ (∀ o, o < 5 → f2 o = f' o) ∧ w.grownBy w' (some T) ∧ w'.heap[G]? = some (.cells #[.int .i64 g] 3 (0, 0)) ∧ w'.heap[w.heap.size]? = some (.cells #[.pointer (some ⟨T, 0, none⟩)] 60 (0, 0))) := ⟨hrow2, hsame2, hgrow3, hbG, hbP⟩
          clear hrow2 hsame2 hgrow2 hn hgrow3 hbG hbP
          go_wp2
          go_roundg (q - (g + 1))
          case measure => rw [HG.out.1]; omega
          case rel =>
            refine ⟨g + 1, w'.heap.size, f2, rfl, by omega, by omega, by omega, rfl, ?_, ?_, HH.out.1.alloc _, fun o ho => (HH.out.2.1 o ho).trans (HG.out.2.2.2.2.1 o ho), grown_trans HH.out.2.2.1 (World.grownBy_alloc _ _ _)⟩
            · exact two_new _
            · rw [Below.heap_alloc _ _ _ (by omega)]; exact HH.out.2.2.2.2
end Go.Proofs.Ytcgmllamiaflcaa
