/- Texts of ours, one behind the other: X2 X3 X4. -/
import Derived.Test.YtbpeahhhkcljeaaZT1
import Derived.Shelf.Abstract
/- The program's matrices: how many columns there are (width), which row may stand (checkRow), which matrix may be (Check). -/
namespace Go.Proofs.Ytbpeahhhkcljeaa
open Go.RowKit

set_option maxHeartbeats 2000000 in
set_option maxRecDepth 100000 in
theorem hasnt_any {D : FD} {F T B : Nat} {g : Nat → Value} {w : World} (h : FAt F T D g w) (hc : w.cell? ⟨B, 0, none⟩ = some (.pointer (some ⟨F, 0, none⟩))) (x : Int) :
    Calls Try.prog 92 #[.int .i64 x, .pointer (some ⟨B, 0, none⟩)] w fun e w' => e = .returned (.bool (!D.has x)) ∧ w' = w := by
  have HS : Hid (FAt F T D g w) := h
  clear h
  obtain ⟨y, hy⟩ : ∃ y, y = D.has x := ⟨_, rfl⟩
  have HC : Hid (Calls Try.prog 93 #[.pointer (some ⟨F, 0, none⟩), .int .i64 x] w fun e w' => e = .returned (.bool y) ∧ w' = w) := by
    show Calls _ _ _ _ _
    rw [hy]; exact has_any HS.out x
  rw [← hy]
  clear hy
  go_enter Try.func92, Try.ntmps92
  go_wp2_with (go_at_call 93; refine HC.out.mono ?_; rintro e w' ⟨rfl, hw⟩; have hw := hw.symm; subst hw)
  go_ret
  exact ⟨rfl, rfl⟩

end Go.Proofs.Ytbpeahhhkcljeaa

/- The library's search with a function value: where the first number is of which it holds; which row may stand in a matrix (checkRow). -/
namespace Go.Proofs.Ytbpeahhhkcljeaa
open Go.RowKit

set_option maxHeartbeats 2000000 in
set_option maxRecDepth 100000 in
theorem indexInts_any {gf : Nat} {lb : Array Value} (eg : ∀ args w, (callFunc gf args).run Try.prog w = .ok (.enter gf args) w) {ao : Option Addr} {n cap : Nat} {z : Nat → Int} {p : Nat → Bool} {w : World}
    (hs : SlZ ao n z w) (hn : n ≤ 1000000) (hp : ∀ j, j < n → Calls Try.prog gf (#[.int .i64 (z j)] ++ lb) w fun e w' => e = .returned (.bool (p j)) ∧ w' = w) :
    Calls Try.prog 117 #[.slice ao n cap, .func (.func gf) #[] lb] w fun e w' => w' = w ∧ ((∃ i : Nat, i < n ∧ p i = true ∧ (∀ j, j < i → p j = false) ∧ e = .returned (.int .i64 i)) ∨ ((∀ j, j < n → p j = false) ∧ e = .returned (.int .i64 (-1)))) := by
  have HS : Hid (SlZ ao n z w ∧ ∀ j, j < n → Calls Try.prog gf (#[.int .i64 (z j)] ++ lb) w fun e w' => e = .returned (.bool (p j)) ∧ w' = w) := ⟨hs, hp⟩
  clear hs hp
  go_enter Try.func117, Try.ntmps117
  go_wp2
  go_loopw [5, 8] (fun _ i wr => ∃ r : Nat, r ≤ n ∧ i = .int .i64 r ∧ Hid (∀ j, j < r → p j = false) ∧ wr = w) (fun _ i _ => n - (intOf i).toNat)
  case atStart => exact ⟨0, by omega, rfl, (show Hid _ from fun j hj => by omega), rfl⟩
  case round =>
    obtain ⟨r, hr, rfl, HH, rfl⟩ := hrel
    by_cases hlt : r < n
    · obtain ⟨b, off, rfl, hcz⟩ := HS.out.1 r hlt
      have hib : (r : Int) < (n : Int) := by omega
      have hcall := HS.out.2 r hlt
      by_cases hh : p r = true
      · have HV : Hid (p r = true) := hh
        rw [hh] at hcall
        clear hh
        go_wp2_with (go_at_fn gf; refine hcall.mono ?_; rintro e w' ⟨rfl, hw⟩; have hw := hw.symm; subst hw)
        go_ret
        exact ⟨rfl, Or.inl ⟨r, hlt, HV.out, HH.out, rfl⟩⟩
      · have hh' : p r = false := by simpa using hh
        have HV : Hid (∀ j, j < r + 1 → p j = false) := fun j hj => by
          by_cases e : j = r
          · rw [e]; exact hh'
          · exact HH.out j (by omega)
        rw [hh'] at hcall
        clear hh hh'
        go_wp2_with (go_at_fn gf; refine hcall.mono ?_; rintro e w' ⟨rfl, hw⟩; have hw := hw.symm; subst hw)
        go_roundw
        case rel => exact ⟨r + 1, by omega, by go_num, HV.out, by first | rfl | trivial⟩
        case measure => simp [intOf]; omega
    · have HV : Hid (∀ j, j < n → p j = false) := fun j hj => HH.out j (by omega)
      go_wp2
      go_ret
      exact ⟨rfl, Or.inr ⟨HV.out, rfl⟩⟩
end Go.Proofs.Ytbpeahhhkcljeaa

/- The program's matrices: which row may stand (checkRow), which matrix may be (Check), over which field (over). -/
namespace Go.Proofs.Ytbpeahhhkcljeaa
open Go.RowKit

theorem enters_hasnt : ∀ args w, (callFunc 92 args).run Try.prog w = .ok (.enter 92 args) w :=
  enters_of Try.func92 (by kernel_rfl) rfl

set_option maxHeartbeats 2000000 in
set_option maxRecDepth 100000 in
theorem containsHas_any {D : FD} {F T B : Nat} {g : Nat → Value} {ao : Option Addr} {n cap : Nat} {z : Nat → Int} {w : World} (h : FAt F T D g w) (hc : w.cell? ⟨B, 0, none⟩ = some (.pointer (some ⟨F, 0, none⟩))) (hs : SlZ ao n z w) (hn : n ≤ 1000000) :
    Calls Try.prog 91 #[.slice ao n cap, .func (.func 92) #[] #[.pointer (some ⟨B, 0, none⟩)]] w fun e w' => e = .returned (.bool (!D.allHas z n)) ∧ w' = w := by
  have HS : Hid (∀ cap, Calls Try.prog 117 #[.slice ao n cap, .func (.func 92) #[] #[.pointer (some ⟨B, 0, none⟩)]] w fun e w' => w' = w ∧ ∃ i : Int, e = .returned (.int .i64 i) ∧ decide (0 ≤ i) = !D.allHas z n) := fun cap => by
    have hp : ∀ j, j < n → Calls Try.prog 92 (#[.int .i64 (z j)] ++ #[.pointer (some ⟨B, 0, none⟩)]) w fun e w' => e = .returned (.bool (!D.has (z j))) ∧ w' = w := fun j _ => by
      have e : (#[Value.int .i64 (z j)] ++ #[Value.pointer (some ⟨B, 0, none⟩)] : Array Value) = #[.int .i64 (z j), .pointer (some ⟨B, 0, none⟩)] := rfl
      rw [e]
      exact hasnt_any h hc (z j)
    refine (indexInts_any (cap := cap) (p := fun j => !D.has (z j)) enters_hasnt hs hn hp).mono ?_
    rintro e w' ⟨rfl, ⟨i, hi, hpi, _, rfl⟩ | ⟨ha, rfl⟩⟩
    · refine ⟨rfl, _, rfl, ?_⟩
      have h1 : D.allHas z n = false := by
        rw [← Bool.not_eq_true]
        intro e
        have h2 := allHas_iff.1 e i hi
        have hpi' : (!D.has (z i)) = true := hpi
        rw [h2] at hpi'
        cases hpi'
      rw [h1]
      simp
    · refine ⟨rfl, _, rfl, ?_⟩
      have h1 : D.allHas z n = true := allHas_iff.2 fun j hj => by
        have h2 : (!D.has (z j)) = false := ha j hj
        simpa using h2
      rw [h1]
      rfl
  clear h hc hs
  obtain ⟨y, hy⟩ : ∃ y, y = !D.allHas z n := ⟨_, rfl⟩
  rw [← hy]
  have HY : Hid (y = !D.allHas z n) := hy
  clear hy
  go_enter Try.func91, Try.ntmps91
  go_wp2_with (go_at_call 117; refine (HS.out _).mono ?_; rintro e w' ⟨hw, i, rfl, hi⟩; rw [← HY.out] at hi; have hw := hw.symm; subst hw)
  go_ret
  exact ⟨by first | rfl | simp_all, rfl⟩

set_option maxHeartbeats 2000000 in
set_option maxRecDepth 100000 in
theorem checkRow_any {D : FD} {F T : Nat} {g : Nat → Value} {ao : Option Addr} {n cap n0 : Nat} {z : Nat → Int} {w : World} (h : FAt F T D g w) (hT : T < w.heap.size) (hs : SlZ ao n z w) (hn : n ≤ 1000000) (hn0 : n0 ≤ 1000000) :
    Calls Try.prog 55 #[.pointer (some ⟨F, 0, none⟩), .slice ao n cap, .int .i64 n0] w fun e w' => e = .returned (.int .i64 (D.mrow n0 n z)) ∧ Below w.heap.size w w' := by
  have HS : Hid (FAt F T D g (w.alloc (.cells #[.pointer (some ⟨F, 0, none⟩)] 74)) ∧ SlZ ao n z (w.alloc (.cells #[.pointer (some ⟨F, 0, none⟩)] 74)) ∧ Below w.heap.size w (w.alloc (.cells #[.pointer (some ⟨F, 0, none⟩)] 74))) := by
    have hb : Below w.heap.size w (w.alloc (.cells #[.pointer (some ⟨F, 0, none⟩)] 74)) := (Below.refl _ _).alloc (Nat.le_refl _) _
    exact ⟨h.below hb h.ltF hT, slz_below hs hb, hb⟩
  clear h hs hT
  by_cases h1 : n = n0
  · subst h1
    by_cases h2 : n = 0
    · have HV : Hid (D.mrow n n z = 3) := by show _ = _; unfold FD.mrow; rw [if_pos (Or.inr h2)]
      subst h2
      go_enter Try.func55, Try.ntmps55
      go_wp2
      go_ret
      exact ⟨ret_int (by rw [HV.out]), HS.out.2.2⟩
    · have h2z : ((n : Int) == 0) = false := by rw [beq_eq_false_iff_ne]; omega
      by_cases h3 : 64 < n
      · have HV : Hid (D.mrow n n z = 4) := by show _ = _; unfold FD.mrow; rw [if_neg (by omega), if_pos h3]
        have h3z : (64 : Int) < (n : Int) := by omega
        go_enter Try.func55, Try.ntmps55
        go_wp2
        go_ret
        exact ⟨ret_int (by rw [HV.out]), HS.out.2.2⟩
      · have h3z : ¬ (64 : Int) < (n : Int) := by omega
        obtain ⟨y, hy⟩ : ∃ y, y = D.allHas z n := ⟨_, rfl⟩
        have HC : Hid (∀ cap, Calls Try.prog 91 #[.slice ao n cap, .func (.func 92) #[] #[.pointer (some ⟨w.heap.size, 0, none⟩)]] (w.alloc (.cells #[.pointer (some ⟨F, 0, none⟩)] 74)) fun e w' => e = .returned (.bool (!y)) ∧ w' = w.alloc (.cells #[.pointer (some ⟨F, 0, none⟩)] 74)) := fun cap => by
          rw [hy]; exact containsHas_any HS.out.1 (by simp) HS.out.2.1 hn
        have HV : Hid (D.mrow n n z = if y = true then 0 else 2) := by show _ = _; unfold FD.mrow; rw [if_neg (by omega), if_neg h3, hy]
        clear hy
        cases y
        · go_enter Try.func55, Try.ntmps55
          go_wp2_with (go_at_call 91; refine (HC.out _).mono ?_; rintro e w' ⟨rfl, rfl⟩)
          go_ret
          exact ⟨ret_int (by rw [HV.out]; rfl), HS.out.2.2⟩
        · go_enter Try.func55, Try.ntmps55
          go_wp2_with (go_at_call 91; refine (HC.out _).mono ?_; rintro e w' ⟨rfl, rfl⟩)
          go_ret
          exact ⟨ret_int (by rw [HV.out]; rfl), HS.out.2.2⟩
  · have HV : Hid (D.mrow n0 n z = 3) := by show _ = _; unfold FD.mrow; rw [if_pos (Or.inl h1)]
    have h1z : ((n : Int) != (n0 : Int)) = true := by rw [bne_iff_ne]; omega
    go_enter Try.func55, Try.ntmps55
    go_wp2
    go_ret
    exact ⟨ret_int (by rw [HV.out]), HS.out.2.2⟩
end Go.Proofs.Ytbpeahhhkcljeaa
