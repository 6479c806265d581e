/- Texts of ours, one behind the other: Z2 Z3 Z4 Z5. -/
import Derived.Test.YtcgmllamiaflcaaZH2
import Derived.Test.YtcgmllamiaflcaaZX17
import Derived.Test.YtcgmllamiaflcaaZR5
import Derived.Test.YtcgmllamiaflcaaZL1
import Derived.Test.YtcgmllamiaflcaaZX3
/- Places and a dimension: may they be? The program's Check, the reference's ReedMay, whatever they are given. -/
namespace Go.Proofs.Ytcgmllamiaflcaa
open Go.RowKit Go.Sort

/-- What the first r places say: 0, 2 (no element), 7 (there twice). -/
def FD.pch (D : FD) (z : Nat → Int) : Nat → Int
  | 0 => 0
  | r + 1 => if D.pch z r ≠ 0 then D.pch z r else if D.has (z r) = true then (if z r ∈ zl r z then 7 else 0) else 2
theorem pch_stays {D : FD} {z : Nat → Int} {r : Nat} (h : D.pch z r ≠ 0) : ∀ k, D.pch z (r + k) = D.pch z r
  | 0 => rfl
  | k + 1 => by
    have ih := pch_stays h k
    show (if D.pch z (r + k) ≠ 0 then D.pch z (r + k) else _) = _
    rw [ih, if_pos h]
theorem pch_to {D : FD} {z : Nat → Int} {r n : Nat} (h : D.pch z r ≠ 0) (hn : r ≤ n) : D.pch z n = D.pch z r := by
  have := pch_stays h (n - r)
  rwa [show r + (n - r) = n from by omega] at this
def FD.rchk (D : FD) (n : Nat) (z : Nat → Int) (k : Int) : Int := if n < 1 ∨ 64 < n then 4 else if D.pch z n ≠ 0 then D.pch z n else if k < 1 ∨ (n : Int) < k then 6 else 0

set_option maxHeartbeats 8000000 in
set_option maxRecDepth 100000 in
theorem rcheck_any {D : FD} (hD : D ∈ fieldsL) {xo : Option Addr} {n cx : Nat} {z : Nat → Int} (k : Int) {w : World} (hX : Arg xo n cx z w) :
    Calls Try.prog 29 #[.int .i64 D.q, .slice xo n cx, .int .i64 k] w fun e w' => e = .returned (.int .i64 (D.rchk n z k)) ∧ Below w.heap.size w w' := by
  have HF : Hid (D ∈ fieldsL ∧ Arg xo n cx z w) := ⟨hD, hX⟩
  have hn6 := hX.few
  have hcn := hX.le
  clear hD hX
  go_enter Try.func29, Try.ntmps29
  go_wp2_with fail
  refine (new_any HF.out.1 w).mono ?_
  rintro e w1 ⟨F, T, g, rfl, hat, hF, hT, hb1⟩
  have HA : Hid (FAt F T D g w1 ∧ SlZ xo n z w1 ∧ Below w.heap.size w w1) := ⟨hat, HF.out.2.sl.below hb1 HF.out.2.lt, hb1⟩
  clear hat hF hT hb1
  by_cases h1 : n < 1
  · have HV : Hid (D.rchk n z k = 4) := by show D.rchk n z k = 4; unfold FD.rchk; rw [if_pos (Or.inl h1)]
    have hz1 : (n : Int) < 1 := by omega
    go_wp2
    go_ret
    exact ⟨ret_int (by rw [HV.out]), HA.out.2.2⟩
  · have hz1 : ¬ (n : Int) < 1 := by omega
    by_cases h64 : 64 < n
    · have HV : Hid (D.rchk n z k = 4) := by show D.rchk n z k = 4; unfold FD.rchk; rw [if_pos (Or.inr h64)]
      have hz2 : (64 : Int) < (n : Int) := by omega
      go_wp2
      go_ret
      exact ⟨ret_int (by rw [HV.out]), HA.out.2.2⟩
    · have hz2 : ¬ (64 : Int) < (n : Int) := by omega
      have HR : Hid (D.rchk n z k = if D.pch z n ≠ 0 then D.pch z n else if k < 1 ∨ (n : Int) < k then 6 else 0) := by show D.rchk n z k = _; unfold FD.rchk; rw [if_neg (by omega)]
      clear h1 h64
      go_wp2
      go_loopw [29] (fun i wr => ∃ r : Nat, r ≤ n ∧ i = .int .i64 r ∧ Hid (D.pch z r = 0) ∧ wr = w1) (fun i _ => n - (intOf i).toNat)
      case atStart => exact ⟨0, by omega, rfl, rfl, rfl⟩
      case round =>
        obtain ⟨r, hr, rfl, HP, hw⟩ := hrel
        have hw := hw.symm
        subst hw
        by_cases hlt : r < n
        · have hib : (r : Int) < (n : Int) := by omega
          obtain ⟨bx, ox, hxo, hcx⟩ := HA.out.2.1 r hlt
          subst hxo
          obtain ⟨x, hx⟩ : ∃ x, x = z r := ⟨_, rfl⟩
          rw [← hx] at hcx
          have hcap : (r : Int) ≤ (cx : Int) := by omega
          obtain ⟨hb0, hh0⟩ : ∃ hb0, hb0 = D.has x := ⟨_, rfl⟩
          obtain ⟨hb1, hh1⟩ : ∃ hb1, hb1 = decide (x ∈ zl r z) := ⟨_, rfl⟩
          have HC1 : Hid (Calls Try.prog 37 #[.pointer (some ⟨F, 0, none⟩), .int .i64 x] w1 fun e w' => e = .returned (.bool hb0) ∧ w' = w1) := by
            rw [hh0]; exact has_any HA.out.1 x
          have HC2 : Hid (Calls Try.prog 52 #[.slice (some ⟨bx, ox, none⟩) r cx, .int .i64 x] w1 fun e w' => e = .returned (.bool hb1) ∧ w' = w1) := by
            rw [hh1]; exact contains_any x (fun j hj => HA.out.2.1 j (by omega)) (by omega)
          have HN : Hid (D.pch z (r + 1) = if hb0 = true then (if hb1 = true then 7 else 0) else 2) := by
            show (if D.pch z r ≠ 0 then D.pch z r else if D.has (z r) = true then (if z r ∈ zl r z then 7 else 0) else 2) = _
            rw [if_neg (fun h => h HP.out), hh0, hh1, ← hx]
            by_cases e : x ∈ zl r z
            · rw [if_pos e, decide_eq_true e]; simp
            · rw [if_neg e, decide_eq_false e]; simp
          clear hx hh0 hh1
          cases hb0 with
          | false =>
            have HV : Hid (D.rchk n z k = 2) := by
              have h2 : D.pch z (r + 1) = 2 := HN.out
              show _ = _
              rw [HR.out, pch_to (r := r + 1) (by rw [h2]; omega) (by omega), h2]; rfl
            go_wp2_with fail
            refine HC1.out.mono ?_
            rintro e w' ⟨rfl, hw⟩
            have hw := hw.symm
            subst hw
            go_wp2
            go_ret
            exact ⟨ret_int (by rw [HV.out]), HA.out.2.2⟩
          | true =>
            cases hb1 with
            | true =>
              have HV : Hid (D.rchk n z k = 7) := by
                have h2 : D.pch z (r + 1) = 7 := HN.out
                show _ = _
                rw [HR.out, pch_to (r := r + 1) (by rw [h2]; omega) (by omega), h2]; rfl
              go_wp2_with fail
              refine HC1.out.mono ?_
              rintro e w' ⟨rfl, hw⟩
              have hw := hw.symm
              subst hw
              go_wp2_with fail
              refine HC2.out.mono ?_
              rintro e w' ⟨rfl, hw⟩
              have hw := hw.symm
              subst hw
              go_wp2
              go_ret
              exact ⟨ret_int (by rw [HV.out]), HA.out.2.2⟩
            | false =>
              go_wp2_with fail
              refine HC1.out.mono ?_
              rintro e w' ⟨rfl, hw⟩
              have hw := hw.symm
              subst hw
              go_wp2_with fail
              refine HC2.out.mono ?_
              rintro e w' ⟨rfl, hw⟩
              have hw := hw.symm
              subst hw
              go_wp2
              go_roundw
              case rel => exact ⟨r + 1, by omega, by go_num, HN.out, by first | rfl | trivial⟩
              case measure => simp [intOf]; omega
        · have hib : ¬ (r : Int) < (n : Int) := by omega
          have hre : n = r := by omega
          subst hre
          by_cases hk1 : k < 1
          · have HV : Hid (D.rchk n z k = 6) := by show _ = _; rw [HR.out, if_neg (fun h => h HP.out), if_pos (Or.inl hk1)]
            go_wp2
            go_ret
            exact ⟨ret_int (by rw [HV.out]), HA.out.2.2⟩
          · by_cases hk2 : (n : Int) < k
            · have HV : Hid (D.rchk n z k = 6) := by show _ = _; rw [HR.out, if_neg (fun h => h HP.out), if_pos (Or.inr hk2)]
              go_wp2
              go_ret
              exact ⟨ret_int (by rw [HV.out]), HA.out.2.2⟩
            · have HV : Hid (D.rchk n z k = 0) := by show _ = _; rw [HR.out, if_neg (fun h => h HP.out), if_neg (by omega)]
              go_wp2
              go_ret
              exact ⟨ret_int (by rw [HV.out]), HA.out.2.2⟩
end Go.Proofs.Ytcgmllamiaflcaa

/- The reference's ReedMay, whatever it is given. -/
namespace Go.Proofs.Ytcgmllamiaflcaa
open Go.RowKit Go.Sort

end Go.Proofs.Ytcgmllamiaflcaa

/- A word that came: may it be? The program's Word. -/
namespace Go.Proofs.Ytcgmllamiaflcaa
open Go.RowKit Go.Sort

def anyB (p : Nat → Bool) : Nat → Bool
  | 0 => false
  | n + 1 => anyB p n || p n
theorem anyB_no {p : Nat → Bool} : ∀ n, (∀ j, j < n → p j = false) → anyB p n = false
  | 0, _ => rfl
  | n + 1, h => by
    show (anyB p n || p n) = false
    rw [anyB_no n (fun j hj => h j (by omega)), h n (by omega)]; rfl
theorem anyB_yes {p : Nat → Bool} {i : Nat} (h : p i = true) : ∀ n, i < n → anyB p n = true
  | 0, hi => absurd hi (by omega)
  | n + 1, hi => by
    show (anyB p n || p n) = true
    by_cases e : i = n
    · rw [← e, h, Bool.or_true]
    · rw [anyB_yes h n (by omega), Bool.true_or]

set_option maxHeartbeats 2000000 in
set_option maxRecDepth 100000 in
theorem containsFn_any {gf : Nat} {lb : Array Value} (eg : ∀ args w, (callFunc gf args).run Try.prog w = .ok (.enter gf args) w) {ao : Option Addr} {n cap : Nat} {z : Nat → Int} {p : Nat → Bool} {w : World}
    (hs : SlZ ao n z w) (hn : n ≤ 1000000) (hp : ∀ j, j < n → Calls Try.prog gf (#[.int .i64 (z j)] ++ lb) w fun e w' => e = .returned (.bool (p j)) ∧ w' = w) :
    Calls Try.prog 69 #[.slice ao n cap, .func (.func gf) #[] lb] w fun e w' => e = .returned (.bool (anyB p n)) ∧ w' = w := by
  have HS : Hid (∀ cap, Calls Try.prog 89 #[.slice ao n cap, .func (.func gf) #[] lb] w fun e w' => w' = w ∧ ∃ i : Int, e = .returned (.int .i64 i) ∧ decide (0 ≤ i) = anyB p n) := fun cap => by
    refine (indexInts_any (cap := cap) (p := p) eg hs hn hp).mono ?_
    rintro e w' ⟨rfl, ⟨i, hi, hpi, _, rfl⟩ | ⟨ha, rfl⟩⟩
    · refine ⟨rfl, _, rfl, ?_⟩
      rw [anyB_yes hpi n hi]; simp
    · refine ⟨rfl, _, rfl, ?_⟩
      rw [anyB_no n ha]; rfl
  clear hs hp eg
  obtain ⟨y, hy⟩ : ∃ y, y = anyB p n := ⟨_, rfl⟩
  rw [← hy]
  have HY : Hid (y = anyB p n) := hy
  clear hy
  go_enter Try.func69, Try.ntmps69
  go_wp2_with (go_at_call 89; refine (HS.out _).mono ?_; rintro e w' ⟨hw, i, rfl, hi⟩; rw [← HY.out] at hi; have hw := hw.symm; subst hw)
  go_ret
  exact ⟨by first | rfl | simp_all, rfl⟩

/-- A number of a word: an element, or -1. -/
def FD.wok (D : FD) (x : Int) : Bool := decide (x = -1) || D.has x
def FD.allW (D : FD) (z : Nat → Int) (n : Nat) : Bool := !anyB (fun j => !D.wok (z j)) n
def FD.wchk (D : FD) (n : Nat) (z : Nat → Int) (k : Int) (m : Nat) (y : Nat → Int) : Int := if D.rchk n z k ≠ 0 then D.rchk n z k else if m ≠ n then 6 else if D.allW y m = true then 0 else 2
theorem enters_word : ∀ args w, (callFunc 85 args).run Try.prog w = .ok (.enter 85 args) w :=
  enters_of Try.func85 (by kernel_rfl) rfl

set_option maxHeartbeats 2000000 in
set_option maxRecDepth 100000 in
theorem word1_any {D : FD} {F T B : Nat} {g : Nat → Value} {w : World} (h : FAt F T D g w) (hc : w.cell? ⟨B, 0, none⟩ = some (.pointer (some ⟨F, 0, none⟩))) (x : Int) :
    Calls Try.prog 85 #[.int .i64 x, .pointer (some ⟨B, 0, none⟩)] w fun e w' => e = .returned (.bool (!D.wok x)) ∧ w' = w := by
  have HS : Hid (FAt F T D g w) := h
  clear h
  obtain ⟨y, hy⟩ : ∃ y, y = D.has x := ⟨_, rfl⟩
  have HC : Hid (Calls Try.prog 37 #[.pointer (some ⟨F, 0, none⟩), .int .i64 x] w fun e w' => e = .returned (.bool y) ∧ w' = w) := by
    show Calls _ _ _ _ _
    rw [hy]; exact has_any HS.out x
  by_cases e : x = -1
  · have HV : Hid (D.wok x = true) := by show D.wok x = true; unfold FD.wok; rw [decide_eq_true e]; rfl
    have hz : (x != -1) = false := by rw [e]; rfl
    clear hy e
    go_enter Try.func85, Try.ntmps85
    go_wp2
    go_ret
    exact ⟨by rw [HV.out]; rfl, rfl⟩
  · have HV : Hid (D.wok x = y) := by show D.wok x = y; unfold FD.wok; rw [decide_eq_false e, hy]; rfl
    have hz : (x != -1) = true := by rw [bne_iff_ne]; exact e
    clear hy e
    go_enter Try.func85, Try.ntmps85
    go_wp2_with (go_at_call 37; refine HC.out.mono ?_; rintro e w' ⟨rfl, hw⟩; have hw := hw.symm; subst hw)
    go_ret
    exact ⟨by rw [HV.out]; rfl, rfl⟩

set_option maxHeartbeats 4000000 in
set_option maxRecDepth 100000 in
theorem word_any {D : FD} (hD : D ∈ fieldsL) {xo yo : Option Addr} {n cx m cy : Nat} {z y : Nat → Int} (k : Int) {w : World} (hX : Arg xo n cx z w) (hY : Arg yo m cy y w) :
    Calls Try.prog 54 #[.int .i64 D.q, .slice xo n cx, .int .i64 k, .slice yo m cy] w fun e w' => e = .returned (.int .i64 (D.wchk n z k m y)) ∧ Below w.heap.size w w' := by
  have HF : Hid (D ∈ fieldsL ∧ Arg xo n cx z w ∧ Arg yo m cy y w) := ⟨hD, hX, hY⟩
  obtain ⟨e0, he0⟩ : ∃ e0, e0 = D.rchk n z k := ⟨_, rfl⟩
  have HC : Hid (Calls Try.prog 29 #[.int .i64 D.q, .slice xo n cx, .int .i64 k] w fun e w' => e = .returned (.int .i64 e0) ∧ Below w.heap.size w w') := by rw [he0]; exact rcheck_any hD k hX
  have hn6 := hX.few
  have hm6 := hY.few
  have HE : Hid (D.wchk n z k m y = if e0 ≠ 0 then e0 else if m ≠ n then 6 else if D.allW y m = true then 0 else 2) := by show _ = _; rw [he0]; rfl
  clear hD hX hY he0
  by_cases h0 : e0 = 0
  · subst h0
    by_cases hmn : m = n
    · subst hmn
      obtain ⟨ab, hab⟩ : ∃ ab, ab = anyB (fun j => !D.wok (y j)) m := ⟨_, rfl⟩
      have HV : Hid (D.wchk m z k m y = if ab = true then 2 else 0) := by
        show _ = _
        rw [HE.out, if_neg (by simp), if_neg (by simp)]
        show (if (!anyB (fun j => !D.wok (y j)) m) = true then (0 : Int) else 2) = _
        rw [← hab]
        cases ab <;> rfl
      go_enter Try.func54, Try.ntmps54
      go_wp2_with fail
      refine HC.out.mono ?_
      rintro e w1 ⟨rfl, hb1⟩
      have H1 : Hid (Below w.heap.size w w1) := hb1
      clear hb1
      go_wp2_with fail
      refine (new_any HF.out.1 w1).mono ?_
      rintro e w2 ⟨F, T, g, rfl, hat, hF, hT, hb2⟩
      have hal : Below w2.heap.size w2 (w2.alloc (.cells #[.pointer (some ⟨F, 0, none⟩)] 37)) := (Below.refl _ _).alloc (Nat.le_refl _) _
      have H2 : Hid (FAt F T D g (w2.alloc (.cells #[.pointer (some ⟨F, 0, none⟩)] 37)) ∧ Below w.heap.size w (w2.alloc (.cells #[.pointer (some ⟨F, 0, none⟩)] 37))) := ⟨hat.below hal hat.ltF hat.ltT, bel_up' (bel_up' H1.out hb2) hal⟩
      have HCf : Hid (∀ cap, Calls Try.prog 69 #[.slice yo m cap, .func (.func 85) #[] #[.pointer (some ⟨w2.heap.size, 0, none⟩)]] (w2.alloc (.cells #[.pointer (some ⟨F, 0, none⟩)] 37)) fun e w' => e = .returned (.bool ab) ∧ w' = w2.alloc (.cells #[.pointer (some ⟨F, 0, none⟩)] 37)) := fun cap => by
        rw [hab]
        refine containsFn_any enters_word (HF.out.2.2.below H2.out.2).sl hm6 (fun j _ => ?_)
        have e : (#[Value.int .i64 (y j)] ++ #[Value.pointer (some ⟨w2.heap.size, 0, none⟩)] : Array Value) = #[.int .i64 (y j), .pointer (some ⟨w2.heap.size, 0, none⟩)] := rfl
        rw [e]
        exact word1_any H2.out.1 (by simp) (y j)
      clear hat hF hT hb2 hal hab
      cases ab
      · go_wp2_with (go_at_call 69; refine (HCf.out _).mono ?_; rintro e w' ⟨rfl, rfl⟩)
        go_ret
        exact ⟨ret_int (by rw [HV.out]; rfl), H2.out.2⟩
      · go_wp2_with (go_at_call 69; refine (HCf.out _).mono ?_; rintro e w' ⟨rfl, rfl⟩)
        go_ret
        exact ⟨ret_int (by rw [HV.out]; rfl), H2.out.2⟩
    · have HV : Hid (D.wchk n z k m y = 6) := by show _ = _; rw [HE.out, if_neg (by simp), if_pos hmn]
      have hz : (((m : Nat) : Int) != ((n : Nat) : Int)) = true := by rw [bne_iff_ne]; omega
      go_enter Try.func54, Try.ntmps54
      go_wp2_with fail
      refine HC.out.mono ?_
      rintro e w1 ⟨rfl, hb1⟩
      have H1 : Hid (Below w.heap.size w w1) := hb1
      clear hb1
      go_wp2
      go_ret
      exact ⟨ret_int (by rw [HV.out]), H1.out⟩
  · have HV : Hid (D.wchk n z k m y = e0) := by show _ = _; rw [HE.out, if_pos h0]
    have hz : (e0 != 0) = true := by rw [bne_iff_ne]; exact h0
    clear h0
    go_enter Try.func54, Try.ntmps54
    go_wp2_with fail
    refine HC.out.mono ?_
    rintro e w1 ⟨rfl, hb1⟩
    have H1 : Hid (Below w.heap.size w w1) := hb1
    clear hb1
    go_wp2
    go_ret
    exact ⟨ret_int (by rw [HV.out]), H1.out⟩
end Go.Proofs.Ytcgmllamiaflcaa

/- A word that came: the reference's ReedWord. -/
namespace Go.Proofs.Ytcgmllamiaflcaa
open Go.RowKit Go.Sort

end Go.Proofs.Ytcgmllamiaflcaa
