/- Words that may lose a bit: what Mend tells is what GapMended tells; Mend's errors. -/
import Derived.Test.YtillljojdnofgaaZKI14
namespace Go.Proofs.Ytillljojdnofgaa
open Go.RowKit Go.Sort

theorem wz_eq {n : Nat} {c d : Nat → Nat} : wz n c = wz n d ↔ ∀ j, j < n → c j = d j := by
  constructor
  · intro h j hj
    have h1 := congrArg (fun l => l[j]?) h
    have h1 : (zl n fun t => ((c t : Nat) : Int))[j]? = (zl n fun t => ((d t : Nat) : Int))[j]? := h1
    rw [zl_get _ _ _ hj, zl_get _ _ _ hj] at h1
    have h2 := Option.some.inj h1
    omega
  · exact fun h => zl_congr fun j hj => by show ((c j : Nat) : Int) = ((d j : Nat) : Int); rw [h j hj]
theorem wdL_mem {n a : Nat} {c : Nat → Nat} : ∀ k, c ∈ wdL n a k ↔ ∃ i, i < k ∧ psm (dgs 2 n i) n % (n + 1) = a ∧ c = dgs 2 n i
  | 0 => ⟨fun h => (by cases h), fun ⟨i, h, _⟩ => absurd h (by omega)⟩
  | k + 1 => by
    show c ∈ wdL n a k ++ (if psm (dgs 2 n k) n % (n + 1) = a then [dgs 2 n k] else []) ↔ _
    rw [List.mem_append, wdL_mem k]
    constructor
    · rintro (⟨i, hi, e⟩ | e)
      · exact ⟨i, by omega, e⟩
      · by_cases h : psm (dgs 2 n k) n % (n + 1) = a
        · rw [if_pos h, List.mem_singleton] at e
          exact ⟨k, by omega, h, e⟩
        · rw [if_neg h] at e; cases e
    · rintro ⟨i, hi, h, e⟩
      by_cases hk : i = k
      · subst hk
        exact Or.inr (by rw [if_pos h, List.mem_singleton]; exact e)
      · exact Or.inl ⟨i, by omega, h, e⟩
/-- Each word of n bits is one of the list. -/
theorem wdL_has {n a : Nat} {c : Nat → Nat} (hc : ∀ j, c j ≤ 1) (hs : psm c n % (n + 1) = a) : ∃ d ∈ wdL n a (2 ^ n), wz n d = wz n c := by
  have hlt : dnum 2 c n < 2 ^ n := dnum_lt n fun i _ => by have := hc i; omega
  have he : ∀ j, j < n → dgs 2 n (dnum 2 c n) j = c j := dnum_inj n (fun i _ => dgs_lt (by omega) i) (fun i _ => by have := hc i; omega) (dnum_dgs (by omega) hlt)
  refine ⟨dgs 2 n (dnum 2 c n), (wdL_mem _).2 ⟨_, hlt, ?_, rfl⟩, wz_eq.2 he⟩
  rw [psm_congr n he]; exact hs
theorem wdL_sum {n a k : Nat} {c : Nat → Nat} (h : c ∈ wdL n a k) : psm c n % (n + 1) = a ∧ ∀ j, c j ≤ 1 := by
  obtain ⟨i, _, h1, rfl⟩ := (wdL_mem k).1 h
  exact ⟨h1, fun j => by have := dgs_lt (q := 2) (k := n) (a := i) (by omega) j; omega⟩
theorem wib_congr {a b n : Nat} {u v : Nat → Nat} (h : ∀ j, j < n → u j = v j) {j : Nat} (hj : j < n + 1) (ha : a ≤ n) : wib a b u j = wib a b v j := by
  unfold wib
  by_cases h1 : j < a
  · rw [if_pos h1, if_pos h1]; exact h j (by omega)
  · rw [if_neg h1, if_neg h1]
    by_cases h2 : j = a
    · rw [if_pos h2, if_pos h2]
    · rw [if_neg h2, if_neg h2]; exact h (j - 1) (by omega)
theorem wo_congr {a n : Nat} {u v : Nat → Nat} (h : ∀ j, j < n → u j = v j) {j : Nat} (hj : j + 1 < n) : wo a u j = wo a v j := by
  unfold wo
  split
  · exact h j (by omega)
  · exact h (j + 1) (by omega)
/-- A word of the list of which f may have come is, as a word, one that sent names. -/
theorem rel_sent {n l : Nat} {f c : Nat → Nat} (hn1 : 1 ≤ n) (hc : ∀ j, c j ≤ 1) (hr : relW n l f c) : ∃ d ∈ snL n l f, wz n d = wz n c := by
  rcases hr with h | ⟨hl, d, hd, he⟩ | ⟨hl, d, hd, he⟩
  · have hln : n = l := by
      have := congrArg List.length h
      rw [wz_len, wz_len] at this; exact this
    refine ⟨f, ?_, ?_⟩
    · unfold snL; rw [if_neg (by omega), if_pos hln.symm]; exact List.mem_singleton.2 rfl
    · rw [h, hln]
  · obtain ⟨i, hi, rfl⟩ := (lsL_mem n).1 hd
    have hln : n - 1 = l := by omega
    rw [hln] at he
    have he := wz_eq.1 he
    have hci := hc i
    refine ⟨wib i (c i) f, ?_, wz_eq.2 fun j hj => ?_⟩
    · unfold snL
      rw [if_pos hl, lgL_mem]
      exact ⟨2 * i + c i, by omega, by rw [show (2 * i + c i) / 2 = i by omega, show (2 * i + c i) % 2 = c i by omega]⟩
    · have e2 : wib i (c i) (wo i c) j = c j := by rw [wib_wo]
      rw [← e2]
      exact wib_congr (n := l) (fun j hj => (he j hj).symm) (by omega) (by omega)
  · obtain ⟨i, hi, rfl⟩ := (lsL_mem l).1 hd
    refine ⟨wo i f, ?_, ?_⟩
    · unfold snL
      rw [if_neg (by omega), if_neg (by omega), if_pos hl, srL_mem]
      exact ⟨i, hi, rfl⟩
    · rw [← he, hl]; rfl
/-- What sent names may have become f. -/
theorem sent_rel {n l : Nat} {f c d : Nat → Nat} (hd : d ∈ snL n l f) (he : wz n d = wz n c) : relW n l f c := by
  unfold snL at hd
  by_cases h1 : l + 1 = n
  · rw [if_pos h1, lgL_mem] at hd
    obtain ⟨i, hi, rfl⟩ := hd
    refine Or.inr (Or.inl ⟨h1, wo (i / 2) c, (lsL_mem n).2 ⟨i / 2, by omega, rfl⟩, ?_⟩)
    rw [show n - 1 = l by omega]
    have he := wz_eq.1 he
    refine wz_eq.2 fun j hj => ?_
    rw [← wo_congr (a := i / 2) (n := n) he (by omega), wo_wib]
  rw [if_neg h1] at hd
  by_cases h2 : l = n
  · rw [if_pos h2, List.mem_singleton] at hd
    subst hd
    exact Or.inl (by rw [h2]; exact he.symm)
  rw [if_neg h2] at hd
  by_cases h3 : l = n + 1
  · rw [if_pos h3, srL_mem] at hd
    obtain ⟨i, hi, rfl⟩ := hd
    exact Or.inr (Or.inr ⟨h3, wo i f, (lsL_mem l).2 ⟨i, hi, rfl⟩, by rw [show l - 1 = n by omega]; exact he⟩)
  · rw [if_neg h3] at hd; cases hd
/-- Of the words that sent names one at most has the sum. -/
theorem sent_one {n l a : Nat} {f c d : Nat → Nat} (hf : ∀ j, f j ≤ 1) (hc : c ∈ snL n l f) (hd : d ∈ snL n l f) (sc : psm c n % (n + 1) = a) (sd : psm d n % (n + 1) = a) : c = d := by
  unfold snL at hc hd
  by_cases h1 : l + 1 = n
  · rw [if_pos h1, lgL_mem] at hc hd
    obtain ⟨i, hi, rfl⟩ := hc
    obtain ⟨k, hk, rfl⟩ := hd
    subst h1
    exact ins_one hf (by omega) (by omega) (by omega) (by omega) (sc.trans sd.symm)
  rw [if_neg h1] at hc hd
  by_cases h2 : l = n
  · rw [if_pos h2, List.mem_singleton] at hc hd
    rw [hc, hd]
  rw [if_neg h2] at hc hd
  by_cases h3 : l = n + 1
  · rw [if_pos h3, srL_mem] at hc hd
    obtain ⟨i, hi, rfl⟩ := hc
    obtain ⟨k, hk, rfl⟩ := hd
    exact del_one hf (by omega) (by omega) (sc.trans sd.symm)
  · rw [if_neg h3] at hc; cases hc
/-- Both tell the same. -/
theorem mend_same {n a l : Nat} {f : Nat → Nat} {v v' : Value} {ok ok' : Bool} {w w' : World} (hn1 : 1 ≤ n) (hf : ∀ j, f j ≤ 1) (h : MdP n a (snL n l f) v ok w) (h' : GmP n a l f v' ok' w') : ok = ok' ∧ ∃ lw, KI v lw w ∧ KI v' lw w' := by
  rcases h with ⟨e, c, hc, hs, hk⟩ | ⟨e, hk, hno⟩
  · rcases h' with ⟨e', d, hd, hr, hk'⟩ | ⟨e', hk', hno'⟩
    · refine ⟨by rw [e, e'], wz n c, hk, ?_⟩
      obtain ⟨d', hd', he⟩ := rel_sent hn1 (wdL_sum hd).2 hr
      have : c = d' := sent_one hf hc hd' hs (by rw [psm_congr n (wz_eq.1 he)]; exact (wdL_sum hd).1)
      rw [this, he]; exact hk'
    · obtain ⟨d, hd, he⟩ := wdL_has (snL_bits hf hc) hs
      exact absurd (sent_rel hc he.symm) (hno' d hd)
  · rcases h' with ⟨e', d, hd, hr, hk'⟩ | ⟨e', hk', hno'⟩
    · obtain ⟨d', hd', he⟩ := rel_sent hn1 (wdL_sum hd).2 hr
      exact absurd (by rw [psm_congr n (wz_eq.1 he)]; exact (wdL_sum hd).1) (hno d' hd')
    · exact ⟨by rw [e, e'], [], hk, hk'⟩

set_option maxHeartbeats 4000000 in
set_option maxRecDepth 100000 in
theorem gmend_e1 (n a : Int) (hE : gaChk n a ≠ 0) {u : Value} (w : World) :
    Calls Try.prog 14 #[.int .i64 n, .int .i64 a, u] w fun e w' => e = .returned (.tuple #[.slice none 0 0, .bool false, .int .i64 (gaChk n a)]) ∧ w' = w := by
  obtain ⟨E, hEe⟩ : ∃ E, E = gaChk n a := ⟨_, rfl⟩
  have HC : Hid (Calls Try.prog 46 #[.int .i64 n, .int .i64 a] w fun e w' => e = .returned (.int .i64 E) ∧ w' = w) := by rw [hEe]; exact checkSum_any n a w
  rw [← hEe] at hE ⊢
  have z0 : (E != 0) = true := bne_iff_ne.2 hE
  clear hEe hE
  go_enter Try.func14, Try.ntmps14
  go_wp2_with fail
  refine HC.out.mono ?_
  rintro e w' ⟨rfl, hw⟩
  have hw := hw.symm
  subst hw
  go_wp2
  go_ret3
  exact ⟨rfl, rfl⟩
set_option maxHeartbeats 4000000 in
set_option maxRecDepth 100000 in
theorem gmend_e2 (n a : Int) (hE : gaChk n a = 0) {ao : Option Addr} {l ca : Nat} {z : Nat → Int} {w : World} (hS : SlZ ao l z w) (hl : l ≤ 1000000) (hW : gwchk l z ≠ 0) :
    Calls Try.prog 14 #[.int .i64 n, .int .i64 a, .slice ao l ca] w fun e w' => e = .returned (.tuple #[.slice none 0 0, .bool false, .int .i64 (gwchk l z)]) ∧ w' = w := by
  have HC : Hid (Calls Try.prog 46 #[.int .i64 n, .int .i64 a] w fun e w' => e = .returned (.int .i64 0) ∧ w' = w) := by rw [← hE]; exact checkSum_any n a w
  obtain ⟨E, hEe⟩ : ∃ E, E = gwchk l z := ⟨_, rfl⟩
  have HK : Hid (Calls Try.prog 15 #[.slice ao l ca] w fun e w' => e = .returned (.int .i64 E) ∧ w' = w) := by rw [hEe]; exact gCheck_any hS hl
  rw [← hEe] at hW ⊢
  have z0 : (E != 0) = true := bne_iff_ne.2 hW
  clear hEe hE hW hS
  go_enter Try.func14, Try.ntmps14
  go_wp2_with fail
  refine HC.out.mono ?_
  rintro e w' ⟨rfl, hw⟩
  have hw := hw.symm
  subst hw
  go_wp2_with fail
  refine HK.out.mono ?_
  rintro e w' ⟨rfl, hw⟩
  have hw := hw.symm
  subst hw
  go_wp2
  go_ret3
  exact ⟨rfl, rfl⟩
end Go.Proofs.Ytillljojdnofgaa
