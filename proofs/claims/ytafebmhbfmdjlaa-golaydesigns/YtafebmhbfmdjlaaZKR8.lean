/- Golay: the reference's Designed, DesignOf. -/
import Derived.Test.YtafebmhbfmdjlaaZKR4
namespace Go.Proofs.Ytafebmhbfmdjlaa
open Go.RowKit

/-- Sets one after another: in how many blocks each lies; none: not alike. -/
def dsr (c : Nat → Nat) : List Nat → Int → Option Int
  | [], x => some x
  | s :: l, x => if x < 0 ∨ (c s : Int) = x then dsr c l (c s) else none
theorem dsr_app (c : Nat → Nat) (B : List Nat) : ∀ A x, dsr c (A ++ B) x = (dsr c A x).bind (dsr c B)
  | [], x => rfl
  | s :: A, x => by
    show (if x < 0 ∨ (c s : Int) = x then dsr c (A ++ B) (c s) else none) = Option.bind (if x < 0 ∨ (c s : Int) = x then dsr c A (c s) else none) (dsr c B)
    by_cases h : x < 0 ∨ (c s : Int) = x
    · rw [if_pos h, if_pos h, dsr_app c B A]
    · rw [if_neg h, if_neg h]; rfl
def DeP (c : Nat → Nat) (L : List Nat) (x : Int) (w : World) (e : Ending) (w' : World) : Prop :=
  w' = w ∧ ((∃ k : Int, dsr c L x = some k ∧ -1 ≤ k ∧ k ≤ 6000 ∧ e = .returned (.tuple #[.int .i64 k, .bool true])) ∨ (dsr c L x = none ∧ ∃ k : Int, e = .returned (.tuple #[.int .i64 k, .bool false])))

set_option maxHeartbeats 8000000 in
set_option maxRecDepth 100000 in
theorem designed_leaf {n N ca : Nat} {ao : Option Addr} {f : Nat → Nat} {w : World} (hN : N ≤ 6000) (hX : SlU ao N f w) (hf : ∀ i, i < N → f i < 18446744073709551616) (v s : Nat) (x : Int) (hs : s < 18446744073709551616) :
    Calls Try.prog 14 #[.int .i64 (n : Nat), .slice ao N ca, .int .i64 0, .int .i64 (v : Nat), .int .u64 (s : Nat), .int .i64 x] w (DeP (fun s => lic f s N) [s] x w) := by
  have HX : Hid (SlU ao N f w ∧ ∀ i, i < N → f i < 18446744073709551616) := ⟨hX, hf⟩
  clear hX hf
  go_enter Try.func14, Try.ntmps14
  go_wp2
  go_loopw [14, 15] (fun vs vi wr => ∃ i m : Nat, vs = .int .i64 (m : Nat) ∧ vi = .int .i64 (i : Nat) ∧ i ≤ N ∧ m ≤ i ∧ Hid (m = lic f s i ∧ wr = w)) (fun _ vi _ => N - (intOf vi).toNat)
  case atStart => exact ⟨0, 0, rfl, rfl, by omega, by omega, rfl, rfl⟩
  case round =>
    obtain ⟨i, m, rfl, rfl, hi, hm, HS⟩ := hrel
    have hw := HS.out.2.symm
    subst hw
    by_cases hlt : i < N
    · have hib : (i : Int) < (N : Int) := by omega
      obtain ⟨b, off, e1, hcell⟩ := HX.out.1 i hlt
      subst e1
      have hfi := HX.out.2 i hlt
      have hba : bits BinOp.and IntKind.u64 (f i : Int) (s : Int) = ((f i &&& s : Nat) : Int) := and_u64 hfi hs
      obtain ⟨a, ha⟩ : ∃ a, a = f i &&& s := ⟨_, rfl⟩
      rw [← ha] at hba
      by_cases hc : a = s
      · have hb2 : ((a : Int) == (s : Int)) = true := by rw [hc]; exact beq_self_eq_true _
        have HN : Hid (m + 1 = lic f s (i + 1)) := by show _ = lic f s i + _; rw [if_pos (by rw [← ha]; exact hc), HS.out.1]
        clear HS hc ha
        go_wp2
        go_roundw
        case rel => exact ⟨i + 1, m + 1, by go_num, by go_num, by omega, by omega, HN.out, by first | rfl | trivial⟩
        case measure => simp [intOf]; omega
      · have hb2 : ((a : Int) == (s : Int)) = false := beq_eq_false_iff_ne.2 (by omega)
        have HN : Hid (m = lic f s (i + 1)) := by show _ = lic f s i + _; rw [if_neg (by rw [← ha]; exact hc), HS.out.1]; rfl
        clear HS ha
        go_wp2
        go_roundw
        case rel => exact ⟨i + 1, m, by go_num, by go_num, by omega, by omega, HN.out, by first | rfl | trivial⟩
        case measure => simp [intOf]; omega
    · have hib : ¬ (i : Int) < (N : Int) := by omega
      have hie : i = N := by omega
      subst hie
      have HE : Hid (dsr (fun s => lic f s i) [s] x = if x < 0 ∨ (m : Int) = x then some (m : Int) else none) := by
        show (if x < 0 ∨ ((lic f s i : Nat) : Int) = x then some ((lic f s i : Nat) : Int) else none) = _
        rw [HS.out.1]
      clear HS
      by_cases h0 : x < 0
      · have HF : Hid (DeP (fun s => lic f s i) [s] x w (.returned (.tuple #[.int .i64 (m : Nat), .bool true])) w) := ⟨rfl, Or.inl ⟨m, by rw [HE.out, if_pos (Or.inl h0)], by omega, by omega, rfl⟩⟩
        clear HE
        go_wp2
        go_ret2
        exact HF.out
      · by_cases h1 : (m : Int) = x
        · have h1b : ((m : Int) == x) = true := beq_iff_eq.2 h1
          have HF : Hid (DeP (fun s => lic f s i) [s] x w (.returned (.tuple #[.int .i64 (m : Nat), .bool true])) w) := ⟨rfl, Or.inl ⟨m, by rw [HE.out, if_pos (Or.inr h1)], by omega, by omega, rfl⟩⟩
          clear HE h1
          go_wp2
          go_ret2
          exact HF.out
        · have h1b : ((m : Int) == x) = false := beq_eq_false_iff_ne.2 h1
          have HF : Hid (DeP (fun s => lic f s i) [s] x w (.returned (.tuple #[.int .i64 (m : Nat), .bool false])) w) := ⟨rfl, Or.inr ⟨by rw [HE.out, if_neg (by omega)], m, rfl⟩⟩
          clear HE h1
          go_wp2
          go_ret2
          exact HF.out

set_option maxHeartbeats 8000000 in
set_option maxRecDepth 100000 in
theorem designed_any {n N ca : Nat} {ao : Option Addr} {f : Nat → Nat} {w : World} (hn : n ≤ 64) (hN : N ≤ 6000) (hX : SlU ao N f w) (hf : ∀ i, i < N → f i < 18446744073709551616) :
    ∀ (t v s : Nat) (x : Int), t ≤ n → v ≤ n → s < 18446744073709551616 → -1 ≤ x → x ≤ 6000 →
      Calls Try.prog 14 #[.int .i64 (n : Nat), .slice ao N ca, .int .i64 (t : Nat), .int .i64 (v : Nat), .int .u64 (s : Nat), .int .i64 x] w (DeP (fun s => lic f s N) (sls n t v s) x w)
  | 0, v, s, x, ht, hv, hs, _, _ => designed_leaf hN hX hf v s x hs
  | t + 1, v, s, x, ht, hv, hs, hx1, hx2 => by
    have HI : Hid (∀ (v s : Nat) (x : Int), v ≤ n → s < 18446744073709551616 → -1 ≤ x → x ≤ 6000 → Calls Try.prog 14 #[.int .i64 (n : Nat), .slice ao N ca, .int .i64 (t : Nat), .int .i64 (v : Nat), .int .u64 (s : Nat), .int .i64 x] w (DeP (fun s => lic f s N) (sls n t v s) x w)) := fun v s x h1 h2 h3 h4 => designed_any hn hN hX hf t v s x (by omega) h1 h2 h3 h4
    obtain ⟨T, hT⟩ : ∃ T, T = t + 1 := ⟨_, rfl⟩
    obtain ⟨m, hm⟩ : ∃ m, m = n - T := ⟨_, rfl⟩
    have hTi : (T : Int) - 1 = (t : Int) := by omega
    have hTz : ((T : Int) == 0) = false := by rw [beq_eq_false_iff_ne]; omega
    have hmi : (n : Int) - (T : Int) = (m : Int) := by omega
    have hT64 : T ≤ 64 := by omega
    have hm64 : m ≤ 64 := by omega
    obtain ⟨c, hc⟩ : ∃ c : Nat → Nat, c = fun s => lic f s N := ⟨_, rfl⟩
    rw [← hc] at HI ⊢
    obtain ⟨res, hres⟩ : ∃ res, res = dsr c (sls n (t + 1) v s) x := ⟨_, rfl⟩
    have HM : Hid (m = n - T ∧ T = t + 1 ∧ T ≤ n) := ⟨hm, hT, by omega⟩
    have H0 : Hid (dsr c (sgo (sls n t) s (n - t - v) v) x = res) := hres.symm
    have HP : Hid (∀ e w', w' = w → ((∃ k : Int, res = some k ∧ -1 ≤ k ∧ k ≤ 6000 ∧ e = .returned (.tuple #[.int .i64 k, .bool true])) ∨ (res = none ∧ ∃ k : Int, e = .returned (.tuple #[.int .i64 k, .bool false]))) → DeP c (sls n (t + 1) v s) x w e w') := fun e w' h1 h2 => ⟨h1, by rw [← hres]; exact h2⟩
    obtain ⟨Q, hQ⟩ : ∃ Q, Q = DeP c (sls n (t + 1) v s) x w := ⟨_, rfl⟩
    rw [← hQ] at HP ⊢
    rw [← hT]
    clear hres hm hT ht hQ hc hX hf
    go_enter Try.func14, Try.ntmps14
    go_wp2_with fail
    go_loopw [5, 16] (fun vx vi wr => ∃ (p : Nat) (y : Int), v ≤ p ∧ p ≤ 65 ∧ vi = .int .i64 (p : Nat) ∧ vx = .int .i64 y ∧ -1 ≤ y ∧ y ≤ 6000 ∧ Hid (dsr c (sgo (sls n t) s (n - t - p) p) y = res ∧ wr = w)) (fun _ vi _ => 66 - (intOf vi).toNat)
    case atStart => exact ⟨v, x, by omega, by omega, rfl, rfl, hx1, hx2, H0.out, rfl⟩
    case round =>
      obtain ⟨p, y, hp1, hp2, rfl, rfl, hy1, hy2, HG⟩ := hrel
      have hw := HG.out.2.symm
      subst hw
      by_cases hlt : p ≤ m
      · have hib : (p : Int) ≤ (m : Int) := by omega
        obtain ⟨p1, hp1e⟩ : ∃ p1, p1 = p + 1 := ⟨_, rfl⟩
        have hpw : IntKind.i64.wrap ((p : Int) + 1) = (p1 : Int) := by rw [hp1e]; exact wrap_to (by omega) (by omega)
        have hp1b : p1 ≤ 66 := by omega
        have HP1 : Hid (p1 = p + 1) := hp1e
        obtain ⟨P, hP⟩ : ∃ P, P = 2 ^ p := ⟨_, rfl⟩
        have hp64 : p < 64 := by have := HM.out; omega
        have hPb : P < 18446744073709551616 := by rw [hP]; exact Nat.lt_of_lt_of_le (Nat.pow_lt_pow_right (by decide) hp64) (by decide)
        have hsh : (2 : Int) ^ p = (P : Int) := by rw [hP]; simp
        have hPw : IntKind.u64.wrap (P : Int) = (P : Int) := wrap_u64 hPb
        obtain ⟨s1, hs1⟩ : ∃ s1, s1 = s ||| P := ⟨_, rfl⟩
        have hor : bits BinOp.or IntKind.u64 (s : Int) (P : Int) = (s1 : Int) := by rw [hs1]; exact or_u64 hs hPb
        have HC : Hid (Calls Try.prog 14 #[.int .i64 (n : Nat), .slice ao N ca, .int .i64 (t : Nat), .int .i64 (p1 : Nat), .int .u64 (s1 : Nat), .int .i64 y] w (DeP c (sls n t p1 s1) y w) ∧ (dsr c (sls n t p1 s1) y).bind (dsr c (sgo (sls n t) s (n - t - p1) p1)) = res) := by
          have hM := HM.out
          have e : sgo (sls n t) s (n - t - p) p = sls n t p1 s1 ++ sgo (sls n t) s (n - t - p1) p1 := by
            rw [show n - t - p = (n - t - p1) + 1 by omega, hs1, hP, hp1e]; rfl
          refine ⟨HI.out p1 s1 y (by omega) (by rw [hs1]; exact Nat.or_lt_two_pow (n := 64) hs hPb) hy1 hy2, ?_⟩
          rw [← dsr_app, ← e]
          exact HG.out.1
        clear HG hP hs1 hp1e
        go_wp2_with fail
        refine HC.out.1.mono ?_
        rintro e Y ⟨hw, ⟨k, hk, hk1, hk2, rfl⟩ | ⟨hk, k, rfl⟩⟩
        · have hw := hw.symm
          subst hw
          have H1 : Hid (dsr c (sgo (sls n t) s (n - t - p1) p1) k = res) := by
            have := HC.out.2
            rw [hk] at this
            exact this
          clear hk HC
          go_wp2
          go_roundw
          case rel => exact ⟨p1, k, by have := HP1.out; omega, by have := HP1.out; have := HM.out; omega, by first | rfl | rw [hpw] | (rw [HP1.out]; go_num), rfl, hk1, hk2, H1.out, by first | rfl | trivial⟩
          case measure => have := HP1.out; simp [intOf]; omega
        · have hw := hw.symm
          subst hw
          have H1 : Hid (res = none) := by
            have := HC.out.2
            rw [hk] at this
            exact this.symm
          have HF : Hid (Q (.returned (.tuple #[.int .i64 0, .bool false])) w) := HP.out _ _ rfl (Or.inr ⟨H1.out, 0, rfl⟩)
          clear hk HC H1
          go_wp2
          exact HF.out
      · have hib : ¬ (p : Int) ≤ (m : Int) := by omega
        have HF : Hid (Q (.returned (.tuple #[.int .i64 y, .bool true])) w) := by
          have hM := HM.out
          have := HG.out.1
          rw [show n - t - p = 0 by omega] at this
          exact HP.out _ _ rfl (Or.inl ⟨y, this.symm, hy1, hy2, rfl⟩)
        clear HG
        go_wp2
        exact HF.out
end Go.Proofs.Ytafebmhbfmdjlaa
