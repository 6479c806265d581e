/- Golay: all sets of so many places, one after another: more, sets. -/
import Derived.Test.YtafebmhbfmdjlaaZKR2
import Derived.Test.YtafebmhbfmdjlaaZW22
import Derived.Shelf.Abstract
import Derived.Shelf.RegionOpen
import Derived.OwnWalkIn
import Derived.TacticsInMore
import Derived.LoopNIn
import Derived.LoopIn
namespace Go.Proofs.Ytafebmhbfmdjlaa
open Go.RowKit Go.Shelf
attribute [local go_sem] Oper.semAt_some

def sgo (F : Nat → Nat → List Nat) (s : Nat) : Nat → Nat → List Nat
  | 0, _ => []
  | k + 1, v => F (v + 1) (s ||| 2 ^ v) ++ sgo F s k (v + 1)
/-- All sets with so many more of the places from one on. -/
def sls (n : Nat) : Nat → Nat → Nat → List Nat
  | 0, _, s => [s]
  | t + 1, v, s => sgo (sls n t) s (n - t - v) v

set_option maxHeartbeats 8000000 in
set_option maxRecDepth 100000 in
theorem more_leaf {l s v n : Nat} {W : World} {R : Ending → World → Prop} (hY : YieldAt Fence.wide 0 Try.prog l #[.int .u64 (s : Nat)] W R) (hR : ∀ e Y, R e Y → e = .returned (.bool true) ∨ e = .returned (.bool false)) :
    CallsIn Fence.wide 0 Try.prog 17 #[.int .u64 (s : Nat), .int .i64 (v : Nat), .int .i64 (n : Nat), .int .i64 0, .func (.yield l) #[] #[]] W R := by
  obtain ⟨fn, tmps, assign, body, hy, hRn⟩ := hY
  have HR : Hid (∀ e Y, R e Y → e = .returned (.bool true) ∨ e = .returned (.bool false)) := hR
  clear hR
  refine callsIn_of_wp Try.func17 rfl trivial ?_ rfl
  simp only [Try.ntmps17, List.size_toArray, List.length_cons, List.length_nil, Nat.reduceAdd, Nat.reduceSub, Array.replicate_succ, Array.replicate_zero, List.push_toArray, List.append_toArray, List.nil_append, List.cons_append]
  gi_wp2
  refine ⟨rfl, hRn.mono ?_⟩
  intro e Y hr
  rcases HR.out e Y hr with rfl | rfl
  · have HQ : Hid (R (.returned (.bool true)) Y) := hr
    clear hr
    gi_wp2
    exact HQ.out
  · have HQ : Hid (R (.returned (.bool false)) Y) := hr
    clear hr
    gi_wp2
    exact HQ.out

/-- What is asked of yield for the rest of a list. -/
def Yls (l : Nat) (J : Nat → World → Prop) (Jx : World → Prop) (L : List Nat) (r0 : Nat) : Prop :=
  ∀ i X, i < L.length → J (r0 + i) X → YieldAt Fence.wide 0 Try.prog l #[.int .u64 (L.getD i 0 : Nat)] X fun e Y => (e = .returned (.bool true) ∧ J (r0 + i + 1) Y) ∨ (e = .returned (.bool false) ∧ Jx Y)
theorem Yls.left {l r0 : Nat} {J : Nat → World → Prop} {Jx : World → Prop} {A B : List Nat} (h : Yls l J Jx (A ++ B) r0) : Yls l J Jx A r0 := fun i X hi hj => by
  have := h i X (by rw [List.length_append]; omega) hj
  rw [show (A ++ B).getD i 0 = A.getD i 0 by simp only [List.getD_eq_getElem?_getD]; rw [List.getElem?_append_left hi]] at this
  exact this
theorem Yls.right {l r0 : Nat} {J : Nat → World → Prop} {Jx : World → Prop} {A B : List Nat} (h : Yls l J Jx (A ++ B) r0) : Yls l J Jx B (r0 + A.length) := fun i X hi hj => by
  have := h (A.length + i) X (by rw [List.length_append]; omega) (by rw [← Nat.add_assoc]; exact hj)
  rw [show (A ++ B).getD (A.length + i) 0 = B.getD i 0 by simp only [List.getD_eq_getElem?_getD]; rw [List.getElem?_append_right (by omega), Nat.add_sub_cancel_left]] at this
  rw [← Nat.add_assoc] at this
  exact this
/-- What more tells. -/
def MoP (J : Nat → World → Prop) (Jx : World → Prop) (N : Nat) (e : Ending) (Y : World) : Prop := (e = .returned (.bool true) ∧ J N Y) ∨ (e = .returned (.bool false) ∧ Jx Y)

set_option maxHeartbeats 8000000 in
set_option maxRecDepth 100000 in
theorem more_any {n l : Nat} {J : Nat → World → Prop} {Jx : World → Prop} (hn : n ≤ 64) :
    ∀ (t v s r0 : Nat) (W : World), t ≤ n → v ≤ n → s < 18446744073709551616 → Yls l J Jx (sls n t v s) r0 → J r0 W →
      Calls Try.prog 17 #[.int .u64 (s : Nat), .int .i64 (v : Nat), .int .i64 (n : Nat), .int .i64 (t : Nat), .func (.yield l) #[] #[]] W (MoP J Jx (r0 + (sls n t v s).length))
  | 0, v, s, r0, W, ht, hv, hs, hY, hj => by
    refine callsIn_wide.1 (more_leaf (hY 0 W (by show 0 < 1; omega) hj) ?_)
    rintro e Y (⟨rfl, _⟩ | ⟨rfl, _⟩)
    · exact Or.inl rfl
    · exact Or.inr rfl
  | t + 1, v, s, r0, W, ht, hv, hs, hY, hj => by
    have HI : Hid (∀ (v s r0 : Nat) (W : World), v ≤ n → s < 18446744073709551616 → Yls l J Jx (sls n t v s) r0 → J r0 W → Calls Try.prog 17 #[.int .u64 (s : Nat), .int .i64 (v : Nat), .int .i64 (n : Nat), .int .i64 (t : Nat), .func (.yield l) #[] #[]] W (MoP J Jx (r0 + (sls n t v s).length))) := fun v s r0 W h1 h2 h3 h4 => more_any hn t v s r0 W (by omega) h1 h2 h3 h4
    obtain ⟨T, hT⟩ : ∃ T, T = t + 1 := ⟨_, rfl⟩
    obtain ⟨m, hm⟩ : ∃ m, m = n - T := ⟨_, rfl⟩
    have hTi : (T : Int) - 1 = (t : Int) := by omega
    have hTz : ((T : Int) == 0) = false := by rw [beq_eq_false_iff_ne]; omega
    have hmi : (n : Int) - (T : Int) = (m : Int) := by omega
    have hT64 : T ≤ 64 := by omega
    have hm64 : m ≤ 64 := by omega
    obtain ⟨N, hN⟩ : ∃ N, N = r0 + (sls n (t + 1) v s).length := ⟨_, rfl⟩
    have HM : Hid (m = n - T ∧ T = t + 1 ∧ T ≤ n) := ⟨hm, hT, by omega⟩
    have H0 : Hid (∃ r, J r W ∧ Yls l J Jx (sgo (sls n t) s (n - t - v) v) r ∧ r + (sgo (sls n t) s (n - t - v) v).length = N) := ⟨r0, hj, hY, hN.symm⟩
    rw [← hN, ← hT]
    clear hj hY hN hm hT ht
    go_enter Try.func17, Try.ntmps17
    go_wp2_with fail
    go_loopw [11] (fun vi wr => ∃ p : Nat, v ≤ p ∧ p ≤ 65 ∧ vi = .int .i64 (p : Nat) ∧ Hid (∃ r, J r wr ∧ Yls l J Jx (sgo (sls n t) s (n - t - p) p) r ∧ r + (sgo (sls n t) s (n - t - p) p).length = N)) (fun vi _ => 66 - (intOf vi).toNat)
    case atStart => exact ⟨v, by omega, by omega, rfl, H0⟩
    case round =>
      obtain ⟨p, hp1, hp2, rfl, HG⟩ := hrel
      rename World => wr
      by_cases hlt : p ≤ m
      · have hib : (p : Int) ≤ (m : Int) := by omega
        obtain ⟨p1, hp1e⟩ : ∃ p1, p1 = p + 1 := ⟨_, rfl⟩
        have hpw : IntKind.i64.wrap ((p : Int) + 1) = (p1 : Int) := by rw [hp1e]; exact wrap_to (by omega) (by omega)
        have hp1b : p1 ≤ 66 := by omega
        have HP1 : Hid (p1 = p + 1) := hp1e
        obtain ⟨P, hP⟩ : ∃ P, P = 2 ^ p := ⟨_, rfl⟩
        have hp64 : p < 64 := by have := HM.out; omega
        have hPb : P < 18446744073709551616 := by rw [hP]; exact Nat.lt_of_lt_of_le (Nat.pow_lt_pow_right (by decide) hp64) (by decide)
        have hsh : (2 : Int) ^ p = (P : Int) := by rw [hP]; simp
        have hPw : IntKind.u64.wrap (P : Int) = (P : Int) := wrap_u64 hPb
        obtain ⟨s1, hs1⟩ : ∃ s1, s1 = s ||| P := ⟨_, rfl⟩
        have hor : bits BinOp.or IntKind.u64 (s : Int) (P : Int) = (s1 : Int) := by rw [hs1]; exact or_u64 hs hPb
        have HC : Hid (∃ N1, Calls Try.prog 17 #[.int .u64 (s1 : Nat), .int .i64 (p1 : Nat), .int .i64 (n : Nat), .int .i64 (t : Nat), .func (.yield l) #[] #[]] wr (MoP J Jx N1) ∧ Yls l J Jx (sgo (sls n t) s (n - t - p1) p1) N1 ∧ N1 + (sgo (sls n t) s (n - t - p1) p1).length = N) := by
          obtain ⟨r, g1, g2, g3⟩ := HG.out
          have hM := HM.out
          have e : sgo (sls n t) s (n - t - p) p = sls n t p1 s1 ++ sgo (sls n t) s (n - t - p1) p1 := by
            rw [show n - t - p = (n - t - p1) + 1 by omega, hs1, hP, hp1e]; rfl
          rw [e] at g2 g3
          refine ⟨r + (sls n t p1 s1).length, HI.out p1 s1 r wr (by omega) (by rw [hs1]; exact Nat.or_lt_two_pow (n := 64) hs hPb) g2.left g1, g2.right, ?_⟩
          rw [List.length_append] at g3
          omega
        clear HG hP hs1 hp1e
        obtain ⟨N1, hN1⟩ : ∃ N1, Hid (Calls Try.prog 17 #[.int .u64 (s1 : Nat), .int .i64 (p1 : Nat), .int .i64 (n : Nat), .int .i64 (t : Nat), .func (.yield l) #[] #[]] wr (MoP J Jx N1) ∧ Yls l J Jx (sgo (sls n t) s (n - t - p1) p1) N1 ∧ N1 + (sgo (sls n t) s (n - t - p1) p1).length = N) := HC.out
        clear HC
        go_wp2_with fail
        refine hN1.out.1.mono ?_
        rintro e Y (⟨rfl, hS⟩ | ⟨rfl, hS⟩)
        · have H1 : Hid (∃ r, J r Y ∧ Yls l J Jx (sgo (sls n t) s (n - t - p1) p1) r ∧ r + (sgo (sls n t) s (n - t - p1) p1).length = N) := ⟨N1, hS, hN1.out.2.1, hN1.out.2.2⟩
          clear hS hN1
          go_wp2
          go_roundw
          case rel => exact ⟨p1, by have := HP1.out; omega, by have := HP1.out; have := HM.out; omega, by first | rfl | rw [hpw] | (rw [HP1.out]; go_num), H1⟩
          case measure => have := HP1.out; simp [intOf]; omega
        · have H1 : Hid (Jx Y) := hS
          clear hS hN1
          go_wp2
          go_ret
          exact Or.inr ⟨rfl, H1.out⟩
      · have hib : ¬ (p : Int) ≤ (m : Int) := by omega
        have H1 : Hid (J N wr) := by
          obtain ⟨r, g1, g2, g3⟩ := HG.out
          have hM := HM.out
          rw [show n - t - p = 0 by omega] at g3
          have e : r = N := g3
          show J N wr
          rw [← e]; exact g1
        go_wp2
        go_ret
        exact Or.inl ⟨rfl, H1.out⟩
end Go.Proofs.Ytafebmhbfmdjlaa
