/- Texts of ours, one behind the other: KV31 KV32. -/
import Derived.Test.YtlljaliemldjkaaZKV22
import Derived.Test.YtlljaliemldjkaaZKE17
import Derived.Test.YtlljaliemldjkaaZL10
/- Rules out of raw numbers (RulesOf). -/
namespace Go.Proofs.Ytlljaliemldjkaa
open Go.RowKit Go.Sort

theorem pkt_any {c : Int} (hc : I64 c) {n : Nat} (h0 : 0 < n) (hn : n ≤ 1000) : ∃ x : Nat, x < n ∧ ∀ w : World, Calls Try.prog 19 #[.int .i64 c, .int .i64 (n : Nat)] w fun e w' => e = .returned (.int .i64 (x : Nat)) ∧ w' = w := by
  have h1 := pick_lo c (n : Int) (by omega)
  have h2 := pick_hi c (n : Int) (by omega)
  refine ⟨(pick c (n : Int)).toNat, by omega, fun w => ?_⟩
  have h := pick_any c (n : Int) w hc.1 hc.2 (by omega) (by omega)
  rw [show (((pick c (n : Int)).toNat : Nat) : Int) = pick c (n : Int) by omega]
  exact h

set_option maxHeartbeats 8000000 in
set_option maxRecDepth 100000 in
theorem rulesOf_any {ao : Option Addr} {n ca : Nat} {z : Nat → Int} {w : World} (h : Arg ao n ca z w) (hn : n ≤ 1000) {many : Int} (hm : I64 many) :
    Calls Try.prog 17 #[.slice ao n ca, .int .i64 many] w fun e w' => ∃ (v : Value) (R : Nat) (y : Nat → Nat), e = .returned v ∧ OwnI w.heap.size v (zl R fun j => ((y j : Nat) : Int)) w' ∧ 1 ≤ R ∧ R ≤ 3 ∧ (∀ j, j < R → 1 ≤ y j ∧ y j ≤ 31) ∧ Below w.heap.size w w' := by
  obtain ⟨M, hM, hpM⟩ := pkt_any hm (n := 3) (by omega) (by omega)
  obtain ⟨R, hR⟩ : ∃ R, R = 1 + M := ⟨_, rfl⟩
  have hRw : IntKind.i64.wrap (1 + (M : Int)) = (R : Int) := wrap_to (by omega) (by omega)
  have hR3 : 1 ≤ R ∧ R ≤ 3 := by omega
  have HA : Hid (Arg ao n ca z w) := h
  have HP : Hid (∀ w : World, Calls Try.prog 19 #[.int .i64 many, .int .i64 3] w fun e w' => e = .returned (.int .i64 (M : Nat)) ∧ w' = w) := hpM
  have HPi : Hid (∀ x, I64 x → ∃ M : Nat, M < 31 ∧ ∀ w : World, Calls Try.prog 19 #[.int .i64 x, .int .i64 31] w fun e w' => e = .returned (.int .i64 (M : Nat)) ∧ w' = w) := fun x hx => pkt_any hx (n := 31) (by omega) (by omega)
  clear h hm hpM hR
  go_enter Try.func17, Try.ntmps17
  go_wp2
  go_loopw [5, 6] (fun vl vi wr => ∃ (r : Nat) (y : Nat → Nat), r ≤ R ∧ vi = .int .i64 r ∧ Hid (OwnI w.heap.size vl (zl r fun j => ((y j : Nat) : Int)) wr ∧ (∀ j, j < r → 1 ≤ y j ∧ y j ≤ 31) ∧ Below w.heap.size w wr)) (fun _ vi _ => R - (intOf vi).toNat)
  case atStart => exact ⟨0, fun _ => 0, by omega, rfl, OwnI.nil _ _, fun j hj => absurd hj (by omega), Below.refl _ _⟩
  case round =>
    obtain ⟨r, y, hr, rfl, HG⟩ := hrel
    rename World => wr
    go_wp2_with fail
    refine (HP.out wr).mono ?_
    rintro e w' ⟨rfl, hw⟩
    have hw := hw.symm
    subst hw
    by_cases hlt : r < R
    · have hib : (r : Int) < (R : Int) := by omega
      have HR : Hid (Calls Try.prog 20 #[.slice ao n ca, .int .i64 (r : Nat)] wr fun e w' => (∃ x, e = .returned (.int .i64 x) ∧ I64 x) ∧ ∃ k, w' = wr.drewN k) := raw_any (HA.out.below HG.out.2.2) hn r (by omega)
      go_wp2_with fail
      refine HR.out.mono ?_
      rintro e w1 ⟨⟨x, rfl, hx⟩, k1, hw1'⟩
      have HG1 : Hid (OwnI w.heap.size u5 (zl r fun j => ((y j : Nat) : Int)) w1 ∧ Below w.heap.size w w1) := by rw [hw1']; exact ⟨HG.out.1.drewN _, below_drewN2 HG.out.2.2 _⟩
      have hsz1 := HG1.out.2.size
      obtain ⟨q, hq, hpq⟩ := HPi.out x hx
      have HPq : Hid (∀ w : World, Calls Try.prog 19 #[.int .i64 x, .int .i64 31] w fun e w' => e = .returned (.int .i64 (q : Nat)) ∧ w' = w) := hpq
      obtain ⟨q1, hq1⟩ : ∃ q1, q1 = 1 + q := ⟨_, rfl⟩
      have hq1w : IntKind.i64.wrap (1 + (q : Int)) = (q1 : Int) := wrap_to (by omega) (by omega)
      have hq1i : 1 + (q : Int) = (q1 : Int) := by omega
      have hq1b : 1 ≤ q1 ∧ q1 ≤ 31 := by omega
      have hml : (zl r fun j => ((y j : Nat) : Int)).length ≤ 1000 := by rw [zl_len]; omega
      clear hw1' hx hpq HR hq1
      go_wp2_with (first
        | (go_at_call 19; refine (HPq.out _).mono ?_; rintro e w' ⟨rfl, hw⟩; have hw := hw.symm; subst hw)
        | (at_builtin; refine append_int rfl _ _ rfl w.heap.size _ (zl r fun j => ((y j : Nat) : Int)) rfl (HG1.out.1.alloc _) ⟨_, 0, none⟩ 1 (q1 : Int) rfl (by simp) (by omega) (by simp; omega) ?_; intro v2 w3 hown3 hgrow3))
      have HX : Hid (OwnI w.heap.size v2 (zl (r + 1) (fun j => (((if j = r then q1 else y j) : Nat) : Int))) w3 ∧ (∀ j, j < r + 1 → 1 ≤ (if j = r then q1 else y j) ∧ (if j = r then q1 else y j) ≤ 31) ∧ Below w.heap.size w w3) := by
        refine ⟨?_, fun j hj => ?_, (HG1.out.2.alloc hsz1 _).grown hgrow3 (by simp; omega) (fun k hk => (HG1.out.1.lt k hk).1)⟩
        · rw [zl_succ, zl_congr (y := fun j => ((y j : Nat) : Int)) (fun j hj => by show (((if j = r then q1 else y j) : Nat) : Int) = _; rw [if_neg (by omega)])]
          show OwnI w.heap.size v2 ((zl r fun j => ((y j : Nat) : Int)) ++ [(((if r = r then q1 else y r) : Nat) : Int)]) w3
          rw [if_pos rfl]; exact hown3
        · by_cases e : j = r
          · rw [if_pos e]; exact hq1b
          · rw [if_neg e]; exact HG.out.2.1 j (by omega)
      clear hown3 hgrow3
      go_roundw
      case rel => exact ⟨r + 1, fun j => if j = r then q1 else y j, by omega, by go_num, HX.out⟩
      case measure => simp [intOf]; omega
    · have hib : ¬ (r : Int) < (R : Int) := by omega
      have HE : Hid (OwnI w.heap.size u5 (zl R fun j => ((y j : Nat) : Int)) wr ∧ (∀ j, j < R → 1 ≤ y j ∧ y j ≤ 31) ∧ Below w.heap.size w wr) := by rw [show R = r by omega]; exact HG.out
      go_wp2
      go_ret
      exact ⟨_, R, y, rfl, HE.out.1, hR3.1, hR3.2, HE.out.2.1, HE.out.2.2⟩
end Go.Proofs.Ytlljaliemldjkaa

/- TrellisMade: its walk. -/
namespace Go.Proofs.Ytlljaliemldjkaa
open Go.RowKit Go.Sort

/-- The list that RulesOf makes. -/
theorem rulesA_any {ao : Option Addr} {n ca : Nat} {z : Nat → Int} {w : World} (h : Arg ao n ca z w) (hn : n ≤ 1000) {many : Int} (hm : I64 many) :
    Calls Try.prog 17 #[.slice ao n ca, .int .i64 many] w fun e w' => ∃ (ro : Option Addr) (R rc : Nat) (y : Nat → Nat), e = .returned (.slice ro R rc) ∧ R ≤ 3 ∧ RlA ro R y w' ∧ ArgL ro R rc (fun i => ((y i : Nat) : Int)) w' ∧ Below w.heap.size w w' := by
  refine (rulesOf_any h hn hm).mono ?_
  rintro e w' ⟨v, R, y, rfl, ho, h1, h3, hy, hb'⟩
  obtain ⟨ro, rc, rfl, hA⟩ := ho.argL
  exact ⟨ro, R, rc, y, rfl, h3, ⟨⟨hA.sl, h1, h3, fun i hi => (hy i hi).1, fun i hi => (hy i hi).2⟩, hA.lt⟩, hA, hb'⟩
theorem ArgL.below' {ao : Option Addr} {n cap : Nat} {z : Nat → Int} {w w' : World} (h : ArgL ao n cap z w) (hb : Below w.heap.size w w') : ArgL ao n cap z w' := ⟨h.sl.below hb h.lt, h.lt.mono hb.size, h.nil, h.le, h.cap⟩

end Go.Proofs.Ytlljaliemldjkaa
