/- Texts of ours, one behind the other: KL8 W18 S49 S50 S52 S53 S54 KO1 KO2 KO3. -/
import Derived.Test.YtmklnjkallhphaaZKE21
import Derived.Test.YtmklnjkallhphaaZW9
import Derived.Test.YtmklnjkallhphaaZV7
import Derived.Test.YtmklnjkallhphaaZI21
import Derived.Test.YtmklnjkallhphaaZS8
import Derived.Test.YtmklnjkallhphaaZKA6
import Derived.Test.YtmklnjkallhphaaZX18
import Derived.Test.YtmklnjkallhphaaZI10
import Derived.Test.YtmklnjkallhphaaZA1
import Derived.Test.YtmklnjkallhphaaZL10
import Derived.Test.YtmklnjkallhphaaZN1
/- code.Weights where there is none; code.Distance. -/
namespace Go.Proofs.Ytmklnjkallhphaa
open Go.RowKit Go.Sort Go.Shelf

/-- The least place above 0 at which there is something; 0: there is none. -/
def Lwt (c : Nat → Nat) (N d : Nat) : Prop := (d = 0 ∧ ∀ i, 0 < i → i < N → c i = 0) ∨ (0 < d ∧ d < N ∧ 0 < c d ∧ ∀ i, 0 < i → i < d → c i = 0)
theorem Lwt.uniq {c : Nat → Nat} {N d e : Nat} (h : Lwt c N d) (h' : Lwt c N e) : d = e := by
  rcases h with ⟨h1, h2⟩ | ⟨h1, h2, h3, h4⟩
  · rcases h' with ⟨k1, k2⟩ | ⟨k1, k2, k3, k4⟩
    · omega
    · have := h2 e k1 k2; omega
  · rcases h' with ⟨k1, k2⟩ | ⟨k1, k2, k3, k4⟩
    · have := k2 d h1 h2; omega
    · rcases Nat.lt_trichotomy d e with h5 | h5 | h5
      · have := k4 d h1 h5; omega
      · exact h5
      · have := h4 e k1 h5; omega
end Go.Proofs.Ytmklnjkallhphaa

/- Lists of lists that the call made itself, to be handed in. -/
namespace Go.Proofs.Ytmklnjkallhphaa
open Go.RowKit Go.Sort

theorem LLs.atE {base n cap : Nat} {ao : Option Addr} {L : List (Nat × (Nat → Nat))} {w : World} (h : LLs base (.slice ao n cap) L w) {j : Nat} {p : Nat × (Nat → Nat)} (hj : L[j]? = some p) : ∃ g b cp, ao = some ⟨g, 0, none⟩ ∧ w.cell? ⟨g, j, none⟩ = some (.slice (some ⟨b, 0, none⟩) (p.1 + 1) cp) ∧ Elm (.slice (some ⟨b, 0, none⟩) (p.1 + 1) cp) p w := by
  obtain ⟨l, h1, h2⟩ := h
  obtain ⟨ao', cap', e, _, _, _, hc⟩ := h1.open
  cases e
  have hjl : j < l.length := by rw [h2.1]; exact (List.getElem?_eq_some_iff.1 hj).1
  obtain ⟨g, e1, e2, _⟩ := hc j l[j] (List.getElem?_eq_getElem hjl)
  have e3 := h2.2 j l[j] p (List.getElem?_eq_getElem hjl) hj
  obtain ⟨b, cp, e4, e5⟩ := e3
  rw [e4] at e2
  exact ⟨g, b, cp, e1, e2, b, cp, rfl, e5⟩
theorem LLs.matZN {base k n : Nat} {v : Value} {R : Nat → Nat → Nat} {w : World} (h : LLs base v (Go.Proofs.Ytmklnjkallhphaa.rl k n R) w) (hn : n + 1 ≤ 1000000) : ∃ ao cap A C, v = .slice ao k cap ∧ MatZ ao k A (fun _ => n + 1) C (fun i j => ((R i j : Nat) : Int)) w := by
  classical
  obtain ⟨ao, cap, hv⟩ := h.slice
  rw [rl_len] at hv
  subst hv
  have key : ∀ i, ∃ p : Nat × Nat, i < k → ∃ g, ao = some ⟨g, 0, none⟩ ∧ w.cell? ⟨g, i, none⟩ = some (.slice (some ⟨p.1, 0, none⟩) (n + 1) p.2) ∧ Elm (.slice (some ⟨p.1, 0, none⟩) (n + 1) p.2) (n, R i) w := fun i => by
    by_cases e : i < k
    · obtain ⟨g, b, cp, h1, h2, h3⟩ := h.atE (rl_get k n R i e)
      exact ⟨(b, cp), fun _ => ⟨g, h1, h2, h3⟩⟩
    · exact ⟨(0, 0), fun x => absurd x e⟩
  obtain ⟨P, hP⟩ : ∃ P : Nat → Nat × Nat, ∀ i, i < k → ∃ g, ao = some ⟨g, 0, none⟩ ∧ w.cell? ⟨g, i, none⟩ = some (.slice (some ⟨(P i).1, 0, none⟩) (n + 1) (P i).2) ∧ Elm (.slice (some ⟨(P i).1, 0, none⟩) (n + 1) (P i).2) (n, R i) w := ⟨fun i => Classical.choose (key i), fun i hi => Classical.choose_spec (key i) hi⟩
  have hE : ∀ i, i < k → n + 1 ≤ (P i).2 ∧ (P i).2 ≤ 9223372036854775807 ∧ Row (P i).1 (n + 1) (R i) w := fun i hi => by
    obtain ⟨g, _, _, g2, c2, e, h1, h2, h3⟩ := hP i hi
    cases e
    exact ⟨h1, h2, h3⟩
  refine ⟨ao, cap, fun i => some ⟨(P i).1, 0, none⟩, fun i => (P i).2, rfl, fun i hi => ?_, fun i hi => ?_, fun i hi => (hE i hi).1, fun i hi => (hE i hi).2.1, fun i hi e => (by cases e), fun i hi => hn⟩
  · obtain ⟨g, h1, h2, _⟩ := hP i hi
    exact ⟨g, 0, h1, by rw [Nat.zero_add]; exact h2⟩
  · exact ((hE i hi).2.2.sl (Nat.le_refl _)).z
end Go.Proofs.Ytmklnjkallhphaa

/- Plain mathematics: sums over a field's elements, and over all words. No Go text here. -/
namespace Go.Proofs.Ytmklnjkallhphaa
open Go.RowKit Go.Sort

/-- One sign of a word told otherwise. -/
def pt (v : Nat → Nat) (n a : Nat) : Nat → Nat := fun j => if j = n then a else v j
end Go.Proofs.Ytmklnjkallhphaa

/- Plain mathematics: MacWilliams' identity, by sums over all words. No Go text here. -/
namespace Go.Proofs.Ytmklnjkallhphaa
open Go.RowKit Go.Sort

end Go.Proofs.Ytmklnjkallhphaa

/- Plain mathematics: the weights of a code, gone through by its messages, and MacWilliams' identity for them. No Go text here. -/
namespace Go.Proofs.Ytmklnjkallhphaa
open Go.RowKit Go.Sort

end Go.Proofs.Ytmklnjkallhphaa

/- A code's weights and those of its dual: what weights.Dual makes of them. -/
namespace Go.Proofs.Ytmklnjkallhphaa
open Go.RowKit Go.Sort

/-- No more rows than there were. -/
theorem Red.few {D : FD} (hD : D ∈ fieldsL) {n m k : Nat} {M R : Nat → Nat → Nat} (h : Red D n m M k R) (he : ∀ i, i < m → El D (M i) ∧ Bd n (M i)) : k ≤ m := by
  obtain ⟨k', R', p', hk, hr, hs⟩ := rre_ex hD (fun i hi => (he i hi).1) (fun i hi => (he i hi).2)
  have := (Red.uniq (fld hD) h ⟨p', hr, hs⟩ (fun _ => Iff.rfl)).1
  omega
end Go.Proofs.Ytmklnjkallhphaa

/- Plain mathematics: the bounds of Singleton, Delsarte and Plotkin for a code whose words lie apart. No Go text here. -/
namespace Go.Proofs.Ytmklnjkallhphaa
open Go.RowKit Go.Sort

end Go.Proofs.Ytmklnjkallhphaa

/- Muller: what is said of a code's numbers, both sides; how many ones a number has. -/
namespace Go.Proofs.Ytmklnjkallhphaa
open Go.RowKit Go.Sort

/-- What is wrong with a code's numbers. -/
def mck (r m : Int) : Int := if m < 1 ∨ 5 < m then 4 else if r < 0 ∨ m < r then 6 else 0
set_option maxHeartbeats 2000000 in
set_option maxRecDepth 100000 in
theorem mullerMay_any (r m : Int) (w : World) : Calls Try.prog 7 #[.int .i64 r, .int .i64 m] w fun e w' => e = .returned (.int .i64 (mck r m)) ∧ w' = w := by
  by_cases h1 : m < 1
  · have HE : Hid (mck r m = 4) := by show mck r m = 4; unfold mck; rw [if_pos (Or.inl h1)]
    go_enter Try.func7, Try.ntmps7
    go_wp2
    go_ret
    exact ⟨by rw [HE.out]; rfl, rfl⟩
  by_cases h2 : 5 < m
  · have HE : Hid (mck r m = 4) := by show mck r m = 4; unfold mck; rw [if_pos (Or.inr h2)]
    go_enter Try.func7, Try.ntmps7
    go_wp2
    go_ret
    exact ⟨by rw [HE.out]; rfl, rfl⟩
  by_cases h3 : r < 0
  · have HE : Hid (mck r m = 6) := by show mck r m = 6; unfold mck; rw [if_neg (by omega), if_pos (Or.inl h3)]
    go_enter Try.func7, Try.ntmps7
    go_wp2
    go_ret
    exact ⟨by rw [HE.out]; rfl, rfl⟩
  by_cases h4 : m < r
  · have HE : Hid (mck r m = 6) := by show mck r m = 6; unfold mck; rw [if_neg (by omega), if_pos (Or.inr h4)]
    go_enter Try.func7, Try.ntmps7
    go_wp2
    go_ret
    exact ⟨by rw [HE.out]; rfl, rfl⟩
  · have HE : Hid (mck r m = 0) := by show mck r m = 0; unfold mck; rw [if_neg (by omega), if_neg (by omega)]
    go_enter Try.func7, Try.ntmps7
    go_wp2
    go_ret
    exact ⟨by rw [HE.out]; rfl, rfl⟩

set_option maxHeartbeats 2000000 in
set_option maxRecDepth 100000 in
theorem mullCheck_any (r m : Int) (w : World) : Calls Try.prog 10 #[.int .i64 r, .int .i64 m] w fun e w' => e = .returned (.int .i64 (mck r m)) ∧ w' = w := by
  by_cases h1 : m < 1
  · have HE : Hid (mck r m = 4) := by show mck r m = 4; unfold mck; rw [if_pos (Or.inl h1)]
    go_enter Try.func10, Try.ntmps10
    go_wp2
    go_ret
    exact ⟨by rw [HE.out]; rfl, rfl⟩
  by_cases h2 : 5 < m
  · have HE : Hid (mck r m = 4) := by show mck r m = 4; unfold mck; rw [if_pos (Or.inr h2)]
    go_enter Try.func10, Try.ntmps10
    go_wp2
    go_ret
    exact ⟨by rw [HE.out]; rfl, rfl⟩
  by_cases h3 : r < 0
  · have HE : Hid (mck r m = 6) := by show mck r m = 6; unfold mck; rw [if_neg (by omega), if_pos (Or.inl h3)]
    go_enter Try.func10, Try.ntmps10
    go_wp2
    go_ret
    exact ⟨by rw [HE.out]; rfl, rfl⟩
  by_cases h4 : m < r
  · have HE : Hid (mck r m = 6) := by show mck r m = 6; unfold mck; rw [if_neg (by omega), if_pos (Or.inr h4)]
    go_enter Try.func10, Try.ntmps10
    go_wp2
    go_ret
    exact ⟨by rw [HE.out]; rfl, rfl⟩
  · have HE : Hid (mck r m = 0) := by show mck r m = 0; unfold mck; rw [if_neg (by omega), if_neg (by omega)]
    go_enter Try.func10, Try.ntmps10
    go_wp2
    go_ret
    exact ⟨by rw [HE.out]; rfl, rfl⟩

/-- How many ones a number has, of so many places. -/
def pcn : Nat → Nat → Nat
  | 0, _ => 0
  | f + 1, s => s % 2 + pcn f (s / 2)
theorem pcn_nil : ∀ f, pcn f 0 = 0
  | 0 => rfl
  | f + 1 => by show 0 % 2 + pcn f (0 / 2) = 0; rw [show 0 / 2 = 0 from rfl, pcn_nil f]
theorem pcn_le : ∀ f s, pcn f s ≤ f
  | 0, _ => Nat.le_refl _
  | f + 1, s => by
    have := pcn_le f (s / 2)
    show s % 2 + pcn f (s / 2) ≤ f + 1
    omega
/-- How many ones a number below 64 has. -/
def pc (s : Nat) : Nat := pcn 6 s
set_option maxHeartbeats 2000000 in
set_option maxRecDepth 100000 in
theorem ones_any (s : Nat) (hs : s < 64) (w : World) : Calls Try.prog 35 #[.int .i64 (s : Nat)] w fun e w' => e = .returned (.int .i64 (pc s : Nat)) ∧ w' = w := by
  go_enter Try.func35, Try.ntmps35
  go_wp2
  go_loopw [0, 3] (fun vs vn wr => ∃ f t a : Nat, vs = .int .i64 (t : Nat) ∧ vn = .int .i64 (a : Nat) ∧ f ≤ 6 ∧ a ≤ 6 ∧ t < 64 ∧ Hid (t < 2 ^ f ∧ a + pcn f t = pc s) ∧ wr = w) (fun vs _ _ => (intOf vs).toNat)
  case atStart => exact ⟨6, s, 0, rfl, rfl, by omega, by omega, hs, ⟨hs, by unfold pc; omega⟩, rfl⟩
  case round =>
    obtain ⟨f, t, a, rfl, rfl, hf, ha, ht, HI, hw⟩ := hrel
    have hw := hw.symm
    subst hw
    by_cases h0 : 0 < t
    · have h0i : (0 : Int) < (t : Int) := by omega
      obtain ⟨x, hx⟩ : ∃ x, x = t % 2 := ⟨_, rfl⟩
      obtain ⟨d, hd⟩ : ∃ d, d = t / 2 := ⟨_, rfl⟩
      have hm : (t : Int).tmod 2 = (x : Int) := by rw [Int.tmod_eq_emod_of_nonneg (by omega), hx]; rfl
      have hq : (t : Int).tdiv 2 = (d : Int) := by rw [Int.tdiv_eq_ediv_of_nonneg (by omega), hd]; rfl
      have hdt : d < t := by omega
      have hx2 : x < 2 := by omega
      have HX : Hid (∃ f', f' ≤ 6 ∧ a + x ≤ 6 ∧ d < 2 ^ f' ∧ a + x + pcn f' d = pc s) := by
        obtain ⟨h1, h2⟩ := HI.out
        cases f with
        | zero => exfalso; have : t < 1 := h1; omega
        | succ f =>
          have h3 : a + (t % 2 + pcn f (t / 2)) = pc s := h2
          have h4 : pc s ≤ 6 := pcn_le 6 s
          refine ⟨f, by omega, by omega, ?_, by rw [hx, hd]; omega⟩
          rw [Nat.pow_succ] at h1
          omega
      clear hx hd
      go_wp2
      go_roundw
      case rel =>
        obtain ⟨f', h1, h2, h3, h4⟩ := HX.out
        exact ⟨f', d, a + x, rfl, by go_num, h1, h2, by omega, ⟨h3, h4⟩, by first | rfl | trivial⟩
      case measure => simp [intOf]; omega
    · have h0i : ¬ (0 : Int) < (t : Int) := by omega
      have HE : Hid (a = pc s) := by
        obtain ⟨h1, h2⟩ := HI.out
        rw [show t = 0 by omega, pcn_nil] at h2
        exact h2
      go_wp2
      go_ret
      exact ⟨by rw [HE.out]; rfl, rfl⟩
end Go.Proofs.Ytmklnjkallhphaa

/- Muller: the reference's list of monomials. -/
namespace Go.Proofs.Ytmklnjkallhphaa
open Go.RowKit Go.Sort

/-- The numbers below c with j ones. -/
def mrw (j : Nat) : Nat → List Nat
  | 0 => []
  | c + 1 => mrw j c ++ if pc c = j then [c] else []
/-- The numbers of m places with less than so many ones, by how many they have. -/
def mnl (m : Nat) : Nat → List Nat
  | 0 => []
  | j + 1 => mnl m j ++ mrw j (2 ^ m)
/-- A list of numbers as the program has it. -/
def nli (l : List Nat) : List Int := l.map (fun x => ((x : Nat) : Int))
theorem nli_len (l : List Nat) : (nli l).length = l.length := List.length_map _
theorem nli_app (a b : List Nat) : nli (a ++ b) = nli a ++ nli b := List.map_append
theorem mrw_len (j : Nat) : ∀ c, (mrw j c).length ≤ c
  | 0 => Nat.le_refl _
  | c + 1 => by
    have := mrw_len j c
    show (mrw j c ++ if pc c = j then [c] else []).length ≤ c + 1
    rw [List.length_append]
    split <;> simp <;> omega
theorem mnl_len {m : Nat} (hm : m ≤ 5) : ∀ j, (mnl m j).length ≤ j * 32
  | 0 => by show 0 ≤ _; omega
  | j + 1 => by
    have h1 := mnl_len hm j
    have h2 := mrw_len j (2 ^ m)
    have h3 : 2 ^ m ≤ 2 ^ 5 := Nat.pow_le_pow_right (by omega) hm
    show (mnl m j ++ mrw j (2 ^ m)).length ≤ _
    rw [List.length_append]
    omega

set_option maxHeartbeats 8000000 in
set_option maxRecDepth 100000 in
theorem rmonos_any (r m : Nat) (hm1 : 1 ≤ m) (hm : m ≤ 5) (hr : r ≤ m) (w : World) :
    Calls Try.prog 12 #[.int .i64 (r : Nat), .int .i64 (m : Nat)] w fun e w' => ∃ v, e = .returned v ∧ OwnI w.heap.size v (nli (mnl m (r + 1))) w' ∧ Below w.heap.size w w' := by
  obtain ⟨P, hP⟩ : ∃ P, P = 2 ^ m := ⟨_, rfl⟩
  have hPb : P ≤ 32 := by rw [hP]; exact Nat.pow_le_pow_right (by omega) hm
  have HP : Hid (P = 2 ^ m) := hP
  have hsh : (2 : Int) ^ m = (P : Int) := by rw [hP]; simp
  clear hP
  go_enter Try.func12, Try.ntmps12
  go_wp2
  go_loopw [5, 6] (fun vl vk wr => ∃ k : Nat, k ≤ r + 1 ∧ vk = .int .i64 (k : Nat) ∧ Hid (OwnI w.heap.size vl (nli (mnl m k)) wr ∧ Below w.heap.size w wr)) (fun _ vk _ => r + 1 - (intOf vk).toNat)
  case atStart => exact ⟨0, by omega, rfl, OwnI.nil _ _, Below.refl _ _⟩
  case round =>
    obtain ⟨k, hk, rfl, HI⟩ := hrel
    by_cases hlt : k < r + 1
    · have hib : (k : Int) ≤ (r : Int) := by omega
      go_wp2
      go_loopw [5, 7] (fun vl vs wr => ∃ c : Nat, c ≤ P ∧ vs = .int .i64 (c : Nat) ∧ Hid (OwnI w.heap.size vl (nli (mnl m k ++ mrw k c)) wr ∧ Below w.heap.size w wr)) (fun _ vs _ => P - (intOf vs).toNat)
      case atStart => exact ⟨0, by omega, rfl, by show OwnI _ _ (nli (mnl m k ++ [])) _; rw [List.append_nil]; exact HI.out.1, HI.out.2⟩
      case round =>
        obtain ⟨c, hc, rfl, HJ⟩ := hrel
        by_cases hlc : c < P
        · have hcb : (c : Int) < (P : Int) := by omega
          have hsz := HJ.out.2.size
          have hlen : (nli (mnl m k ++ mrw k c)).length ≤ 1000 := by
            have h1 := mnl_len hm k
            have h2 := mrw_len k c
            rw [nli_len, List.length_append]
            omega
          go_wp2_with fail
          refine (ones_any c (by omega) wr).mono ?_
          rintro e w' ⟨rfl, hw⟩
          have hw := hw.symm
          subst hw
          obtain ⟨o, ho⟩ : ∃ o, o = pc c := ⟨_, rfl⟩
          rw [← ho]
          by_cases he : o = k
          · have HX : Hid (mrw k (c + 1) = mrw k c ++ [c]) := by
              show mrw k c ++ (if pc c = k then [c] else []) = _
              rw [if_pos (by omega)]
            subst he
            clear ho
            go_wp2_with (at_builtin; refine append_int rfl _ _ rfl w.heap.size _ (nli (mnl m o ++ mrw o c)) rfl (HJ.out.1.alloc _) ⟨_, 0, none⟩ 1 (c : Int) rfl (by simp) (by omega) (by simp; omega) ?_; intro v2 w3 hown3 hgrow3)
            have HY : Hid (OwnI w.heap.size v2 (nli (mnl m o ++ mrw o (c + 1))) w3 ∧ Below w.heap.size w w3) := by
              refine ⟨?_, (HJ.out.2.alloc hsz _).grown hgrow3 (by simp; omega) (fun k hk => (HJ.out.1.lt k hk).1)⟩
              rw [HX.out, ← List.append_assoc, nli_app]
              exact hown3
            clear hown3 hgrow3
            go_roundw
            case rel => exact ⟨c + 1, by omega, by go_num, HY.out⟩
            case measure => simp [intOf]; omega
          · have hob : ((o : Int) == (k : Int)) = false := by rw [beq_eq_false_iff_ne]; omega
            have HX : Hid (mrw k (c + 1) = mrw k c) := by
              show mrw k c ++ (if pc c = k then [c] else []) = _
              rw [if_neg (by omega), List.append_nil]
            clear ho
            go_wp2
            go_roundw
            case rel => exact ⟨c + 1, by omega, by go_num, by rw [HX.out]; exact HJ.out⟩
            case measure => simp [intOf]; omega
        · have hcb : ¬ (c : Int) < (P : Int) := by omega
          have HZ : Hid (OwnI w.heap.size u5 (nli (mnl m (k + 1))) wr ∧ Below w.heap.size w wr) := by
            have h := HJ.out
            rw [show c = P by omega, HP.out] at h
            exact h
          go_wp2
          go_roundw
          case rel => exact ⟨k + 1, by omega, by go_num, HZ.out⟩
          case measure => simp [intOf]; omega
    · have hib : ¬ (k : Int) ≤ (r : Int) := by omega
      have HZ : Hid (OwnI w.heap.size u5 (nli (mnl m (r + 1))) wr ∧ Below w.heap.size w wr) := by
        have h := HI.out
        rw [show k = r + 1 by omega] at h
        exact h
      go_wp2
      go_ret
      exact ⟨_, rfl, HZ.out⟩
end Go.Proofs.Ytmklnjkallhphaa

/- Muller: a monomial's word added to one (the program). -/
namespace Go.Proofs.Ytmklnjkallhphaa
open Go.RowKit Go.Sort

theorem and_nat (a b : Nat) (ha : a < 64) (hb : b < 64) : bits BinOp.and IntKind.i64 (a : Int) (b : Int) = ((a &&& b : Nat) : Int) := by
  have h1 : (BitVec.ofInt 64 (a : Int)).toNat = a := by
    rw [BitVec.ofInt_natCast, BitVec.toNat_ofNat]; exact Nat.mod_eq_of_lt (by omega)
  have h2 : (BitVec.ofInt 64 (b : Int)).toNat = b := by
    rw [BitVec.ofInt_natCast, BitVec.toNat_ofNat]; exact Nat.mod_eq_of_lt (by omega)
  show IntKind.i64.wrap ((BitVec.ofInt 64 (a : Int) &&& BitVec.ofInt 64 (b : Int)).toNat : Int) = _
  rw [BitVec.toNat_and, h1, h2]
  have h3 : a &&& b ≤ a := Nat.and_le_left
  exact wrap_to rfl (by omega)
theorem xor_one (a : Nat) (ha : a < 2) : bits BinOp.xor IntKind.i64 (a : Int) 1 = ((1 - a : Nat) : Int) := by
  have : a = 0 ∨ a = 1 := by omega
  rcases this with rfl | rfl <;> decide
/-- Is a monomial 1 at a place? -/
def mon (s x : Nat) : Bool := decide (x &&& s = s)
/-- A word, a monomial's added at the first places. -/
def mad (s : Nat) (c : Nat → Nat) (t : Nat) : Nat → Nat := fun x => if x < t ∧ mon s x = true then 1 - c x else c x

set_option maxHeartbeats 4000000 in
set_option maxRecDepth 100000 in
theorem monAdd_any (s G N cap B : Nat) (hs : s < 64) (hN : N ≤ 32) (hB : B ≤ G) (c : Nat → Nat) (hc : ∀ x, x < N → c x < 2) {w : World} (hR : Row G N c w) :
    Calls Try.prog 33 #[.int .i64 (s : Nat), .slice (some ⟨G, 0, none⟩) N cap] w fun e w' => e = .returned (.tuple #[]) ∧ Row G N (mad s c N) w' ∧ Below B w w' := by
  have HR : Hid (Row G N c w ∧ (∀ x, x < N → c x < 2) ∧ B ≤ G) := ⟨hR, hc, hB⟩
  clear hR hc hB
  go_enter Try.func33, Try.ntmps33
  go_wp2
  go_loopw [7] (fun vi wr => ∃ t : Nat, t ≤ N ∧ vi = .int .i64 (t : Nat) ∧ Hid (Row G N (mad s c t) wr ∧ Below B w wr)) (fun vi _ => N - (intOf vi).toNat)
  case atStart => exact ⟨0, by omega, rfl, by
    have e : mad s c 0 = c := funext fun x => if_neg (by omega)
    rw [e]; exact HR.out.1, Below.refl _ _⟩
  case round =>
    obtain ⟨t, ht, rfl, HI⟩ := hrel
    by_cases hlt : t < N
    · have hib : (t : Int) < (N : Int) := by omega
      have hi0 : (0 : Int) ≤ (t : Int) := by omega
      obtain ⟨a, ha⟩ : ∃ a, a = t &&& s := ⟨_, rfl⟩
      have hand : bits BinOp.and IntKind.i64 (t : Int) (s : Int) = (a : Int) := by rw [ha]; exact and_nat t s (by omega) hs
      by_cases hm : a = s
      · subst hm
        have hmt : mon a t = true := decide_eq_true ha.symm
        obtain ⟨b, hb⟩ : ∃ b, b = c t := ⟨_, rfl⟩
        have hb2 : b < 2 := by rw [hb]; exact HR.out.2.1 t hlt
        have hcell : wr.cell? ⟨G, t, none⟩ = some (.int .i64 (b : Nat)) := by
          have h := HI.out.1.cell t hlt
          rw [show mad a c t t = b by unfold mad; rw [if_neg (by omega), hb]] at h
          exact h
        have hfr := HI.out.1.free t
        have hxor : bits BinOp.xor IntKind.i64 (b : Int) 1 = ((1 - b : Nat) : Int) := xor_one b hb2
        have HX : Hid (∀ wz, wz = wr.setCell ⟨G, t, none⟩ (.int .i64 ((1 - b : Nat) : Int)) → Row G N (mad a c (t + 1)) wz ∧ Below B w wz) := fun wz e => by
          rw [e]
          refine ⟨HI.out.1.store t (1 - b) (fun j _ => ?_), HI.out.2.setCell HR.out.2.2 _⟩
          unfold mad
          by_cases ej : j = t
          · rw [if_pos ⟨by omega, by rw [ej]; exact hmt⟩, if_pos ej, ej, hb]
          · rw [if_neg ej]
            by_cases ej2 : j < t ∧ mon a j = true
            · rw [if_pos ⟨by omega, ej2.2⟩, if_pos ej2]
            · rw [if_neg ej2, if_neg (fun h => ej2 ⟨by omega, h.2⟩)]
        clear ha hb hmt
        go_wp2
        go_roundw
        case rel => exact ⟨t + 1, by omega, by go_num, HX.out _ rfl⟩
        case measure => simp [intOf]; omega
      · have hmb : ((a : Int) == (s : Int)) = false := by rw [beq_eq_false_iff_ne]; omega
        have HX : Hid (Row G N (mad s c (t + 1)) wr ∧ Below B w wr) := by
          have e : mad s c (t + 1) = mad s c t := funext fun j => by
            unfold mad
            by_cases ej : j = t
            · have : mon s j = false := by rw [ej]; exact decide_eq_false (by rw [← ha]; exact hm)
              rw [if_neg (by rw [this]; simp), if_neg (by rw [this]; simp)]
            · by_cases ej2 : j < t ∧ mon s j = true
              · rw [if_pos ⟨by omega, ej2.2⟩, if_pos ej2]
              · rw [if_neg ej2, if_neg (fun h => ej2 ⟨by omega, h.2⟩)]
          rw [e]; exact HI.out
        clear ha
        go_wp2
        go_roundw
        case rel => exact ⟨t + 1, by omega, by go_num, HX.out⟩
        case measure => simp [intOf]; omega
    · have hib : ¬ (t : Int) < (N : Int) := by omega
      have HZ : Hid (Row G N (mad s c N) wr ∧ Below B w wr) := by
        have h := HI.out
        rw [show t = N by omega] at h
        exact h
      go_wp2
      exact bodyPost_end (results_none rfl _ _ _) rfl ⟨rfl, HZ.out⟩
end Go.Proofs.Ytmklnjkallhphaa
