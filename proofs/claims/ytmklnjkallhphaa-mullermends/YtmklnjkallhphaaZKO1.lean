/- Texts of ours, one behind the other: KO1 KO2 KO3 KO4. -/
import Derived.Test.YtmklnjkallhphaaZA1
import Derived.Test.YtmklnjkallhphaaZL10
import Derived.Test.YtmklnjkallhphaaZN2
import Derived.Test.YtmklnjkallhphaaZQ7
/- Muller: what is said of a code's numbers, both sides; how many ones a number has. -/
namespace Go.Proofs.Ytmklnjkallhphaa
open Go.RowKit Go.Sort

/-- What is wrong with a code's numbers. -/
def mck (r m : Int) : Int := if m < 1 ∨ 5 < m then 4 else if r < 0 ∨ m < r then 6 else 0
theorem mck_ok {r m : Int} (h : mck r m = 0) : ∃ R M : Nat, r = R ∧ m = M ∧ 1 ≤ M ∧ M ≤ 5 ∧ R ≤ M := by
  unfold mck at h
  by_cases h1 : m < 1 ∨ 5 < m
  · rw [if_pos h1] at h; cases h
  · rw [if_neg h1] at h
    by_cases h2 : r < 0 ∨ m < r
    · rw [if_pos h2] at h; cases h
    · exact ⟨r.toNat, m.toNat, by omega, by omega, by omega, by omega, by omega⟩

set_option maxHeartbeats 2000000 in
set_option maxRecDepth 100000 in
theorem mullerMay_any (r m : Int) (w : World) : Calls Try.prog 7 #[.int .i64 r, .int .i64 m] w fun e w' => e = .returned (.int .i64 (mck r m)) ∧ w' = w := by
  by_cases h1 : m < 1
  · have HE : Hid (mck r m = 4) := by show mck r m = 4; unfold mck; rw [if_pos (Or.inl h1)]
    go_enter Try.func7, Try.ntmps7
    go_wp2
    go_ret
    exact ⟨by rw [HE.out]; rfl, rfl⟩
  by_cases h2 : 5 < m
  · have HE : Hid (mck r m = 4) := by show mck r m = 4; unfold mck; rw [if_pos (Or.inr h2)]
    go_enter Try.func7, Try.ntmps7
    go_wp2
    go_ret
    exact ⟨by rw [HE.out]; rfl, rfl⟩
  by_cases h3 : r < 0
  · have HE : Hid (mck r m = 6) := by show mck r m = 6; unfold mck; rw [if_neg (by omega), if_pos (Or.inl h3)]
    go_enter Try.func7, Try.ntmps7
    go_wp2
    go_ret
    exact ⟨by rw [HE.out]; rfl, rfl⟩
  by_cases h4 : m < r
  · have HE : Hid (mck r m = 6) := by show mck r m = 6; unfold mck; rw [if_neg (by omega), if_pos (Or.inr h4)]
    go_enter Try.func7, Try.ntmps7
    go_wp2
    go_ret
    exact ⟨by rw [HE.out]; rfl, rfl⟩
  · have HE : Hid (mck r m = 0) := by show mck r m = 0; unfold mck; rw [if_neg (by omega), if_neg (by omega)]
    go_enter Try.func7, Try.ntmps7
    go_wp2
    go_ret
    exact ⟨by rw [HE.out]; rfl, rfl⟩

set_option maxHeartbeats 2000000 in
set_option maxRecDepth 100000 in
theorem mullCheck_any (r m : Int) (w : World) : Calls Try.prog 10 #[.int .i64 r, .int .i64 m] w fun e w' => e = .returned (.int .i64 (mck r m)) ∧ w' = w := by
  by_cases h1 : m < 1
  · have HE : Hid (mck r m = 4) := by show mck r m = 4; unfold mck; rw [if_pos (Or.inl h1)]
    go_enter Try.func10, Try.ntmps10
    go_wp2
    go_ret
    exact ⟨by rw [HE.out]; rfl, rfl⟩
  by_cases h2 : 5 < m
  · have HE : Hid (mck r m = 4) := by show mck r m = 4; unfold mck; rw [if_pos (Or.inr h2)]
    go_enter Try.func10, Try.ntmps10
    go_wp2
    go_ret
    exact ⟨by rw [HE.out]; rfl, rfl⟩
  by_cases h3 : r < 0
  · have HE : Hid (mck r m = 6) := by show mck r m = 6; unfold mck; rw [if_neg (by omega), if_pos (Or.inl h3)]
    go_enter Try.func10, Try.ntmps10
    go_wp2
    go_ret
    exact ⟨by rw [HE.out]; rfl, rfl⟩
  by_cases h4 : m < r
  · have HE : Hid (mck r m = 6) := by show mck r m = 6; unfold mck; rw [if_neg (by omega), if_pos (Or.inr h4)]
    go_enter Try.func10, Try.ntmps10
    go_wp2
    go_ret
    exact ⟨by rw [HE.out]; rfl, rfl⟩
  · have HE : Hid (mck r m = 0) := by show mck r m = 0; unfold mck; rw [if_neg (by omega), if_neg (by omega)]
    go_enter Try.func10, Try.ntmps10
    go_wp2
    go_ret
    exact ⟨by rw [HE.out]; rfl, rfl⟩

/-- How many ones a number has, of so many places. -/
def pcn : Nat → Nat → Nat
  | 0, _ => 0
  | f + 1, s => s % 2 + pcn f (s / 2)
theorem pcn_nil : ∀ f, pcn f 0 = 0
  | 0 => rfl
  | f + 1 => by show 0 % 2 + pcn f (0 / 2) = 0; rw [show 0 / 2 = 0 from rfl, pcn_nil f]
theorem pcn_le : ∀ f s, pcn f s ≤ f
  | 0, _ => Nat.le_refl _
  | f + 1, s => by
    have := pcn_le f (s / 2)
    show s % 2 + pcn f (s / 2) ≤ f + 1
    omega
/-- How many ones a number below 64 has. -/
def pc (s : Nat) : Nat := pcn 6 s
set_option maxHeartbeats 2000000 in
set_option maxRecDepth 100000 in
theorem ones_any (s : Nat) (hs : s < 64) (w : World) : Calls Try.prog 35 #[.int .i64 (s : Nat)] w fun e w' => e = .returned (.int .i64 (pc s : Nat)) ∧ w' = w := by
  go_enter Try.func35, Try.ntmps35
  go_wp2
  go_loopw [0, 3] (fun vs vn wr => ∃ f t a : Nat, vs = .int .i64 (t : Nat) ∧ vn = .int .i64 (a : Nat) ∧ f ≤ 6 ∧ a ≤ 6 ∧ t < 64 ∧ Hid (t < 2 ^ f ∧ a + pcn f t = pc s) ∧ wr = w) (fun vs _ _ => (intOf vs).toNat)
  case atStart => exact ⟨6, s, 0, rfl, rfl, by omega, by omega, hs, ⟨hs, by unfold pc; omega⟩, rfl⟩
  case round =>
    obtain ⟨f, t, a, rfl, rfl, hf, ha, ht, HI, hw⟩ := hrel
    have hw := hw.symm
    subst hw
    by_cases h0 : 0 < t
    · have h0i : (0 : Int) < (t : Int) := by omega
      obtain ⟨x, hx⟩ : ∃ x, x = t % 2 := ⟨_, rfl⟩
      obtain ⟨d, hd⟩ : ∃ d, d = t / 2 := ⟨_, rfl⟩
      have hm : (t : Int).tmod 2 = (x : Int) := by rw [Int.tmod_eq_emod_of_nonneg (by omega), hx]; rfl
      have hq : (t : Int).tdiv 2 = (d : Int) := by rw [Int.tdiv_eq_ediv_of_nonneg (by omega), hd]; rfl
      have hdt : d < t := by omega
      have hx2 : x < 2 := by omega
      have HX : Hid (∃ f', f' ≤ 6 ∧ a + x ≤ 6 ∧ d < 2 ^ f' ∧ a + x + pcn f' d = pc s) := by
        obtain ⟨h1, h2⟩ := HI.out
        cases f with
        | zero => exfalso; have : t < 1 := h1; omega
        | succ f =>
          have h3 : a + (t % 2 + pcn f (t / 2)) = pc s := h2
          have h4 : pc s ≤ 6 := pcn_le 6 s
          refine ⟨f, by omega, by omega, ?_, by rw [hx, hd]; omega⟩
          rw [Nat.pow_succ] at h1
          omega
      clear hx hd
      go_wp2
      go_roundw
      case rel =>
        obtain ⟨f', h1, h2, h3, h4⟩ := HX.out
        exact ⟨f', d, a + x, rfl, by go_num, h1, h2, by omega, ⟨h3, h4⟩, by first | rfl | trivial⟩
      case measure => simp [intOf]; omega
    · have h0i : ¬ (0 : Int) < (t : Int) := by omega
      have HE : Hid (a = pc s) := by
        obtain ⟨h1, h2⟩ := HI.out
        rw [show t = 0 by omega, pcn_nil] at h2
        exact h2
      go_wp2
      go_ret
      exact ⟨by rw [HE.out]; rfl, rfl⟩
end Go.Proofs.Ytmklnjkallhphaa

/- Muller: the reference's list of monomials. -/
namespace Go.Proofs.Ytmklnjkallhphaa
open Go.RowKit Go.Sort

/-- The numbers below c with j ones. -/
def mrw (j : Nat) : Nat → List Nat
  | 0 => []
  | c + 1 => mrw j c ++ if pc c = j then [c] else []
/-- The numbers of m places with less than so many ones, by how many they have. -/
def mnl (m : Nat) : Nat → List Nat
  | 0 => []
  | j + 1 => mnl m j ++ mrw j (2 ^ m)
/-- A list of numbers as the program has it. -/
def nli (l : List Nat) : List Int := l.map (fun x => ((x : Nat) : Int))
theorem nli_len (l : List Nat) : (nli l).length = l.length := List.length_map _
theorem nli_app (a b : List Nat) : nli (a ++ b) = nli a ++ nli b := List.map_append
theorem mrw_len (j : Nat) : ∀ c, (mrw j c).length ≤ c
  | 0 => Nat.le_refl _
  | c + 1 => by
    have := mrw_len j c
    show (mrw j c ++ if pc c = j then [c] else []).length ≤ c + 1
    rw [List.length_append]
    split <;> simp <;> omega
theorem mnl_len {m : Nat} (hm : m ≤ 5) : ∀ j, (mnl m j).length ≤ j * 32
  | 0 => by show 0 ≤ _; omega
  | j + 1 => by
    have h1 := mnl_len hm j
    have h2 := mrw_len j (2 ^ m)
    have h3 : 2 ^ m ≤ 2 ^ 5 := Nat.pow_le_pow_right (by omega) hm
    show (mnl m j ++ mrw j (2 ^ m)).length ≤ _
    rw [List.length_append]
    omega

set_option maxHeartbeats 8000000 in
set_option maxRecDepth 100000 in
theorem rmonos_any (r m : Nat) (hm1 : 1 ≤ m) (hm : m ≤ 5) (hr : r ≤ m) (w : World) :
    Calls Try.prog 12 #[.int .i64 (r : Nat), .int .i64 (m : Nat)] w fun e w' => ∃ v, e = .returned v ∧ OwnI w.heap.size v (nli (mnl m (r + 1))) w' ∧ Below w.heap.size w w' := by
  obtain ⟨P, hP⟩ : ∃ P, P = 2 ^ m := ⟨_, rfl⟩
  have hPb : P ≤ 32 := by rw [hP]; exact Nat.pow_le_pow_right (by omega) hm
  have HP : Hid (P = 2 ^ m) := hP
  have hsh : (2 : Int) ^ m = (P : Int) := by rw [hP]; simp
  clear hP
  go_enter Try.func12, Try.ntmps12
  go_wp2
  go_loopw [5, 6] (fun vl vk wr => ∃ k : Nat, k ≤ r + 1 ∧ vk = .int .i64 (k : Nat) ∧ Hid (OwnI w.heap.size vl (nli (mnl m k)) wr ∧ Below w.heap.size w wr)) (fun _ vk _ => r + 1 - (intOf vk).toNat)
  case atStart => exact ⟨0, by omega, rfl, OwnI.nil _ _, Below.refl _ _⟩
  case round =>
    obtain ⟨k, hk, rfl, HI⟩ := hrel
    by_cases hlt : k < r + 1
    · have hib : (k : Int) ≤ (r : Int) := by omega
      go_wp2
      go_loopw [5, 7] (fun vl vs wr => ∃ c : Nat, c ≤ P ∧ vs = .int .i64 (c : Nat) ∧ Hid (OwnI w.heap.size vl (nli (mnl m k ++ mrw k c)) wr ∧ Below w.heap.size w wr)) (fun _ vs _ => P - (intOf vs).toNat)
      case atStart => exact ⟨0, by omega, rfl, by show OwnI _ _ (nli (mnl m k ++ [])) _; rw [List.append_nil]; exact HI.out.1, HI.out.2⟩
      case round =>
        obtain ⟨c, hc, rfl, HJ⟩ := hrel
        by_cases hlc : c < P
        · have hcb : (c : Int) < (P : Int) := by omega
          have hsz := HJ.out.2.size
          have hlen : (nli (mnl m k ++ mrw k c)).length ≤ 1000 := by
            have h1 := mnl_len hm k
            have h2 := mrw_len k c
            rw [nli_len, List.length_append]
            omega
          go_wp2_with fail
          refine (ones_any c (by omega) wr).mono ?_
          rintro e w' ⟨rfl, hw⟩
          have hw := hw.symm
          subst hw
          obtain ⟨o, ho⟩ : ∃ o, o = pc c := ⟨_, rfl⟩
          rw [← ho]
          by_cases he : o = k
          · have HX : Hid (mrw k (c + 1) = mrw k c ++ [c]) := by
              show mrw k c ++ (if pc c = k then [c] else []) = _
              rw [if_pos (by omega)]
            subst he
            clear ho
            go_wp2_with (at_builtin; refine append_int rfl _ _ rfl w.heap.size _ (nli (mnl m o ++ mrw o c)) rfl (HJ.out.1.alloc _) ⟨_, 0, none⟩ 1 (c : Int) rfl (by simp) (by omega) (by simp; omega) ?_; intro v2 w3 hown3 hgrow3)
            have HY : Hid (OwnI w.heap.size v2 (nli (mnl m o ++ mrw o (c + 1))) w3 ∧ Below w.heap.size w w3) := by
              refine ⟨?_, (HJ.out.2.alloc hsz _).grown hgrow3 (by simp; omega) (fun k hk => (HJ.out.1.lt k hk).1)⟩
              rw [HX.out, ← List.append_assoc, nli_app]
              exact hown3
            clear hown3 hgrow3
            go_roundw
            case rel => exact ⟨c + 1, by omega, by go_num, HY.out⟩
            case measure => simp [intOf]; omega
          · have hob : ((o : Int) == (k : Int)) = false := by rw [beq_eq_false_iff_ne]; omega
            have HX : Hid (mrw k (c + 1) = mrw k c) := by
              show mrw k c ++ (if pc c = k then [c] else []) = _
              rw [if_neg (by omega), List.append_nil]
            clear ho
            go_wp2
            go_roundw
            case rel => exact ⟨c + 1, by omega, by go_num, by rw [HX.out]; exact HJ.out⟩
            case measure => simp [intOf]; omega
        · have hcb : ¬ (c : Int) < (P : Int) := by omega
          have HZ : Hid (OwnI w.heap.size u5 (nli (mnl m (k + 1))) wr ∧ Below w.heap.size w wr) := by
            have h := HJ.out
            rw [show c = P by omega, HP.out] at h
            exact h
          go_wp2
          go_roundw
          case rel => exact ⟨k + 1, by omega, by go_num, HZ.out⟩
          case measure => simp [intOf]; omega
    · have hib : ¬ (k : Int) ≤ (r : Int) := by omega
      have HZ : Hid (OwnI w.heap.size u5 (nli (mnl m (r + 1))) wr ∧ Below w.heap.size w wr) := by
        have h := HI.out
        rw [show k = r + 1 by omega] at h
        exact h
      go_wp2
      go_ret
      exact ⟨_, rfl, HZ.out⟩
end Go.Proofs.Ytmklnjkallhphaa

/- Muller: a monomial's word added to one (the program). -/
namespace Go.Proofs.Ytmklnjkallhphaa
open Go.RowKit Go.Sort

theorem and_nat (a b : Nat) (ha : a < 64) (hb : b < 64) : bits BinOp.and IntKind.i64 (a : Int) (b : Int) = ((a &&& b : Nat) : Int) := by
  have h1 : (BitVec.ofInt 64 (a : Int)).toNat = a := by
    rw [BitVec.ofInt_natCast, BitVec.toNat_ofNat]; exact Nat.mod_eq_of_lt (by omega)
  have h2 : (BitVec.ofInt 64 (b : Int)).toNat = b := by
    rw [BitVec.ofInt_natCast, BitVec.toNat_ofNat]; exact Nat.mod_eq_of_lt (by omega)
  show IntKind.i64.wrap ((BitVec.ofInt 64 (a : Int) &&& BitVec.ofInt 64 (b : Int)).toNat : Int) = _
  rw [BitVec.toNat_and, h1, h2]
  have h3 : a &&& b ≤ a := Nat.and_le_left
  exact wrap_to rfl (by omega)
theorem xor_one (a : Nat) (ha : a < 2) : bits BinOp.xor IntKind.i64 (a : Int) 1 = ((1 - a : Nat) : Int) := by
  have : a = 0 ∨ a = 1 := by omega
  rcases this with rfl | rfl <;> decide
/-- Is a monomial 1 at a place? -/
def mon (s x : Nat) : Bool := decide (x &&& s = s)
/-- A word, a monomial's added at the first places. -/
def mad (s : Nat) (c : Nat → Nat) (t : Nat) : Nat → Nat := fun x => if x < t ∧ mon s x = true then 1 - c x else c x

end Go.Proofs.Ytmklnjkallhphaa

/- Muller: the reference's word of a message. -/
namespace Go.Proofs.Ytmklnjkallhphaa
open Go.RowKit Go.Sort

theorem nli_zl (l : List Nat) : nli l = zl l.length (fun j => ((l.getD j 0 : Nat) : Int)) := by
  apply List.ext_getElem
  · rw [nli_len, zl_len]
  · intro i h1 h2
    have e : (zl l.length (fun j => ((l.getD j 0 : Nat) : Int))).getD i 0 = ((l.getD i 0 : Nat) : Int) := zl_getD _ _ _ (by rw [nli_len] at h1; exact h1)
    rw [nli_len] at h1
    rw [List.getD_eq_getElem?_getD, List.getElem?_eq_getElem h2] at e
    have e2 : (zl l.length (fun j => ((l.getD j 0 : Nat) : Int)))[i] = ((l.getD i 0 : Nat) : Int) := e
    rw [e2, List.getD_eq_getElem?_getD, List.getElem?_eq_getElem h1]
    simp [nli]
/-- A message's word at a place: the sum of the monomials that are 1 there. -/
def mwv (l : List Nat) (g : Nat → Nat) (x : Nat) : Nat → Nat
  | 0 => 0
  | i + 1 => if g i = 1 ∧ mon (l.getD i 0) x = true then 1 - mwv l g x i else mwv l g x i
theorem mwv_lt (l : List Nat) (g : Nat → Nat) (x : Nat) : ∀ i, mwv l g x i < 2
  | 0 => by show 0 < 2; omega
  | i + 1 => by
    have := mwv_lt l g x i
    show (if g i = 1 ∧ mon (l.getD i 0) x = true then 1 - mwv l g x i else mwv l g x i) < 2
    split <;> omega
theorem mrw_lt (j : Nat) : ∀ c s, s ∈ mrw j c → s < c
  | 0, s, h => by cases h
  | c + 1, s, h => by
    have h' : s ∈ mrw j c ++ (if pc c = j then [c] else []) := h
    rw [List.mem_append] at h'
    rcases h' with e | e
    · have := mrw_lt j c s e; omega
    · split at e
      · rw [List.mem_singleton] at e; omega
      · cases e
theorem mnl_lt (m : Nat) : ∀ j s, s ∈ mnl m j → s < 2 ^ m
  | 0, s, h => by cases h
  | j + 1, s, h => by
    have h' : s ∈ mnl m j ++ mrw j (2 ^ m) := h
    rw [List.mem_append] at h'
    rcases h' with e | e
    · exact mnl_lt m j s e
    · exact mrw_lt j _ s e
/-- A word that grows place by place. -/
def mwf (l : List Nat) (g : Nat → Nat) (t i : Nat) : Nat → Nat := fun x => if x < t then mwv l g x l.length else if x = t then mwv l g x i else 0

theorem mwf_end {l : List Nat} {g : Nat → Nat} (t : Nat) : mwf l g t l.length = mwf l g (t + 1) 0 := funext fun x => by
  unfold mwf
  by_cases h : x < t
  · rw [if_pos h, if_pos (by omega)]
  · rw [if_neg h]
    by_cases h2 : x = t
    · rw [if_pos h2, if_pos (by omega)]
    · rw [if_neg h2, if_neg (by omega)]
      split <;> rfl
theorem mwf_same {l : List Nat} {g : Nat → Nat} {t i : Nat} (h : ¬ (g i = 1 ∧ mon (l.getD i 0) t = true)) : mwf l g t (i + 1) = mwf l g t i := funext fun x => by
  unfold mwf
  by_cases h2 : x = t
  · subst h2
    rw [if_neg (show ¬ x < x by omega), if_neg (show ¬ x < x by omega), if_pos rfl, if_pos rfl]
    exact if_neg h
  · rw [if_neg h2, if_neg h2]

set_option maxHeartbeats 8000000 in
set_option maxRecDepth 100000 in
theorem rmullerWord_any (r m : Nat) (hm1 : 1 ≤ m) (hm : m ≤ 5) (hr : r ≤ m) {ao : Option Addr} {k ca : Nat} {g : Nat → Nat} {w : World} (hk : k = (mnl m (r + 1)).length) (hg : ∀ i, i < k → g i < 2) (ha : Arg ao k ca (fun i => ((g i : Nat) : Int)) w) :
    Calls Try.prog 14 #[.int .i64 (r : Nat), .int .i64 (m : Nat), .slice ao k ca] w fun e w' => ∃ G, e = .returned (.slice (some ⟨G, 0, none⟩) (2 ^ m) (2 ^ m)) ∧ w.heap.size ≤ G ∧ Row G (2 ^ m) (mwf (mnl m (r + 1)) g (2 ^ m) 0) w' ∧ Below w.heap.size w w' := by
  obtain ⟨l, hl⟩ : ∃ l, l = mnl m (r + 1) := ⟨_, rfl⟩
  obtain ⟨P, hP⟩ : ∃ P, P = 2 ^ m := ⟨_, rfl⟩
  have hPb : P ≤ 32 := by rw [hP]; exact Nat.pow_le_pow_right (by omega) hm
  have hsh : (2 : Int) ^ m = (P : Int) := by rw [hP]; simp
  have hk2 : k ≤ 192 := by
    have := mnl_len hm (r + 1)
    rw [hk]; omega
  have HL : Hid (l = mnl m (r + 1) ∧ k = l.length ∧ (∀ i, i < k → l.getD i 0 < P) ∧ (∀ i, i < k → g i < 2)) := ⟨hl, by rw [hl, hk], fun i hi => by
    rw [hP, hl]
    refine mnl_lt m (r + 1) _ ?_
    have hi' : i < (mnl m (r + 1)).length := by rw [← hk]; exact hi
    rw [List.getD_eq_getElem?_getD, List.getElem?_eq_getElem hi']
    exact List.getElem_mem hi', hg⟩
  rw [← hl, ← hP]
  have HA : Hid (Arg ao k ca (fun i => ((g i : Nat) : Int)) w) := ha
  clear hl hk ha hP hg
  go_enter Try.func14, Try.ntmps14
  go_wp2_with fail
  refine (rmonos_any r m hm1 hm hr w).mono ?_
  rintro e w1 ⟨v, rfl, hown, hb1⟩
  rw [← HL.out.1, nli_zl, ← HL.out.2.1] at hown
  obtain ⟨lo, lc, rfl, hLA⟩ := hown.argL
  have H1 : Hid (Arg lo k lc (fun j => ((l.getD j 0 : Nat) : Int)) w1 ∧ Below w.heap.size w w1) := ⟨hLA.arg (by omega), hb1⟩
  clear hown hLA hb1
  go_wp2_with (first | (at_make; refine make_int rfl _ _ rfl _ P rfl rfl rfl (by omega) ?_; intro w3 hown3 hgrow3))
  have H3 : Hid (Row w1.heap.size P (mwf l g 0 0) w3 ∧ Below w1.heap.size w1 w3) := by
    refine ⟨?_, below_grown hgrow3 (Nat.le_refl _) (fun k hk => by simp at hk)⟩
    have e : mwf l g 0 0 = pnil := funext fun x => by
      unfold mwf
      rw [if_neg (by omega)]
      split <;> rfl
    rw [e]
    exact row_zeros hown3
  clear hown3 hgrow3
  obtain ⟨G, hG⟩ : ∃ G, G = w1.heap.size := ⟨_, rfl⟩
  rw [← hG] at H3 ⊢
  have HG : Hid (G = w1.heap.size) := hG
  clear hG
  go_loopw [9] (fun vi wr => ∃ t : Nat, t ≤ P ∧ vi = .int .i64 (t : Nat) ∧ Hid (Row G P (mwf l g t 0) wr ∧ Below G w1 wr)) (fun vi _ => P - (intOf vi).toNat)
  case atStart => exact ⟨0, by omega, rfl, H3.out⟩
  case round =>
    obtain ⟨t, ht, rfl, HI⟩ := hrel
    clear H3
    by_cases hlt : t < P
    · have hib : (t : Int) < (P : Int) := by omega
      have hi0 : (0 : Int) ≤ (t : Int) := by omega
      go_wp2
      go_loopw [10] (fun vi wr => ∃ i : Nat, i ≤ k ∧ vi = .int .i64 (i : Nat) ∧ Hid (Row G P (mwf l g t i) wr ∧ Below G w1 wr)) (fun vi _ => k - (intOf vi).toNat)
      case atStart => exact ⟨0, by omega, rfl, HI.out⟩
      case round =>
        obtain ⟨i, hi, rfl, HJ⟩ := hrel
        rename World => wr
        clear HI
        by_cases hlc : i < k
        · have hcb : (i : Int) < (k : Int) := by omega
          have hci0 : (0 : Int) ≤ (i : Int) := by omega
          have hbw : Below w.heap.size w wr := bel_up' H1.out.2 (by rw [← HG.out]; exact HJ.out.2)
          obtain ⟨b1, o1, rfl, q1⟩ := (HA.out.below hbw).sl i hlc
          obtain ⟨b2, o2, rfl, q2⟩ := (H1.out.1.below (by rw [← HG.out]; exact HJ.out.2)).sl i hlc
          clear hbw
          obtain ⟨y, hy⟩ : ∃ y, y = g i := ⟨_, rfl⟩
          obtain ⟨s, hs⟩ : ∃ s, s = l.getD i 0 := ⟨_, rfl⟩
          have hsP : s < P := by rw [hs]; exact HL.out.2.2.1 i hlc
          replace q1 : wr.cell? ⟨b1, o1 + i, none⟩ = some (.int .i64 (y : Nat)) := by rw [hy]; exact q1
          replace q2 : wr.cell? ⟨b2, o2 + i, none⟩ = some (.int .i64 (s : Nat)) := by rw [hs]; exact q2
          by_cases hy1 : y = 1
          · have hyb : ((y : Int) == 1) = true := by rw [hy1]; rfl
            have hyd : decide ((y : Int) = 1) = true := by rw [hy1]; rfl
            obtain ⟨a, ha⟩ : ∃ a, a = t &&& s := ⟨_, rfl⟩
            have hand : bits BinOp.and IntKind.i64 (t : Int) (s : Int) = (a : Int) := by rw [ha]; exact and_nat t s (by omega) (by omega)
            by_cases hm2 : a = s
            · have hab : ((a : Int) == (s : Int)) = true := by rw [hm2]; simp
              obtain ⟨c, hc⟩ : ∃ c, c = mwv l g t i := ⟨_, rfl⟩
              have hc2 : c < 2 := by rw [hc]; exact mwv_lt l g t i
              have HX : Hid (∀ nd, Row G P (mwf l g t (i + 1)) ((wr.drewN nd).setCell ⟨G, t, none⟩ (.int .i64 ((1 - c : Nat) : Int))) ∧ Below G w1 ((wr.drewN nd).setCell ⟨G, t, none⟩ (.int .i64 ((1 - c : Nat) : Int)))) := fun nd => by
                refine ⟨(HJ.out.1.drewN nd).store t (1 - c) (fun j _ => ?_), (below_drewN2 HJ.out.2 nd).setCell (Nat.le_refl _) _⟩
                unfold mwf
                by_cases ej : j = t
                · subst ej
                  rw [if_neg (show ¬ j < j by omega), if_pos rfl, if_pos rfl, hc]
                  exact if_pos ⟨by omega, decide_eq_true (by rw [← hs, ← ha, hm2])⟩
                · rw [if_neg ej, if_neg ej, if_neg ej]
              have hcell : wr.cell? ⟨G, t, none⟩ = some (.int .i64 (c : Nat)) := by
                have h := HJ.out.1.cell t hlt
                rw [show mwf l g t i t = c by unfold mwf; rw [if_neg (show ¬ t < t by omega), if_pos rfl, hc]] at h
                exact h
              have hfr := HJ.out.1.free t
              have hsub : (1 : Int) - (c : Int) = ((1 - c : Nat) : Int) := by omega
              have had : decide ((a : Int) = (s : Int)) = true := by rw [hm2]; simp
              clear hc hs hy ha hm2 hy1
              go_wp2
              go_big_quiet (fail)
              go_wp2
              go_roundw
              case rel => exact ⟨i + 1, by omega, by go_num, HX.out _⟩
              case measure => simp [intOf]; omega
            · have hab : ((a : Int) == (s : Int)) = false := by rw [beq_eq_false_iff_ne]; omega
              have had : decide ((a : Int) = (s : Int)) = false := decide_eq_false (by omega)
              have HX : Hid (Row G P (mwf l g t (i + 1)) wr ∧ Below G w1 wr) := by
                rw [mwf_same (fun h => by have := of_decide_eq_true h.2; rw [← hs, ← ha] at this; exact hm2 this)]
                exact HJ.out
              clear hs hy ha hy1
              go_wp2
              go_big_quiet (fail)
              go_wp2
              go_roundw
              case rel => exact ⟨i + 1, by omega, by go_num, HX.out.1.drewN _, below_drewN2 HX.out.2 _⟩
              case measure => simp [intOf]; omega
          · have hyb : ((y : Int) == 1) = false := by rw [beq_eq_false_iff_ne]; omega
            have hyd : decide ((y : Int) = 1) = false := decide_eq_false (by omega)
            have HX : Hid (Row G P (mwf l g t (i + 1)) wr ∧ Below G w1 wr) := by
              rw [mwf_same (fun h => hy1 (by rw [hy]; exact h.1))]
              exact HJ.out
            clear hs hy hy1
            go_wp2
            go_big_quiet (fail)
            go_wp2
            go_roundw
            case rel => exact ⟨i + 1, by omega, by go_num, HX.out.1.drewN _, below_drewN2 HX.out.2 _⟩
            case measure => simp [intOf]; omega
        · have hcb : ¬ (i : Int) < (k : Int) := by omega
          have HX : Hid (Row G P (mwf l g (t + 1) 0) wr ∧ Below G w1 wr) := by
            have h := HJ.out
            rw [show i = k by omega, HL.out.2.1, mwf_end] at h
            exact h
          go_wp2
          go_roundw
          case rel => exact ⟨t + 1, by omega, by go_num, HX.out⟩
          case measure => simp [intOf]; omega
    · have hib : ¬ (t : Int) < (P : Int) := by omega
      have HX : Hid (Row G P (mwf l g P 0) wr ∧ Below w.heap.size w wr ∧ w.heap.size ≤ G) := by
        have h := HI.out
        rw [show t = P by omega] at h
        exact ⟨h.1, bel_up' H1.out.2 (by rw [← HG.out]; exact h.2), by rw [HG.out]; exact H1.out.2.size⟩
      go_wp2
      go_ret
      exact ⟨_, rfl, HX.out.2.2, HX.out.1, HX.out.2.1⟩
end Go.Proofs.Ytmklnjkallhphaa
