/- Words that may lose a bit: lists behind one another (slices.Concat of however many), the reference's Lost and Holds. -/
import Derived.Test.YtabkomelnhnoiaaZKI8
import Derived.Test.YtabkomelnhnoiaaZS15
namespace Go.Proofs.Ytabkomelnhnoiaa
open Go.RowKit Go.Sort

/-- The first r of many lists, behind one another. -/
def catK (nn : Nat → Nat) (zz : Nat → Nat → Int) : Nat → List Int
  | 0 => []
  | r + 1 => catK nn zz r ++ zl (nn r) (zz r)
def sumK (nn : Nat → Nat) : Nat → Nat
  | 0 => 0
  | r + 1 => sumK nn r + nn r
theorem catK_len (nn : Nat → Nat) (zz : Nat → Nat → Int) : ∀ r, (catK nn zz r).length = sumK nn r
  | 0 => rfl
  | r + 1 => by
    show (catK nn zz r ++ zl (nn r) (zz r)).length = sumK nn r + nn r
    rw [List.length_append, zl_len, catK_len]
theorem sumK_le (nn : Nat → Nat) (r : Nat) : ∀ k, sumK nn r ≤ sumK nn (r + k)
  | 0 => Nat.le_refl _
  | k + 1 => Nat.le_trans (sumK_le nn r k) (Nat.le_add_right _ _)
/-- K lists that lie in an array. -/
def ManyL (B K : Nat) (x : Nat → Option Addr) (nn cx : Nat → Nat) (zz : Nat → Nat → Int) (w : World) : Prop := ∀ r, r < K → w.cell? ⟨B, r, none⟩ = some (.slice (x r) (nn r) (cx r)) ∧ SlZ (x r) (nn r) (zz r) w ∧ (x r = none → cx r = 0)
theorem ManyL.below {B K : Nat} {x : Nat → Option Addr} {nn cx : Nat → Nat} {zz : Nat → Nat → Int} {w w' : World} (h : ManyL B K x nn cx zz w) (hb : Below w.heap.size w w') : ManyL B K x nn cx zz w' := fun r hr => by
  obtain ⟨h1, h2, h3⟩ := h r hr
  exact ⟨((bcell hb).1 B r (cell_lt h1)).trans h1, slz_below h2 hb, h3⟩

set_option maxHeartbeats 8000000 in
set_option maxRecDepth 100000 in
theorem concatK {B K c : Nat} {x : Nat → Option Addr} {nn cx : Nat → Nat} {zz : Nat → Nat → Int} {w : World} (h : ManyL B K x nn cx zz w) (hK : K ≤ 1000) (hn : sumK nn K ≤ 1000) :
    Calls Try.prog 69 #[.slice (some ⟨B, 0, none⟩) K c] w fun e w' => ∃ v, e = .returned v ∧ OwnI w.heap.size v (catK nn zz K) w' ∧ Below w.heap.size w w' := by
  have HT : Hid (ManyL B K x nn cx zz w ∧ sumK nn K ≤ 1000) := ⟨h, hn⟩
  obtain ⟨S, hS⟩ : ∃ S, S = sumK nn K := ⟨_, rfl⟩
  have hS1 : S ≤ 1000 := by omega
  have HSm : Hid (S = sumK nn K) := hS
  clear h hn hS
  go_enter Try.func69, Try.ntmps69
  go_wp2
  go_loopw [3, 11] (fun vs vi wr => ∃ r s : Nat, r ≤ K ∧ vs = .int .i64 (s : Nat) ∧ vi = .int .i64 r ∧ s ≤ 1000 ∧ Hid (s = sumK nn r) ∧ wr = w) (fun _ vi _ => K - (intOf vi).toNat)
  case atStart => exact ⟨0, 0, by omega, rfl, rfl, by omega, rfl, rfl⟩
  case round =>
    obtain ⟨r, s, hr, rfl, rfl, hs, HS, hw⟩ := hrel
    have hw := hw.symm
    subst hw
    by_cases hlt : r < K
    · have hib : (r : Int) < (K : Int) := by omega
      have hib0 : (0 : Int) ≤ (r : Int) := by omega
      obtain ⟨hc, _, _⟩ := HT.out.1 r hlt
      obtain ⟨xr, hxr⟩ : ∃ xr, xr = x r := ⟨_, rfl⟩
      obtain ⟨nr, hnr⟩ : ∃ nr, nr = nn r := ⟨_, rfl⟩
      obtain ⟨cr, hcr⟩ : ∃ cr, cr = cx r := ⟨_, rfl⟩
      rw [← hxr, ← hnr, ← hcr] at hc
      have hsn : s + nr = sumK nn (r + 1) := by rw [HS.out, hnr]; rfl
      have hle := sumK_le nn (r + 1) (K - (r + 1))
      rw [show r + 1 + (K - (r + 1)) = K by omega] at hle
      have hsm : s + nr ≤ 1000 := by have := HT.out.2; omega
      have HS2 : Hid (s + nr = sumK nn (r + 1)) := hsn
      have hneg : ¬ ((s : Int) + (nr : Int) < 0) := by omega
      clear hsn hle hxr hnr hcr
      go_wp2
      go_roundw
      case rel => exact ⟨r + 1, s + nr, by omega, by go_num, by go_num, hsm, HS2.out, by first | rfl | trivial⟩
      case measure => simp [intOf]; omega
    · have hib : ¬ (r : Int) < (K : Int) := by omega
      have hsn : s = S := by rw [HS.out, HSm.out, show r = K by omega]
      have HG : Hid (Calls Try.prog 83 #[.slice none 0 0, .int .i64 (s : Nat)] w fun e w' => ∃ v, e = .returned v ∧ OwnI w.heap.size v [] w' ∧ Below w.heap.size w w') := grow_any (by omega) w
      clear hsn
      go_wp2_with fail
      refine HG.out.mono ?_
      rintro e w1 ⟨v1, rfl, ho1, hb1⟩
      have H1 : Hid (OwnI w.heap.size v1 (catK nn zz 0) w1 ∧ Below w.heap.size w w1) := ⟨ho1, hb1⟩
      clear ho1 hb1
      go_wp2
      go_loopw [6, 27] (fun vl vi wr => ∃ r : Nat, r ≤ K ∧ vi = .int .i64 r ∧ Hid (OwnI w.heap.size vl (catK nn zz r) wr ∧ Below w.heap.size w wr)) (fun _ vi _ => K - (intOf vi).toNat)
      case atStart => exact ⟨0, by omega, rfl, H1.out⟩
      case round =>
        clear H1
        obtain ⟨r, hr, rfl, HK⟩ := hrel
        rename World => wr
        by_cases hlt : r < K
        · have hib : (r : Int) < (K : Int) := by omega
          have hib0 : (0 : Int) ≤ (r : Int) := by omega
          obtain ⟨hc, hsl, hnx⟩ := (HT.out.1.below HK.out.2) r hlt
          obtain ⟨xr, hxr⟩ : ∃ xr, xr = x r := ⟨_, rfl⟩
          obtain ⟨nr, hnr⟩ : ∃ nr, nr = nn r := ⟨_, rfl⟩
          obtain ⟨cr, hcr⟩ : ∃ cr, cr = cx r := ⟨_, rfl⟩
          have HP : Hid (SlZ xr nr (zz r) wr ∧ (xr = none → cr = 0) ∧ catK nn zz r ++ zl nr (zz r) = catK nn zz (r + 1)) := by rw [hxr, hnr, hcr]; exact ⟨hsl, hnx, rfl⟩
          have hll : (catK nn zz r).length + nr ≤ 1000 := by
            have hle := sumK_le nn (r + 1) (K - (r + 1))
            rw [show r + 1 + (K - (r + 1)) = K by omega] at hle
            have e : sumK nn (r + 1) = sumK nn r + nn r := rfl
            have := HT.out.2
            rw [catK_len, hnr]; omega
          rw [← hxr, ← hnr, ← hcr] at hc
          have hsz := HK.out.2.size
          clear hsl hnx hxr hnr hcr
          go_wp2_with (at_builtin; refine append_ints rfl _ _ rfl w.heap.size _ (catK nn zz r) rfl HK.out.1 xr nr cr (zz r) rfl HP.out.1 HP.out.2.1 (by omega) hsz ?_; intro v5 w5 hown5 hgrow5)
          have HR : Hid (OwnI w.heap.size v5 (catK nn zz (r + 1)) w5 ∧ Below w.heap.size w w5) := ⟨by rw [← HP.out.2.2]; exact hown5, HK.out.2.grown hgrow5 hsz (fun k hk => (HK.out.1.lt k hk).1)⟩
          clear hown5 hgrow5
          go_roundw
          case rel => exact ⟨r + 1, by omega, by go_num, HR.out⟩
          case measure => simp [intOf]; omega
        · have hib : ¬ (r : Int) < (K : Int) := by omega
          have HE : Hid (OwnI w.heap.size u6 (catK nn zz K) wr ∧ Below w.heap.size w wr) := by
            have h := HK.out
            rw [show r = K by omega] at h; exact h
          go_wp2
          go_ret
          exact ⟨_, rfl, HE.out⟩

/-- All words that come of one by losing one of its first k numbers. -/
def lsL (f : Nat → Nat) : Nat → List (Nat → Nat)
  | 0 => []
  | k + 1 => lsL f k ++ [wo k f]
theorem lsL_mem {f c : Nat → Nat} : ∀ k, c ∈ lsL f k ↔ ∃ i, i < k ∧ c = wo i f
  | 0 => ⟨fun h => (by cases h), fun ⟨i, h, _⟩ => absurd h (by omega)⟩
  | k + 1 => by
    show c ∈ lsL f k ++ [wo k f] ↔ _
    rw [List.mem_append, lsL_mem k, List.mem_singleton]
    constructor
    · rintro (⟨i, hi, e⟩ | e)
      · exact ⟨i, by omega, e⟩
      · exact ⟨k, by omega, e⟩
    · rintro ⟨i, hi, e⟩
      by_cases h : i = k
      · exact Or.inr (by rw [e, h])
      · exact Or.inl ⟨i, by omega, e⟩

end Go.Proofs.Ytabkomelnhnoiaa
