/- Texts of ours, one behind the other: KI6 KI7. -/
import Derived.Test.YtabkomelnhnoiaaZKI5
import Derived.Test.YtabkomelnhnoiaaZW9
import Derived.Test.YtabkomelnhnoiaaZI5
import Derived.Test.YtabkomelnhnoiaaZS32
/- Words that may lose a bit: how far apart two are (the reference's Steps). -/
namespace Go.Proofs.Ytabkomelnhnoiaa
open Go.RowKit Go.Sort

/-- A table of numbers, row by row, each in a block of its own. -/
structure TbL (base : Nat) (v : Value) (k n : Nat) (hd : Nat → Nat) (Z : Nat → Nat → Nat) (w : World) : Prop where
  own : OwnV base v (vl k fun i => .slice (some ⟨hd i, 0, none⟩) n n) w
  row : ∀ i, i < k → Row (hd i) n (Z i) w
  ge : ∀ i, i < k → base ≤ hd i
  inj : ∀ i, i < k → ∀ j, j < k → hd i = hd j → i = j
theorem TbL.nil (base n : Nat) (hd : Nat → Nat) (Z : Nat → Nat → Nat) (w : World) : TbL base (.slice none 0 0) 0 n hd Z w := ⟨OwnV.nil _ _, fun i hi => absurd hi (by omega), fun i hi => absurd hi (by omega), fun i hi => absurd hi (by omega)⟩
theorem TbL.below {base k n : Nat} {v : Value} {hd : Nat → Nat} {Z : Nat → Nat → Nat} {w w' : World} (h : TbL base v k n hd Z w) (hb : Below w.heap.size w w') : TbL base v k n hd Z w' := ⟨h.own.below hb (Nat.le_refl _), fun i hi => (h.row i hi).below hb (h.row i hi).lt, h.ge, h.inj⟩
theorem TbL.drewN {base k n : Nat} {v : Value} {hd : Nat → Nat} {Z : Nat → Nat → Nat} {w : World} (h : TbL base v k n hd Z w) (d : Nat) : TbL base v k n hd Z (w.drewN d) := h.below (below_drewN2 (Below.refl _ _) d)
theorem TbL.push {base k n g : Nat} {v v' : Value} {hd : Nat → Nat} {Z : Nat → Nat → Nat} {w w' : World} (h : TbL base v k n hd Z w) (hr : Row g n (fun _ => 0) w) (hg : base ≤ g) (hne : ∀ i, i < k → hd i ≠ g) (ho : OwnV base v' ((vl k fun i => .slice (some ⟨hd i, 0, none⟩) n n) ++ [.slice (some ⟨g, 0, none⟩) n n]) w') (hgr : w.grownBy w' v.ownBlock) :
    TbL base v' (k + 1) n (fun i => if i = k then g else hd i) (fun i => if i = k then fun _ => 0 else Z i) w' := by
  refine ⟨?_, fun i hi => ?_, fun i hi => ?_, fun i hi j hj e => ?_⟩
  · have e : vl (k + 1) (fun i => .slice (some ⟨if i = k then g else hd i, 0, none⟩) n n) = (vl k fun i => .slice (some ⟨hd i, 0, none⟩) n n) ++ [.slice (some ⟨g, 0, none⟩) n n] := by
      unfold vl
      rw [List.range_succ, List.map_append]
      congr 1
      · exact List.map_congr_left (fun j hj => by rw [if_neg (by have := List.mem_range.1 hj; omega)])
      · simp
    rw [e]; exact ho
  · by_cases e : i = k
    · simp only [if_pos e]; exact hr.other (hgr.block g hr.lt (hr.apart h.own))
    · simp only [if_neg e]; exact (h.row i (by omega)).other (hgr.block _ (h.row i (by omega)).lt ((h.row i (by omega)).apart h.own))
  · by_cases e : i = k
    · simp only [if_pos e]; exact hg
    · simp only [if_neg e]; exact h.ge i (by omega)
  · by_cases e1 : i = k
    · by_cases e2 : j = k
      · omega
      · simp only [if_pos e1, if_neg e2] at e; exact absurd e.symm (hne j (by omega))
    · by_cases e2 : j = k
      · simp only [if_neg e1, if_pos e2] at e; exact absurd e (hne i (by omega))
      · simp only [if_neg e1, if_neg e2] at e; exact h.inj i (by omega) j (by omega) e
theorem TbL.put {base k n : Nat} {v : Value} {hd : Nat → Nat} {Z : Nat → Nat → Nat} {w : World} (h : TbL base v k n hd Z w) {i : Nat} (hi : i < k) (j x : Nat) : TbL base v k n hd (fun a b => if a = i ∧ b = j then x else Z a b) (w.setCell ⟨hd i, j, none⟩ (.int .i64 (x : Nat))) := by
  refine ⟨h.own.same fun g hg => Below.heap_setCell _ _ _ _ (fun e => (h.row i hi).apart h.own (by rw [hg, e])), fun a ha => ?_, h.ge, h.inj⟩
  by_cases e : a = i
  · subst e
    refine (h.row a ha).store j x fun b _ => ?_
    by_cases e2 : b = j
    · rw [if_pos ⟨rfl, e2⟩, if_pos e2]
    · rw [if_neg (fun x => e2 x.2), if_neg e2]
  · refine ((h.row a ha).other (Below.heap_setCell _ _ _ _ (fun x => e (h.inj a ha i hi x)))).congr fun b _ => ?_
    rw [if_neg (fun x => e x.1)]
/-- The rows ahead of i, and of row i the numbers ahead of j, are told. -/
def SrI (x y : Nat → Int) (m : Nat) (Z : Nat → Nat → Nat) (i j : Nat) : Prop := (∀ a b, a < i → b ≤ m → Z a b = lvd x y a b) ∧ ∀ b, b < j → Z i b = lvd x y i b
theorem SrI.next {x y : Nat → Int} {m : Nat} {Z : Nat → Nat → Nat} {i j : Nat} (h : SrI x y m Z i j) {v : Nat} (hv : v = lvd x y i j) : SrI x y m (fun a b => if a = i ∧ b = j then v else Z a b) i (j + 1) := by
  refine ⟨fun a b ha hb => ?_, fun b hb => ?_⟩
  · show (if a = i ∧ b = j then v else Z a b) = _
    rw [if_neg (by omega)]; exact h.1 a b ha hb
  · show (if i = i ∧ b = j then v else Z i b) = _
    by_cases e : b = j
    · rw [if_pos ⟨rfl, e⟩, e]; exact hv
    · rw [if_neg (fun x => e x.2)]; exact h.2 b (by omega)
theorem SrI.row {x y : Nat → Int} {m : Nat} {Z : Nat → Nat → Nat} {i : Nat} (h : SrI x y m Z i (m + 1)) : SrI x y m Z (i + 1) 0 := by
  refine ⟨fun a b ha hb => ?_, fun b hb => absurd hb (by omega)⟩
  by_cases e : a = i
  · rw [e]; exact h.2 b (by omega)
  · exact h.1 a b (by omega) hb

end Go.Proofs.Ytabkomelnhnoiaa

/- Words that may lose a bit: gap.Check, the reference's GapMay, gap.Steps. -/
namespace Go.Proofs.Ytabkomelnhnoiaa
open Go.RowKit Go.Sort

/-- What is said of a word. -/
def gwchk (n : Nat) (z : Nat → Int) : Int := if 13 < n then 4 else if allP isbt z n = true then 0 else 2
theorem gwchk_ok {n : Nat} {z : Nat → Int} (h : gwchk n z = 0) : n ≤ 13 ∧ allP isbt z n = true := by
  unfold gwchk at h
  by_cases h1 : 13 < n
  · rw [if_pos h1] at h; cases h
  · rw [if_neg h1] at h
    refine ⟨by omega, ?_⟩
    by_cases h2 : allP isbt z n = true
    · exact h2
    · rw [if_neg h2] at h; cases h
set_option maxHeartbeats 2000000 in
theorem bAll_any {ao : Option Addr} {l cap : Nat} {z : Nat → Int} {w : World} (hs : SlZ ao l z w) (hn : l ≤ 1000000) :
    Calls Try.prog 49 #[.slice ao l cap] w fun e w' => e = .returned (.bool (allP isbt z l)) ∧ w' = w := by
  have HC : Hid (Calls Try.prog 67 #[.slice ao l cap, .func (.func 68) #[] #[]] w fun e w' => e = .returned (.bool (allP isbt z l)) ∧ w' = w) := ball_any enters_isbit hs hn (fun x => isBit_any x w)
  obtain ⟨E, hE⟩ : ∃ E, E = allP isbt z l := ⟨_, rfl⟩
  rw [← hE] at HC ⊢
  clear hs hE
  go_enter Try.func49, Try.ntmps49
  go_wp2_with (go_at_call 67; refine HC.out.mono ?_; rintro e w' ⟨rfl, hw⟩; have hw := hw.symm; subst hw)
  go_ret
  exact ⟨rfl, rfl⟩
set_option maxHeartbeats 2000000 in
set_option maxRecDepth 100000 in
theorem gCheck_any {ao : Option Addr} {n cap : Nat} {z : Nat → Int} {w : World} (hs : SlZ ao n z w) (hn : n ≤ 1000000) :
    Calls Try.prog 16 #[.slice ao n cap] w fun e w' => e = .returned (.int .i64 (gwchk n z)) ∧ w' = w := by
  obtain ⟨E, hE⟩ : ∃ E, E = gwchk n z := ⟨_, rfl⟩
  rw [← hE]
  by_cases h1 : 13 < n
  · have HV : Hid (E = 4) := by show E = 4; rw [hE]; unfold gwchk; rw [if_pos h1]
    have hb : (13 : Int) < (n : Int) := by omega
    clear hE h1
    go_enter Try.func16, Try.ntmps16
    go_wp2
    go_ret
    exact ⟨by rw [HV.out]; rfl, rfl⟩
  · have hb : ¬ (13 : Int) < (n : Int) := by omega
    obtain ⟨r, hr⟩ : ∃ r, r = allP isbt z n := ⟨_, rfl⟩
    have HC : Hid (Calls Try.prog 49 #[.slice ao n cap] w fun e w' => e = .returned (.bool r) ∧ w' = w) := by rw [hr]; exact bAll_any hs hn
    have HE : Hid (E = if r = true then 0 else 2) := by show E = _; rw [hE, hr]; unfold gwchk; rw [if_neg h1]
    clear hE h1 hr
    cases r with
    | true =>
      have HV : Hid (E = 0) := HE.out
      go_enter Try.func16, Try.ntmps16
      go_wp2_with (go_at_call 49; refine HC.out.mono ?_; rintro e w' ⟨rfl, hw⟩; have hw := hw.symm; subst hw)
      go_ret
      exact ⟨by rw [HV.out]; rfl, rfl⟩
    | false =>
      have HV : Hid (E = 2) := HE.out
      go_enter Try.func16, Try.ntmps16
      go_wp2_with (go_at_call 49; refine HC.out.mono ?_; rintro e w' ⟨rfl, hw⟩; have hw := hw.symm; subst hw)
      go_ret
      exact ⟨by rw [HV.out]; rfl, rfl⟩
/-- What Steps tells. -/
def stE (n m : Nat) (x y : Nat → Int) : Int := if gwchk n x ≠ 0 then gwchk n x else gwchk m y
set_option maxHeartbeats 2000000 in
set_option maxRecDepth 100000 in
theorem gSteps_any {ao bo : Option Addr} {n m ca cb : Nat} {x y : Nat → Int} {w : World} (hX : SlZ ao n x w) (hY : SlZ bo m y w) (hn : n ≤ 1000000) (hm : m ≤ 1000000) :
    Calls Try.prog 22 #[.slice ao n ca, .slice bo m cb] w fun e w' => e = .returned (.tuple #[.int .i64 ((if stE n m x y = 0 then lvd x y n m else 0 : Nat) : Int), .int .i64 (stE n m x y)]) ∧ Below w.heap.size w w' := by
  obtain ⟨E, hE⟩ : ∃ E, E = stE n m x y := ⟨_, rfl⟩
  obtain ⟨A, hA⟩ : ∃ A : Nat, A = if E = 0 then lvd x y n m else 0 := ⟨_, rfl⟩
  obtain ⟨e1, he1⟩ : ∃ e1, e1 = gwchk n x := ⟨_, rfl⟩
  obtain ⟨e2, he2⟩ : ∃ e2, e2 = gwchk m y := ⟨_, rfl⟩
  have H1 : Hid (Calls Try.prog 16 #[.slice ao n ca] w fun e w' => e = .returned (.int .i64 e1) ∧ w' = w) := by rw [he1]; exact gCheck_any hX hn
  have H2 : Hid (Calls Try.prog 16 #[.slice bo m cb] w fun e w' => e = .returned (.int .i64 e2) ∧ w' = w) := by rw [he2]; exact gCheck_any hY hm
  rw [← hE, ← hA]
  by_cases h1 : e1 = 0
  · have z1 : (e1 != 0) = false := by rw [h1]; rfl
    have hEe : E = e2 := by rw [hE, he2]; unfold stE; rw [if_neg (by rw [← he1]; exact fun x => x h1)]
    by_cases h2 : e2 = 0
    · have z2 : (e2 != 0) = false := by rw [h2]; rfl
      have hn13 : n ≤ 13 := (gwchk_ok (he1.symm.trans h1)).1
      have hm13 : m ≤ 13 := (gwchk_ok (he2.symm.trans h2)).1
      have hAl : A = lvd x y n m := by rw [hA, if_pos (hEe.trans h2)]
      have HB : Hid (Calls Try.prog 55 #[.slice ao n ca, .slice bo m cb] w fun e w' => e = .returned (.int .i64 (A : Nat)) ∧ Below w.heap.size w w') := by rw [hAl]; exact between_any hX hY hn13 hm13
      have HV : Hid (E = 0) := hEe.trans h2
      clear hX hY hE hA he1 he2 h1 h2 hEe hAl
      go_enter Try.func22, Try.ntmps22
      go_wp2_with fail
      refine H1.out.mono ?_
      rintro e w' ⟨rfl, hw⟩
      have hw := hw.symm
      subst hw
      go_wp2_with fail
      refine H2.out.mono ?_
      rintro e w' ⟨rfl, hw⟩
      have hw := hw.symm
      subst hw
      go_wp2_with fail
      refine HB.out.mono ?_
      rintro e w1 ⟨rfl, hb1⟩
      have HB1 : Hid (Below w.heap.size w w1) := hb1
      clear hb1
      go_wp2
      go_ret2
      exact ⟨by rw [HV.out]; rfl, HB1.out⟩
    · have z2 : (e2 != 0) = true := bne_iff_ne.2 h2
      have HV : Hid (E = e2 ∧ A = 0) := ⟨hEe, by rw [hA, if_neg (by rw [hEe]; exact h2)]⟩
      clear hX hY hE hA he1 he2 h1 h2 hEe
      go_enter Try.func22, Try.ntmps22
      go_wp2_with fail
      refine H1.out.mono ?_
      rintro e w' ⟨rfl, hw⟩
      have hw := hw.symm
      subst hw
      go_wp2_with fail
      refine H2.out.mono ?_
      rintro e w' ⟨rfl, hw⟩
      have hw := hw.symm
      subst hw
      go_wp2
      go_ret2
      exact ⟨by rw [HV.out.1, HV.out.2]; rfl, Below.refl _ _⟩
  · have z1 : (e1 != 0) = true := bne_iff_ne.2 h1
    have hEe : E = e1 := by rw [hE, he1]; unfold stE; rw [if_pos (by rw [← he1]; exact h1)]
    have HV : Hid (E = e1 ∧ A = 0) := ⟨hEe, by rw [hA, if_neg (by rw [hEe]; exact h1)]⟩
    clear hX hY hE hA he1 he2 h1 hEe
    go_enter Try.func22, Try.ntmps22
    go_wp2_with fail
    refine H1.out.mono ?_
    rintro e w' ⟨rfl, hw⟩
    have hw := hw.symm
    subst hw
    go_wp2
    go_ret2
    exact ⟨by rw [HV.out.1, HV.out.2]; rfl, Below.refl _ _⟩
end Go.Proofs.Ytabkomelnhnoiaa
