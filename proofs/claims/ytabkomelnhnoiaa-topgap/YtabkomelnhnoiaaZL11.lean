/- Texts of ours, one behind the other: L11 L12 U23 H1 H2 H3 H4 K4 S8 Y1 Y2 Y3 S9 Y4 W10 Y5 S10. -/
import Derived.Test.YtabkomelnhnoiaaZS4
import Derived.Test.YtabkomelnhnoiaaZL10
import Derived.Test.YtabkomelnhnoiaaZU21
import Derived.Maps.AppendAt
import Derived.Deep.AppendLies
import Derived.Test.YtabkomelnhnoiaaZW9
/- MatrixSays: lists of lists held against one another; how heavy a matrix is; are all numbers elements. -/
namespace Go.Proofs.Ytabkomelnhnoiaa
open Go.RowKit Go.Sort

theorem sl_sliceI {x : Option Addr} {n cx : Nat} {c : Nat → Nat} {w : World} (h : Sl x n c w) (hn : n ≤ 1000000) : SliceI (.slice x n cx) (zl n fun j => ((c j : Nat) : Int)) w := by
  by_cases h0 : n = 0
  · subst h0
    exact Or.inl ⟨rfl, x, cx, rfl⟩
  · obtain ⟨b, off, e, _⟩ := h 0 (by omega)
    refine Or.inr ⟨fun e => ?_, by rw [zl_len]; exact hn, b, off, cx, by rw [zl_len, e], fun j hj => ?_⟩
    · have := congrArg List.length e
      rw [zl_len] at this
      exact h0 this
    · rw [zl_len] at hj
      obtain ⟨b', off', e', hc⟩ := h j hj
      rw [e] at e'
      cases e'
      rw [zl_getD n _ j hj]; exact hc

set_option maxHeartbeats 2000000 in
set_option maxRecDepth 100000 in
theorem sameAll_rl {va vb : Value} {k n : Nat} {R : Nat → Nat → Nat} {w : World} (ha : RL va k n R w) (hb : RL vb k n R w) (hk : k ≤ 1000000) (hn : n ≤ 1000000) :
    Calls Try.prog 45 #[va, vb] w fun e w' => e = .returned (.bool true) ∧ ∃ n, w' = w.drewN n := by
  obtain ⟨ao, ca, rfl, ha⟩ := ha
  obtain ⟨bo, cb, rfl, hb⟩ := hb
  have HC : Hid ((∀ i, i < k → ∃ b off x cx, ao = some ⟨b, off, none⟩ ∧ w.cell? ⟨b, off + i, none⟩ = some (.slice x n cx) ∧ Sl x n (R i) w) ∧ ∀ i, i < k → ∃ b off x cx, bo = some ⟨b, off, none⟩ ∧ w.cell? ⟨b, off + i, none⟩ = some (.slice x n cx) ∧ Sl x n (R i) w) := ⟨ha, hb⟩
  clear ha hb
  go_enter Try.func45, Try.ntmps45
  go_wp2
  go_loopw [5] (fun i wr => ∃ r : Nat, r ≤ k ∧ i = .int .i64 r ∧ ∃ n, wr = w.drewN n) (fun i _ => k - (intOf i).toNat)
  case atStart => exact ⟨0, by omega, rfl, 0, rfl⟩
  case round =>
    obtain ⟨r, hr, rfl, d, rfl⟩ := hrel
    by_cases hlt : r < k
    · obtain ⟨b, off, x, cx, rfl, hc, hs⟩ := HC.out.1 r hlt
      obtain ⟨b', off', x', cx', rfl, hc', hs'⟩ := HC.out.2 r hlt
      have HS : Hid (∀ k, Calls Try.prog 17 #[.slice x n cx, .slice x' n cx'] (w.drewN (d + k)) fun e w' => e = .returned (.bool true) ∧ ∃ m, w' = w.drewN (d + m)) := fun k => by
        refine (same_any (w := w.drewN (d + k)) ((sl_sliceI hs hn).drewN _) ((sl_sliceI hs' hn).drewN _)).mono ?_
        rintro e w' ⟨rfl, m, rfl⟩
        exact ⟨by rw [decide_eq_true rfl], k + m, by rw [World.drewN_drewN, Nat.add_assoc]⟩
      have hib : (r : Int) < (k : Int) := by omega
      have hib0 : (0 : Int) ≤ (r : Int) := by omega
      clear hs hs'
      go_wp2
      go_big_quiet (first | (go_at_call 17; exact HS.out _))
      go_wp2
      go_roundw
      case rel => exact ⟨r + 1, by omega, by go_num, _, by first | rfl | rw [World.drewN_drewN]⟩
      case measure => simp [intOf]; omega
    · go_wp2
      go_ret
      exact ⟨rfl, _, rfl⟩

set_option maxHeartbeats 2000000 in
theorem lists_rl {va vb : Value} {k n : Nat} {R : Nat → Nat → Nat} {w : World} (ha : RL va k n R w) (hb : RL vb k n R w) (hk : k ≤ 1000000) (hn : n ≤ 1000000) :
    Calls Try.prog 12 #[va, .int .i64 0, vb, .int .i64 0] w fun r w' => r = .returned (.bool true) ∧ ∃ n, w' = w.drewN n := by
  have H : Hid (RL va k n R w ∧ RL vb k n R w) := ⟨ha, hb⟩
  clear ha hb
  go_enter Try.func12, Try.ntmps12
  go_wp2_with fail
  refine (sameAll_rl H.out.1 H.out.2 hk hn).mono ?_
  rintro e w' ⟨rfl, n, rfl⟩
  go_wp2
  go_ret
  exact ⟨rfl, _, rfl⟩

end Go.Proofs.Ytabkomelnhnoiaa

/- MatrixSays: inverses. -/
namespace Go.Proofs.Ytabkomelnhnoiaa
open Go.RowKit Go.Sort

theorem mchk_of {D : FD} {m : Nat} {N : Nat → Nat} {Z : Nat → Nat → Int} (hm : m ≤ 64) (h : ∀ i, i < m → D.mrow (N 0) (N i) (Z i) = 0) : D.mchk m N Z = 0 := by
  have key : ∀ k, k ≤ m → D.mchks N Z k = 0 := fun k => by
    induction k with
    | zero => intro _; rfl
    | succ k ih =>
      intro hk
      rw [FD.mchks, ih (by omega)]
      simp [h k (by omega)]
  unfold FD.mchk
  rw [if_neg (by omega)]
  exact key m (Nat.le_refl _)
theorem InvR.mchk {D : FD} {m : Nat} {R : Nat → Nat → Nat} (hm0 : 0 < m) (hm : m ≤ 64) (he : ∀ i, i < m → El D (R i)) : D.mchk m (fun _ => m) (fun i c => ((R i (m + c) : Nat) : Int)) = 0 := by
  refine mchk_of hm (fun i hi => ?_)
  unfold FD.mrow
  rw [if_neg (by omega), if_neg (by omega), if_pos]
  exact allHas_iff.2 (fun j _ => has_of_lt (he i hi (m + j)))

end Go.Proofs.Ytabkomelnhnoiaa

/- The program's polynomials: a sum with an empty list, wherever that lies. -/
namespace Go.Proofs.Ytabkomelnhnoiaa
open Go.RowKit Go.Sort

end Go.Proofs.Ytabkomelnhnoiaa

/- Curves (lists.Curve): what both sides reckon; the calls that they make. -/
namespace Go.Proofs.Ytabkomelnhnoiaa
open Go.RowKit Go.Sort

theorem OwnP.arg {base n : Nat} {v : Value} {c : Nat → Nat} {w : World} (h : OwnP base v n c w) (hn : n ≤ 1000000) : ∃ so sc, v = .slice so n sc ∧ Arg so n sc (fun j => ((c j : Nat) : Int)) w := by
  obtain ⟨so, sc, rfl, h1, h2, _, h4, h5, h6⟩ := h.open
  exact ⟨so, sc, rfl, h6, h4, hn, h5, h1, h2⟩
theorem MatZ.arg {ao : Option Addr} {m : Nat} {A : Nat → Option Addr} {N C : Nat → Nat} {Z : Nat → Nat → Int} {w : World} (h : MatZ ao m A N C Z w) {j : Nat} (hj : j < m) (hN : N j ≠ 0) : Arg (A j) (N j) (C j) (Z j) w := by
  refine ⟨h.sl j hj, fun x hx => ?_, h.few j hj, h.nil j hj, h.le j hj, h.cap j hj⟩
  obtain ⟨b, off, e, hc⟩ := h.sl j hj 0 (by omega)
  rw [hx] at e
  cases e
  exact cell_lt hc
end Go.Proofs.Ytabkomelnhnoiaa

/- Curves: the program's, and the reference's. -/
namespace Go.Proofs.Ytabkomelnhnoiaa
open Go.RowKit Go.Sort

end Go.Proofs.Ytabkomelnhnoiaa

/- Curves: the reference's. -/
namespace Go.Proofs.Ytabkomelnhnoiaa
open Go.RowKit Go.Sort

end Go.Proofs.Ytabkomelnhnoiaa

/- ListsCurve: the walk of the statement, whatever it is given. -/
namespace Go.Proofs.Ytabkomelnhnoiaa
open Go.RowKit Go.Sort

end Go.Proofs.Ytabkomelnhnoiaa

/- Matrices out of raw numbers (MatrixOf). -/
namespace Go.Proofs.Ytabkomelnhnoiaa
open Go.RowKit Go.Sort

/-- i lists of c numbers below q, in a list of the call's own. -/
structure MkS (base q c i : Nat) (v : Value) (vs : Nat → Value) (Z : Nat → Nat → Int) (w : World) : Prop where
  own : OwnV base v (vl i vs) w
  row : ∀ j, j < i → OwnI base (vs j) (zl c (Z j)) w
  blw : ∀ j, j < i → Blw q c (Z j)
theorem MkS.below {base q c i : Nat} {v : Value} {vs : Nat → Value} {Z : Nat → Nat → Int} {w w' : World} (h : MkS base q c i v vs Z w) (hb : Below w.heap.size w w') : MkS base q c i v vs Z w' :=
  ⟨h.own.below hb (Nat.le_refl _), fun j hj => (h.row j hj).below hb (fun k hk => ((h.row j hj).lt k hk).2), h.blw⟩
theorem MkS.push {base q c i : Nat} {v v' u : Value} {vs : Nat → Value} {Z : Nat → Nat → Int} {y : Nat → Int} {w w' : World} (h : MkS base q c i v vs Z w) (hu : OwnI base u (zl c y) w) (hy : Blw q c y) (ho : OwnV base v' (vl i vs ++ [u]) w') (hg : w.grownBy w' v.ownBlock) :
    MkS base q c (i + 1) v' (fun j => if j = i then u else vs j) (fun j => if j = i then y else Z j) w' := by
  refine ⟨?_, fun j hj => ?_, fun j hj => ?_⟩
  · have e : vl (i + 1) (fun j => if j = i then u else vs j) = vl i vs ++ [u] := by
      unfold vl
      rw [List.range_succ, List.map_append]
      congr 1
      · exact List.map_congr_left (fun j hj => by rw [if_neg (by have := List.mem_range.1 hj; omega)])
      · simp
    rw [e]; exact ho
  · by_cases e : j = i
    · simp only [if_pos e]; exact hu.kept hg (hu.apart h.own)
    · simp only [if_neg e]; exact (h.row j (by omega)).kept hg ((h.row j (by omega)).apart h.own)
  · by_cases e : j = i
    · simp only [if_pos e]; exact hy
    · simp only [if_neg e]; exact h.blw j (by omega)
end Go.Proofs.Ytabkomelnhnoiaa

/- Plain mathematics: the shortest rule of a list (Berlekamp and Massey). -/
namespace Go.Proofs.Ytabkomelnhnoiaa

/-- The rule C of length L holds for the first N numbers of s. -/
def Gen (D : FD) (s C : Nat → Nat) (L N : Nat) : Prop := ∀ t, L ≤ t → t < N → pmul D (L + 1) C s t = 0
/-- A rule of length L. -/
structure Rul (D : FD) (C : Nat → Nat) (L : Nat) : Prop where
  el : El D C
  bd : Bd (L + 1) C
  one : C 0 = 1
/-- The state when i numbers are seen: the rule, its length; an older rule, what it missed. -/
structure BMS (D : FD) (s : Nat → Nat) (i : Nat) (C : Nat → Nat) (lc L : Nat) (O : Nat → Nat) (lo b : Nat) : Prop where
  rul : Rul D C L
  bdc : Bd lc C
  lcL : lc ≤ L + 1
  lc1 : 1 ≤ lc
  le : L ≤ i
  gen : Gen D s C L i
  min : ∀ C' L', Rul D C' L' → Gen D s C' L' i → L ≤ L'
  elo : El D O
  bdo : Bd lo O
  loL : lo ≤ i + 1 - L
  bq : b < D.q
  b0 : b ≠ 0
  old : L = 0 ∨ (1 ≤ i ∧ (∀ t, i - L ≤ t → t + 1 < i → pmul D lo O s t = 0) ∧ pmul D lo O s (i - 1) = b)
end Go.Proofs.Ytabkomelnhnoiaa

/- The program's rules (reed): trim, missed, less. -/
namespace Go.Proofs.Ytabkomelnhnoiaa
open Go.RowKit Go.Sort

end Go.Proofs.Ytabkomelnhnoiaa

/- The program's rules (reed): the shortest one (shortest, Massey). -/
namespace Go.Proofs.Ytabkomelnhnoiaa
open Go.RowKit Go.Sort

theorem Arg.drewN {ao : Option Addr} {n cap : Nat} {z : Nat → Int} {w : World} (h : Arg ao n cap z w) (k : Nat) : Arg ao n cap z (w.drewN k) := ⟨h.sl, h.lt, h.few, h.nil, h.le, h.cap⟩

end Go.Proofs.Ytabkomelnhnoiaa

/- The program's Massey; lists that are far too long. -/
namespace Go.Proofs.Ytabkomelnhnoiaa
open Go.RowKit Go.Sort

end Go.Proofs.Ytabkomelnhnoiaa

/- Equations that can be met, and the rules of shorter length. -/
namespace Go.Proofs.Ytabkomelnhnoiaa
open Go.RowKit Go.Sort

/-- The sum of the products, place by place. -/
def dt (D : FD) (u v : Nat → Nat) : Nat → Nat
  | 0 => 0
  | n + 1 => D.ad (dt D u v n) (D.mul (u n) (v n))
end Go.Proofs.Ytabkomelnhnoiaa

/- The reference's Rules: does the rule hold? -/
namespace Go.Proofs.Ytabkomelnhnoiaa
open Go.RowKit Go.Sort

end Go.Proofs.Ytabkomelnhnoiaa

/- 'append' of one number, and where its list lies then. -/
namespace Go.Proofs.Ytabkomelnhnoiaa
open Go.RowKit Go.Sort

end Go.Proofs.Ytabkomelnhnoiaa

/- The reference's Shortest: is there no shorter rule? What it keeps. -/
namespace Go.Proofs.Ytabkomelnhnoiaa
open Go.RowKit Go.Sort

/-- The rows of the equations for length c (a of them), and what they are to give (d of them). -/
structure ShS (D : FD) (s : Nat → Nat) (base c a d : Nat) (vm : Value) (vs : Nat → Value) (vb : Value) (w : World) : Prop where
  mks : MkS base D.q c a vm vs (fun j t => ((s (c + j - 1 - t) : Nat) : Int)) w
  ob : OwnI base vb (zl d fun t => ((D.ng (s (c + t)) : Nat) : Int)) w
  ap : ∀ j, j < a → ∀ g, (vs j).ownBlock = some g → vb.ownBlock ≠ some g
theorem ShS.below {D : FD} {s : Nat → Nat} {base c a d : Nat} {vm vb : Value} {vs : Nat → Value} {w w' : World} (h : ShS D s base c a d vm vs vb w) (hb : Below w.heap.size w w') : ShS D s base c a d vm vs vb w' :=
  ⟨h.mks.below hb, h.ob.below hb (fun k hk => (h.ob.lt k hk).2), h.ap⟩
theorem OwnI.apartV {base base' : Nat} {u v : Value} {l : List Int} {l' : List Value} {w : World} (h : OwnI base u l w) (h' : OwnV base' v l' w) : v.ownBlock = none ∨ v.ownBlock ≠ u.ownBlock := by
  rcases h.apart h' with e | e
  · cases hv : v.ownBlock with
    | none => exact Or.inl rfl
    | some g => exact Or.inr (by rw [e]; exact fun x => by cases x)
  · exact Or.inr (fun x => e x.symm)
theorem ShS.push {D : FD} {s : Nat → Nat} {base c a d W : Nat} {vm vm' vb u : Value} {vs : Nat → Value} {w w' : World} (hs : El D s) (h : ShS D s base c a d vm vs vb w) (hu : OwnI W u (zl c fun t => ((s (c + a - 1 - t) : Nat) : Int)) w) (hW : base ≤ W) (hlt : ∀ k, vb.ownBlock = some k → k < W)
    (ho : OwnV base vm' (vl a vs ++ [u]) w') (hg : w.grownBy w' vm.ownBlock) : ShS D s base c (a + 1) d vm' (fun j => if j = a then u else vs j) vb w' := by
  have e : (fun j => if j = a then (fun t => ((s (c + a - 1 - t) : Nat) : Int)) else fun t => ((s (c + j - 1 - t) : Nat) : Int)) = fun j t => ((s (c + j - 1 - t) : Nat) : Int) := by
    funext j t
    by_cases e : j = a
    · rw [if_pos e, e]
    · rw [if_neg e]
  refine ⟨?_, h.ob.kept hg (h.ob.apart h.mks.own), fun j hj g hv => ?_⟩
  · have k := h.mks.push (hu.mono hW) (fun t _ => ⟨by omega, by have := hs (c + a - 1 - t); omega⟩) ho hg
    rw [e] at k; exact k
  · by_cases e : j = a
    · simp only [if_pos e] at hv
      have h1 := (hu.lt g hv).1
      intro h2
      have := hlt g h2
      omega
    · simp only [if_neg e] at hv
      exact h.ap j (by omega) g hv
theorem ShS.more {D : FD} {s : Nat → Nat} {base c a d : Nat} {vm vb vb' : Value} {vs : Nat → Value} {w w' : World} (h : ShS D s base c a d vm vs vb w) (ho : OwnI base vb' (zl d (fun t => ((D.ng (s (c + t)) : Nat) : Int)) ++ [((D.ng (s (c + d)) : Nat) : Int)]) w') (hg : w.grownBy w' vb.ownBlock) (hat : vb'.ownBlock = vb.ownBlock ∨ vb'.ownBlock = some w.heap.size) : ShS D s base c a (d + 1) vm vs vb' w' := by
  refine ⟨⟨h.mks.own.grown hg (h.ob.apartV h.mks.own), fun j hj => (h.mks.row j hj).kept hg ?_, h.mks.blw⟩, by rw [zl_succ]; exact ho, fun j hj g hv => ?_⟩
  · cases hv : (vs j).ownBlock with
    | none => exact Or.inl rfl
    | some g => exact Or.inr (fun x => h.ap j hj g hv x.symm)
  · rcases hat with e | e
    · rw [e]; exact h.ap j hj g hv
    · rw [e]
      have h1 := ((h.mks.row j hj).lt g hv).2
      intro h2
      cases h2
      omega
end Go.Proofs.Ytabkomelnhnoiaa

/- Lists that a rule makes: the shortest rule of enough of them makes the rest. -/
namespace Go.Proofs.Ytabkomelnhnoiaa
open Go.RowKit Go.Sort

/-- Each number from the place n on is that sum of those ahead. -/
def Made (D : FD) (c : Nat → Nat) (n : Nat) (s : Nat → Nat) (N : Nat) : Prop := ∀ t, n ≤ t → t < N → s t = dt D c (fun k => s (t - 1 - k)) n
end Go.Proofs.Ytabkomelnhnoiaa
