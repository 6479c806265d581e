/- TopNear: the walk of the statement, whatever raw numbers it is given. -/
import Derived.Test.YtcgmllamiaflcaaZS26
import Derived.Test.YtcgmllamiaflcaaZS25
import Derived.Test.YtcgmllamiaflcaaZZ1
import Derived.Test.YtcgmllamiaflcaaZQ6
import Derived.Test.YtcgmllamiaflcaaZZ9
namespace Go.Proofs.Ytcgmllamiaflcaa
open Go.RowKit Go.Sort

theorem near_size : ∀ P : Nat, P < 9 → ∃ D ∈ fieldsL, ([3, 4, 5, 7, 8, 9, 11, 13, 16] : List Nat).getD P 0 = D.q ∧ 3 ≤ D.q ∧ D.q ≤ 16 := by
  have h : ([3, 4, 5, 7, 8, 9, 11, 13, 16] : List Nat).all (fun z => fieldsL.any fun D => D.q == z) = true := by decide +kernel
  intro P hP
  have hm : ([3, 4, 5, 7, 8, 9, 11, 13, 16] : List Nat).getD P 0 ∈ ([3, 4, 5, 7, 8, 9, 11, 13, 16] : List Nat) ∧ 3 ≤ ([3, 4, 5, 7, 8, 9, 11, 13, 16] : List Nat).getD P 0 ∧ ([3, 4, 5, 7, 8, 9, 11, 13, 16] : List Nat).getD P 0 ≤ 16 := by
    have : P = 0 ∨ P = 1 ∨ P = 2 ∨ P = 3 ∨ P = 4 ∨ P = 5 ∨ P = 6 ∨ P = 7 ∨ P = 8 := by omega
    rcases this with rfl | rfl | rfl | rfl | rfl | rfl | rfl | rfl | rfl <;> decide
  have h2 := List.all_eq_true.1 h _ hm.1
  obtain ⟨D, hD, e⟩ := List.any_eq_true.1 h2
  have e := beq_iff_eq.1 e
  exact ⟨D, hD, e.symm, by rw [e]; exact hm.2.1, by rw [e]; exact hm.2.2⟩
theorem near_cell (w : World) {P Q : Nat} (hP : P < 9) (hQ : ([3, 4, 5, 7, 8, 9, 11, 13, 16] : List Nat).getD P 0 = Q) : (w.alloc (.cells #[.int .i64 3, .int .i64 4, .int .i64 5, .int .i64 7, .int .i64 8, .int .i64 9, .int .i64 11, .int .i64 13, .int .i64 16] 3)).cell? ⟨w.heap.size, P, none⟩ = some (.int .i64 (Q : Nat)) := by
  rw [← hQ]
  have : P = 0 ∨ P = 1 ∨ P = 2 ∨ P = 3 ∨ P = 4 ∨ P = 5 ∨ P = 6 ∨ P = 7 ∨ P = 8 := by omega
  rcases this with rfl | rfl | rfl | rfl | rfl | rfl | rfl | rfl | rfl <;> simp
theorem pch_of {D : FD} {z : Nat → Int} : ∀ n, (∀ i, i < n → D.has (z i) = true) → (∀ i j, i < j → j < n → z i ≠ z j) → D.pch z n = 0
  | 0, _, _ => rfl
  | n + 1, h, hd => by
    have ih := pch_of n (fun i hi => h i (by omega)) (fun i j hi hj => hd i j hi (by omega))
    show (if D.pch z n ≠ 0 then D.pch z n else if D.has (z n) = true then (if z n ∈ zl n z then 7 else 0) else 2) = 0
    rw [if_neg (fun e => e ih), if_pos (h n (by omega)), if_neg (fun e => by
      obtain ⟨j, hj, e⟩ := zl_mem.1 e
      exact hd j n hj (by omega) e)]
theorem hchk_of {D : FD} {n : Nat} {z y : Nat → Int} {k : Int} (hn1 : 1 ≤ n) (hn : n ≤ 64) (hp : D.pch z n = 0) (hk1 : 1 ≤ k) (hk : k ≤ (n : Int)) (hy : ∀ j, j < n → D.has (y j) = true) : D.hchk n z k n y = 0 := by
  have h1 : D.rchk n z k = 0 := by
    unfold FD.rchk
    rw [if_neg (by omega), if_neg (fun e => e hp), if_neg (by omega)]
  have h2 : D.allW y n = true := by
    unfold FD.allW
    rw [anyB_no n (fun j hj => by
      unfold FD.wok
      rw [hy j hj]; simp)]
    rfl
  have h3 : D.wchk n z k n y = 0 := by
    unfold FD.wchk
    rw [if_neg (fun e => e h1), if_neg (fun e => e rfl), if_pos h2]
  unfold FD.hchk
  rw [if_neg (fun e => e h3), if_neg (fun e => by
    obtain ⟨j, hj, e⟩ := zl_mem.1 e
    obtain ⟨x, hx, _⟩ := has_nat (hy j hj)
    omega)]

set_option maxHeartbeats 1000000 in
theorem topNear_long {ao bo : Option Addr} {n m ca cb : Nat} (q x k r : Int) (w : World) (hn : ¬ n + m ≤ 256) (hn2 : n ≤ 17592186044416) (hm2 : m ≤ 17592186044416) :
    Calls Try.prog 6 #[.slice ao n ca, .int .i64 q, .int .i64 x, .int .i64 k, .int .i64 r, .slice bo m cb] w fun r w' => r = .returned (.bool true) ∧ Below w.heap.size w w' := by
  have h1 : (256 : Int) < (n : Int) + (m : Int) := by omega
  have h2 : IntKind.i64.wrap ((n : Int) + (m : Int)) = ((n + m : Nat) : Int) := wrap_to (by omega) (by omega)
  have h3 : (256 : Int) < ((n + m : Nat) : Int) := by omega
  go_enter Try.func6, Try.ntmps6
  go_wp2
  go_ret
  exact ⟨rfl, Below.refl _ _⟩

/-- What lies there when the lists are made: places, a word, a message. -/
structure NrS (D : FD) (N K : Nat) (c : Nat → Nat) (gx : Nat) (uo : Option Addr) (uc : Nat) (u : Nat → Int) (w : World) : Prop where
  xs : Sl (some ⟨gx, 0, none⟩) N c w
  lx : LtB (some ⟨gx, 0, none⟩) w.heap.size
  word : Arg uo N uc u w
  whole : Calls Try.prog 42 #[.int .i64 D.q, .slice (some ⟨gx, 0, none⟩) N D.q, .int .i64 (K : Nat), .slice uo N uc] w fun e w' => e = .returned (.int .i64 0) ∧ Below w.heap.size w w'
theorem nrS_of {D : FD} (hD : D ∈ fieldsL) {N K : Nat} {c : Nat → Nat} {gx : Nat} {uo : Option Addr} {uc : Nat} {u : Nat → Int} {w : World} (h1 : Sl (some ⟨gx, 0, none⟩) N c w) (h2 : LtB (some ⟨gx, 0, none⟩) w.heap.size) (h3 : Arg uo N uc u w) (hN1 : 1 ≤ N) (hN : N ≤ D.q) (hq : D.q ≤ 64) (hK1 : 1 ≤ K) (hK : K ≤ N) (hx : ∀ i, i < N → c i < D.q) (hne : ∀ i j, i < N → j < N → i ≠ j → c i ≠ c j) (hu : Blw D.q N u) : NrS D N K c gx uo uc u w := by
  refine ⟨h1, h2, h3, ?_⟩
  have hA : Arg (some ⟨gx, 0, none⟩) N D.q (fun j => ((c j : Nat) : Int)) w := ⟨h1, h2, by omega, fun e => (by cases e), hN, by omega⟩
  have h := checkWhole_any hD (K : Nat) hA h3
  rw [hchk_of hN1 (by omega) (pch_of N (fun i hi => has_of_lt (hx i hi)) (fun i j hi hj e => hne i j (by omega) hj (by omega) (by omega))) (by omega) (by omega) (fun j hj => by
    obtain ⟨x, hx⟩ : ∃ x : Nat, u j = (x : Int) := ⟨(u j).toNat, by have := (hu j hj).1; omega⟩
    rw [hx]
    exact has_of_lt (by have := (hu j hj).2; omega))] at h
  exact h
theorem NrS.below {D : FD} (hD : D ∈ fieldsL) {N K : Nat} {c : Nat → Nat} {gx : Nat} {uo : Option Addr} {uc : Nat} {u : Nat → Int} {w w' : World} (h : NrS D N K c gx uo uc u w) (hb : Below w.heap.size w w') (hN1 : 1 ≤ N) (hN : N ≤ D.q) (hq : D.q ≤ 64) (hK1 : 1 ≤ K) (hK : K ≤ N) (hx : ∀ i, i < N → c i < D.q) (hne : ∀ i j, i < N → j < N → i ≠ j → c i ≠ c j) (hu : Blw D.q N u) : NrS D N K c gx uo uc u w' :=
  nrS_of hD (h.xs.below hb h.lx) (h.lx.mono hb.size) (h.word.below hb) hN1 hN hq hK1 hK hx hne hu

theorem gL_at {p s : Nat → Nat} {a j : Nat} (hj : j < gn p a) : (gL p s a).getD j (0, pnil) = ((gz p s a j).length - 1, gzf p s a j) := by
  unfold gL
  rw [List.getD_eq_getElem?_getD, List.getElem?_map, List.getElem?_range hj]
  rfl
theorem tn_curve {D : FD} (hD : D ∈ fieldsL) {N T K : Nat} (hK : K = 2) (hT : T ≤ N) (hN : N ≤ 64) {xs y a : Nat → Nat} (hx : ∀ i, i < N → xs i < D.q) (hne : ∀ i j, i < N → j < N → i ≠ j → xs i ≠ xs j) (hy : ∀ i, i < N → y i < D.q) {k1 k2 : Nat} {R R2 : Nat → Nat → Nat} {p p2 : Nat → Nat} (hS : SOk D N (prs 1 T).length (svm D xs y (prs 1 T)) k1 R p k2 R2 p2) (h2 : 0 < k2) (ha : El D a) (hb : Bd K a) (hag : T ≤ ct (fun i => decide (D.ev a (xs i) K = y i)) N)
    {ao yo : Option Addr} {m ca cy : Nat} {A : Nat → Option Addr} {C : Nat → Nat} {w : World} (hm : m = (gL (pyf (prs 1 T)) (R2 0) (prs 1 T).length).length) (hM : MatZ ao m A (fun i => ((gL (pyf (prs 1 T)) (R2 0) (prs 1 T).length).getD i (0, pnil)).1 + 1) C (fun i j => ((((gL (pyf (prs 1 T)) (R2 0) (prs 1 T).length).getD i (0, pnil)).2 j : Nat) : Int)) w) (hY : Arg yo K cy (fun j => ((a j : Nat) : Int)) w) :
    Calls Try.prog 26 #[.int .i64 D.q, .slice ao m ca, .slice yo K cy] w fun e w' => (∃ vo vc, e = .returned (.tuple #[.slice vo 0 vc, .int .i64 0])) ∧ Below w.heap.size w w' := by
  subst hK
  rw [gL_len] at hm
  obtain ⟨l, hl⟩ : ∃ l, l = prs 1 T := ⟨_, rfl⟩
  obtain ⟨P, hP⟩ : ∃ P, P = l.length := ⟨_, rfl⟩
  rw [← hl, ← hP] at hS hm hM
  have hz : zc 2 (fun j => ((a j : Nat) : Int)) = a := zc_nat hb
  have hP64 : P ≤ 64 := by rw [hP, hl]; exact prs_len 1 T
  have hgn : ∀ b, b < P → pyf l b ≤ gn (pyf l) b := fun b hb => by rw [hl]; rw [hP, hl] at hb; exact prs_gn hb
  have hc := sudan_nought hD hT hN hx hne hy hl hP hm hS h2 ha hb hag
    (N := fun i => ((gL (pyf l) (R2 0) P).getD i (0, pnil)).1 + 1) (Z := fun i j => ((((gL (pyf l) (R2 0) P).getD i (0, pnil)).2 j : Nat) : Int)) (fun j hj => by
      show ((gL (pyf l) (R2 0) P).getD j (0, pnil)).1 + 1 = _
      rw [hm] at hj
      have := gz_some (s := R2 0) hgn hj
      rw [gL_at hj]
      show (gz (pyf l) (R2 0) P j).length - 1 + 1 = _
      omega) (fun j hj => by
      funext i
      rw [hm] at hj
      show ((((gL (pyf l) (R2 0) P).getD j (0, pnil)).2 i : Nat) : Int) = _
      rw [gL_at hj])
  have h := curve_any (ca := ca) hD hM hY (chk_nat ha (by omega)) (by have := gn_le (pyf l) P; omega)
  rw [hz] at h
  refine h.mono ?_
  rintro e w' ⟨hb', ⟨hbad, _⟩ | ⟨_, v, rfl, hk⟩⟩
  · exact absurd hc.1 hbad
  · rw [hc.2] at hk
    refine ⟨?_, hb'⟩
    rcases hk.1 with ⟨_, vo, vc, rfl⟩ | ⟨hnil, _⟩
    · exact ⟨vo, vc, rfl⟩
    · exact absurd rfl hnil

def NrI (LL : Nat) (L : List (Nat × (Nat → Nat))) (lo : Option Addr) (lc : Nat) (ao : Option Addr) (m : Nat) (A : Nat → Option Addr) (N C : Nat → Nat) (Z : Nat → Nat → Int) (w : World) (vi : Value) (wr : World) : Prop := ∃ i : Nat, i ≤ LL ∧ vi = .int .i64 (i : Nat) ∧ Hid (Below w.heap.size w wr ∧ LLs 0 (.slice lo LL lc) L wr ∧ MatZ ao m A N C Z wr)

set_option maxHeartbeats 16000000 in
set_option maxRecDepth 100000 in
theorem topNear_walk {ao bo : Option Addr} {nr mr ca cb : Nat} {z zb : Nat → Int} (q n k r : Int) {w : World} (ha : Arg ao nr ca z w) (hb : Arg bo mr cb zb w) (hn : nr + mr ≤ 256) (hq : I64 q) (hnI : I64 n) (hk : I64 k) (hr : I64 r) :
    Calls Try.prog 6 #[.slice ao nr ca, .int .i64 q, .int .i64 n, .int .i64 k, .int .i64 r, .slice bo mr cb] w fun r w' => r = .returned (.bool true) ∧ Below w.heap.size w w' := by
  obtain ⟨P, hP, hP9⟩ := pick_in (m := q) (k := 9) (by omega)
  obtain ⟨D, hD, hDq, hD3, hD16⟩ := near_size P hP9
  obtain ⟨Q1, hQ1⟩ : ∃ Q1, Q1 = D.q - 1 := ⟨_, rfl⟩
  have hq1 : ((D.q : Nat) : Int) - 1 = (Q1 : Int) := by omega
  obtain ⟨n0, hn0, hn0b⟩ := pick_in (m := n) (k := Q1) (by omega)
  obtain ⟨N, hN⟩ : ∃ N, N = 2 + n0 := ⟨_, rfl⟩
  have hN2 : (2 : Int) + (n0 : Int) = (N : Int) := by omega
  obtain ⟨k1, hk1, hk1b⟩ := pick_in (m := k) (k := 2) (by omega)
  obtain ⟨K, hK⟩ : ∃ K, K = k1 + 1 := ⟨_, rfl⟩
  have hK2 : (1 : Int) + (k1 : Int) = (K : Int) := by omega
  have hK3 : (K : Int) - 1 = (k1 : Int) := by omega
  obtain ⟨r0, hr0, hr0b⟩ := pick_in (m := r) (k := N) (by omega)
  have hNq : 2 ≤ N ∧ N ≤ D.q := by omega
  have HPq : Hid (∀ w : World, Calls Try.prog 8 #[.int .i64 q, .int .i64 9] w fun e w' => e = .returned (.int .i64 P) ∧ w' = w) := fun w => by rw [← hP]; exact pick_any q 9 w hq.1 hq.2 (by omega) (by omega)
  have HPn : Hid (∀ w : World, Calls Try.prog 8 #[.int .i64 n, .int .i64 (Q1 : Nat)] w fun e w' => e = .returned (.int .i64 n0) ∧ w' = w) := fun w => by rw [← hn0]; exact pick_any n Q1 w hnI.1 hnI.2 (by omega) (by omega)
  have HPk : Hid (∀ w : World, Calls Try.prog 8 #[.int .i64 k, .int .i64 2] w fun e w' => e = .returned (.int .i64 k1) ∧ w' = w) := fun w => by rw [← hk1]; exact pick_any k 2 w hk.1 hk.2 (by omega) (by omega)
  have HPr : Hid (∀ w : World, Calls Try.prog 8 #[.int .i64 r, .int .i64 (N : Nat)] w fun e w' => e = .returned (.int .i64 r0) ∧ w' = w) := fun w => by rw [← hr0]; exact pick_any r N w hr.1 hr.2 (by omega) (by omega)
  have HA : Hid (Arg ao nr ca z w ∧ Arg bo mr cb zb w ∧ D ∈ fieldsL) := ⟨ha, hb, hD⟩
  have h64 : D.q ≤ 64 := by omega
  have HPl : Hid (∀ w2, Below w.heap.size w w2 → Calls Try.prog 9 #[.slice ao nr ca, .int .i64 D.q, .int .i64 (N : Nat)] w2 fun e w' => ∃ g c, e = .returned (.slice (some ⟨g, 0, none⟩) N D.q) ∧ Row g D.q c w' ∧ Perm' D.q c ∧ Below w2.heap.size w2 w') := fun w2 hb2 => by
    refine (places_any (HA.out.1.below hb2) (by omega) D.q N (by omega) (by omega) (by omega)).mono ?_
    rintro e w' ⟨g, c, h1, _, h2, h3, h4⟩
    exact ⟨g, c, h1, h2, h3, h4⟩
  have HNu : Hid (∀ (f K : Nat), f ≤ 3 → K ≤ 64 → ∀ w2, Below w.heap.size w w2 → ∀ (yo : Option Addr) (my cy : Nat) (y : Nat → Int), my ≤ 256 → Arg yo my cy y w → Calls Try.prog 10 #[.slice yo my cy, .int .i64 (f : Nat), .int .i64 D.q, .int .i64 (K : Nat)] w2 fun e w' => ∃ co cc u, e = .returned (.slice co K cc) ∧ Arg co K cc u w' ∧ Blw D.q K u ∧ Below w2.heap.size w2 w') := fun f K hf hK w2 hb2 yo my cy y hmy hy => by
    refine (numbers_any (hy.below hb2) (by omega) f D.q K (by omega) (by omega) (by omega) (by omega)).mono ?_
    rintro e w' ⟨v, u, rfl, ho, hbl, hb⟩
    obtain ⟨co, cc, rfl, hA⟩ := ho.argL
    exact ⟨co, cc, u, rfl, hA.arg (by omega), hbl, hb⟩
  have hnb : ¬ (256 : Int) < (nr : Int) + (mr : Int) := by omega
  have hwn : IntKind.i64.wrap ((nr : Int) + (mr : Int)) = ((nr + mr : Nat) : Int) := wrap_to (by omega) (by omega)
  have hnb2 : ¬ (256 : Int) < ((nr + mr : Nat) : Int) := by omega
  have hn256 : nr ≤ 256 := by omega
  have hm256 : mr ≤ 256 := by omega
  obtain ⟨wa, hwa⟩ : ∃ wa, wa = w.alloc (.cells #[.int .i64 3, .int .i64 4, .int .i64 5, .int .i64 7, .int .i64 8, .int .i64 9, .int .i64 11, .int .i64 13, .int .i64 16] 3) := ⟨_, rfl⟩
  have cP := near_cell w hP9 hDq
  rw [← hwa] at cP
  have HWa : Hid (Below w.heap.size w wa) := by rw [hwa]; exact (Below.refl _ _).alloc (Nat.le_refl _) _
  have hP9b : (P : Int) < 9 := by omega
  have hP0 : (0 : Int) ≤ (P : Int) := by omega
  have HG : Hid (K = k1 + 1 ∧ Q1 = D.q - 1 ∧ N = 2 + n0) := ⟨hK, hQ1, hN⟩
  clear hD hDq hn0 hk1 hr0 hP ha hb hq hnI hk hr hn hK hQ1 hN
  go_enter Try.func6, Try.ntmps6
  go_wp2_with fail
  rw [← hwa]
  refine (HPq.out wa).mono ?_
  rintro e w' ⟨rfl, hw⟩
  have hw := hw.symm
  subst hw
  clear hwa
  go_wp2_with fail
  refine (HPn.out wa).mono ?_
  rintro e w' ⟨rfl, hw⟩
  have hw := hw.symm
  subst hw
  go_wp2_with fail
  refine (HPk.out wa).mono ?_
  rintro e w' ⟨rfl, hw⟩
  have hw := hw.symm
  subst hw
  go_wp2_with fail
  refine (HPr.out wa).mono ?_
  rintro e w' ⟨rfl, hw⟩
  have hw := hw.symm
  subst hw
  go_wp2_with fail
  refine (HPl.out wa HWa.out).mono ?_
  rintro e w2 ⟨gx, c, rfl, hrow2, hperm, hb2⟩
  have H2 : Hid (Below w.heap.size w w2 ∧ Sl (some ⟨gx, 0, none⟩) N c w2 ∧ LtB (some ⟨gx, 0, none⟩) w2.heap.size) := ⟨bel_up' HWa.out hb2, hrow2.sl hNq.2, fun a ha => by cases ha; exact hrow2.lt⟩
  have HX : Hid ((∀ i, i < N → c i < D.q) ∧ ∀ i j, i < N → j < N → i ≠ j → c i ≠ c j) := by
    refine ⟨fun i hi => hperm.1 i (by omega), fun i j hi hj hij => ?_⟩
    rcases Nat.lt_or_ge i j with h | h
    · exact hperm.2 i j h (by omega)
    · exact fun e => hperm.2 j i (by omega) (by omega) e.symm
  clear hrow2 hperm hb2 cP HWa
  go_wp2_with fail
  refine (HNu.out 3 N (by omega) (by omega) w2 H2.out.1 ao nr ca z hn256 HA.out.1).mono ?_
  rintro e w3 ⟨uo, uc, u, rfl, hA3, hbl3, hb3⟩
  have hKN : 1 ≤ K ∧ K ≤ N := by have := HG.out.1; omega
  have H3 : Hid (Below w.heap.size w w3 ∧ NrS D N K c gx uo uc u w3) := ⟨bel_up' H2.out.1 hb3, nrS_of HA.out.2.2 (H2.out.2.1.below hb3 H2.out.2.2) (H2.out.2.2.mono hb3.size) hA3 (by omega) hNq.2 h64 hKN.1 hKN.2 HX.out.1 HX.out.2 hbl3⟩
  obtain ⟨ys, hys⟩ : ∃ ys, ys = zc N u := ⟨_, rfl⟩
  have HB : Hid (Blw D.q N u ∧ D.chk N u = 0 ∧ (∀ i, i < N → ys i < D.q) ∧ ys = zc N u) := by
    have h1 := blw_chk hbl3 (show N ≤ 128 by omega)
    exact ⟨hbl3, h1, fun i _ => by rw [hys]; exact zc_el (fld HA.out.2.2) h1 i, hys⟩
  have HN2 : Hid (∀ wx wy, NrS D N K c gx uo uc u wx → Below wx.heap.size wx wy → NrS D N K c gx uo uc u wy) := fun wx wy h hb => h.below HA.out.2.2 hb (by omega) hNq.2 h64 hKN.1 hKN.2 HX.out.1 HX.out.2 HB.out.1
  have HSu : Hid (∀ wx, NrS D N K c gx uo uc u wx → Sl uo N ys wx) := fun wx h => by rw [HB.out.2.2.2]; exact zc_sl HB.out.2.1 h.word.sl
  clear hA3 hbl3 hb3 H2 hys
  obtain ⟨M, hM⟩ : ∃ M, M = D.q ^ K := ⟨_, rfl⟩
  have hM2 : M ≤ 256 := by
    rw [hM]
    have h1 : D.q ^ K ≤ 16 ^ K := Nat.pow_le_pow_left hD16 K
    have h2 : 16 ^ K ≤ 16 ^ 2 := Nat.pow_le_pow_right (by omega) (by have := HG.out.1; omega)
    omega
  obtain ⟨L, hL⟩ : ∃ L, L = nrL D k1 N c ys (r0 : Int) M := ⟨_, rfl⟩
  have HLp : Hid (L = nrL D k1 N c ys (r0 : Int) (D.q ^ (k1 + 1)) ∧ L.length ≤ 256 ∧ ∀ p ∈ L, p.1 + 1 ≤ 1000000) := by
    refine ⟨by rw [hL, hM, HG.out.1], by rw [hL]; exact Nat.le_trans (nrL_len M) hM2, fun p hp => ?_⟩
    rw [hL] at hp
    have := (near_each HA.out.2.2 hp).1
    omega
  have HWi : Hid (Calls Try.prog 23 #[.int .i64 D.q, .slice (some ⟨gx, 0, none⟩) N D.q, .int .i64 (K : Nat), .slice uo N uc, .int .i64 (r0 : Nat)] w3 fun e w' => ∃ v, e = .returned (.tuple #[v, .int .i64 0]) ∧ LLs w3.heap.size v L w' ∧ Below w3.heap.size w3 w') := by
    show Calls _ _ _ _ _
    rw [hL]
    exact lwithin_any HA.out.2.2 (r0 : Int) HG.out.1 hM (by omega) (by omega) (by omega) hNq.2 HX.out.1 HX.out.2 H3.out.2.xs H3.out.2.lx hKN.2 (HSu.out w3 H3.out.2) H3.out.2.word.lt H3.out.2.whole
  obtain ⟨LL, hLL⟩ : ∃ LL, LL = L.length := ⟨_, rfl⟩
  have hLb : LL ≤ 256 := by rw [hLL]; exact HLp.out.2.1
  have HLL : Hid (LL = L.length) := hLL
  clear hM hL hLL
  go_wp2_with fail
  refine HWi.out.mono ?_
  rintro e w4 ⟨v4, rfl, hl4, hb4⟩
  obtain ⟨lo, lc, hv4⟩ := hl4.slice
  rw [← HLL.out] at hv4
  subst hv4
  have H4 : Hid (Below w.heap.size w w4 ∧ NrS D N K c gx uo uc u w4 ∧ LLs 0 (.slice lo LL lc) L w4) := ⟨bel_up' H3.out.1 hb4, HN2.out _ _ H3.out.2 hb4, hl4.mono (Nat.zero_le _)⟩
  clear hl4 hb4 H3 HWi
  go_wp2_with fail
  refine (HNu.out 0 K (by omega) (by omega) w4 H4.out.1 bo mr cb zb hm256 HA.out.2.1).mono ?_
  rintro e w5 ⟨mo, mc, m, rfl, hA5, hbl5, hb5⟩
  have H5 : Hid (Below w.heap.size w w5 ∧ NrS D N K c gx uo uc u w5 ∧ LLs 0 (.slice lo LL lc) L w5 ∧ Arg mo K mc m w5) := ⟨bel_up' H4.out.1 hb5, HN2.out _ _ H4.out.2.1 hb5, H4.out.2.2.below hb5 (Nat.le_refl _), hA5⟩
  have HMc : Hid (El D (zc K m) ∧ D.chk K m = 0 ∧ zl K m = zl K fun j => ((zc K m j : Nat) : Int)) := by
    have h1 := blw_chk hbl5 (show K ≤ 128 by omega)
    exact ⟨zc_el (fld HA.out.2.2) h1, h1, blw_zl' hbl5⟩
  clear hA5 hbl5 hb5 H4
  go_wp2_with fail
  refine (encode_ok HA.out.2.2 (by omega) (by omega) hNq.2 HX.out.1 HX.out.2 H5.out.2.1.xs H5.out.2.1.lx hKN.1 hKN.2 HMc.out.1 (zc_sl HMc.out.2.1 H5.out.2.2.2.sl) H5.out.2.2.2.lt).mono ?_
  rintro e w6 ⟨g6, rfl, hrow6, hb6⟩
  obtain ⟨ap, hap⟩ : ∃ ap, ap = ct (fun i => !decide (D.ev (zc K m) (c i) K = ys i)) N := ⟨_, rfl⟩
  have hapb : ap ≤ N := by rw [hap]; have := ct_not (fun i => decide (D.ev (zc K m) (c i) K = ys i)) N; omega
  obtain ⟨bb, hbb⟩ : ∃ bb : Bool, bb = decide ((ap : Int) ≤ (r0 : Int)) := ⟨_, rfl⟩
  have H6 : Hid (Below w.heap.size w w6 ∧ NrS D N K c gx uo uc u w6 ∧ LLs 0 (.slice lo LL lc) L w6) := ⟨bel_up' H5.out.1 hb6, HN2.out _ _ H5.out.2.1 hb6, H5.out.2.2.1.below hb6 (Nat.le_refl _)⟩
  have HHo : Hid (Calls Try.prog 24 #[.slice lo LL lc, .slice mo K mc] w6 fun e w' => e = .returned (.bool bb) ∧ ∃ n, w' = w6.drewN n) := by
    refine rholds_any H6.out.2.2 (arg_sliceI (H5.out.2.2.2.below hb6) (Nat.le_refl _)) (by have := HLp.out.2.1; omega) HLp.out.2.2 bb ?_
    have h := near_told (D := D) (k1 := k1) (n := N) (xs := c) (y := ys) (r := (r0 : Int)) (by omega) HMc.out.1
    rw [← HLp.out.1, ← HG.out.1, ← HMc.out.2.2] at h
    have e : nrB D K N c ys (r0 : Int) (zc K m) = bb := by unfold nrB; rw [hbb, hap]
    rw [e] at h
    exact h
  have HAp : Hid (∀ d, Calls Try.prog 16 #[.slice (some ⟨g6, 0, none⟩) N N, .slice uo N uc] (w6.drewN d) fun e w' => e = .returned (.int .i64 (ap : Nat)) ∧ w' = w6.drewN d) := fun d => by
    rw [hap]
    exact apart_any ((hrow6.drewN d).sl (Nat.le_refl _)) (HSu.out w6 H6.out.2.1) (by omega)
  clear hrow6 hb6 H5 hap
  obtain ⟨T, hT⟩ : ∃ T, T = N - r0 := ⟨_, rfl⟩
  have hTi : (N : Int) - (r0 : Int) = (T : Int) := by omega
  have hTb : 1 ≤ T ∧ T ≤ N := by omega
  have HT : Hid (T = N - r0) := hT
  obtain ⟨X, hX⟩ : ∃ X, X = T * T := ⟨_, rfl⟩
  obtain ⟨Y, hY⟩ : ∃ Y, Y = N * k1 := ⟨_, rfl⟩
  have hXb : X ≤ 16 * 16 := by rw [hX]; exact Nat.mul_le_mul (by omega) (by omega)
  have hYb : Y ≤ 16 * 2 := by rw [hY]; exact Nat.mul_le_mul (by omega) (by omega)
  have hwX : IntKind.i64.wrap ((T : Int) * (T : Int)) = (X : Int) := by
    rw [show (T : Int) * (T : Int) = (X : Int) by rw [hX]; simp]
    exact wrap_to rfl (by omega)
  have hwY : IntKind.i64.wrap ((N : Int) * (k1 : Int)) = (Y : Int) := by
    rw [show (N : Int) * (k1 : Int) = (Y : Int) by rw [hY]; simp]
    exact wrap_to rfl (by omega)
  subst hbb
  go_wp2_with fail
  refine HHo.out.mono ?_
  rintro e w7 ⟨rfl, d7, rfl⟩
  go_wp2_with fail
  refine (HAp.out d7).mono ?_
  rintro e w' ⟨rfl, hw⟩
  have hw := hw.symm
  subst hw
  obtain ⟨w7, hw7⟩ : ∃ w7, w7 = w6.drewN d7 := ⟨_, rfl⟩
  have H7 : Hid (Below w.heap.size w w7 ∧ NrS D N K c gx uo uc u w7 ∧ LLs 0 (.slice lo LL lc) L w7) := by
    have hbd : Below w6.heap.size w6 w7 := by rw [hw7]; exact below_drewN2 (Below.refl _ _) d7
    exact ⟨bel_up' H6.out.1 hbd, HN2.out _ _ H6.out.2.1 hbd, H6.out.2.2.below hbd (Nat.le_refl _)⟩
  rw [← hw7]
  clear hw7 H6 HHo HAp
  by_cases hlt : Y < X
  · have hltb : (Y : Int) < (X : Int) := by omega
    have hltc : (X : Int) > (Y : Int) := hltb
    have hkT : k1 < T := by
      refine Nat.lt_of_not_le fun h => ?_
      have h1 : T * T ≤ N * k1 := Nat.mul_le_mul hTb.2 h
      omega
    obtain ⟨XY, hXY⟩ : ∃ XY, XY = X - Y := ⟨_, rfl⟩
    have hXYi : (X : Int) - (Y : Int) = (XY : Int) := by omega
    obtain ⟨U, hU⟩ : ∃ U, U = LL * XY := ⟨_, rfl⟩
    have hUb : U ≤ 256 * 256 := by rw [hU]; exact Nat.mul_le_mul hLb (by omega)
    have hwU : IntKind.i64.wrap ((LL : Int) * (XY : Int)) = (U : Int) := by
      rw [show (LL : Int) * (XY : Int) = (U : Int) by rw [hU]; simp]
      exact wrap_to rfl (by omega)
    obtain ⟨TK, hTK⟩ : ∃ TK, TK = T - k1 := ⟨_, rfl⟩
    have hTKi : (T : Int) - (k1 : Int) = (TK : Int) := by omega
    obtain ⟨V, hV⟩ : ∃ V, V = N * TK := ⟨_, rfl⟩
    have hVb : V ≤ 16 * 16 := by rw [hV]; exact Nat.mul_le_mul (by omega) (by omega)
    have hwV : IntKind.i64.wrap ((N : Int) * (TK : Int)) = (V : Int) := by
      rw [show (N : Int) * (TK : Int) = (V : Int) by rw [hV]; simp]
      exact wrap_to rfl (by omega)
    have hjo := near_few HA.out.2.2 (k1 := k1) (n := N) (r := r0) (by omega) (xs := c) (y := ys) HX.out.1 HX.out.2 HT.out (by rw [← hY, ← hX]; exact hlt)
    rw [← HLp.out.1, ← HLL.out] at hjo
    have hUV : ¬ (V : Int) < (U : Int) := by
      have e1 : (T : Int) * (T : Int) - (N : Int) * (k1 : Int) = (XY : Int) := by
        rw [show (T : Int) * (T : Int) = (X : Int) by rw [hX]; simp, show (N : Int) * (k1 : Int) = (Y : Int) by rw [hY]; simp]; exact hXYi
      rw [e1, hTKi, show (LL : Int) * (XY : Int) = (U : Int) by rw [hU]; simp, show (N : Int) * (TK : Int) = (V : Int) by rw [hV]; simp] at hjo
      omega
    have hUV2 : ¬ (U : Int) > (V : Int) := hUV
    clear hjo hX hY hU hV hXY hTK hT
    by_cases hk0 : k1 = 0
    · have hKlt : (K : Int) < 2 := by have := HG.out.1; omega
      clear hk0
      go_wp2
      go_ret
      exact ⟨rfl, H7.out.1⟩
    · have hKlt : ¬ (K : Int) < 2 := by have := HG.out.1; omega
      have HK : Hid (K = 2 ∧ k1 = 1) := by have := HG.out.1; exact ⟨by omega, by omega⟩
      obtain ⟨s1, R, p, s2, R2, p2, hSO⟩ := sok_ex HA.out.2.2 (m := N) (svm_el HA.out.2.2 c ys (prs 1 T)) (svm_bd D c ys (prs 1 T))
      have HSO : Hid (SOk D N (prs 1 T).length (svm D c ys (prs 1 T)) s1 R p s2 R2 p2) := hSO
      clear hSO
      go_wp2_with fail
      refine (sudan_any HA.out.2.2 HSO.out (nul_full HA.out.2.2 HSO.out.rre HSO.out.rre2 HSO.out.spn2) HK.out.1 (Nat.le_refl 1) hTb.1 hTb.2 hKN.2 (by omega) HX.out.1 H7.out.2.1.xs H7.out.2.1.lx HB.out.2.2.1 (HSu.out w7 H7.out.2.1) H7.out.2.1.word.lt H7.out.2.1.whole).mono ?_
      rintro e w8 ⟨hb8, ⟨_, rfl⟩ | ⟨hpos, v8, rfl, hl8⟩⟩
      · have H8 : Hid (Below w.heap.size w w8) := bel_up' H7.out.1 hb8
        clear hb8
        go_wp2
        go_ret
        exact ⟨rfl, H8.out⟩
      · obtain ⟨ao8, ca8, A8, C8, rfl, hmat⟩ := hl8.mat (fun x hx => by have := gL_small x hx; have := prs_len 1 T; omega)
        obtain ⟨m8, hm8⟩ : ∃ m8, m8 = (gL (pyf (prs 1 T)) (R2 0) (prs 1 T).length).length := ⟨_, rfl⟩
        rw [← hm8] at hmat ⊢
        have H8 : Hid (Below w.heap.size w w8 ∧ LLs 0 (.slice lo LL lc) L w8 ∧ MatZ ao8 m8 A8 (fun i => ((gL (pyf (prs 1 T)) (R2 0) (prs 1 T).length).getD i (0, pnil)).1 + 1) C8 (fun i j => ((((gL (pyf (prs 1 T)) (R2 0) (prs 1 T).length).getD i (0, pnil)).2 j : Nat) : Int)) w8) := ⟨bel_up' H7.out.1 hb8, H7.out.2.2.below hb8 (Nat.le_refl _), hmat⟩
        have HM8 : Hid (m8 = (gL (pyf (prs 1 T)) (R2 0) (prs 1 T).length).length ∧ 0 < s2) := ⟨hm8, hpos⟩
        clear hl8 hmat hb8 hm8 hpos H7
        go_wp2
        go_loopw [22] (fun vi wr => NrI LL L lo lc ao8 m8 A8 (fun i => ((gL (pyf (prs 1 T)) (R2 0) (prs 1 T).length).getD i (0, pnil)).1 + 1) C8 (fun i j => ((((gL (pyf (prs 1 T)) (R2 0) (prs 1 T).length).getD i (0, pnil)).2 j : Nat) : Int)) w vi wr) (fun vi _ => LL - (intOf vi).toNat)
        case atStart => exact ⟨0, by omega, rfl, H8.out⟩
        case round =>
          obtain ⟨i, hi, rfl, HI⟩ := hrel
          rename World => wr
          clear H8
          by_cases hlt2 : i < LL
          · have hib : (i : Int) < (LL : Int) := by omega
            have hi0 : (0 : Int) ≤ (i : Int) := by omega
            obtain ⟨pp, hpp⟩ : ∃ pp, L[i]? = some pp := ⟨L[i]'(by rw [← HLL.out]; exact hlt2), List.getElem?_eq_getElem _⟩
            obtain ⟨gg, b, cp, hlo, hcell, harg⟩ := HI.out.2.1.item HLp.out.2.2 hpp
            subst hlo
            have hmem : pp ∈ nrL D k1 N c ys (r0 : Int) (D.q ^ (k1 + 1)) := by rw [← HLp.out.1]; exact List.mem_of_getElem? hpp
            obtain ⟨e1, e2, e3, e4⟩ := near_each HA.out.2.2 hmem
            have hp1 : pp.1 + 1 = K := by rw [e1]; exact HG.out.1.symm
            rw [← HG.out.1] at e3 e4
            rw [← HT.out] at e4
            rw [hp1] at hcell harg
            have HCv : Hid (Calls Try.prog 26 #[.int .i64 D.q, .slice ao8 m8 ca8, .slice (some ⟨b, 0, none⟩) K cp] wr fun e w' => (∃ vo vc, e = .returned (.tuple #[.slice vo 0 vc, .int .i64 0])) ∧ Below wr.heap.size wr w') := tn_curve HA.out.2.2 HK.out.1 hTb.2 (by omega) HX.out.1 HX.out.2 HB.out.2.2.1 HSO.out HM8.out.2 e2 e3 e4 HM8.out.1 HI.out.2.2 harg
            clear hmem e1 e2 e3 e4 hp1 harg hpp
            go_wp2_with fail
            refine HCv.out.mono ?_
            rintro e w9 ⟨⟨vo, vc, rfl⟩, hb9⟩
            have H9 : Hid (Below w.heap.size w w9 ∧ LLs 0 (.slice (some ⟨gg, 0, none⟩) LL lc) L w9 ∧ MatZ ao8 m8 A8 (fun i => ((gL (pyf (prs 1 T)) (R2 0) (prs 1 T).length).getD i (0, pnil)).1 + 1) C8 (fun i j => ((((gL (pyf (prs 1 T)) (R2 0) (prs 1 T).length).getD i (0, pnil)).2 j : Nat) : Int)) w9) := ⟨bel_up' HI.out.1 hb9, HI.out.2.1.below hb9 (Nat.le_refl _), HI.out.2.2.below hb9⟩
            clear hb9
            go_wp2
            go_roundw
            case rel => exact ⟨i + 1, by omega, by go_num, H9.out⟩
            case measure => simp [intOf]; omega
          · have hib : ¬ (i : Int) < (LL : Int) := by omega
            go_wp2
            go_ret
            exact ⟨rfl, HI.out.1⟩
  · have hltb : ¬ (Y : Int) < (X : Int) := by omega
    have hltc : ¬ (X : Int) > (Y : Int) := hltb
    clear hX hY hT
    by_cases hk0 : k1 = 0
    · have hKlt : (K : Int) < 2 := by have := HG.out.1; omega
      clear hk0
      go_wp2
      go_ret
      exact ⟨rfl, H7.out.1⟩
    · have hKlt : ¬ (K : Int) < 2 := by have := HG.out.1; omega
      have HK : Hid (K = 2 ∧ k1 = 1) := by have := HG.out.1; exact ⟨by omega, by omega⟩
      obtain ⟨s1, R, p, s2, R2, p2, hSO⟩ := sok_ex HA.out.2.2 (m := N) (svm_el HA.out.2.2 c ys (prs 1 T)) (svm_bd D c ys (prs 1 T))
      have HSO : Hid (SOk D N (prs 1 T).length (svm D c ys (prs 1 T)) s1 R p s2 R2 p2) := hSO
      clear hSO
      go_wp2_with fail
      refine (sudan_any HA.out.2.2 HSO.out (nul_full HA.out.2.2 HSO.out.rre HSO.out.rre2 HSO.out.spn2) HK.out.1 (Nat.le_refl 1) hTb.1 hTb.2 hKN.2 (by omega) HX.out.1 H7.out.2.1.xs H7.out.2.1.lx HB.out.2.2.1 (HSu.out w7 H7.out.2.1) H7.out.2.1.word.lt H7.out.2.1.whole).mono ?_
      rintro e w8 ⟨hb8, ⟨_, rfl⟩ | ⟨hpos, v8, rfl, hl8⟩⟩
      · have H8 : Hid (Below w.heap.size w w8) := bel_up' H7.out.1 hb8
        clear hb8
        go_wp2
        go_ret
        exact ⟨rfl, H8.out⟩
      · obtain ⟨ao8, ca8, A8, C8, rfl, hmat⟩ := hl8.mat (fun x hx => by have := gL_small x hx; have := prs_len 1 T; omega)
        obtain ⟨m8, hm8⟩ : ∃ m8, m8 = (gL (pyf (prs 1 T)) (R2 0) (prs 1 T).length).length := ⟨_, rfl⟩
        rw [← hm8] at hmat ⊢
        have H8 : Hid (Below w.heap.size w w8 ∧ LLs 0 (.slice lo LL lc) L w8 ∧ MatZ ao8 m8 A8 (fun i => ((gL (pyf (prs 1 T)) (R2 0) (prs 1 T).length).getD i (0, pnil)).1 + 1) C8 (fun i j => ((((gL (pyf (prs 1 T)) (R2 0) (prs 1 T).length).getD i (0, pnil)).2 j : Nat) : Int)) w8) := ⟨bel_up' H7.out.1 hb8, H7.out.2.2.below hb8 (Nat.le_refl _), hmat⟩
        have HM8 : Hid (m8 = (gL (pyf (prs 1 T)) (R2 0) (prs 1 T).length).length ∧ 0 < s2) := ⟨hm8, hpos⟩
        clear hl8 hmat hb8 hm8 hpos H7
        go_wp2
        go_loopw [22] (fun vi wr => NrI LL L lo lc ao8 m8 A8 (fun i => ((gL (pyf (prs 1 T)) (R2 0) (prs 1 T).length).getD i (0, pnil)).1 + 1) C8 (fun i j => ((((gL (pyf (prs 1 T)) (R2 0) (prs 1 T).length).getD i (0, pnil)).2 j : Nat) : Int)) w vi wr) (fun vi _ => LL - (intOf vi).toNat)
        case atStart => exact ⟨0, by omega, rfl, H8.out⟩
        case round =>
          obtain ⟨i, hi, rfl, HI⟩ := hrel
          rename World => wr
          clear H8
          by_cases hlt2 : i < LL
          · have hib : (i : Int) < (LL : Int) := by omega
            have hi0 : (0 : Int) ≤ (i : Int) := by omega
            obtain ⟨pp, hpp⟩ : ∃ pp, L[i]? = some pp := ⟨L[i]'(by rw [← HLL.out]; exact hlt2), List.getElem?_eq_getElem _⟩
            obtain ⟨gg, b, cp, hlo, hcell, harg⟩ := HI.out.2.1.item HLp.out.2.2 hpp
            subst hlo
            have hmem : pp ∈ nrL D k1 N c ys (r0 : Int) (D.q ^ (k1 + 1)) := by rw [← HLp.out.1]; exact List.mem_of_getElem? hpp
            obtain ⟨e1, e2, e3, e4⟩ := near_each HA.out.2.2 hmem
            have hp1 : pp.1 + 1 = K := by rw [e1]; exact HG.out.1.symm
            rw [← HG.out.1] at e3 e4
            rw [← HT.out] at e4
            rw [hp1] at hcell harg
            have HCv : Hid (Calls Try.prog 26 #[.int .i64 D.q, .slice ao8 m8 ca8, .slice (some ⟨b, 0, none⟩) K cp] wr fun e w' => (∃ vo vc, e = .returned (.tuple #[.slice vo 0 vc, .int .i64 0])) ∧ Below wr.heap.size wr w') := tn_curve HA.out.2.2 HK.out.1 hTb.2 (by omega) HX.out.1 HX.out.2 HB.out.2.2.1 HSO.out HM8.out.2 e2 e3 e4 HM8.out.1 HI.out.2.2 harg
            clear hmem e1 e2 e3 e4 hp1 harg hpp
            go_wp2_with fail
            refine HCv.out.mono ?_
            rintro e w9 ⟨⟨vo, vc, rfl⟩, hb9⟩
            have H9 : Hid (Below w.heap.size w w9 ∧ LLs 0 (.slice (some ⟨gg, 0, none⟩) LL lc) L w9 ∧ MatZ ao8 m8 A8 (fun i => ((gL (pyf (prs 1 T)) (R2 0) (prs 1 T).length).getD i (0, pnil)).1 + 1) C8 (fun i j => ((((gL (pyf (prs 1 T)) (R2 0) (prs 1 T).length).getD i (0, pnil)).2 j : Nat) : Int)) w9) := ⟨bel_up' HI.out.1 hb9, HI.out.2.1.below hb9 (Nat.le_refl _), HI.out.2.2.below hb9⟩
            clear hb9
            go_wp2
            go_roundw
            case rel => exact ⟨i + 1, by omega, by go_num, H9.out⟩
            case measure => simp [intOf]; omega
          · have hib : ¬ (i : Int) < (LL : Int) := by omega
            go_wp2
            go_ret
            exact ⟨rfl, HI.out.1⟩
end Go.Proofs.Ytcgmllamiaflcaa
