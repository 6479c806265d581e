/- Texts of ours, one behind the other: KT2 KT3 KT4. -/
import Derived.Test.YtppggchhkckobaaGreatZS69
import Derived.Test.YtppggchhkckobaaGreatZS11
import Derived.Test.YtppggchhkckobaaGreatZM3
import Derived.Test.YtppggchhkckobaaGreatZS65
/- Cyclic: a map's numbers, rising. -/
namespace Go.Proofs.YtppggchhkckobaaGreat
open Go.RowKit Go.Maps Go.Sort Go.Shelf

/-- slices.Sort's two contracts, at the fence that asks nothing. -/
theorem sortsA (m : Nat) : AnyZI.SortsIn Tryz.prog sortedA_ren Fence.wide m :=
  ⟨fun blk off cap ss W hH hblk hsz => callsIn_wide.2 (AnyM.slices_Sort_int sortA blk off cap ss W hH hblk hsz),
   fun p cap W => callsIn_wide.2 (AnyM.slices_Sort_int_none sortA p cap W)⟩

set_option maxHeartbeats 1000000 in
theorem rising_map (b nn : Nat) (D0 : DataW Value) (R : Value → Option (DataW Value × List MemPlace)) (w : World) (hown : w.ownsMap Tryz.prog 3 R b nn D0) (hmax : Maps.size D0 ≤ maxLen) (hbytes : Maps.size D0 * 8 ≤ 140737488355328) :
    Calls Tryz.prog 31 #[.map (some b)] w fun e w' => ∃ (v : Value) (ss : List Int), e = .returned v ∧ ss.Perm (intKeys D0) ∧
      w'.ownsRow w.heap.size 3 1 v ss.length ((ss.mergeSort (fun x y => decide (x ≤ y))).map encZ) ∧ (v = .slice none 0 0 ↔ ss = []) ∧ Below w.heap.size w w' := by
  refine (callsIn_wide (n := 6)).1 ?_
  have hbl := hown.lt
  have hseq : SeqGives Fence.wide 2 Tryz.prog 111 #[.pointer (some ⟨w.heap.size, 0, none⟩)] encZ (fun ss => ss.Perm (intKeys D0)) (Maps.size D0) (w.alloc (.cells #[.map (some b)] 55)) :=
    AnyZI.keys_gives (ρ := keysA_ren) { keysA with } Fence.wide _ trivial rfl (by omega) w.heap.size b nn D0 _ (by simp) (by simp) (by
      obtain ⟨es, clock, hb, Ft, hs, hD⟩ := hown
      exact ⟨es, clock, (Below.heap_alloc _ _ b hbl).trans hb, Ft, hs, hD⟩)
  have cK : ∀ mb W, CallsIn Fence.wide 5 Tryz.prog 74 #[.map mb] W fun e w' => e = .returned (.func (.func 111) #[] #[.pointer (some ⟨W.heap.size, 0, none⟩)]) ∧ w' = W.alloc (.cells #[.map mb] 55) := fun mb W => AnyZI.keys_in keysA Fence.wide 5 trivial rfl mb W
  have cS := AnyZI.sorted_in sortedA Fence.wide 5 trivial trivial trivial trivial rfl (by omega) (sortsA _) (enters_of Tryz.func110 (by kernel_rfl) rfl) 111 #[.pointer (some ⟨w.heap.size, 0, none⟩)] trivial (enters_of Tryz.func111 (by kernel_rfl) rfl) _ _ hmax hbytes _ hseq
  change CallsIn _ _ Tryz.prog 73 _ _ _ at cS
  have hfK : Fence.wide.fn 74 := trivial
  have hfS : Fence.wide.fn 73 := trivial
  refine callsIn_of_wp Tryz.func31 rfl trivial ?_ rfl
  simp only [Tryz.ntmps31, List.size_toArray, List.length_cons, List.length_nil, Nat.reduceAdd, Nat.reduceSub, Array.replicate_succ, Array.replicate_zero, List.push_toArray, List.append_toArray, List.nil_append, List.cons_append]
  gi_wp2_with (first
    | (gi_at_call 74; refine (cK _ _).mono ?_; rintro e w' ⟨rfl, rfl⟩)
    | (gi_at_call 73; refine cS.mono ?_; rintro e w' ⟨v, ss, rfl, hS, hrow, hnil, hb⟩))
  go_ret
  exact ⟨v, ss, rfl, hS, ownsRow_base_a hrow (by simp), hnil, ((Below.refl _ w).alloc (Nat.le_refl _) _).trans (hb.mono (by simp))⟩
/-- Numbers below n of a list, rising. -/
def rsn (n : Nat) (L : List Nat) : List Nat := (List.range n).filter fun j => L.contains j
theorem tg_perm {B nn : Nat} {L : List Nat} {D : DataW Value} {w : World} (hown : w.ownsMap Tryz.prog 3 (plainElem Tryz.prog 3) B nn D) (hD : TgD D L) (hd : L.Nodup) : (L.map fun j => ((j : Nat) : Int)).Perm (intKeys D) := by
  refine CollectedI.perm (left := fun _ => false) ⟨?_, fun x => ?_⟩ hown ct_law cty_int (fun _ => rfl)
  · exact List.pairwise_map.2 (hd.imp (fun {a b} h => by omega))
  · rw [hD.has x, List.mem_map]
    exact ⟨fun ⟨k, hk, e⟩ => ⟨⟨k, hk, e.symm⟩, rfl⟩, fun ⟨⟨k, hk, e⟩, _⟩ => ⟨k, hk, e.symm⟩⟩
theorem rising_any {B n : Nat} {L : List Nat} {w : World} (h : Tg B L w) (hd : L.Nodup) (hl : ∀ k ∈ L, k < n) (hn : n ≤ 64) :
    Calls Tryz.prog 31 #[.map (some B)] w fun e w' => ∃ v, e = .returned v ∧ OwnI w.heap.size v ((rsn n L).map fun j => ((j : Nat) : Int)) w' ∧ Below w.heap.size w w' := by
  obtain ⟨D, hown, hD⟩ := h
  have hp := tg_perm hown hD hd
  have hsz : Maps.size D = L.length := by
    obtain ⟨es, rfl⟩ := hD.im
    have := hp.length_eq
    rw [List.length_map] at this
    rw [this]
    show es.length = (es.map _).length
    rw [List.length_map]
  have hln := nd_len hd hl
  refine (rising_map B L.length D _ w hown (by rw [hsz]; unfold maxLen; omega) (by rw [hsz]; omega)).mono ?_
  rintro e w' ⟨v, ss, rfl, hS, hrow, _, hb⟩
  refine ⟨v, rfl, ?_, hb⟩
  have e1 : ss.mergeSort (fun x y => decide (x ≤ y)) = (rsn n L).map fun j => ((j : Nat) : Int) := by
    exact (mergeSort_of_perm_i (hS.trans hp.symm)).trans (sort_range hd hl)
  have e2 : ss.length = ((rsn n L).map fun j => ((j : Nat) : Int)).length := by rw [← e1, List.length_mergeSort]
  rw [e1, e2] at hrow
  exact hrow
end Go.Proofs.YtppggchhkckobaaGreat

/- Cyclic: check, checkZeros. -/
namespace Go.Proofs.YtppggchhkckobaaGreat
open Go.RowKit Go.Sort

/-- What check says of a length over a field. -/
def cyc (D : FD) (n : Int) : Int := if n < 1 ∨ 64 < n then 4 else if n.toNat % D.p = 0 then 3 else 0
set_option maxHeartbeats 4000000 in
set_option maxRecDepth 100000 in
theorem cychk_any {D : FD} (hD : D ∈ fieldsL) (n : Int) (w : World) :
    Calls Tryz.prog 30 #[.int .i64 D.q, .int .i64 n] w fun e w' => e = .returned (.int .i64 (cyc D n)) ∧ Below w.heap.size w w' := by
  have HN : Hid (Calls Tryz.prog 55 #[.int .i64 D.q] w fun e w' => ∃ F T g, e = .returned (.tuple #[.pointer (some ⟨F, 0, none⟩), .int .i64 0]) ∧ FAt F T D g w' ∧ w.heap.size ≤ F ∧ w.heap.size ≤ T ∧ Below w.heap.size w w') := new_any hD w
  obtain ⟨E, hE⟩ : ∃ E, E = cyc D n := ⟨_, rfl⟩
  rw [← hE]
  have hp2 := (good hD).p2
  have hp64 := (good hD).p64
  obtain ⟨p, hp⟩ : ∃ p, p = D.p := ⟨_, rfl⟩
  rw [← hp] at hp2 hp64
  unfold cyc at hE
  rw [← hp] at hE
  go_enter Tryz.func30, Tryz.ntmps30
  go_wp2_with fail
  refine HN.out.mono ?_
  rintro e w1 ⟨F, T, g, rfl, hF, _, _, hb⟩
  have HC : Hid (Calls Tryz.prog 72 #[.pointer (some ⟨F, 0, none⟩)] w1 fun e w' => e = .returned (.int .i64 (p : Nat)) ∧ w' = w1) := by rw [hp]; exact char_any hF
  have HB : Hid (Below w.heap.size w w1) := hb
  clear hF hb hp HN hD
  by_cases h1 : n < 1
  · rw [if_pos (Or.inl h1)] at hE
    have HE : Hid (E = 4) := hE
    clear hE
    go_wp2
    go_ret
    exact ⟨by (first | (rw [HE.out]; rfl) | rw [HE.out]), HB.out⟩
  · by_cases h2 : 64 < n
    · rw [if_pos (Or.inr h2)] at hE
      have HE : Hid (E = 4) := hE
      clear hE
      have h2' : n > 64 := h2
      go_wp2
      go_ret
      exact ⟨by (first | (rw [HE.out]; rfl) | rw [HE.out]), HB.out⟩
    · rw [if_neg (by omega)] at hE
      obtain ⟨N, rfl⟩ : ∃ N : Nat, n = (N : Int) := ⟨n.toNat, by omega⟩
      rw [Int.toNat_natCast] at hE
      have hN64 : N ≤ 64 := by omega
      have h1i : ¬ (N : Int) < 1 := by omega
      have h2i : ¬ (64 : Int) < (N : Int) := by omega
      obtain ⟨r, hr⟩ : ∃ r, r = N % p := ⟨_, rfl⟩
      rw [← hr] at hE
      have hp0 : ¬ (p : Int) = 0 := by omega
      have hp0b : ((p : Int) == 0) = false := by rw [beq_eq_false_iff_ne]; omega
      have hrm : (N : Int).tmod (p : Int) = (r : Int) := by rw [Int.tmod_eq_emod_of_nonneg (by omega), hr]; omega
      have hre : (N : Int) % (p : Int) = (r : Int) := by rw [hr]; omega
      have hrb : r ≤ 64 := by rw [hr]; exact Nat.le_trans (Nat.mod_le _ _) hN64
      clear hr h1 h2
      by_cases h3 : r = 0
      · rw [if_pos h3] at hE
        have HE : Hid (E = 3) := hE
        subst h3
        clear hE
        go_wp2_with fail
        refine HC.out.mono ?_
        rintro e w' ⟨rfl, hw⟩
        have hw := hw.symm
        subst hw
        go_wp2
        go_ret
        exact ⟨by (first | (rw [HE.out]; rfl) | rw [HE.out]), HB.out⟩
      · rw [if_neg h3] at hE
        have HE : Hid (E = 0) := hE
        have h3b : ((r : Int) == 0) = false := by rw [beq_eq_false_iff_ne]; omega
        clear hE h3
        go_wp2_with fail
        refine HC.out.mono ?_
        rintro e w' ⟨rfl, hw⟩
        have hw := hw.symm
        subst hw
        go_wp2
        go_ret
        exact ⟨by (first | (rw [HE.out]; rfl) | rw [HE.out]), HB.out⟩
theorem enters_cz1 : ∀ args w, (callFunc 79 args).run Tryz.prog w = .ok (.enter 79 args) w :=
  enters_of Tryz.func79 (by kernel_rfl) rfl
/-- No place of n. -/
def cout (n x : Int) : Bool := decide (x < 0) || decide (n ≤ x)
set_option maxHeartbeats 2000000 in
theorem cz1_any {B : Nat} {n x : Int} {w : World} (hc : w.cell? ⟨B, 0, none⟩ = some (.int .i64 n)) :
    Calls Tryz.prog 79 #[.int .i64 x, .pointer (some ⟨B, 0, none⟩)] w fun e w' => e = .returned (.bool (cout n x)) ∧ w' = w := by
  obtain ⟨R, hR⟩ : ∃ R, R = cout n x := ⟨_, rfl⟩
  rw [← hR]
  unfold cout at hR
  by_cases h1 : x < 0
  · rw [decide_eq_true h1, Bool.true_or] at hR
    subst hR
    go_enter Tryz.func79, Tryz.ntmps79
    go_wp2
    go_ret
    exact ⟨rfl, rfl⟩
  · rw [decide_eq_false h1, Bool.false_or] at hR
    by_cases h2 : n ≤ x
    · rw [decide_eq_true h2] at hR
      subst hR
      have h2' : x ≥ n := h2
      go_enter Tryz.func79, Tryz.ntmps79
      go_wp2
      go_ret
      exact ⟨rfl, rfl⟩
    · rw [decide_eq_false h2] at hR
      subst hR
      have h2' : ¬ x ≥ n := h2
      go_enter Tryz.func79, Tryz.ntmps79
      go_wp2
      go_ret
      exact ⟨rfl, rfl⟩
/-- What checkZeros says, behind what check says. -/
def czs (e n : Int) (m : Nat) (z : Nat → Int) : Int := if e ≠ 0 then e else if 64 < m then 4 else if anyB (fun j => cout n (z j)) m = true then 10 else 0

set_option maxHeartbeats 4000000 in
set_option maxRecDepth 100000 in
theorem czeros_any {q n e : Int} {zo : Option Addr} {m zc : Nat} {z : Nat → Int} {w : World} (hs : SlZ zo m z w) (hl : LtB zo w.heap.size) (hm : m ≤ 1000000)
    (hC : ∀ w1, Calls Tryz.prog 30 #[.int .i64 q, .int .i64 n] w1 fun x w' => x = .returned (.int .i64 e) ∧ Below w1.heap.size w1 w') :
    Calls Tryz.prog 35 #[.int .i64 q, .int .i64 n, .slice zo m zc] w fun x w' => x = .returned (.int .i64 (czs e n m z)) ∧ Below w.heap.size w w' := by
  obtain ⟨wa, hwa⟩ : ∃ wa, wa = w.alloc (.cells #[.int .i64 n] 3) := ⟨_, rfl⟩
  have hba : Below w.heap.size w wa := by rw [hwa]; exact (Below.refl _ _).alloc (Nat.le_refl _) _
  have hc : wa.cell? ⟨w.heap.size, 0, none⟩ = some (.int .i64 n) := by rw [hwa, cell_of_row _ _ _ _ _ (0, 0) (two_new _)]; rfl
  have hsa : wa.heap.size = w.heap.size + 1 := by rw [hwa]; simp
  have HA : Hid (Below w.heap.size w wa ∧ wa.cell? ⟨w.heap.size, 0, none⟩ = some (.int .i64 n) ∧ wa.heap.size = w.heap.size + 1 ∧ SlZ zo m z w ∧ LtB zo w.heap.size) := ⟨hba, hc, hsa, hs, hl⟩
  have HC : Hid (Calls Tryz.prog 30 #[.int .i64 q, .int .i64 n] wa fun x w' => x = .returned (.int .i64 e) ∧ Below wa.heap.size wa w') := hC wa
  obtain ⟨E, hE⟩ : ∃ E, E = czs e n m z := ⟨_, rfl⟩
  rw [← hE]
  unfold czs at hE
  clear hba hsa hs hl hC
  go_enter Tryz.func35, Tryz.ntmps35
  go_wp2_with fail
  rw [← hwa]
  clear hwa hc
  refine HC.out.mono ?_
  rintro x w1 ⟨rfl, hb1⟩
  have hc1 : w1.cell? ⟨w.heap.size, 0, none⟩ = some (.int .i64 n) := ((bcell hb1).1 w.heap.size 0 (by have := HA.out.2.2.1; omega)).trans HA.out.2.1
  have H1 : Hid (Below w.heap.size w w1 ∧ w1.cell? ⟨w.heap.size, 0, none⟩ = some (.int .i64 n)) := ⟨bel_up' HA.out.1 hb1, hc1⟩
  obtain ⟨B, hB⟩ : ∃ B, B = w.heap.size := ⟨_, rfl⟩
  have HR : Hid (Calls Tryz.prog 78 #[.slice zo m zc, .func (.func 79) #[] #[.pointer (some ⟨B, 0, none⟩)]] w1 fun e w' => e = .returned (.bool (anyB (fun j => cout n (z j)) m)) ∧ w' = w1) := by
    refine containsFn_any (z := z) (p := fun j => cout n (z j)) enters_cz1 (fun i hi => ?_) hm (fun j _ => ?_)
    · obtain ⟨b, off, e, k⟩ := HA.out.2.2.2.1 i hi
      exact ⟨b, off, e, (H1.out.1.cell (p := ⟨b, off + i, none⟩) (show b < w.heap.size from HA.out.2.2.2.2 _ e)).trans k⟩
    · have e : (#[Value.int .i64 (z j)] ++ #[Value.pointer (some ⟨B, 0, none⟩)] : Array Value) = #[.int .i64 (z j), .pointer (some ⟨B, 0, none⟩)] := rfl
      rw [e]
      exact cz1_any (by rw [hB]; exact H1.out.2)
  try rw [← hB]
  clear hb1 hc1 HC HA hB
  by_cases h0 : e = 0
  · rw [if_neg (by omega)] at hE
    subst h0
    by_cases h1 : 64 < m
    · rw [if_pos h1] at hE
      have HE : Hid (E = 4) := hE
      clear hE
      have h1i : (64 : Int) < (m : Int) := by omega
      have h1j : (m : Int) > 64 := by omega
      go_wp2
      go_ret
      exact ⟨by (first | (rw [HE.out]; rfl) | rw [HE.out]), H1.out.1⟩
    · rw [if_neg h1] at hE
      have h1i : ¬ (64 : Int) < (m : Int) := by omega
      have h1j : ¬ (m : Int) > 64 := by omega
      obtain ⟨R, hR⟩ : ∃ R, R = anyB (fun j => cout n (z j)) m := ⟨_, rfl⟩
      rw [← hR] at hE HR
      clear hR
      go_wp2_with fail
      refine HR.out.mono ?_
      rintro x w' ⟨rfl, hw⟩
      have hw := hw.symm
      subst hw
      cases R with
      | true =>
        rw [if_pos rfl] at hE
        have HE : Hid (E = 10) := hE
        clear hE
        go_wp2
        go_ret
        exact ⟨by (first | (rw [HE.out]; rfl) | rw [HE.out]), H1.out.1⟩
      | false =>
        rw [if_neg (by intro c; cases c)] at hE
        have HE : Hid (E = 0) := hE
        clear hE
        go_wp2
        go_ret
        exact ⟨by (first | (rw [HE.out]; rfl) | rw [HE.out]), H1.out.1⟩
  · rw [if_pos h0] at hE
    have HE : Hid (E = e) := hE
    have hz : (e != 0) = true := by rw [bne_iff_ne]; exact h0
    clear hE
    go_wp2
    go_ret
    exact ⟨by (first | (rw [HE.out]; rfl) | rw [HE.out]), H1.out.1⟩
end Go.Proofs.YtppggchhkckobaaGreat

/- Cyclic: withRoot. -/
namespace Go.Proofs.YtppggchhkckobaaGreat
open Go.RowKit Go.Sort

theorem pow_fld : (fieldsL.all fun E => (List.range 7).all fun i => decide (64 < E.q ^ (i + 1)) || fieldsL.any fun G => G.q == E.q ^ (i + 1) && G.p == E.p && G.m % E.m == 0) = true := by decide +kernel
theorem fld_of_pow {E : FD} (hE : E ∈ fieldsL) {i : Nat} (hi : i < 7) (h : E.q ^ (i + 1) ≤ 64) : ∃ G, G ∈ fieldsL ∧ G.q = E.q ^ (i + 1) ∧ E.p = G.p ∧ G.m % E.m = 0 := by
  have k := List.all_eq_true.1 (List.all_eq_true.1 pow_fld E hE) i (List.mem_range.2 hi)
  rw [Bool.or_eq_true] at k
  rcases k with k | k
  · exact absurd (of_decide_eq_true k) (by omega)
  · obtain ⟨G, hG, k⟩ := List.any_eq_true.1 k
    simp only [Bool.and_eq_true, beq_iff_eq] at k
    exact ⟨G, hG, k.1.1, k.1.2.symm, k.2⟩
/-- The least field over q, or that of q, with a root. -/
structure WR (E : FD) (n : Nat) (G : FD) : Prop where
  fld : G ∈ fieldsL
  over : E.p = G.p ∧ G.m % E.m = 0
  root : (G.q - 1) % n = 0
  least : ∃ i, G.q = E.q ^ (i + 1) ∧ ∀ j, j < i → (E.q ^ (j + 1) - 1) % n ≠ 0
/-- There is none. -/
def WRn (E : FD) (n : Nat) : Prop := ∀ i, E.q ^ (i + 1) ≤ 64 → (E.q ^ (i + 1) - 1) % n ≠ 0

set_option maxHeartbeats 4000000 in
set_option maxRecDepth 100000 in
theorem withRoot_any {E : FD} (hE : E ∈ fieldsL) {n : Nat} (hn1 : 1 ≤ n) (hn : n ≤ 64) (w : World) :
    Calls Tryz.prog 36 #[.int .i64 E.q, .int .i64 (n : Nat)] w fun e w' => (∃ G F T g, e = .returned (.tuple #[.pointer (some ⟨F, 0, none⟩), .int .i64 0]) ∧ WR E n G ∧ FAt F T G g w' ∧ w.heap.size ≤ F ∧ w.heap.size ≤ T ∧ Below w.heap.size w w') ∨ (e = .returned (.tuple #[.pointer none, .int .i64 4]) ∧ WRn E n ∧ w' = w) := by
  have hq2 := (fld hE).q2
  have hq64 := (good hE).q64
  obtain ⟨q, hq⟩ : ∃ q, q = E.q := ⟨_, rfl⟩
  rw [← hq] at hq2 hq64 ⊢
  have HE : Hid (E ∈ fieldsL ∧ q = E.q) := ⟨hE, hq⟩
  have hst : ((q : Nat) : Int) = ((q ^ (0 + 1) : Nat) : Int) := by simp
  clear hE hq
  go_enter Tryz.func36, Tryz.ntmps36
  go_wp2
  go_loopw [6] (fun vs wx => ∃ i s : Nat, vs = .int .i64 (s : Nat) ∧ s ≤ 4096 ∧ wx = w ∧ Hid (s = q ^ (i + 1) ∧ i < 7 ∧ ∀ j, j < i → (q ^ (j + 1) - 1) % n ≠ 0)) (fun vs _ => 4097 - (intOf vs).toNat)
  case atStart => exact ⟨0, q, rfl, by omega, rfl, by simp, by omega, fun j hj => absurd hj (by omega)⟩
  case round =>
    obtain ⟨i, s, rfl, hs, hwx, HI⟩ := hrel
    have hwx := hwx.symm
    subst hwx
    clear hst
    by_cases h64 : s ≤ 64
    · have hsi : (s : Int) ≤ 64 := by omega
      have hs1 : 1 ≤ s := by rw [HI.out.1]; exact Nat.pow_pos (by omega)
      obtain ⟨t, ht⟩ : ∃ t, t = s - 1 := ⟨_, rfl⟩
      have hti : (s : Int) - 1 = (t : Int) := by omega
      obtain ⟨r, hr⟩ : ∃ r, r = t % n := ⟨_, rfl⟩
      have hn0 : ¬ (n : Int) = 0 := by omega
      have hn0b : ((n : Int) == 0) = false := by rw [beq_eq_false_iff_ne]; omega
      have hrm : (t : Int).tmod (n : Int) = (r : Int) := by rw [Int.tmod_eq_emod_of_nonneg (by omega), hr]; omega
      have hre : (t : Int) % (n : Int) = (r : Int) := by rw [hr]; omega
      have hrb : r ≤ 64 := by rw [hr]; exact Nat.le_trans (Nat.mod_le _ _) (by omega)
      have htw : IntKind.i64.wrap (t : Int) = (t : Int) := wrap_to rfl (by omega)
      have HT : Hid (t = s - 1 ∧ r = t % n) := ⟨ht, hr⟩
      clear ht hr
      by_cases hr0 : r = 0
      · obtain ⟨G, hG, hGq, hGo⟩ := fld_of_pow HE.out.1 HI.out.2.1 (by rw [← HE.out.2, ← HI.out.1]; exact h64)
        have HW : Hid (WR E n G ∧ G.q = s) := by
          have e : G.q = s := by rw [hGq, ← HE.out.2, ← HI.out.1]
          refine ⟨⟨hG, hGo, by rw [e, ← HT.out.1, ← HT.out.2]; exact hr0, i, hGq, fun j hj => by rw [← HE.out.2]; exact HI.out.2.2 j hj⟩, e⟩
        have HN : Hid (Calls Tryz.prog 55 #[.int .i64 (s : Nat)] w fun e w' => ∃ F T g, e = .returned (.tuple #[.pointer (some ⟨F, 0, none⟩), .int .i64 0]) ∧ FAt F T G g w' ∧ w.heap.size ≤ F ∧ w.heap.size ≤ T ∧ Below w.heap.size w w') := by
          rw [← HW.out.2]; exact new_any hG w
        clear hG hGq hGo
        subst hr0
        go_wp2_with fail
        refine HN.out.mono ?_
        rintro e w1 ⟨F, T, g, rfl, hF, h1, h2, hb⟩
        have H1 : Hid (FAt F T G g w1 ∧ w.heap.size ≤ F ∧ w.heap.size ≤ T ∧ Below w.heap.size w w1) := ⟨hF, h1, h2, hb⟩
        clear hF h1 h2 hb HN
        go_wp2
        go_ret2
        exact Or.inl ⟨G, F, T, g, rfl, HW.out.1, H1.out⟩
      · have hr0b : ((r : Int) == 0) = false := by rw [beq_eq_false_iff_ne]; omega
        obtain ⟨s2, hs2⟩ : ∃ s2, s2 = s * q := ⟨_, rfl⟩
        have hs2i : (s : Int) * (q : Int) = (s2 : Int) := by rw [hs2]; simp
        have hs2b : s2 ≤ 4096 := by rw [hs2]; exact Nat.le_trans (Nat.mul_le_mul h64 hq64) (by decide)
        have hs2w : IntKind.i64.wrap (s2 : Int) = (s2 : Int) := wrap_to rfl (by omega)
        have hs2g : s < s2 := by
          rw [hs2]
          have : s * 2 ≤ s * q := Nat.mul_le_mul_left s hq2
          omega
        have HN : Hid (s2 = q ^ (i + 1 + 1) ∧ i + 1 < 7 ∧ ∀ j, j < i + 1 → (q ^ (j + 1) - 1) % n ≠ 0) := by
          refine ⟨by rw [hs2, HI.out.1, ← Nat.pow_succ], ?_, fun j hj => ?_⟩
          · have h2 : 2 ^ (i + 1) ≤ 64 := Nat.le_trans (Nat.pow_le_pow_left hq2 _) (by rw [← HI.out.1]; exact h64)
            have : i + 1 ≤ 6 := by
              refine Classical.byContradiction fun c => ?_
              have : 2 ^ 7 ≤ 2 ^ (i + 1) := Nat.pow_le_pow_right (by omega) (by omega)
              omega
            omega
          · by_cases c : j = i
            · rw [c, ← HI.out.1, ← HT.out.1, ← HT.out.2]; exact hr0
            · exact HI.out.2.2 j (by omega)
        clear hs2
        go_wp2
        go_roundw
        case rel => exact ⟨i + 1, s2, by first | rfl | go_num, hs2b, by first | rfl | trivial, HN.out⟩
        case measure => simp [intOf]; omega
    · have hsi : ¬ (s : Int) ≤ 64 := by omega
      have HN : Hid (WRn E n) := fun j hj => by
        rw [← HE.out.2] at hj ⊢
        refine HI.out.2.2 j ?_
        refine Classical.byContradiction fun c => ?_
        have : q ^ (i + 1) ≤ q ^ (j + 1) := Nat.pow_le_pow_right (by omega) (by omega)
        have := HI.out.1
        omega
      go_wp2
      go_ret2
      exact Or.inr ⟨rfl, HN.out, rfl⟩
end Go.Proofs.YtppggchhkckobaaGreat
