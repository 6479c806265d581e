/- Texts of ours, one behind the other: LS5 KT2 KT3. -/
import Derived.Shelf.SlIterI.Nil
import Derived.Shelf.SortM.Plain
import Derived.Shelf.SortM.SortNone
import Derived.Ground.GgzProg
import Derived.Ground.SlgmProg
import Derived.Shelf.SlGeneric
import Derived.Test.YtppggchhkckobaaGreatProg
import Derived.Test.YtppggchhkckobaaGreatZS70
import Derived.Test.YtppggchhkckobaaGreatZS11
import Derived.Test.YtppggchhkckobaaGreatZM3
/- How the library sorts a map's keys here (slices.Sorted of maps.Keys): what the shelf asks of the program. -/
namespace Go.Proofs.YtppggchhkckobaaGreat
open Go.Shelf
def keysA_ren : Go.Shelf.Ren := ⟨fun | 7 => 74 | 10 => 111 | n => n, fun | 23 => 55 | 26 => 3 | 3 => 3 | 28 => 94 | 0 => 0 | 27 => 93 | 33 => 75 | 4 => 4 | n => n, fun | n => n⟩
theorem keysA : Go.Proofs.SlLaysZI.n7 Tryz.prog keysA_ren := {
  mixed := by kernel_rfl
  f7 := ⟨Tryz.f74.name, by decide, Tryz.func74.trans (congrArg some (by kernel_rfl))⟩
  f10 := ⟨Tryz.f111.name, by decide, Tryz.func111.trans (congrArg some (by kernel_rfl))⟩
  t0 := Tryz.underlying0
  a0 := Tryz.isAgg0
  z0 := Tryz.sizeOf0
  v0 := Tryz.zeroValue0
  t4 := Tryz.underlying4
  a4 := Tryz.isAgg4
  z4 := Tryz.sizeOf4
  v4 := Tryz.zeroValue4
  t23 := Tryz.underlying55
  a23 := Tryz.isAgg55
  z23 := Tryz.sizeOf55
  v23 := Tryz.zeroValue55
  t26 := Tryz.underlying3
  a26 := Tryz.isAgg3
  z26 := Tryz.sizeOf3
  v26 := Tryz.zeroValue3
  t27 := Tryz.underlying93
  a27 := Tryz.isAgg93
  z27 := Tryz.sizeOf93
  v27 := Tryz.zeroValue93
  t28 := Tryz.underlying94
  a28 := Tryz.isAgg94
  z28 := Tryz.sizeOf94
  v28 := Tryz.zeroValue94
  t33 := Tryz.underlying75
  a33 := Tryz.isAgg75
  z33 := Tryz.sizeOf75
  v33 := Tryz.zeroValue75 }
def sortedA_ren : Go.Shelf.Ren := ⟨fun | 6 => 73 | 8 => 109 | 9 => 110 | 11 => 129 | 13 => 131 | 12 => 130 | 23 => 153 | 24 => 154 | 14 => 144 | 15 => 145 | 16 => 146 | 17 => 147 | 18 => 148 | 19 => 149 | 20 => 150 | 21 => 151 | 22 => 152 | 25 => 160 | 26 => 161 | 27 => 162 | 28 => 163 | 29 => 164 | 30 => 165 | 31 => 168 | n => n, fun | 26 => 3 | 28 => 94 | 24 => 22 | 0 => 0 | 3 => 3 | 37 => 130 | 48 => 149 | 50 => 151 | 4 => 4 | 40 => 142 | 39 => 141 | 45 => 146 | 5 => 5 | 9 => 9 | 51 => 156 | 55 => 160 | 57 => 164 | 58 => 45 | 33 => 75 | n => n, fun | n => n⟩
theorem sortedA : Go.Proofs.SlLaysZI.n6 Tryz.prog sortedA_ren := {
  mixed := by kernel_rfl
  f6 := ⟨Tryz.f73.name, by decide, Tryz.func73.trans (congrArg some (by kernel_rfl))⟩
  f8 := ⟨Tryz.f109.name, by decide, Tryz.func109.trans (congrArg some (by kernel_rfl))⟩
  f11 := ⟨Tryz.f129.name, by decide, Tryz.func129.trans (congrArg some (by kernel_rfl))⟩
  t0 := Tryz.underlying0
  a0 := Tryz.isAgg0
  z0 := Tryz.sizeOf0
  v0 := Tryz.zeroValue0
  t24 := Tryz.underlying22
  a24 := Tryz.isAgg22
  z24 := Tryz.sizeOf22
  v24 := Tryz.zeroValue22
  t26 := Tryz.underlying3
  a26 := Tryz.isAgg3
  z26 := Tryz.sizeOf3
  v26 := Tryz.zeroValue3
  t28 := Tryz.underlying94
  a28 := Tryz.isAgg94
  z28 := Tryz.sizeOf94
  v28 := Tryz.zeroValue94
  i26 := by kernel_rfl }
def sortA_ren : Go.Shelf.Ren := ⟨fun | 5 => 110 | 8 => 131 | 7 => 130 | 19 => 153 | 20 => 154 | 10 => 144 | 11 => 145 | 12 => 146 | 13 => 147 | 14 => 148 | 15 => 149 | 16 => 150 | 17 => 151 | 18 => 152 | 30 => 160 | 31 => 161 | 32 => 162 | 33 => 163 | 34 => 164 | 35 => 165 | 40 => 168 | n => n, fun | 23 => 22 | 25 => 3 | 3 => 3 | 32 => 130 | 22 => 22 | 0 => 0 | 44 => 149 | 46 => 151 | 4 => 4 | 36 => 142 | 35 => 141 | 41 => 146 | 5 => 5 | 9 => 9 | 53 => 156 | 57 => 160 | 63 => 164 | 64 => 45 | n => n, fun | n => n⟩
theorem sortA : Go.Proofs.SlLaysM.n5 Tryz.prog sortA_ren := {
  mixed := by kernel_rfl
  f5 := ⟨Tryz.f110.name, by decide, Tryz.func110.trans (congrArg some (by kernel_rfl))⟩
  f7 := ⟨Tryz.f130.name, by decide, Tryz.func130.trans (congrArg some (by kernel_rfl))⟩
  f8 := Tryz.func131.trans (congrArg some (by kernel_rfl))
  f10 := ⟨Tryz.f144.name, by decide, Tryz.func144.trans (congrArg some (by kernel_rfl))⟩
  f11 := ⟨Tryz.f145.name, by decide, Tryz.func145.trans (congrArg some (by kernel_rfl))⟩
  f12 := ⟨Tryz.f146.name, by decide, Tryz.func146.trans (congrArg some (by kernel_rfl))⟩
  f13 := ⟨Tryz.f147.name, by decide, Tryz.func147.trans (congrArg some (by kernel_rfl))⟩
  f14 := ⟨Tryz.f148.name, by decide, Tryz.func148.trans (congrArg some (by kernel_rfl))⟩
  f15 := ⟨Tryz.f149.name, by decide, Tryz.func149.trans (congrArg some (by kernel_rfl))⟩
  f16 := ⟨Tryz.f150.name, by decide, Tryz.func150.trans (congrArg some (by kernel_rfl))⟩
  f17 := ⟨Tryz.f151.name, by decide, Tryz.func151.trans (congrArg some (by kernel_rfl))⟩
  f18 := ⟨Tryz.f152.name, by decide, Tryz.func152.trans (congrArg some (by kernel_rfl))⟩
  f19 := Tryz.func153.trans (congrArg some (by kernel_rfl))
  f20 := Tryz.func154.trans (congrArg some (by kernel_rfl))
  f30 := ⟨Tryz.f160.name, by decide, Tryz.func160.trans (congrArg some (by kernel_rfl))⟩
  f31 := Tryz.func161.trans (congrArg some (by kernel_rfl))
  f32 := Tryz.func162.trans (congrArg some (by kernel_rfl))
  f33 := ⟨Tryz.f163.name, by decide, Tryz.func163.trans (congrArg some (by kernel_rfl))⟩
  f34 := ⟨Tryz.f164.name, by decide, Tryz.func164.trans (congrArg some (by kernel_rfl))⟩
  f35 := ⟨Tryz.f165.name, by decide, Tryz.func165.trans (congrArg some (by kernel_rfl))⟩
  f40 := ⟨Tryz.f168.name, by decide, Tryz.func168.trans (congrArg some (by kernel_rfl))⟩
  t0 := Tryz.underlying0
  a0 := Tryz.isAgg0
  z0 := Tryz.sizeOf0
  v0 := Tryz.zeroValue0
  t3 := Tryz.underlying3
  a3 := Tryz.isAgg3
  z3 := Tryz.sizeOf3
  v3 := Tryz.zeroValue3
  t4 := Tryz.underlying4
  a4 := Tryz.isAgg4
  z4 := Tryz.sizeOf4
  v4 := Tryz.zeroValue4
  t5 := Tryz.underlying5
  a5 := Tryz.isAgg5
  z5 := Tryz.sizeOf5
  v5 := Tryz.zeroValue5
  t9 := Tryz.underlying9
  a9 := Tryz.isAgg9
  z9 := Tryz.sizeOf9
  v9 := Tryz.zeroValue9
  t22 := Tryz.underlying22
  a22 := Tryz.isAgg22
  z22 := Tryz.sizeOf22
  v22 := Tryz.zeroValue22
  t23 := Tryz.underlying22
  a23 := Tryz.isAgg22
  z23 := Tryz.sizeOf22
  v23 := Tryz.zeroValue22
  t25 := Tryz.underlying3
  a25 := Tryz.isAgg3
  z25 := Tryz.sizeOf3
  v25 := Tryz.zeroValue3
  t32 := Tryz.underlying130
  a32 := Tryz.isAgg130
  z32 := Tryz.sizeOf130
  v32 := Tryz.zeroValue130
  t35 := Tryz.underlying141
  a35 := Tryz.isAgg141
  z35 := Tryz.sizeOf141
  v35 := Tryz.zeroValue141
  t36 := Tryz.underlying142
  a36 := Tryz.isAgg142
  z36 := Tryz.sizeOf142
  v36 := Tryz.zeroValue142
  t41 := Tryz.underlying146
  a41 := Tryz.isAgg146
  z41 := Tryz.sizeOf146
  v41 := Tryz.zeroValue146
  t44 := Tryz.underlying149
  a44 := Tryz.isAgg149
  z44 := Tryz.sizeOf149
  v44 := Tryz.zeroValue149
  t46 := Tryz.underlying151
  a46 := Tryz.isAgg151
  z46 := Tryz.sizeOf151
  v46 := Tryz.zeroValue151
  t53 := Tryz.underlying156
  a53 := Tryz.isAgg156
  z53 := Tryz.sizeOf156
  v53 := Tryz.zeroValue156
  t57 := Tryz.underlying160
  a57 := Tryz.isAgg160
  z57 := Tryz.sizeOf160
  v57 := Tryz.zeroValue160
  t63 := Tryz.underlying164
  a63 := Tryz.isAgg164
  z63 := Tryz.sizeOf164
  v63 := Tryz.zeroValue164
  t64 := Tryz.underlying45
  a64 := Tryz.isAgg45
  z64 := Tryz.sizeOf45
  v64 := Tryz.zeroValue45 }

end Go.Proofs.YtppggchhkckobaaGreat

/- Cyclic: a map's numbers, rising. -/
namespace Go.Proofs.YtppggchhkckobaaGreat
open Go.RowKit Go.Maps Go.Sort Go.Shelf

/-- slices.Sort's two contracts, at the fence that asks nothing. -/
theorem sortsA (m : Nat) : AnyZI.SortsIn Tryz.prog sortedA_ren Fence.wide m :=
  ⟨fun blk off cap ss W hH hblk hsz => callsIn_wide.2 (AnyM.slices_Sort_int sortA blk off cap ss W hH hblk hsz),
   fun p cap W => callsIn_wide.2 (AnyM.slices_Sort_int_none sortA p cap W)⟩

set_option maxHeartbeats 1000000 in
theorem rising_map (b nn : Nat) (D0 : DataW Value) (R : Value → Option (DataW Value × List MemPlace)) (w : World) (hown : w.ownsMap Tryz.prog 3 R b nn D0) (hmax : Maps.size D0 ≤ maxLen) (hbytes : Maps.size D0 * 8 ≤ 140737488355328) :
    Calls Tryz.prog 31 #[.map (some b)] w fun e w' => ∃ (v : Value) (ss : List Int), e = .returned v ∧ ss.Perm (intKeys D0) ∧
      w'.ownsRow w.heap.size 3 1 v ss.length ((ss.mergeSort (fun x y => decide (x ≤ y))).map encZ) ∧ (v = .slice none 0 0 ↔ ss = []) ∧ Below w.heap.size w w' := by
  refine (callsIn_wide (n := 6)).1 ?_
  have hbl := hown.lt
  have hseq : SeqGives Fence.wide 2 Tryz.prog 111 #[.pointer (some ⟨w.heap.size, 0, none⟩)] encZ (fun ss => ss.Perm (intKeys D0)) (Maps.size D0) (w.alloc (.cells #[.map (some b)] 55)) :=
    AnyZI.keys_gives (ρ := keysA_ren) { keysA with } Fence.wide _ trivial rfl (by omega) w.heap.size b nn D0 _ (by simp) (by simp) (by
      obtain ⟨es, clock, hb, Ft, hs, hD⟩ := hown
      exact ⟨es, clock, (Below.heap_alloc _ _ b hbl).trans hb, Ft, hs, hD⟩)
  have cK : ∀ mb W, CallsIn Fence.wide 5 Tryz.prog 74 #[.map mb] W fun e w' => e = .returned (.func (.func 111) #[] #[.pointer (some ⟨W.heap.size, 0, none⟩)]) ∧ w' = W.alloc (.cells #[.map mb] 55) := fun mb W => AnyZI.keys_in keysA Fence.wide 5 trivial rfl mb W
  have cS := AnyZI.sorted_in sortedA Fence.wide 5 trivial trivial trivial trivial rfl (by omega) (sortsA _) (enters_of Tryz.func110 (by kernel_rfl) rfl) 111 #[.pointer (some ⟨w.heap.size, 0, none⟩)] trivial (enters_of Tryz.func111 (by kernel_rfl) rfl) _ _ hmax hbytes _ hseq
  change CallsIn _ _ Tryz.prog 73 _ _ _ at cS
  have hfK : Fence.wide.fn 74 := trivial
  have hfS : Fence.wide.fn 73 := trivial
  refine callsIn_of_wp Tryz.func31 rfl trivial ?_ rfl
  simp only [Tryz.ntmps31, List.size_toArray, List.length_cons, List.length_nil, Nat.reduceAdd, Nat.reduceSub, Array.replicate_succ, Array.replicate_zero, List.push_toArray, List.append_toArray, List.nil_append, List.cons_append]
  gi_wp2_with (first
    | (gi_at_call 74; refine (cK _ _).mono ?_; rintro e w' ⟨rfl, rfl⟩)
    | (gi_at_call 73; refine cS.mono ?_; rintro e w' ⟨v, ss, rfl, hS, hrow, hnil, hb⟩))
  go_ret
  exact ⟨v, ss, rfl, hS, ownsRow_base_a hrow (by simp), hnil, ((Below.refl _ w).alloc (Nat.le_refl _) _).trans (hb.mono (by simp))⟩
/-- Numbers below n of a list, rising. -/
def rsn (n : Nat) (L : List Nat) : List Nat := (List.range n).filter fun j => L.contains j
theorem tg_perm {B nn : Nat} {L : List Nat} {D : DataW Value} {w : World} (hown : w.ownsMap Tryz.prog 3 (plainElem Tryz.prog 3) B nn D) (hD : TgD D L) (hd : L.Nodup) : (L.map fun j => ((j : Nat) : Int)).Perm (intKeys D) := by
  refine CollectedI.perm (left := fun _ => false) ⟨?_, fun x => ?_⟩ hown ct_law cty_int (fun _ => rfl)
  · exact List.pairwise_map.2 (hd.imp (fun {a b} h => by omega))
  · rw [hD.has x, List.mem_map]
    exact ⟨fun ⟨k, hk, e⟩ => ⟨⟨k, hk, e.symm⟩, rfl⟩, fun ⟨⟨k, hk, e⟩, _⟩ => ⟨k, hk, e.symm⟩⟩
theorem rising_any {B n : Nat} {L : List Nat} {w : World} (h : Tg B L w) (hd : L.Nodup) (hl : ∀ k ∈ L, k < n) (hn : n ≤ 64) :
    Calls Tryz.prog 31 #[.map (some B)] w fun e w' => ∃ v, e = .returned v ∧ OwnI w.heap.size v ((rsn n L).map fun j => ((j : Nat) : Int)) w' ∧ Below w.heap.size w w' := by
  obtain ⟨D, hown, hD⟩ := h
  have hp := tg_perm hown hD hd
  have hsz : Maps.size D = L.length := by
    obtain ⟨es, rfl⟩ := hD.im
    have := hp.length_eq
    rw [List.length_map] at this
    rw [this]
    show es.length = (es.map _).length
    rw [List.length_map]
  have hln := nd_len hd hl
  refine (rising_map B L.length D _ w hown (by rw [hsz]; unfold maxLen; omega) (by rw [hsz]; omega)).mono ?_
  rintro e w' ⟨v, ss, rfl, hS, hrow, _, hb⟩
  refine ⟨v, rfl, ?_, hb⟩
  have e1 : ss.mergeSort (fun x y => decide (x ≤ y)) = (rsn n L).map fun j => ((j : Nat) : Int) := by
    exact (mergeSort_of_perm_i (hS.trans hp.symm)).trans (sort_range hd hl)
  have e2 : ss.length = ((rsn n L).map fun j => ((j : Nat) : Int)).length := by rw [← e1, List.length_mergeSort]
  rw [e1, e2] at hrow
  exact hrow
end Go.Proofs.YtppggchhkckobaaGreat

/- Cyclic: check, checkZeros. -/
namespace Go.Proofs.YtppggchhkckobaaGreat
open Go.RowKit Go.Sort

/-- What check says of a length over a field. -/
def cyc (D : FD) (n : Int) : Int := if n < 1 ∨ 64 < n then 4 else if n.toNat % D.p = 0 then 3 else 0
set_option maxHeartbeats 4000000 in
set_option maxRecDepth 100000 in
theorem cychk_any {D : FD} (hD : D ∈ fieldsL) (n : Int) (w : World) :
    Calls Tryz.prog 30 #[.int .i64 D.q, .int .i64 n] w fun e w' => e = .returned (.int .i64 (cyc D n)) ∧ Below w.heap.size w w' := by
  have HN : Hid (Calls Tryz.prog 55 #[.int .i64 D.q] w fun e w' => ∃ F T g, e = .returned (.tuple #[.pointer (some ⟨F, 0, none⟩), .int .i64 0]) ∧ FAt F T D g w' ∧ w.heap.size ≤ F ∧ w.heap.size ≤ T ∧ Below w.heap.size w w') := new_any hD w
  obtain ⟨E, hE⟩ : ∃ E, E = cyc D n := ⟨_, rfl⟩
  rw [← hE]
  have hp2 := (good hD).p2
  have hp64 := (good hD).p64
  obtain ⟨p, hp⟩ : ∃ p, p = D.p := ⟨_, rfl⟩
  rw [← hp] at hp2 hp64
  unfold cyc at hE
  rw [← hp] at hE
  go_enter Tryz.func30, Tryz.ntmps30
  go_wp2_with fail
  refine HN.out.mono ?_
  rintro e w1 ⟨F, T, g, rfl, hF, _, _, hb⟩
  have HC : Hid (Calls Tryz.prog 72 #[.pointer (some ⟨F, 0, none⟩)] w1 fun e w' => e = .returned (.int .i64 (p : Nat)) ∧ w' = w1) := by rw [hp]; exact char_any hF
  have HB : Hid (Below w.heap.size w w1) := hb
  clear hF hb hp HN hD
  by_cases h1 : n < 1
  · rw [if_pos (Or.inl h1)] at hE
    have HE : Hid (E = 4) := hE
    clear hE
    go_wp2
    go_ret
    exact ⟨by (first | (rw [HE.out]; rfl) | rw [HE.out]), HB.out⟩
  · by_cases h2 : 64 < n
    · rw [if_pos (Or.inr h2)] at hE
      have HE : Hid (E = 4) := hE
      clear hE
      have h2' : n > 64 := h2
      go_wp2
      go_ret
      exact ⟨by (first | (rw [HE.out]; rfl) | rw [HE.out]), HB.out⟩
    · rw [if_neg (by omega)] at hE
      obtain ⟨N, rfl⟩ : ∃ N : Nat, n = (N : Int) := ⟨n.toNat, by omega⟩
      rw [Int.toNat_natCast] at hE
      have hN64 : N ≤ 64 := by omega
      have h1i : ¬ (N : Int) < 1 := by omega
      have h2i : ¬ (64 : Int) < (N : Int) := by omega
      obtain ⟨r, hr⟩ : ∃ r, r = N % p := ⟨_, rfl⟩
      rw [← hr] at hE
      have hp0 : ¬ (p : Int) = 0 := by omega
      have hp0b : ((p : Int) == 0) = false := by rw [beq_eq_false_iff_ne]; omega
      have hrm : (N : Int).tmod (p : Int) = (r : Int) := by rw [Int.tmod_eq_emod_of_nonneg (by omega), hr]; omega
      have hre : (N : Int) % (p : Int) = (r : Int) := by rw [hr]; omega
      have hrb : r ≤ 64 := by rw [hr]; exact Nat.le_trans (Nat.mod_le _ _) hN64
      clear hr h1 h2
      by_cases h3 : r = 0
      · rw [if_pos h3] at hE
        have HE : Hid (E = 3) := hE
        subst h3
        clear hE
        go_wp2_with fail
        refine HC.out.mono ?_
        rintro e w' ⟨rfl, hw⟩
        have hw := hw.symm
        subst hw
        go_wp2
        go_ret
        exact ⟨by (first | (rw [HE.out]; rfl) | rw [HE.out]), HB.out⟩
      · rw [if_neg h3] at hE
        have HE : Hid (E = 0) := hE
        have h3b : ((r : Int) == 0) = false := by rw [beq_eq_false_iff_ne]; omega
        clear hE h3
        go_wp2_with fail
        refine HC.out.mono ?_
        rintro e w' ⟨rfl, hw⟩
        have hw := hw.symm
        subst hw
        go_wp2
        go_ret
        exact ⟨by (first | (rw [HE.out]; rfl) | rw [HE.out]), HB.out⟩
theorem enters_cz1 : ∀ args w, (callFunc 79 args).run Tryz.prog w = .ok (.enter 79 args) w :=
  enters_of Tryz.func79 (by kernel_rfl) rfl
/-- No place of n. -/
def cout (n x : Int) : Bool := decide (x < 0) || decide (n ≤ x)
set_option maxHeartbeats 2000000 in
theorem cz1_any {B : Nat} {n x : Int} {w : World} (hc : w.cell? ⟨B, 0, none⟩ = some (.int .i64 n)) :
    Calls Tryz.prog 79 #[.int .i64 x, .pointer (some ⟨B, 0, none⟩)] w fun e w' => e = .returned (.bool (cout n x)) ∧ w' = w := by
  obtain ⟨R, hR⟩ : ∃ R, R = cout n x := ⟨_, rfl⟩
  rw [← hR]
  unfold cout at hR
  by_cases h1 : x < 0
  · rw [decide_eq_true h1, Bool.true_or] at hR
    subst hR
    go_enter Tryz.func79, Tryz.ntmps79
    go_wp2
    go_ret
    exact ⟨rfl, rfl⟩
  · rw [decide_eq_false h1, Bool.false_or] at hR
    by_cases h2 : n ≤ x
    · rw [decide_eq_true h2] at hR
      subst hR
      have h2' : x ≥ n := h2
      go_enter Tryz.func79, Tryz.ntmps79
      go_wp2
      go_ret
      exact ⟨rfl, rfl⟩
    · rw [decide_eq_false h2] at hR
      subst hR
      have h2' : ¬ x ≥ n := h2
      go_enter Tryz.func79, Tryz.ntmps79
      go_wp2
      go_ret
      exact ⟨rfl, rfl⟩
/-- What checkZeros says, behind what check says. -/
def czs (e n : Int) (m : Nat) (z : Nat → Int) : Int := if e ≠ 0 then e else if 64 < m then 4 else if anyB (fun j => cout n (z j)) m = true then 10 else 0

set_option maxHeartbeats 4000000 in
set_option maxRecDepth 100000 in
theorem czeros_any {q n e : Int} {zo : Option Addr} {m zc : Nat} {z : Nat → Int} {w : World} (hs : SlZ zo m z w) (hl : LtB zo w.heap.size) (hm : m ≤ 1000000)
    (hC : ∀ w1, Calls Tryz.prog 30 #[.int .i64 q, .int .i64 n] w1 fun x w' => x = .returned (.int .i64 e) ∧ Below w1.heap.size w1 w') :
    Calls Tryz.prog 35 #[.int .i64 q, .int .i64 n, .slice zo m zc] w fun x w' => x = .returned (.int .i64 (czs e n m z)) ∧ Below w.heap.size w w' := by
  obtain ⟨wa, hwa⟩ : ∃ wa, wa = w.alloc (.cells #[.int .i64 n] 3) := ⟨_, rfl⟩
  have hba : Below w.heap.size w wa := by rw [hwa]; exact (Below.refl _ _).alloc (Nat.le_refl _) _
  have hc : wa.cell? ⟨w.heap.size, 0, none⟩ = some (.int .i64 n) := by rw [hwa, cell_of_row _ _ _ _ _ (0, 0) (two_new _)]; rfl
  have hsa : wa.heap.size = w.heap.size + 1 := by rw [hwa]; simp
  have HA : Hid (Below w.heap.size w wa ∧ wa.cell? ⟨w.heap.size, 0, none⟩ = some (.int .i64 n) ∧ wa.heap.size = w.heap.size + 1 ∧ SlZ zo m z w ∧ LtB zo w.heap.size) := ⟨hba, hc, hsa, hs, hl⟩
  have HC : Hid (Calls Tryz.prog 30 #[.int .i64 q, .int .i64 n] wa fun x w' => x = .returned (.int .i64 e) ∧ Below wa.heap.size wa w') := hC wa
  obtain ⟨E, hE⟩ : ∃ E, E = czs e n m z := ⟨_, rfl⟩
  rw [← hE]
  unfold czs at hE
  clear hba hsa hs hl hC
  go_enter Tryz.func35, Tryz.ntmps35
  go_wp2_with fail
  rw [← hwa]
  clear hwa hc
  refine HC.out.mono ?_
  rintro x w1 ⟨rfl, hb1⟩
  have hc1 : w1.cell? ⟨w.heap.size, 0, none⟩ = some (.int .i64 n) := ((bcell hb1).1 w.heap.size 0 (by have := HA.out.2.2.1; omega)).trans HA.out.2.1
  have H1 : Hid (Below w.heap.size w w1 ∧ w1.cell? ⟨w.heap.size, 0, none⟩ = some (.int .i64 n)) := ⟨bel_up' HA.out.1 hb1, hc1⟩
  obtain ⟨B, hB⟩ : ∃ B, B = w.heap.size := ⟨_, rfl⟩
  have HR : Hid (Calls Tryz.prog 78 #[.slice zo m zc, .func (.func 79) #[] #[.pointer (some ⟨B, 0, none⟩)]] w1 fun e w' => e = .returned (.bool (anyB (fun j => cout n (z j)) m)) ∧ w' = w1) := by
    refine containsFn_any (z := z) (p := fun j => cout n (z j)) enters_cz1 (fun i hi => ?_) hm (fun j _ => ?_)
    · obtain ⟨b, off, e, k⟩ := HA.out.2.2.2.1 i hi
      exact ⟨b, off, e, (H1.out.1.cell (p := ⟨b, off + i, none⟩) (show b < w.heap.size from HA.out.2.2.2.2 _ e)).trans k⟩
    · have e : (#[Value.int .i64 (z j)] ++ #[Value.pointer (some ⟨B, 0, none⟩)] : Array Value) = #[.int .i64 (z j), .pointer (some ⟨B, 0, none⟩)] := rfl
      rw [e]
      exact cz1_any (by rw [hB]; exact H1.out.2)
  try rw [← hB]
  clear hb1 hc1 HC HA hB
  by_cases h0 : e = 0
  · rw [if_neg (by omega)] at hE
    subst h0
    by_cases h1 : 64 < m
    · rw [if_pos h1] at hE
      have HE : Hid (E = 4) := hE
      clear hE
      have h1i : (64 : Int) < (m : Int) := by omega
      have h1j : (m : Int) > 64 := by omega
      go_wp2
      go_ret
      exact ⟨by (first | (rw [HE.out]; rfl) | rw [HE.out]), H1.out.1⟩
    · rw [if_neg h1] at hE
      have h1i : ¬ (64 : Int) < (m : Int) := by omega
      have h1j : ¬ (m : Int) > 64 := by omega
      obtain ⟨R, hR⟩ : ∃ R, R = anyB (fun j => cout n (z j)) m := ⟨_, rfl⟩
      rw [← hR] at hE HR
      clear hR
      go_wp2_with fail
      refine HR.out.mono ?_
      rintro x w' ⟨rfl, hw⟩
      have hw := hw.symm
      subst hw
      cases R with
      | true =>
        rw [if_pos rfl] at hE
        have HE : Hid (E = 10) := hE
        clear hE
        go_wp2
        go_ret
        exact ⟨by (first | (rw [HE.out]; rfl) | rw [HE.out]), H1.out.1⟩
      | false =>
        rw [if_neg (by intro c; cases c)] at hE
        have HE : Hid (E = 0) := hE
        clear hE
        go_wp2
        go_ret
        exact ⟨by (first | (rw [HE.out]; rfl) | rw [HE.out]), H1.out.1⟩
  · rw [if_pos h0] at hE
    have HE : Hid (E = e) := hE
    have hz : (e != 0) = true := by rw [bne_iff_ne]; exact h0
    clear hE
    go_wp2
    go_ret
    exact ⟨by (first | (rw [HE.out]; rfl) | rw [HE.out]), H1.out.1⟩
end Go.Proofs.YtppggchhkckobaaGreat
