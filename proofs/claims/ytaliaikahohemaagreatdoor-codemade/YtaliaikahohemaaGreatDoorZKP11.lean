/- Texts of ours, one behind the other: KP11 LS3 KP12 KP13. -/
import Derived.Test.YtaliaikahohemaaGreatDoorZKP5
import Derived.Laws.BytesString
import Derived.WalkLawsBesides
import Derived.Shelf.Strings.Builder1
import Derived.Shelf.Strings.OnBuilder
import Derived.Shelf.Strconv.Itoa3
import Derived.Test.YtaliaikahohemaaGreatDoorProg
import Derived.Test.YtaliaikahohemaaGreatDoorZC2
import Derived.Test.YtaliaikahohemaaGreatDoorZI6
/- The reference's text of a code (Dec, Told). -/
namespace Go.Proofs.YtaliaikahohemaaGreatDoor
open Go.RowKit Go.Sort

theorem conv_byte (w : World) (n : Int) : (convert 98 9 (.slice (some ⟨w.heap.size, 0, none⟩) 1 1)).run Tryz.prog (w.alloc (.cells #[.int .u8 n] 5)) = .ok (.string (ByteArray.empty.push (UInt8.ofNat n.toNat))) (w.alloc (.cells #[.int .u8 n] 5)) := by
  rw [run_convert_bytes_string _ _ _ 5 _ _ _ (by kernel_rfl) (by kernel_rfl) (by kernel_rfl)]
  refine run_bytesToString _ _ _ _ [n] ?_
  refine run_loadCells_list _ _ [.int .u8 n] fun j v hv => ?_
  have hj : j = 0 := by
    cases j with
    | zero => rfl
    | succ j => simp at hv
  subst hj
  simp at hv
  subst hv
  show (w.alloc _).cell? ⟨w.heap.size, 0, none⟩ = _
  simp
theorem tob_app (a b : List UInt8) : tob a ++ tob b = tob (a ++ b) := by
  unfold tob
  apply ByteArray.ext
  simp [ByteArray.data_append]
theorem tob_size (a : List UInt8) : (tob a).size = a.length := by
  show a.toArray.size = _
  simp
theorem dgd_push : ∀ x, x < 10 → ByteArray.empty.push (UInt8.ofNat ((48 + x : Nat) : Int).toNat) = tob (dgd x) := by
  intro x hx
  rw [Int.toNat_natCast]
  unfold dgd
  rw [if_pos hx]
  rfl
theorem dgd_len : ∀ v, v < 100 → (dgd v).length ≤ 2 := by decide +kernel
set_option maxHeartbeats 4000000 in
set_option maxRecDepth 100000 in
theorem dec_one {x : Nat} (hx : x < 10) (w : World) :
    Calls Tryz.prog 112 #[.int .i64 (x : Nat)] w fun e w' => e = .returned (.string (tob (dgd x))) ∧ Below w.heap.size w w' := by
  have i1 : ¬ (x : Int) < -9 := by omega
  have i2 : ¬ (x : Int) < 0 := by omega
  have i3 : (x : Int) < 10 := by omega
  obtain ⟨y, hy⟩ : ∃ y, y = 48 + x := ⟨_, rfl⟩
  have wy : IntKind.i64.wrap (48 + (x : Int)) = (y : Int) := wrap_to (by omega) (by omega)
  have wu : IntKind.u8.wrap (y : Int) = (y : Int) := by
    have h : ∀ y : Nat, y < 58 → IntKind.u8.wrap (y : Int) = (y : Int) := by decide +kernel
    exact h y (by omega)
  have hcv := conv_byte w (y : Int)
  obtain ⟨s, hs⟩ : ∃ s, s = ByteArray.empty.push (UInt8.ofNat ((y : Int)).toNat) := ⟨_, rfl⟩
  rw [← hs] at hcv
  have HS : Hid (s = tob (dgd x)) := by
    show s = _
    rw [hs, hy]; exact dgd_push x hx
  have HB : Hid (Below w.heap.size w (w.alloc (.cells #[.int .u8 (y : Int)] 5))) := (Below.refl _ _).alloc (Nat.le_refl _) _
  clear hs hy
  go_enter Tryz.func112, Tryz.ntmps112
  go_wp2
  go_ret
  exact ⟨by rw [HS.out]; rfl, HB.out⟩
set_option maxHeartbeats 4000000 in
set_option maxRecDepth 100000 in
theorem dec_two {x : Nat} (hx : x < 100) (w : World) :
    Calls Tryz.prog 112 #[.int .i64 (x : Nat)] w fun e w' => e = .returned (.string (tob (dgd x))) ∧ Below w.heap.size w w' := by
  by_cases h : x < 10
  · exact dec_one h w
  have i1 : ¬ (x : Int) < -9 := by omega
  have i2 : ¬ (x : Int) < 0 := by omega
  have i3 : ¬ (x : Int) < 10 := by omega
  obtain ⟨a, ha⟩ : ∃ a, a = x / 10 := ⟨_, rfl⟩
  obtain ⟨b, hb⟩ : ∃ b, b = x % 10 := ⟨_, rfl⟩
  have ha10 : a < 10 := by omega
  have hb10 : b < 10 := by omega
  have d1 : (x : Int).tdiv 10 = (a : Int) := by rw [ha]; rfl
  have d2 : (x : Int).tmod 10 = (b : Int) := by rw [hb]; rfl
  obtain ⟨sa, hsa⟩ : ∃ sa, sa = tob (dgd a) := ⟨_, rfl⟩
  obtain ⟨sb, hsb⟩ : ∃ sb, sb = tob (dgd b) := ⟨_, rfl⟩
  have HD : Hid (sa = tob (dgd a) ∧ sb = tob (dgd b) ∧ sa ++ sb = tob (dgd x)) := by
    refine ⟨hsa, hsb, ?_⟩
    rw [hsa, hsb, tob_app]
    congr 1
    unfold dgd
    rw [if_pos ha10, if_pos hb10, if_neg h, ha, hb]
    rfl
  have hz : ¬ (9223372036854775807 : Int) < (sa.size : Int) + (sb.size : Int) := by
    rw [hsa, hsb, tob_size, tob_size]
    have := dgd_len a (by omega)
    have := dgd_len b (by omega)
    omega
  have hz2 : ¬ 9223372036854775807 < sa.size + sb.size := by omega
  clear ha hb hsa hsb h
  go_enter Tryz.func112, Tryz.ntmps112
  go_wp2_with fail
  refine (dec_one ha10 w).mono ?_
  rintro e w1 ⟨rfl, hb1⟩
  rw [← HD.out.1]
  go_wp2_with fail
  refine (dec_one hb10 w1).mono ?_
  rintro e w2 ⟨rfl, hb2⟩
  rw [← HD.out.2.1]
  have HB : Hid (Below w.heap.size w w2) := bel_up' hb1 hb2
  clear hb1 hb2
  go_wp2
  go_ret
  exact ⟨by rw [← HD.out.2.2]; rfl, HB.out⟩
/-- One number more. -/
theorem tlL_snoc (v : Nat) : ∀ l : List Nat, l ≠ [] → tlL (l ++ [v]) = tlL l ++ 32 :: dgd v
  | [], h => absurd rfl h
  | [u], _ => rfl
  | u :: t :: l, _ => by
    show dgd u ++ 32 :: tlL ((t :: l) ++ [v]) = (dgd u ++ 32 :: tlL (t :: l)) ++ 32 :: dgd v
    rw [tlL_snoc v (t :: l) (by simp)]
    simp
theorem tlL_len : ∀ l : List Nat, (∀ v ∈ l, v < 100) → (tlL l).length ≤ 3 * l.length
  | [], _ => Nat.le_refl _
  | [v], h => by have := dgd_len v (h v (by simp)); show (dgd v).length ≤ 3; omega
  | v :: u :: l, h => by
    have := tlL_len (u :: l) (fun x hx => h x (List.mem_cons_of_mem _ hx))
    have h2 := dgd_len v (h v (by simp))
    show (dgd v ++ 32 :: tlL (u :: l)).length ≤ _
    rw [List.length_append, List.length_cons]
    simp only [List.length_cons] at this ⊢
    omega
theorem txL_snoc (l : List Nat) : ∀ L : List (List Nat), txL (L ++ [l]) = txL L ++ (tlL l ++ [10])
  | [] => rfl
  | m :: L => by
    show tlL m ++ 10 :: txL (L ++ [l]) = (tlL m ++ 10 :: txL L) ++ _
    rw [txL_snoc l L]
    simp
theorem take_next {l : List Nat} {i : Nat} (hi : i < l.length) : l.take (i + 1) = l.take i ++ [l.getD i 0] := by
  rw [List.take_succ_eq_append_getElem hi, List.getD_eq_getElem?_getD, List.getElem?_eq_getElem hi]; rfl
set_option maxHeartbeats 4000000 in
set_option maxRecDepth 100000 in
theorem told_any {ao : Option Addr} {n ca : Nat} {z : Nat → Int} {l : List Nat} {w : World} (hs : SlZ ao n z w) (hl : l.length = n) (hz : ∀ j, j < n → z j = ((l.getD j 0 : Nat) : Int)) (hv : ∀ v ∈ l, v < 100) (hn : n ≤ 1000) :
    Calls Tryz.prog 80 #[.slice ao n ca] w fun e w' => e = .returned (.string (tob (tlL l))) ∧ Below w.heap.size w w' := by
  have HA : Hid (SlZ ao n z w ∧ l.length = n ∧ (∀ j, j < n → z j = ((l.getD j 0 : Nat) : Int)) ∧ ∀ v ∈ l, v < 100) := ⟨hs, hl, hz, hv⟩
  clear hs hl hz hv
  go_enter Tryz.func80, Tryz.ntmps80
  go_wp2
  go_loopw [3, 4] (fun vs vi wr => ∃ (i : Nat) (s : ByteArray), i ≤ n ∧ vi = .int .i64 (i : Nat) ∧ vs = .string s ∧ s.size ≤ 3000 ∧ Hid (s = tob (tlL (l.take i)) ∧ Below w.heap.size w wr)) (fun _ vi _ => n - (intOf vi).toNat)
  case atStart => exact ⟨0, _, by omega, rfl, rfl, by decide, rfl, Below.refl _ _⟩
  case round =>
    obtain ⟨i, s, hi, rfl, rfl, hs, HI⟩ := hrel
    rename World => wr
    by_cases hlt : i < n
    · have hib : (i : Int) < (n : Int) := by omega
      have hib0 : (0 : Int) ≤ (i : Int) := by omega
      obtain ⟨b, o, rfl, hc0⟩ := HA.out.1 i hlt
      have hcell := (HI.out.2.cell (p := ⟨b, o + i, none⟩) (cell_lt hc0)).trans hc0
      obtain ⟨x, hx⟩ : ∃ x, x = l.getD i 0 := ⟨_, rfl⟩
      rw [HA.out.2.2.1 i hlt, ← hx] at hcell
      have hx100 : x < 100 := by
        rw [hx, List.getD_eq_getElem?_getD, List.getElem?_eq_getElem (by rw [HA.out.2.1]; exact hlt)]
        exact HA.out.2.2.2 _ (List.getElem_mem _)
      obtain ⟨d, hd⟩ : ∃ d, d = tob (dgd x) := ⟨_, rfl⟩
      have hds : d.size ≤ 2 := by rw [hd, tob_size]; exact dgd_len x hx100
      have HD : Hid (d = tob (dgd x) ∧ x = l.getD i 0) := ⟨hd, hx⟩
      have HT : Hid (l.take (i + 1) = l.take i ++ [x]) := by
        show _ = _
        rw [hx]; exact take_next (by rw [HA.out.2.1]; exact hlt)
      have HN : Hid ((tob (tlL (l.take (i + 1)))).size ≤ 3000) := by
        show (tob (tlL (l.take (i + 1)))).size ≤ 3000
        rw [tob_size]
        have := tlL_len (l.take (i + 1)) (fun v hv => HA.out.2.2.2 v (List.mem_of_mem_take hv))
        rw [List.length_take] at this
        omega
      clear hc0 hd hx
      by_cases h0 : i = 0
      · subst h0
        rw [Nat.add_zero] at hcell
        have hz1 : ¬ 9223372036854775807 < s.size + d.size := by omega
        have hz2 : ¬ (9223372036854775807 : Int) < (s.size : Int) + (d.size : Int) := by omega
        go_wp2_with (go_at_call 112; refine (dec_two hx100 wr).mono ?_; rintro e w1 ⟨rfl, hb1⟩; rw [← HD.out.1])
        have HY : Hid (s ++ d = tob (tlL (l.take 1)) ∧ Below w.heap.size w w1) := by
          refine ⟨?_, bel_up' HI.out.2 hb1⟩
          rw [HI.out.1, HD.out.1, tob_app, HT.out]
          rfl
        clear hb1 hcell
        go_roundw
        case rel => exact ⟨1, s ++ d, by omega, by go_num, rfl, by rw [HY.out.1]; exact HN.out, HY.out⟩
        case measure => simp [intOf]; omega
      · have i3 : (0 : Int) < (i : Int) := by omega
        have hz0 : ¬ 9223372036854775807 < s.size + 1 := by omega
        have hz00 : ¬ (9223372036854775807 : Int) < (s.size : Int) + 1 := by omega
        have hz1 : ¬ 9223372036854775807 < s.size + 1 + d.size := by omega
        have hz2 : ¬ (9223372036854775807 : Int) < (s.size : Int) + 1 + (d.size : Int) := by omega
        go_wp2_with (go_at_call 112; refine (dec_two hx100 wr).mono ?_; rintro e w1 ⟨rfl, hb1⟩; rw [← HD.out.1])
        have HY : Hid (s ++ ⟨#[32]⟩ ++ d = tob (tlL (l.take (i + 1))) ∧ Below w.heap.size w w1) := by
          refine ⟨?_, bel_up' HI.out.2 hb1⟩
          have hne : l.take i ≠ [] := by
            intro e
            have := congrArg List.length e
            rw [List.length_take, HA.out.2.1] at this
            simp at this
            omega
          rw [HI.out.1, HD.out.1, HT.out, tlL_snoc x _ hne]
          show tob _ ++ tob [32] ++ tob _ = _
          rw [tob_app, tob_app]
          simp
        clear hb1 hcell
        go_roundw
        case rel => exact ⟨i + 1, _, by omega, by go_num, rfl, by rw [HY.out.1]; exact HN.out, HY.out⟩
        case measure => simp [intOf]; omega
    · have hib : ¬ (i : Int) < (n : Int) := by omega
      have HE : Hid (s = tob (tlL l)) := by
        have h := HI.out.1
        rw [List.take_of_length_le (by rw [HA.out.2.1]; omega)] at h
        exact h
      go_wp2
      go_ret
      exact ⟨by rw [← HE.out]; rfl, HI.out.2⟩
end Go.Proofs.YtaliaikahohemaaGreatDoor

/- How the library joins texts, builds them, tells numbers (strings.Join, strings.Builder, strconv.Itoa below 100): what the shelf asks of the program. (One type bears no name here: its number is the one of the seat of CodeMade.) -/
namespace Go.Proofs.YtaliaikahohemaaGreatDoor
open Go.Shelf
def lay156_ren : Go.Shelf.Ren := ⟨fun | 156 => 108 | 165 => 130 | 166 => 74 | 169 => 76 | 240 => 106 | 241 => 147 | 276 => 128 | 277 => 159 | n => n, fun | 31 => 107 | 9 => 9 | 3 => 3 | 4 => 4 | 0 => 0 | 20 => 20 | 72 => 100 | 76 => 103 | 70 => 97 | 37 => 98 | 75 => 102 | 127 => 132 | 164 => 145 | 5 => 5 | 80 => 106 | n => n, fun | n => n⟩
theorem lay156 : Go.Proofs.Lays.n156 Tryz.prog lay156_ren := {
  mixed := by kernel_rfl
  f156 := Tryz.func108.trans (congrArg some (by kernel_rfl))
  f165 := Tryz.func130.trans (congrArg some (by kernel_rfl))
  f166 := Tryz.func74.trans (congrArg some (by kernel_rfl))
  f169 := Tryz.func76.trans (congrArg some (by kernel_rfl))
  f240 := Tryz.func106.trans (congrArg some (by kernel_rfl))
  f241 := Tryz.func147.trans (congrArg some (by kernel_rfl))
  f276 := Tryz.func128.trans (congrArg some (by kernel_rfl))
  f277 := Tryz.func159.trans (congrArg some (by kernel_rfl))
  t0 := Tryz.underlying0
  a0 := Tryz.isAgg0
  z0 := Tryz.sizeOf0
  v0 := Tryz.zeroValue0
  t3 := Tryz.underlying3
  a3 := Tryz.isAgg3
  z3 := Tryz.sizeOf3
  v3 := Tryz.zeroValue3
  t4 := Tryz.underlying4
  a4 := Tryz.isAgg4
  z4 := Tryz.sizeOf4
  v4 := Tryz.zeroValue4
  t9 := Tryz.underlying9
  a9 := Tryz.isAgg9
  z9 := Tryz.sizeOf9
  v9 := Tryz.zeroValue9
  t20 := Tryz.underlying20
  a20 := Tryz.isAgg20
  z20 := Tryz.sizeOf20
  v20 := Tryz.zeroValue20
  t31 := Tryz.underlying107
  a31 := Tryz.isAgg107
  z31 := Tryz.sizeOf107
  v31 := Tryz.zeroValue107
  t37 := Tryz.underlying98
  a37 := Tryz.isAgg98
  z37 := Tryz.sizeOf98
  v37 := Tryz.zeroValue98
  t70 := Tryz.underlying97
  a70 := Tryz.isAgg97
  z70 := Tryz.sizeOf97
  v70 := Tryz.zeroValue97
  t72 := Tryz.underlying100
  a72 := Tryz.isAgg100
  z72 := Tryz.sizeOf100
  v72 := Tryz.zeroValue100
  t75 := Tryz.underlying102
  a75 := Tryz.isAgg102
  z75 := Tryz.sizeOf102
  v75 := Tryz.zeroValue102
  t76 := Tryz.underlying103
  a76 := Tryz.isAgg103
  z76 := Tryz.sizeOf103
  v76 := Tryz.zeroValue103
  t127 := Tryz.underlying132
  a127 := Tryz.isAgg132
  z127 := Tryz.sizeOf132
  v127 := Tryz.zeroValue132
  t164 := Tryz.underlying145
  a164 := Tryz.isAgg145
  z164 := Tryz.sizeOf145
  v164 := Tryz.zeroValue145 }
theorem bex156 : Builder.Extra Tryz.prog lay156_ren := {
  sizeBuilder := by kernel_rfl
  liesBuilder := by kernel_rfl
  t5 := Tryz.underlying5
  a5 := Tryz.isAgg5
  z5 := Tryz.sizeOf5
  v5 := Tryz.zeroValue5
  infoByte := by kernel_rfl
  cellsByte := by kernel_rfl
  sizeByte := by kernel_rfl
  neB5 := by decide }
def lay171_ren : Go.Shelf.Ren := ⟨fun | 171 => 107 | 243 => 129 | 246 => 146 | 283 => 155 | 284 => 156 | 285 => 157 | 286 => 158 | 129 => 167 | 317 => 166 | 318 => 168 | 319 => 169 | 320 => 170 | 337 => 173 | 338 => 174 | n => n, fun | 3 => 3 | 9 => 9 | 2 => 2 | 4 => 4 | 171 => 163 | 0 => 0 | 53 => 164 | 37 => 98 | 5 => 5 | 173 => 167 | 212 => 172 | 51 => 173 | 20 => 20 | 213 => 174 | 46 => 170 | 232 => 183 | 233 => 184 | n => n, fun | 17 => 1 | 18 => 4 | 19 => 5 | n => n⟩
theorem lay171 : Go.Proofs.Lays.n171 Tryz.prog lay171_ren := {
  mixed := by kernel_rfl
  f129 := Tryz.func167.trans (congrArg some (by kernel_rfl))
  f171 := Tryz.func107.trans (congrArg some (by kernel_rfl))
  f243 := Tryz.func129.trans (congrArg some (by kernel_rfl))
  f246 := Tryz.func146.trans (congrArg some (by kernel_rfl))
  f283 := Tryz.func155.trans (congrArg some (by kernel_rfl))
  f284 := Tryz.func156.trans (congrArg some (by kernel_rfl))
  f285 := Tryz.func157.trans (congrArg some (by kernel_rfl))
  f286 := Tryz.func158.trans (congrArg some (by kernel_rfl))
  f317 := Tryz.func166.trans (congrArg some (by kernel_rfl))
  f318 := Tryz.func168.trans (congrArg some (by kernel_rfl))
  f319 := Tryz.func169.trans (congrArg some (by kernel_rfl))
  f320 := Tryz.func170.trans (congrArg some (by kernel_rfl))
  f337 := Tryz.func173.trans (congrArg some (by kernel_rfl))
  f338 := Tryz.func174.trans (congrArg some (by kernel_rfl))
  t0 := Tryz.underlying0
  a0 := Tryz.isAgg0
  z0 := Tryz.sizeOf0
  v0 := Tryz.zeroValue0
  t2 := Tryz.underlying2
  a2 := Tryz.isAgg2
  z2 := Tryz.sizeOf2
  v2 := Tryz.zeroValue2
  t3 := Tryz.underlying3
  a3 := Tryz.isAgg3
  z3 := Tryz.sizeOf3
  v3 := Tryz.zeroValue3
  t4 := Tryz.underlying4
  a4 := Tryz.isAgg4
  z4 := Tryz.sizeOf4
  v4 := Tryz.zeroValue4
  t5 := Tryz.underlying5
  a5 := Tryz.isAgg5
  z5 := Tryz.sizeOf5
  v5 := Tryz.zeroValue5
  t9 := Tryz.underlying9
  a9 := Tryz.isAgg9
  z9 := Tryz.sizeOf9
  v9 := Tryz.zeroValue9
  t20 := Tryz.underlying20
  a20 := Tryz.isAgg20
  z20 := Tryz.sizeOf20
  v20 := Tryz.zeroValue20
  t37 := Tryz.underlying98
  a37 := Tryz.isAgg98
  z37 := Tryz.sizeOf98
  v37 := Tryz.zeroValue98
  t46 := Tryz.underlying170
  a46 := Tryz.isAgg170
  z46 := Tryz.sizeOf170
  v46 := Tryz.zeroValue170
  t51 := Tryz.underlying173
  a51 := Tryz.isAgg173
  z51 := Tryz.sizeOf173
  v51 := Tryz.zeroValue173
  t53 := Tryz.underlying164
  a53 := Tryz.isAgg164
  z53 := Tryz.sizeOf164
  v53 := Tryz.zeroValue164
  t171 := Tryz.underlying163
  a171 := Tryz.isAgg163
  z171 := Tryz.sizeOf163
  v171 := Tryz.zeroValue163
  t173 := Tryz.underlying167
  a173 := Tryz.isAgg167
  z173 := Tryz.sizeOf167
  v173 := Tryz.zeroValue167
  t212 := Tryz.underlying172
  a212 := Tryz.isAgg172
  z212 := Tryz.sizeOf172
  v212 := Tryz.zeroValue172
  t213 := Tryz.underlying174
  a213 := Tryz.isAgg174
  z213 := Tryz.sizeOf174
  t232 := Tryz.underlying183
  a232 := Tryz.isAgg183
  z232 := Tryz.sizeOf183
  v232 := Tryz.zeroValue183
  t233 := Tryz.underlying184
  a233 := Tryz.isAgg184
  z233 := Tryz.sizeOf184
  v233 := Tryz.zeroValue184
  g17 := by kernel_rfl
  g18 := by kernel_rfl
  g19 := by kernel_rfl }
theorem joinS (bk o c : Nat) (xs : List ByteArray) (sep : ByteArray) (w : World) (hcells : ∀ (j : Nat) x, xs[j]? = some x → w.cell? ⟨bk, o + j, none⟩ = some (.string x)) (hbk : bk < w.heap.size) (hN : xs.length ≤ 140737488355328) (hcap : xs.length ≤ c) (hlen : (Lib.join (xs.map (·.data.toList)) sep.data.toList).length ≤ 140737488355328) :
    Calls Tryz.prog 108 #[.slice (some ⟨bk, o, none⟩) xs.length c, .string sep] w fun e w' => e = .returned (.string ⟨(Lib.join (xs.map (·.data.toList)) sep.data.toList).toArray⟩) ∧ RowKit.Below w.heap.size w w' := Any.strings_Join lay156 bex156 bk o c xs sep w hcells hbk hN hcap hlen
theorem itoaS (i : Nat) (hi : i < 100) (w : World) :
    Calls Tryz.prog 107 #[.int .i64 i] w fun e w' => e = .returned (.string ⟨(Lib.decDigits i).toArray⟩) ∧ w' = w := Any.strconv_Itoa_small lay171 i hi w
end Go.Proofs.YtaliaikahohemaaGreatDoor

/- The program's line of numbers (package code: line). -/
namespace Go.Proofs.YtaliaikahohemaaGreatDoor
open Go.RowKit Go.Sort

theorem dec_dgd : ∀ i, i < 100 → Lib.decDigits i = dgd i := by
  intro i hi
  by_cases h : i < 10
  · unfold Lib.decDigits dgd
    simp [h]
  · unfold Lib.decDigits
    have h2 : i / 10 < 10 := by omega
    rw [dif_neg h]
    unfold Lib.decDigits dgd
    simp [h, h2]
/-- 'make([]string, n)'. -/
theorem make_str {ops : Array Oper} {rest : List Oper} {o : Oper} {a : Act} {w : World} {Q : Exit → Act → World → Prop}
    (hg : o.guard = none) (l c : Operand) (hop : o.op = Op.makeSlice 107 l c) (C : Int) (n : Nat) (hl : a.eval l = .int .i64 C) (hc : a.eval c = .int .i64 C) (hC : C = (n : Int)) (hn : n ≤ 1000000)
    (hK : ∀ w', RowF w.heap.size n 9 (fun _ => .string ByteArray.empty) w' → w.grownBy w' none → wpList Tryz.prog ops Q rest (a.put o.dst (.slice (some ⟨w.heap.size, 0, none⟩) n n)) w') :
    wpList Tryz.prog ops Q (o :: rest) a w := by
  obtain ⟨i0, hi, hz0, hz1, hz2⟩ := info_parts Tryz.infoStr
  refine wpList_make_full w hg l c 107 hop w.heap.size 9 i0 (.string ByteArray.empty) 1 Tryz.underlying107 hi hz0 hz1 .i64 .i64 C C n hl hc hC hC (by rw [hz2]; omega) (by unfold maxLen; omega) (Nat.le_refl _) ?_
  intro w' hown hgrow
  refine hK w' ?_ hgrow
  have e : (madeCells (Value.string ByteArray.empty).cells (n * 1)).toList = List.replicate n (.string ByteArray.empty) := by
    rw [Nat.mul_one]; exact toList_madeCells_one _ _
  rw [e] at hown
  rcases hown.2 with ⟨h1, _⟩ | ⟨g, cap, cur, hv, hg, hh, hle, hcm, hsz, htake⟩
  · cases h1
  · simp only [Value.slice.injEq, Option.some.injEq, Addr.mk.injEq, and_true, true_and] at hv
    obtain ⟨rfl, rfl⟩ := hv
    refine ⟨cur, hh, by omega, fun k hk => ?_⟩
    have h3 : (cur.toList.take (n * 1))[k]? = (List.replicate n (Value.string ByteArray.empty))[k]? := by rw [htake]
    rw [List.getElem?_take, if_pos (by omega), List.getElem?_replicate, if_pos hk, Array.getElem?_toList] at h3
    exact h3
theorem tlL_join : ∀ l : List Nat, Lib.join (l.map dgd) [32] = tlL l
  | [] => rfl
  | [v] => Lib.join_one _ _
  | v :: u :: l => by
    have ih := tlL_join (u :: l)
    show _ = dgd v ++ 32 :: tlL (u :: l)
    rw [← ih]
    unfold Lib.join
    simp [List.intercalate]
theorem itoa_at {x : Nat} {d : ByteArray} {w : World} (hx : x < 100) (hd : d = tob (dgd x)) :
    Calls Tryz.prog 107 #[.int .i64 (x : Nat)] w fun e w' => e = .returned (.string d) ∧ w' = w := by
  have := itoaS x hx w
  rw [dec_dgd x hx] at this
  rw [hd]; exact this
theorem join_at {g n : Nat} {l : List Nat} {f : Nat → Value} {y : ByteArray} {w : World} (hr : RowF g n 9 f w) (hl : l.length = n) (hf : ∀ j, j < n → f j = .string (tob (dgd (l.getD j 0)))) (hv : ∀ v ∈ l, v < 100) (hn : n ≤ 1000) (hy : y = tob (tlL l)) :
    Calls Tryz.prog 108 #[.slice (some ⟨g, 0, none⟩) n n, .string ⟨#[32]⟩] w fun e w' => e = .returned (.string y) ∧ Below w.heap.size w w' := by
  have hxl : (l.map (fun v => tob (dgd v))).length = n := by rw [List.length_map]; exact hl
  have hj : (l.map (fun v => tob (dgd v))).map (·.data.toList) = l.map dgd := by
    rw [List.map_map]
    apply List.map_congr_left
    intro v _
    show (dgd v).toArray.toList = dgd v
    simp
  have h := joinS g 0 n (l.map (fun v => tob (dgd v))) ⟨#[32]⟩ w (fun j x hx => by
    rw [List.getElem?_map] at hx
    have hjl : j < l.length := by
      rcases Nat.lt_or_ge j l.length with h | h
      · exact h
      · rw [List.getElem?_eq_none h] at hx; cases hx
    rw [List.getElem?_eq_getElem hjl] at hx
    have hx : tob (dgd (l[j]'hjl)) = x := Option.some.inj hx
    rw [Nat.zero_add, hr.cell j (by omega), hf j (by omega), ← hx, List.getD_eq_getElem?_getD, List.getElem?_eq_getElem hjl]
    rfl) hr.lt (by omega) (by omega) (by
      rw [hj]
      show (Lib.join (l.map dgd) [32]).length ≤ _
      rw [tlL_join]
      have := tlL_len l hv
      omega)
  rw [hxl, hj] at h
  have e2 : (Lib.join (l.map dgd) (⟨#[32]⟩ : ByteArray).data.toList) = tlL l := tlL_join l
  rw [e2] at h
  rw [hy]; exact h
set_option maxHeartbeats 4000000 in
set_option maxRecDepth 100000 in
theorem line_any {ao : Option Addr} {n ca : Nat} {z : Nat → Int} {l : List Nat} {w : World} (hs : SlZ ao n z w) (hl : l.length = n) (hz : ∀ j, j < n → z j = ((l.getD j 0 : Nat) : Int)) (hv : ∀ v ∈ l, v < 100) (hn : n ≤ 1000) :
    Calls Tryz.prog 75 #[.slice ao n ca] w fun e w' => e = .returned (.string (tob (tlL l ++ [10]))) ∧ Below w.heap.size w w' := by
  have HA : Hid (SlZ ao n z w ∧ l.length = n ∧ (∀ j, j < n → z j = ((l.getD j 0 : Nat) : Int)) ∧ ∀ v ∈ l, v < 100) := ⟨hs, hl, hz, hv⟩
  clear hs hl hz hv
  obtain ⟨y, hy⟩ : ∃ y, y = tob (tlL l) := ⟨_, rfl⟩
  have hys : y.size ≤ 3000 := by
    rw [hy, tob_size]
    have := tlL_len l HA.out.2.2.2
    have := HA.out.2.1
    omega
  have HY0 : Hid (y = tob (tlL l)) := hy
  have hz0 : ¬ 9223372036854775807 < y.size + 1 := by omega
  have hz00 : ¬ (9223372036854775807 : Int) < (y.size : Int) + 1 := by omega
  clear hy
  go_enter Tryz.func75, Tryz.ntmps75
  go_wp2_with (at_make; refine make_str rfl _ _ rfl _ n rfl rfl (by first | rfl | omega) (by omega) ?_; intro w1 hrow1 hgrow1)
  obtain ⟨g, hg⟩ : ∃ g, g = w.heap.size := ⟨_, rfl⟩
  rw [← hg] at hrow1
  try rw [← hg]
  have H1 : Hid (RowF g n 9 (fun _ => .string ByteArray.empty) w1 ∧ Below w.heap.size w w1 ∧ g = w.heap.size) := ⟨hrow1, below_grown hgrow1 (Nat.le_refl _) (fun k hk => by cases hk), hg⟩
  clear hrow1 hgrow1 hg
  go_loopw [11] (fun vi wr => ∃ (t : Nat) (f : Nat → Value), t ≤ n ∧ vi = .int .i64 (t : Nat) ∧ Hid (RowF g n 9 f wr ∧ (∀ j, j < t → f j = .string (tob (dgd (l.getD j 0)))) ∧ Below w.heap.size w wr)) (fun vi _ => n - (intOf vi).toNat)
  case atStart => exact ⟨0, _, by omega, rfl, H1.out.1, fun j hj => absurd hj (by omega), H1.out.2.1⟩
  case round =>
    obtain ⟨t, f, ht, rfl, HI⟩ := hrel
    rename World => wr
    by_cases hlt : t < n
    · have hib : (t : Int) < (n : Int) := by omega
      have hib0 : (0 : Int) ≤ (t : Int) := by omega
      obtain ⟨b, o, hao, hc0⟩ := HA.out.1 t hlt
      have hcell := (HI.out.2.2.cell (p := ⟨b, o + t, none⟩) (cell_lt hc0)).trans hc0
      obtain ⟨x, hx⟩ : ∃ x, x = l.getD t 0 := ⟨_, rfl⟩
      rw [HA.out.2.2.1 t hlt, ← hx] at hcell
      have hx100 : x < 100 := by
        rw [hx, List.getD_eq_getElem?_getD, List.getElem?_eq_getElem (by rw [HA.out.2.1]; exact hlt)]
        exact HA.out.2.2.2 _ (List.getElem_mem _)
      obtain ⟨d, HD⟩ : ∃ d, Hid (d = tob (dgd x) ∧ x = l.getD t 0) := ⟨_, rfl, hx⟩
      have hfc := HI.out.1.cell t hlt
      have hff := HI.out.1.free t
      subst hao
      clear hc0 hx
      go_wp2_with (go_at_call 107; refine (itoa_at hx100 HD.out.1).mono ?_; rintro e w' ⟨rfl, hw⟩; have hw := hw.symm; subst hw)
      obtain ⟨ws, hws⟩ : ∃ ws, ws = wr.setCell ⟨g, t, none⟩ (.string d) := ⟨_, rfl⟩
      have HY : Hid (RowF g n 9 (upd f t (.string d)) ws ∧ (∀ j, j < t + 1 → upd f t (.string d) j = .string (tob (dgd (l.getD j 0)))) ∧ Below w.heap.size w ws) := by
        rw [hws]
        refine ⟨HI.out.1.store t _, fun j hj => ?_, HI.out.2.2.setCell (by show w.heap.size ≤ g; have := H1.out.2.2; omega) _⟩
        by_cases e : j = t
        · rw [e, upd_at, HD.out.1, HD.out.2]
        · rw [upd_ne _ _ _ e]; exact HI.out.2.1 j (by omega)
      try rw [← hws]
      clear hws hfc hff hcell
      go_roundw
      case rel => exact ⟨t + 1, _, by omega, by go_num, HY.out⟩
      case measure => simp [intOf]; omega
    · have hib : ¬ (t : Int) < (n : Int) := by omega
      have HE : Hid (∀ j, j < n → f j = .string (tob (dgd (l.getD j 0)))) := fun j hj => HI.out.2.1 j (by omega)
      go_wp2_with (go_at_call 108; refine (join_at HI.out.1 HA.out.2.1 HE.out HA.out.2.2.2 hn HY0.out).mono ?_; rintro e w2 ⟨rfl, hb2⟩)
      have HZ : Hid (Below w.heap.size w w2 ∧ y ++ ⟨#[10]⟩ = tob (tlL l ++ [10])) := ⟨bel_up' HI.out.2.2 hb2, by rw [HY0.out]; exact tob_app _ [10]⟩
      clear hb2
      go_ret
      exact ⟨by rw [← HZ.out.2]; rfl, HZ.out.1⟩
end Go.Proofs.YtaliaikahohemaaGreatDoor

/- The reference's text of a code (CodePrint). -/
namespace Go.Proofs.YtaliaikahohemaaGreatDoor
open Go.RowKit Go.Sort

/-- The first n numbers; a code's lines. -/
def rowL (n : Nat) (r : Nat → Nat) : List Nat := (List.range n).map r
def cdL (q n k : Nat) (R : Nat → Nat → Nat) : List (List Nat) := [q, n] :: (List.range k).map fun i => rowL n (R i)
theorem rowL_len (n : Nat) (r : Nat → Nat) : (rowL n r).length = n := by simp [rowL]
theorem rowL_at {n : Nat} (r : Nat → Nat) {j : Nat} (hj : j < n) : (rowL n r).getD j 0 = r j := by
  unfold rowL
  rw [List.getD_eq_getElem?_getD, List.getElem?_map, List.getElem?_range hj]; rfl
theorem rowL_lt {n : Nat} {r : Nat → Nat} (h : ∀ j, j < n → r j < 100) : ∀ v ∈ rowL n r, v < 100 := by
  intro v hv
  obtain ⟨j, hj, rfl⟩ := List.mem_map.1 hv
  exact h j (List.mem_range.1 hj)
theorem cdL_next (q n k : Nat) (R : Nat → Nat → Nat) : txL (cdL q n (k + 1) R) = txL (cdL q n k R) ++ (tlL (rowL n (R k)) ++ [10]) := by
  unfold cdL
  rw [List.range_succ, List.map_append]
  exact txL_snoc (rowL n (R k)) ([q, n] :: (List.range k).map fun i => rowL n (R i))
theorem cdL_len {q n : Nat} {R : Nat → Nat → Nat} (hq : q < 100) (hn : n ≤ 64) : ∀ k, (∀ i, i < k → ∀ j, j < n → R i j < 100) → (txL (cdL q n k R)).length ≤ 7 + k * 200
  | 0, _ => by
    show (tlL [q, n] ++ 10 :: []).length ≤ _
    have := tlL_len [q, n] (fun v hv => by simp at hv; omega)
    rw [List.length_append]
    simp only [List.length_cons, List.length_nil] at this ⊢
    omega
  | k + 1, h => by
    have ih := cdL_len hq hn k (fun i hi => h i (by omega))
    have h2 := tlL_len (rowL n (R k)) (rowL_lt (h k (by omega)))
    rw [rowL_len] at h2
    rw [cdL_next, List.length_append, List.length_append]
    simp only [List.length_cons, List.length_nil]
    omega
theorem told_at {ao : Option Addr} {n ca : Nat} {z : Nat → Int} {l : List Nat} {y : ByteArray} {w : World} (hs : SlZ ao n z w) (hl : l.length = n) (hz : ∀ j, j < n → z j = ((l.getD j 0 : Nat) : Int)) (hv : ∀ v ∈ l, v < 100) (hn : n ≤ 1000) (hy : y = tob (tlL l)) :
    Calls Tryz.prog 80 #[.slice ao n ca] w fun e w' => e = .returned (.string y) ∧ Below w.heap.size w w' := by
  rw [hy]; exact told_any hs hl hz hv hn
/-- Two numbers laid side by side. -/
theorem two_slz (q n : Nat) (w : World) : SlZ (some ⟨w.heap.size, 0, none⟩) 2 (fun j => ((([q, n] : List Nat).getD j 0 : Nat) : Int)) (w.alloc (.cells #[.int .i64 (q : Nat), .int .i64 (n : Nat)] 3)) := by
  intro j hj
  refine ⟨w.heap.size, 0, rfl, ?_⟩
  rw [Nat.zero_add, cell_of_row _ _ _ _ _ (0, 0) (two_new _)]
  match j, hj with
  | 0, _ => rfl
  | 1, _ => rfl

set_option maxHeartbeats 4000000 in
set_option maxRecDepth 100000 in
theorem codePrint_any {ao : Option Addr} {q n k rc : Nat} {A : Nat → Option Addr} {C : Nat → Nat} {R : Nat → Nat → Nat} {w : World} (hA : MatZ ao k A (fun _ => n) C (fun i j => ((R i j : Nat) : Int)) w) (hk : k ≤ 64) (hn : n ≤ 64) (hq : q < 100) (hR : ∀ i, i < k → ∀ j, j < n → R i j < 100) :
    Calls Tryz.prog 42 #[.agg #[.int .i64 (q : Nat), .int .i64 (n : Nat), .slice ao k rc]] w fun e w' => e = .returned (.string (tob (txL (cdL q n k R)))) ∧ Below w.heap.size w w' := by
  have HA : Hid (MatZ ao k A (fun _ => n) C (fun i j => ((R i j : Nat) : Int)) w ∧ ∀ i, i < k → ∀ j, j < n → R i j < 100) := ⟨hA, hR⟩
  clear hA hR
  obtain ⟨w0, hw0⟩ : ∃ w0, w0 = w.alloc (.cells #[.int .i64 (q : Nat), .int .i64 (n : Nat), .slice ao k rc] 25) := ⟨_, rfl⟩
  obtain ⟨b, hbe⟩ : ∃ b, b = w.heap.size := ⟨_, rfl⟩
  have HW : Hid (Below w.heap.size w w0 ∧ CB b q n (.slice ao k rc) w0 ∧ w0.heap.size = b + 1) := by
    rw [hw0, hbe]; exact ⟨(Below.refl _ _).alloc (Nat.le_refl _) _, CB.new _ _ _ w, by simp⟩
  obtain ⟨y, hy⟩ : ∃ y, y = tob (tlL [q, n]) := ⟨_, rfl⟩
  have hys : y.size ≤ 6 := by
    rw [hy, tob_size]
    exact tlL_len [q, n] (fun v hv => by simp at hv; omega)
  have HY0 : Hid (y = tob (tlL [q, n])) := hy
  have hz0 : ¬ 9223372036854775807 < y.size + 1 := by omega
  have hz00 : ¬ (9223372036854775807 : Int) < (y.size : Int) + 1 := by omega
  have HTd : Hid (Calls Tryz.prog 80 #[.slice (some ⟨b + 1, 0, none⟩) 2 2] (w0.alloc (.cells #[.int .i64 (q : Nat), .int .i64 (n : Nat)] 3)) fun e w' => e = .returned (.string y) ∧ Below w0.heap.size w0 w') := by
    have hal : Below w0.heap.size w0 (w0.alloc (.cells #[.int .i64 (q : Nat), .int .i64 (n : Nat)] 3)) := (Below.refl _ _).alloc (Nat.le_refl _) _
    have h2 := two_slz q n w0
    rw [HW.out.2.2] at h2
    refine (told_at h2 rfl (fun j _ => rfl) (fun v hv => by simp at hv; omega) (by omega) hy).mono ?_
    rintro e w' ⟨he, hb⟩
    exact ⟨he, bel_up' hal hb⟩
  clear hy
  go_enter Tryz.func42, Tryz.ntmps42
  go_wp2_with fail
  rw [← hw0, ← hbe]
  clear hw0 hbe
  refine HTd.out.mono ?_
  rintro e w1 ⟨rfl, hb1⟩
  have H1 : Hid (Below w.heap.size w w1 ∧ CB b q n (.slice ao k rc) w1) := ⟨bel_up' HW.out.1 hb1, HW.out.2.1.keep hb1⟩
  clear hb1
  go_wp2
  go_loopw [3, 4] (fun vs vi wr => ∃ (i : Nat) (s : ByteArray), i ≤ k ∧ vi = .int .i64 (i : Nat) ∧ vs = .string s ∧ s.size ≤ 20000 ∧ Hid (s = tob (txL (cdL q n i R)) ∧ Below w.heap.size w wr ∧ CB b q n (.slice ao k rc) wr)) (fun _ vi _ => k - (intOf vi).toNat)
  case atStart =>
    refine ⟨0, _, by omega, rfl, rfl, ?_, ?_, H1.out.1, H1.out.2⟩
    · rw [HY0.out]
      show (tob (tlL [q, n]) ++ tob [10]).size ≤ 20000
      rw [tob_app, tob_size, List.length_append]
      have := tlL_len [q, n] (fun v hv => by simp at hv; omega)
      simp only [List.length_cons, List.length_nil] at this ⊢
      omega
    · rw [HY0.out]
      exact tob_app _ [10]
  case round =>
    obtain ⟨i, s, hi, rfl, rfl, hs, HI⟩ := hrel
    rename World => wr
    obtain ⟨c0, c1, c2⟩ := HI.out.2.2
    by_cases hlt : i < k
    · have hib : (i : Int) < (k : Int) := by omega
      have hib0 : (0 : Int) ≤ (i : Int) := by omega
      obtain ⟨ba, oa, rfl, hc0⟩ := HA.out.1.cell i hlt
      have hcell := (HI.out.2.1.cell (p := ⟨ba, oa + i, none⟩) (cell_lt hc0)).trans hc0
      obtain ⟨d, hd⟩ : ∃ d, d = tob (tlL (rowL n (R i))) := ⟨_, rfl⟩
      have hds : d.size ≤ 192 := by
        rw [hd, tob_size]
        have := tlL_len (rowL n (R i)) (rowL_lt (HA.out.2 i hlt))
        rw [rowL_len] at this
        omega
      have HD : Hid (d = tob (tlL (rowL n (R i))) ∧ SlZ (A i) n (fun j => ((R i j : Nat) : Int)) wr) := ⟨hd, (HA.out.1.below HI.out.2.1).sl i hlt⟩
      have hz1 : ¬ 9223372036854775807 < s.size + d.size := by omega
      have hz2 : ¬ (9223372036854775807 : Int) < (s.size : Int) + (d.size : Int) := by omega
      have hz3 : ¬ 9223372036854775807 < s.size + d.size + 1 := by omega
      have hz4 : ¬ (9223372036854775807 : Int) < (s.size : Int) + (d.size : Int) + 1 := by omega
      clear hc0 hd
      go_wp2_with (go_at_call 80; refine (told_at HD.out.2 (rowL_len n (R i)) (fun j hj => by rw [rowL_at (R i) hj]) (rowL_lt (HA.out.2 i hlt)) (by omega) HD.out.1).mono ?_; rintro e w2 ⟨rfl, hb2⟩)
      have HN : Hid (s ++ d ++ ⟨#[10]⟩ = tob (txL (cdL q n (i + 1) R)) ∧ (tob (txL (cdL q n (i + 1) R))).size ≤ 20000 ∧ Below w.heap.size w w2 ∧ CB b q n (.slice (some ⟨ba, oa, none⟩) k rc) w2) := by
        refine ⟨?_, ?_, bel_up' HI.out.2.1 hb2, HI.out.2.2.keep hb2⟩
        · rw [HI.out.1, HD.out.1, cdL_next]
          show tob _ ++ tob _ ++ tob [10] = _
          rw [tob_app, tob_app, List.append_assoc]
        · rw [tob_size]
          have := cdL_len hq hn (i + 1) (fun i' hi' => HA.out.2 i' (by omega))
          omega
      clear hb2 hcell c0 c1 c2
      go_roundw
      case rel => exact ⟨i + 1, _, by omega, by go_num, rfl, by rw [HN.out.1]; exact HN.out.2.1, HN.out.1, HN.out.2.2⟩
      case measure => simp [intOf]; omega
    · have hib : ¬ (i : Int) < (k : Int) := by omega
      have HE : Hid (s = tob (txL (cdL q n k R))) := by
        have h := HI.out.1
        rw [show i = k by omega] at h
        exact h
      go_wp2
      go_ret
      exact ⟨by rw [← HE.out]; rfl, HI.out.2.1⟩
end Go.Proofs.YtaliaikahohemaaGreatDoor
