/- Texts of ours, one behind the other: S69 S70 KT1 LS5. -/
import Derived.Test.YtppggchhkckobaaGreatZS65
import Derived.Test.YtppggchhkckobaaGreatZD1
import Derived.Test.YtppggchhkckobaaGreatZL10
import Derived.Test.YtppggchhkckobaaGreatZX18
import Derived.Test.YtppggchhkckobaaGreatZU8
import Derived.Maps.OwnOps
import Derived.Maps.OwnSet
import Derived.Lib.SlKeysI
import Derived.Deep.LoopGhost
import Derived.Shelf.SlIterI.Nil
import Derived.Shelf.SortM.Plain
import Derived.Shelf.SortM.SortNone
import Derived.Ground.GgzProg
import Derived.Ground.SlgmProg
import Derived.Shelf.SlGeneric
import Derived.Test.YtppggchhkckobaaGreatProg
/- A root of order n: the generator to the power (q - 1) / n (plain mathematics); powers of q that are 1 modulo n. -/
namespace Go.Proofs.YtppggchhkckobaaGreat

theorem gen_chk : (fieldsL.all fun D => decide (D.q = 2) || D.lg D.gen == 1) = true := by decide +kernel
theorem gen_lg {D : FD} (hD : D ∈ fieldsL) : D.lg D.gen % (D.q - 1) = 1 % (D.q - 1) := by
  have k := List.all_eq_true.1 gen_chk D hD
  rw [Bool.or_eq_true] at k
  rcases k with k | k
  · have e : D.q = 2 := of_decide_eq_true k
    rw [e, Nat.mod_one, Nat.mod_one]
  · have e : D.lg D.gen = 1 := by simpa using k
    rw [e]
theorem gen_ne {D : FD} (hD : D ∈ fieldsL) : D.gen < D.q ∧ D.gen ≠ 0 := by
  have k := List.all_eq_true.1 st_one D hD
  simp only [Bool.and_eq_true, decide_eq_true_eq] at k
  exact ⟨k.1.2, k.2⟩
theorem gen_pw {D : FD} (hD : D ∈ fieldsL) (k : Nat) : D.lg (D.pw D.gen k) = k % (D.q - 1) := by
  rw [(pw_ne hD D.gen k).2, Nat.mul_mod, gen_lg hD, ← Nat.mul_mod, Nat.one_mul]
theorem gen_all (D : FD) : D.pw D.gen (D.q - 1) = 1 := by
  show again D.st (D.lg D.gen * (D.q - 1) % (D.q - 1)) 1 = 1
  rw [Nat.mul_mod_left]
  rfl
theorem root_rt {D : FD} (hD : D ∈ fieldsL) {n : Nat} (h : (D.q - 1) % n = 0) : Rt D (D.pw D.gen ((D.q - 1) / n)) n := by
  have hq2 := (fld hD).q2
  have e : (D.q - 1) / n * n = D.q - 1 := Nat.div_mul_cancel (Nat.dvd_of_mod_eq_zero h)
  have hpos : 0 < (D.q - 1) / n := by
    rcases Nat.eq_zero_or_pos ((D.q - 1) / n) with c | c
    · rw [c] at e; omega
    · exact c
  obtain ⟨d, hd⟩ : ∃ d, d = (D.q - 1) / n := ⟨_, rfl⟩
  rw [← hd] at e hpos ⊢
  have hne := pw_ne hD D.gen d
  have hpw : ∀ i, D.xp (D.pw D.gen d) i = D.pw D.gen (d * i) := fun i => by rw [← pw_xp hD hne.1, pw_pw hD]
  refine ⟨pw_lt hD _ _, hne.1, ?_, fun i j hi hj hij c => hij ?_⟩
  · rw [hpw, e, gen_all D]
  · rw [hpw, hpw] at c
    have c2 := congrArg D.lg c
    rw [gen_pw hD, gen_pw hD] at c2
    have b : ∀ i, i < n → d * i < D.q - 1 := fun i hi => by rw [← e]; exact Nat.mul_lt_mul_of_pos_left hi hpos
    rw [Nat.mod_eq_of_lt (b i hi), Nat.mod_eq_of_lt (b j hj)] at c2
    exact Nat.eq_of_mul_eq_mul_left hpos c2
theorem ord_chk : (fieldsL.all fun E => (List.range 65).all fun n => decide (n = 0) || decide (n % E.p = 0) || (List.range 65).any fun t => decide (0 < t) && E.q ^ t % n == 1 % n) = true := by decide +kernel
theorem ord_of {E : FD} (hE : E ∈ fieldsL) {n : Nat} (hn1 : 1 ≤ n) (hn : n ≤ 64) (hp : n % E.p ≠ 0) : Ord E.q n := by
  have k := List.all_eq_true.1 (List.all_eq_true.1 ord_chk E hE) n (List.mem_range.2 (by omega))
  rw [Bool.or_eq_true, Bool.or_eq_true] at k
  rcases k with (k | k) | k
  · exact absurd (of_decide_eq_true k) (by omega)
  · exact absurd (of_decide_eq_true k) hp
  · obtain ⟨t, _, k⟩ := List.any_eq_true.1 k
    simp only [Bool.and_eq_true, decide_eq_true_eq, beq_iff_eq] at k
    exact ⟨t, k.1, k.2⟩
end Go.Proofs.YtppggchhkckobaaGreat

/- Multiples of a divisor of x^n - 1 stay such when they are turned (plain mathematics). -/
namespace Go.Proofs.YtppggchhkckobaaGreat

end Go.Proofs.YtppggchhkckobaaGreat

/- Cyclic: numbers that come of each other (together): a map that the call makes. -/
namespace Go.Proofs.YtppggchhkckobaaGreat
open Go.RowKit Go.Maps

theorem cty_int : Tryz.prog.underlying 3 = some (.int .i64) := by kernel_rfl
theorem ct_map : Tryz.prog.underlying 55 = some (.map 3 3) := by kernel_rfl
theorem ct_law : Keyed Tryz.prog 3 := int_keyed cty_int
theorem ct_zero (w : World) : (zeroValue 3).run Tryz.prog w = .ok (.int .i64 0) w := by kernel_rfl
theorem ct_key (a : Int) (h : (Lit.int .i64 a).wf = true) : keyOf Tryz.prog 3 (.int .i64 a) = some (.int .i64 a) := keyOf_int_mk cty_int h
theorem ct_wf {k : Nat} (h : k ≤ 1000) : (Lit.int .i64 (k : Nat)).wf = true := WalkArith.wf_i64 (by omega)
/-- A map that has each number of a list, once. -/
structure TgD (D : DataW Value) (L : List Nat) : Prop where
  im : IsMap D
  yes : ∀ k, k ∈ L → D.atKey (.int .i64 (k : Nat)) (.lit (.int .i64 0)) = .lit (.int .i64 1)
  no : ∀ k : Nat, k ∉ L → D.atKey (.int .i64 (k : Nat)) (.lit (.int .i64 0)) = .lit (.int .i64 0)
  has : ∀ x : Int, Maps.has D (.int .i64 x) = true ↔ ∃ k ∈ L, x = ((k : Nat) : Int)
theorem TgD.nil : TgD (.map []) [] := ⟨isMap_empty, fun k h => (by cases h), fun k _ => rfl, fun x => ⟨fun h => (by cases h), fun ⟨_, h, _⟩ => (by cases h)⟩⟩
theorem ct_lit (x : Int) : WideAt.IsKeyLit (.int .i64 x) := by first | trivial | (unfold WideAt.IsKeyLit; trivial) | exact Or.inl ⟨_, _, rfl⟩ | simp [WideAt.IsKeyLit]
theorem TgD.put {D : DataW Value} {L : List Nat} (h : TgD D L) (k : Nat) : TgD (D.put (.int .i64 (k : Nat)) (.lit (.int .i64 1))) (L ++ [k]) := by
  refine ⟨h.im.put _ _, fun j hj => ?_, fun j hj => ?_, fun x => ?_⟩
  · by_cases e : j = k
    · rw [e]; exact atKey_put_same h.im (ct_lit _) _ _
    · rw [atKey_put_other (by intro c; cases c; exact e (by omega))]
      exact h.yes j ((List.mem_append.1 hj).resolve_right (fun c => e (List.mem_singleton.1 c)))
  · have e : j ≠ k := fun e => hj (List.mem_append.2 (Or.inr (List.mem_singleton.2 e)))
    rw [atKey_put_other (by intro c; cases c; exact e (by omega))]
    exact h.no j (fun c => hj (List.mem_append.2 (Or.inl c)))
  · by_cases e : x = ((k : Nat) : Int)
    · subst e
      exact ⟨fun _ => ⟨k, by simp, rfl⟩, fun _ => has_put_same h.im (ct_lit _) _⟩
    · rw [has_put_other (by intro c; cases c; exact e rfl), h.has x]
      constructor
      · rintro ⟨j, hj, rfl⟩; exact ⟨j, by simp [hj], rfl⟩
      · rintro ⟨j, hj, rfl⟩
        rcases List.mem_append.1 hj with c | c
        · exact ⟨j, c, rfl⟩
        · rw [List.mem_singleton.1 c] at e; exact absurd rfl e
theorem lit_inj {c d : Int} (h : (DataW.lit (.int .i64 c) : DataW Value) = .lit (.int .i64 d)) : c = d := by cases h; rfl
/-- A map in memory that has each number of a list, once. -/
def Tg (B : Nat) (L : List Nat) (w : World) : Prop := ∃ D : DataW Value, w.ownsMap Tryz.prog 3 (plainElem Tryz.prog 3) B L.length D ∧ TgD D L
/-- What is known of the list. -/
structure TgL (q n : Nat) (z : Nat → Nat) (m : Nat) (L : List Nat) : Prop where
  nd : L.Nodup
  lt : ∀ k ∈ L, k < n
  cl : Clq q n L
  mem : ∀ k, k ∈ L ↔ Clo q n z m k
theorem TgL.none (q n : Nat) (z : Nat → Nat) : TgL q n z 0 [] := ⟨List.nodup_nil, fun k h => (by cases h), fun k h => (by cases h), fun k => ⟨fun h => (by cases h), fun ⟨i, hi, _⟩ => absurd hi (by omega)⟩⟩
theorem nd_len {n : Nat} {L : List Nat} (h : L.Nodup) (hl : ∀ k ∈ L, k < n) : L.length ≤ n := by
  have hp : ((List.range n).filter fun j => L.contains j).Perm L := by
    refine (List.perm_ext_iff_of_nodup (List.nodup_range.filter _) h).2 (fun a => ?_)
    rw [List.mem_filter, List.contains_iff_mem]
    exact ⟨fun h => h.2, fun h => ⟨List.mem_range.2 (hl a h), h⟩⟩
  rw [← hp.length_eq]
  have := List.length_filter_le (fun j => L.contains j) (List.range n)
  rwa [List.length_range] at this

set_option maxHeartbeats 4000000 in
set_option maxRecDepth 100000 in
theorem cytog_any {q n m zc : Nat} {zo : Option Addr} {z : Nat → Nat} {w : World} (hq : q ≤ 64) (hn1 : 1 ≤ n) (hn : n ≤ 64) (hm : m ≤ 1000) (hz : SlZ zo m (fun i => ((z i : Nat) : Int)) w) (hzl : LtB zo w.heap.size) (hzn : ∀ i, i < m → z i < n) :
    Calls Tryz.prog 32 #[.int .i64 (q : Nat), .int .i64 (n : Nat), .slice zo m zc] w fun e w' => ∃ L, e = .returned (.map (some w.heap.size)) ∧ Tg w.heap.size L w' ∧ TgL q n z m L ∧ Below w.heap.size w w' := by
  have HZ : Hid ((SlZ zo m (fun i => ((z i : Nat) : Int)) w ∧ LtB zo w.heap.size) ∧ ∀ i, i < m → z i < n) := ⟨⟨hz, hzl⟩, hzn⟩
  obtain ⟨B, hB⟩ : ∃ B, B = w.heap.size := ⟨_, rfl⟩
  have H0 : Hid (Tg B [] (w.alloc (.map #[] 0)) ∧ Below w.heap.size w (w.alloc (.map #[] 0)) ∧ B = w.heap.size) := ⟨⟨.map [], by rw [hB]; exact World.ownsMap_made _ _ _ _, TgD.nil⟩, (Below.refl _ _).alloc (Nat.le_refl _) _, hB⟩
  have hmm := @run_makeMap Tryz.prog
  clear hz hzl hzn
  go_enter Tryz.func32, Tryz.ntmps32
  go_wp2
  rw [← hB]
  clear hB
  go_loopw [13] (fun vi wr => ∃ (i : Nat) (L : List Nat), i ≤ m ∧ vi = .int .i64 (i : Nat) ∧ Hid (Tg B L wr ∧ TgL q n z i L ∧ Below w.heap.size w wr)) (fun vi _ => m - (RowKit.intOf vi).toNat)
  case atStart => exact ⟨0, [], by omega, rfl, H0.out.1, TgL.none _ _ _, H0.out.2.1⟩
  case round =>
    obtain ⟨i, L, hi, rfl, HG⟩ := hrel
    rename World => wr
    by_cases hlt : i < m
    · have hib : (i : Int) < (m : Int) := by omega
      have hib0 : (0 : Int) ≤ (i : Int) := by omega
      obtain ⟨b1, o1, e1, q1⟩ := HZ.out.1.1 i hlt
      have l1 := HZ.out.1.2 _ e1
      obtain ⟨zi, hzi⟩ : ∃ zi, zi = z i := ⟨_, rfl⟩
      have k1 : wr.cell? ⟨b1, o1 + i, none⟩ = some (.int .i64 (zi : Nat)) := by rw [hzi]; exact (HG.out.2.2.cell (p := ⟨b1, o1 + i, none⟩) l1).trans q1
      have HZi : Hid (zi = z i ∧ zi < n) := ⟨hzi, by rw [hzi]; exact HZ.out.2 i hlt⟩
      subst e1
      clear q1 l1 hzi
      go_wp2
      have hlL : L.length ≤ n := nd_len HG.out.2.1.nd HG.out.2.1.lt
      have HLL : Hid (L.length ≤ n) := hlL
      clear hlL
      have hst : ((zi : Nat) : Int) = ((orb q n zi 0 : Nat) : Int) := by rw [orb_zero HZi.out.2]
      rw [hst]
      clear hst
      go_loopg [9] (n + 1 - L.length) (fun gk vk wx => ∃ (s : Nat) (L' : List Nat), vk = .int .i64 (orb q n zi s : Nat) ∧ gk = n + 1 - L'.length ∧ Hid (Tg B L' wx ∧ (∀ k, k ∈ L' ↔ k ∈ L ∨ ∃ j, j < s ∧ orb q n zi j = k) ∧ L'.Nodup ∧ (∀ k ∈ L', k < n) ∧ Below w.heap.size w wx))
      case atStart => exact ⟨0, L, rfl, rfl, HG.out.1, fun k => ⟨Or.inl, fun h => h.elim id (fun ⟨j, hj, _⟩ => absurd hj (by omega))⟩, HG.out.2.1.nd, HG.out.2.1.lt, HG.out.2.2⟩
      case round =>
        obtain ⟨s, L', rfl, rfl, HI⟩ := hrel
        rename World => wx
        obtain ⟨D, hown, hD⟩ := HI.out.1
        obtain ⟨x, hx⟩ : ∃ x, x = orb q n zi s := ⟨_, rfl⟩
        have hxn : x < n := by rw [hx]; exact orb_lt (by omega)
        have hlen : L'.length ≤ n := nd_len HI.out.2.2.1 HI.out.2.2.2.1
        rw [← hx]
        have HOw : Hid (wx.ownsMap Tryz.prog 3 (plainElem Tryz.prog 3) B L'.length D ∧ TgD D L' ∧ L'.length ≤ n) := ⟨hown, hD, hlen⟩
        have hxw : (Lit.int .i64 (x : Nat)).wf = true := ct_wf (by omega)
        have HXe : Hid (x = orb q n zi s) := hx
        clear hown hD hlen hx
        by_cases hmem : x ∈ L'
        · have HN : Hid (TgL q n z (i + 1) L') := by
            have h := walk_end (q := q) (z := zi) (s := s) (by omega) HG.out.2.1.cl HI.out.2.1 (by rw [← HXe.out]; exact hmem)
            refine ⟨HI.out.2.2.1, HI.out.2.2.2.1, h.1, fun k => ?_⟩
            constructor
            · intro hk
              rcases (HI.out.2.1 k).1 hk with c | ⟨j, _, c⟩
              · obtain ⟨i', hi', c⟩ := (HG.out.2.1.mem k).1 c
                exact ⟨i', by omega, c⟩
              · exact ⟨i, by omega, j, by rw [← HZi.out.1]; exact c⟩
            · rintro ⟨i', hi', j, c⟩
              by_cases e : i' = i
              · rw [e, ← HZi.out.1] at c
                rw [← c]; exact h.2 j
              · exact (HI.out.2.1 k).2 (Or.inl ((HG.out.2.1.mem k).2 ⟨i', by omega, j, c⟩))
          go_wp2_with (at_lookup; refine wpList_lookup_own_int _ rfl _ _ 55 rfl 3 3 .i64 ct_law ct_map cty_int (ct_zero _) B L'.length _ rfl HOw.out.1 _ _ rfl (ct_key _ hxw) ?_; intro c hat hwc; obtain rfl : c = 1 := lit_inj (hat.symm.trans (HOw.out.2.1.yes x hmem)); clear hat hwc)
          go_roundw
          case rel => exact ⟨i + 1, L', by omega, by go_num, HI.out.1, HN.out, HI.out.2.2.2.2⟩
          case measure => simp [RowKit.intOf]; omega
        · obtain ⟨xq, hxq⟩ : ∃ xq, xq = x * q := ⟨_, rfl⟩
          have hxqi : (x : Int) * (q : Int) = (xq : Int) := by rw [hxq]; simp
          have hxqb : xq ≤ 4096 := by rw [hxq]; exact Nat.le_trans (Nat.mul_le_mul (show x ≤ 64 by omega) hq) (by decide)
          have hxqw : IntKind.i64.wrap (xq : Int) = (xq : Int) := wrap_to rfl (by omega)
          obtain ⟨y, hy⟩ : ∃ y, y = xq % n := ⟨_, rfl⟩
          have hrm : (xq : Int).tmod (n : Int) = (y : Int) := by rw [Int.tmod_eq_emod_of_nonneg (by omega), hy]; omega
          have hre : (xq : Int) % (n : Int) = (y : Int) := by rw [hy]; omega
          have hn0 : ¬ (n : Int) = 0 := by omega
          have hn0b : ((n : Int) == 0) = false := by rw [beq_eq_false_iff_ne]; omega
          have HYe : Hid (y = orb q n zi (s + 1)) := by
            show _ = _
            rw [orb_succ, ← HXe.out, hy, hxq]
          clear hxq hy
          go_wp2_with (first
            | (at_lookup; refine wpList_lookup_own_int _ rfl _ _ 55 rfl 3 3 .i64 ct_law ct_map cty_int (ct_zero _) B L'.length _ rfl HOw.out.1 _ _ rfl (ct_key _ hxw) ?_; intro c hat hwc; obtain rfl : c = 0 := lit_inj (hat.symm.trans (HOw.out.2.1.no x hmem)); clear hat hwc)
            | (at_mapUpdate; refine wpList_mapUpdate_own _ rfl _ _ _ 55 rfl 3 3 ct_law ct_map _ B L'.length _ rfl HOw.out.1 (by have := HOw.out.2.2; unfold maxLen; omega) _ _ _ rfl rfl (ct_key _ hxw) _ [] (plainElem_int cty_int (by decide)) ?_; intro w1 hown1 hgrow1))
          have HN : Hid (Tg B (L' ++ [x]) w1 ∧ (∀ k, k ∈ L' ++ [x] ↔ k ∈ L ∨ ∃ j, j < s + 1 ∧ orb q n zi j = k) ∧ (L' ++ [x]).Nodup ∧ (∀ k ∈ L' ++ [x], k < n) ∧ Below w.heap.size w w1) := by
            refine ⟨⟨_, by rw [List.length_append, List.length_singleton]; exact hown1, HOw.out.2.1.put x⟩, fun k => ?_, ?_, fun k hk => ?_, HI.out.2.2.2.2.grown hgrow1 HI.out.2.2.2.2.size (fun j hj => by cases hj; have := H0.out.2.2; omega)⟩
            · rw [List.mem_append, HI.out.2.1 k, List.mem_singleton]
              constructor
              · rintro ((c | ⟨j, hj, c⟩) | c)
                · exact Or.inl c
                · exact Or.inr ⟨j, by omega, c⟩
                · exact Or.inr ⟨s, by omega, by rw [c]; exact HXe.out.symm⟩
              · rintro (c | ⟨j, hj, c⟩)
                · exact Or.inl (Or.inl c)
                · by_cases e : j = s
                  · right; rw [← c, e]; exact HXe.out.symm
                  · exact Or.inl (Or.inr ⟨j, by omega, c⟩)
            · rw [List.nodup_append]
              exact ⟨HI.out.2.2.1, by simp, fun a ha b hb => by rw [List.mem_singleton.1 hb]; intro e; rw [e] at ha; exact hmem ha⟩
            · rcases List.mem_append.1 hk with c | c
              · exact HI.out.2.2.2.1 k c
              · rw [List.mem_singleton.1 c]; exact hxn
          have HLn : Hid (L'.length < n) := by
            have h := nd_len HN.out.2.2.1 HN.out.2.2.2.1
            rw [List.length_append, List.length_singleton] at h
            exact h
          clear hown1 hgrow1
          go_roundg (n + 1 - (L' ++ [x]).length)
          case rel => exact ⟨s + 1, L' ++ [x], by rw [HYe.out], rfl, HN.out⟩
          case measure => rw [List.length_append, List.length_singleton]; have := HLn.out; omega
    · have hib : ¬ (i : Int) < (m : Int) := by omega
      have hie : m = i := by omega
      subst hie
      go_wp2
      go_ret
      exact ⟨by rw [← H0.out.2.2]; rfl, L, by rw [← H0.out.2.2]; exact HG.out.1, HG.out.2.1, HG.out.2.2⟩
end Go.Proofs.YtppggchhkckobaaGreat

/- How the library sorts a map's keys here (slices.Sorted of maps.Keys): what the shelf asks of the program. -/
namespace Go.Proofs.YtppggchhkckobaaGreat
open Go.Shelf
def keysA_ren : Go.Shelf.Ren := ⟨fun | 7 => 74 | 10 => 111 | n => n, fun | 23 => 55 | 26 => 3 | 3 => 3 | 28 => 94 | 0 => 0 | 27 => 93 | 33 => 75 | 4 => 4 | n => n, fun | n => n⟩
theorem keysA : Go.Proofs.SlLaysZI.n7 Tryz.prog keysA_ren := {
  mixed := by kernel_rfl
  f7 := ⟨Tryz.f74.name, by decide, Tryz.func74.trans (congrArg some (by kernel_rfl))⟩
  f10 := ⟨Tryz.f111.name, by decide, Tryz.func111.trans (congrArg some (by kernel_rfl))⟩
  t0 := Tryz.underlying0
  a0 := Tryz.isAgg0
  z0 := Tryz.sizeOf0
  v0 := Tryz.zeroValue0
  t4 := Tryz.underlying4
  a4 := Tryz.isAgg4
  z4 := Tryz.sizeOf4
  v4 := Tryz.zeroValue4
  t23 := Tryz.underlying55
  a23 := Tryz.isAgg55
  z23 := Tryz.sizeOf55
  v23 := Tryz.zeroValue55
  t26 := Tryz.underlying3
  a26 := Tryz.isAgg3
  z26 := Tryz.sizeOf3
  v26 := Tryz.zeroValue3
  t27 := Tryz.underlying93
  a27 := Tryz.isAgg93
  z27 := Tryz.sizeOf93
  v27 := Tryz.zeroValue93
  t28 := Tryz.underlying94
  a28 := Tryz.isAgg94
  z28 := Tryz.sizeOf94
  v28 := Tryz.zeroValue94
  t33 := Tryz.underlying75
  a33 := Tryz.isAgg75
  z33 := Tryz.sizeOf75
  v33 := Tryz.zeroValue75 }
def sortedA_ren : Go.Shelf.Ren := ⟨fun | 6 => 73 | 8 => 109 | 9 => 110 | 11 => 129 | 13 => 131 | 12 => 130 | 23 => 153 | 24 => 154 | 14 => 144 | 15 => 145 | 16 => 146 | 17 => 147 | 18 => 148 | 19 => 149 | 20 => 150 | 21 => 151 | 22 => 152 | 25 => 160 | 26 => 161 | 27 => 162 | 28 => 163 | 29 => 164 | 30 => 165 | 31 => 168 | n => n, fun | 26 => 3 | 28 => 94 | 24 => 22 | 0 => 0 | 3 => 3 | 37 => 130 | 48 => 149 | 50 => 151 | 4 => 4 | 40 => 142 | 39 => 141 | 45 => 146 | 5 => 5 | 9 => 9 | 51 => 156 | 55 => 160 | 57 => 164 | 58 => 45 | 33 => 75 | n => n, fun | n => n⟩
theorem sortedA : Go.Proofs.SlLaysZI.n6 Tryz.prog sortedA_ren := {
  mixed := by kernel_rfl
  f6 := ⟨Tryz.f73.name, by decide, Tryz.func73.trans (congrArg some (by kernel_rfl))⟩
  f8 := ⟨Tryz.f109.name, by decide, Tryz.func109.trans (congrArg some (by kernel_rfl))⟩
  f11 := ⟨Tryz.f129.name, by decide, Tryz.func129.trans (congrArg some (by kernel_rfl))⟩
  t0 := Tryz.underlying0
  a0 := Tryz.isAgg0
  z0 := Tryz.sizeOf0
  v0 := Tryz.zeroValue0
  t24 := Tryz.underlying22
  a24 := Tryz.isAgg22
  z24 := Tryz.sizeOf22
  v24 := Tryz.zeroValue22
  t26 := Tryz.underlying3
  a26 := Tryz.isAgg3
  z26 := Tryz.sizeOf3
  v26 := Tryz.zeroValue3
  t28 := Tryz.underlying94
  a28 := Tryz.isAgg94
  z28 := Tryz.sizeOf94
  v28 := Tryz.zeroValue94
  i26 := by kernel_rfl }
def sortA_ren : Go.Shelf.Ren := ⟨fun | 5 => 110 | 8 => 131 | 7 => 130 | 19 => 153 | 20 => 154 | 10 => 144 | 11 => 145 | 12 => 146 | 13 => 147 | 14 => 148 | 15 => 149 | 16 => 150 | 17 => 151 | 18 => 152 | 30 => 160 | 31 => 161 | 32 => 162 | 33 => 163 | 34 => 164 | 35 => 165 | 40 => 168 | n => n, fun | 23 => 22 | 25 => 3 | 3 => 3 | 32 => 130 | 22 => 22 | 0 => 0 | 44 => 149 | 46 => 151 | 4 => 4 | 36 => 142 | 35 => 141 | 41 => 146 | 5 => 5 | 9 => 9 | 53 => 156 | 57 => 160 | 63 => 164 | 64 => 45 | n => n, fun | n => n⟩
theorem sortA : Go.Proofs.SlLaysM.n5 Tryz.prog sortA_ren := {
  mixed := by kernel_rfl
  f5 := ⟨Tryz.f110.name, by decide, Tryz.func110.trans (congrArg some (by kernel_rfl))⟩
  f7 := ⟨Tryz.f130.name, by decide, Tryz.func130.trans (congrArg some (by kernel_rfl))⟩
  f8 := Tryz.func131.trans (congrArg some (by kernel_rfl))
  f10 := ⟨Tryz.f144.name, by decide, Tryz.func144.trans (congrArg some (by kernel_rfl))⟩
  f11 := ⟨Tryz.f145.name, by decide, Tryz.func145.trans (congrArg some (by kernel_rfl))⟩
  f12 := ⟨Tryz.f146.name, by decide, Tryz.func146.trans (congrArg some (by kernel_rfl))⟩
  f13 := ⟨Tryz.f147.name, by decide, Tryz.func147.trans (congrArg some (by kernel_rfl))⟩
  f14 := ⟨Tryz.f148.name, by decide, Tryz.func148.trans (congrArg some (by kernel_rfl))⟩
  f15 := ⟨Tryz.f149.name, by decide, Tryz.func149.trans (congrArg some (by kernel_rfl))⟩
  f16 := ⟨Tryz.f150.name, by decide, Tryz.func150.trans (congrArg some (by kernel_rfl))⟩
  f17 := ⟨Tryz.f151.name, by decide, Tryz.func151.trans (congrArg some (by kernel_rfl))⟩
  f18 := ⟨Tryz.f152.name, by decide, Tryz.func152.trans (congrArg some (by kernel_rfl))⟩
  f19 := Tryz.func153.trans (congrArg some (by kernel_rfl))
  f20 := Tryz.func154.trans (congrArg some (by kernel_rfl))
  f30 := ⟨Tryz.f160.name, by decide, Tryz.func160.trans (congrArg some (by kernel_rfl))⟩
  f31 := Tryz.func161.trans (congrArg some (by kernel_rfl))
  f32 := Tryz.func162.trans (congrArg some (by kernel_rfl))
  f33 := ⟨Tryz.f163.name, by decide, Tryz.func163.trans (congrArg some (by kernel_rfl))⟩
  f34 := ⟨Tryz.f164.name, by decide, Tryz.func164.trans (congrArg some (by kernel_rfl))⟩
  f35 := ⟨Tryz.f165.name, by decide, Tryz.func165.trans (congrArg some (by kernel_rfl))⟩
  f40 := ⟨Tryz.f168.name, by decide, Tryz.func168.trans (congrArg some (by kernel_rfl))⟩
  t0 := Tryz.underlying0
  a0 := Tryz.isAgg0
  z0 := Tryz.sizeOf0
  v0 := Tryz.zeroValue0
  t3 := Tryz.underlying3
  a3 := Tryz.isAgg3
  z3 := Tryz.sizeOf3
  v3 := Tryz.zeroValue3
  t4 := Tryz.underlying4
  a4 := Tryz.isAgg4
  z4 := Tryz.sizeOf4
  v4 := Tryz.zeroValue4
  t5 := Tryz.underlying5
  a5 := Tryz.isAgg5
  z5 := Tryz.sizeOf5
  v5 := Tryz.zeroValue5
  t9 := Tryz.underlying9
  a9 := Tryz.isAgg9
  z9 := Tryz.sizeOf9
  v9 := Tryz.zeroValue9
  t22 := Tryz.underlying22
  a22 := Tryz.isAgg22
  z22 := Tryz.sizeOf22
  v22 := Tryz.zeroValue22
  t23 := Tryz.underlying22
  a23 := Tryz.isAgg22
  z23 := Tryz.sizeOf22
  v23 := Tryz.zeroValue22
  t25 := Tryz.underlying3
  a25 := Tryz.isAgg3
  z25 := Tryz.sizeOf3
  v25 := Tryz.zeroValue3
  t32 := Tryz.underlying130
  a32 := Tryz.isAgg130
  z32 := Tryz.sizeOf130
  v32 := Tryz.zeroValue130
  t35 := Tryz.underlying141
  a35 := Tryz.isAgg141
  z35 := Tryz.sizeOf141
  v35 := Tryz.zeroValue141
  t36 := Tryz.underlying142
  a36 := Tryz.isAgg142
  z36 := Tryz.sizeOf142
  v36 := Tryz.zeroValue142
  t41 := Tryz.underlying146
  a41 := Tryz.isAgg146
  z41 := Tryz.sizeOf146
  v41 := Tryz.zeroValue146
  t44 := Tryz.underlying149
  a44 := Tryz.isAgg149
  z44 := Tryz.sizeOf149
  v44 := Tryz.zeroValue149
  t46 := Tryz.underlying151
  a46 := Tryz.isAgg151
  z46 := Tryz.sizeOf151
  v46 := Tryz.zeroValue151
  t53 := Tryz.underlying156
  a53 := Tryz.isAgg156
  z53 := Tryz.sizeOf156
  v53 := Tryz.zeroValue156
  t57 := Tryz.underlying160
  a57 := Tryz.isAgg160
  z57 := Tryz.sizeOf160
  v57 := Tryz.zeroValue160
  t63 := Tryz.underlying164
  a63 := Tryz.isAgg164
  z63 := Tryz.sizeOf164
  v63 := Tryz.zeroValue164
  t64 := Tryz.underlying45
  a64 := Tryz.isAgg45
  z64 := Tryz.sizeOf45
  v64 := Tryz.zeroValue45 }

end Go.Proofs.YtppggchhkckobaaGreat
