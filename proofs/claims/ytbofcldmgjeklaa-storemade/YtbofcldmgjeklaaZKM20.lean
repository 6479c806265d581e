/- Texts of ours, one behind the other: KM20 KM21. -/
import Derived.Test.YtbofcldmgjeklaaZKM16
import Derived.Test.YtbofcldmgjeklaaZW9
import Derived.Test.YtbofcldmgjeklaaZW16
import Derived.Test.YtbofcldmgjeklaaZT4
import Derived.Test.YtbofcldmgjeklaaZX17
import Derived.Test.YtbofcldmgjeklaaZQ5
import Derived.Test.YtbofcldmgjeklaaZI8
/- The reference's square of a file: Square. -/
namespace Go.Proofs.Ytbofcldmgjeklaa
open Go.RowKit Go.Sort

theorem OwnV.mx {base k n : Nat} {v : Value} {h : Nat → Nat} {R : Nat → Nat → Nat} {w : World} (ho : OwnV base v (vl k fun a => .slice (some ⟨h a, 0, none⟩) n n) w) (hk : 0 < k) (hr : ∀ a, a < k → Row (h a) n (R a) w ∧ base ≤ h a) (hi : ∀ a, a < k → ∀ b, b < k → h a = h b → a = b) : ∃ G cap, v = .slice (some ⟨G, 0, none⟩) k cap ∧ Mx base G cap k n R h w := by
  have hne : ∀ a, a < k → some (h a) ≠ v.ownBlock := fun a ha => (hr a ha).1.apart ho
  rcases ho with ⟨hl, ⟨_, e⟩ | ⟨G, cap, cur, hv, hg, hh, hle, hcm, hsz, htake⟩⟩
  · rw [vl_len] at e; omega
  · rw [vl_len] at hv hle htake
    refine ⟨G, cap, hv, ⟨fun i => (cur[i]?).getD undef, ⟨cur, hh, by omega, fun o ho => ?_⟩, fun i hi => ?_⟩, fun a ha => (hr a ha).1, hg, fun a ha => (hr a ha).2, hi, fun a ha e => hne a ha (by rw [hv, e]; rfl), hle⟩
    · show cur[o]? = some ((cur[o]?).getD undef)
      rw [Array.getElem?_eq_getElem (by omega)]; rfl
    · have h3 : (cur.toList.take (k * 1))[i]? = (vl k fun a => Value.slice (some ⟨h a, 0, none⟩) n n)[i]? := by rw [htake]
      rw [List.getElem?_take, if_pos (by omega), vl_get k _ i hi, Array.getElem?_toList] at h3
      show (cur[i]?).getD undef = _
      rw [h3]; rfl
theorem mx_put1 {B G m k d r i j y : Nat} {c : Nat → Nat} {h : Nat → Nat} {X : World} (hM : Mx B G m d d (sqr k d c r) h X) (hi : i < d) : Mx B G m d d (fun a b => if a = i ∧ b = j then y else sqr k d c r a b) h (X.setCell ⟨h i, j, none⟩ (.int .i64 (y : Nat))) := by
  refine (hM.write hi ((Tch.refl _ _).setCell j (.int .i64 (y : Nat))) ((hM.row i hi).store j y (d := fun b => if b = j then y else sqr k d c r i b) (fun b _ => rfl))).congr (fun a _ b _ => ?_)
  by_cases e : a = i
  · rw [if_pos e]
    by_cases e2 : b = j
    · rw [if_pos e2, if_pos ⟨e, e2⟩]
    · rw [if_neg e2, if_neg (fun x => e2 x.2), e]
  · rw [if_neg e, if_neg (fun x => e x.1)]
theorem mx_put2 {B G m k d r i j y : Nat} {c : Nat → Nat} {h : Nat → Nat} {X1 : World} (hk : k ≤ d) (hi : i < k) (hij : i ≤ j) (hj : j < d) (hre : r = plr k d i j) (hy : y = c r) (hM1 : Mx B G m d d (fun a b => if a = i ∧ b = j then y else sqr k d c r a b) h X1) : Mx B G m d d (sqr k d c (r + 1)) h (X1.setCell ⟨h j, i, none⟩ (.int .i64 (y : Nat))) := by
  refine (hM1.write hj ((Tch.refl _ _).setCell i (.int .i64 (y : Nat))) ((hM1.row j hj).store i y (d := fun b => if b = i then y else if j = i ∧ b = j then y else sqr k d c r j b) (fun b _ => rfl))).congr (fun a _ b _ => ?_)
  rw [sqr_next hk c hi hij hj hre, ← hy]
  by_cases e : a = j
  · rw [if_pos e]
    by_cases e2 : b = i
    · rw [if_pos e2, if_pos (Or.inr ⟨e, e2⟩)]
    · rw [if_neg e2]
      by_cases e3 : j = i ∧ b = j
      · omega
      · rw [if_neg e3, if_neg (fun x => by omega), e]
  · rw [if_neg e]
    by_cases e2 : a = i ∧ b = j
    · rw [if_pos e2, if_pos (Or.inl e2)]
    · rw [if_neg e2, if_neg (fun x => by omega)]

set_option maxHeartbeats 8000000 in
set_option maxRecDepth 100000 in
theorem rsquare_any {k d fc : Nat} {fo : Option Addr} {c : Nat → Nat} {w : World} (hk1 : 1 ≤ k) (hk : k ≤ d) (hd : d ≤ 15) (hS : Sl fo (fsz k d) c w) (hl : LtB fo w.heap.size) :
    Calls Try.prog 42 #[.int .i64 (k : Nat), .int .i64 (d : Nat), .slice fo (fsz k d) fc] w fun e w' => ∃ G cap h, e = .returned (.slice (some ⟨G, 0, none⟩) d cap) ∧ Mx w.heap.size G cap d d (sqr k d c (fsz k d)) h w' ∧ Below w.heap.size w w' := by
  obtain ⟨nf, hnf⟩ : ∃ nf, nf = fsz k d := ⟨_, rfl⟩
  have HNF : Hid (nf = pls k k + k * (d - k)) := hnf.trans (fsz_is k d)
  have hnf1 : nf ≤ 1000 := by have h := fsz_le hk hd; rw [hnf]; unfold fsz; omega
  rw [← hnf] at hS ⊢
  have HF : Hid (Sl fo nf c w ∧ LtB fo w.heap.size) := ⟨hS, hl⟩
  clear hS hl hnf
  go_enter Try.func42, Try.ntmps42
  go_wp2
  go_loopw [7, 8] (fun vm vi wr => ∃ i : Nat, i ≤ d ∧ vi = .int .i64 (i : Nat) ∧ Hid (∃ h : Nat → Nat, OwnV w.heap.size vm (vl i fun a => .slice (some ⟨h a, 0, none⟩) d d) wr ∧ (∀ a, a < i → Row (h a) d pnil wr ∧ w.heap.size ≤ h a) ∧ (∀ a, a < i → ∀ b, b < i → h a = h b → a = b) ∧ Below w.heap.size w wr)) (fun _ vi _ => d - (intOf vi).toNat)
  case atStart => exact ⟨0, by omega, rfl, fun _ => 0, OwnV.nil _ _, fun a ha => absurd ha (by omega), fun a ha => absurd ha (by omega), Below.refl _ _⟩
  case round =>
    obtain ⟨i, hi, rfl, HG⟩ := hrel
    rename World => wr
    by_cases hlt : i < d
    · have hib : (i : Int) < (d : Int) := by omega
      obtain ⟨h, ho, hr, hin, hb⟩ := HG.out
      have HO : Hid (OwnV w.heap.size u7 (vl i fun a => .slice (some ⟨h a, 0, none⟩) d d) wr ∧ (∀ a, a < i → Row (h a) d pnil wr ∧ w.heap.size ≤ h a) ∧ (∀ a, a < i → ∀ b, b < i → h a = h b → a = b) ∧ Below w.heap.size w wr) := ⟨ho, hr, hin, hb⟩
      have hsz := hb.size
      clear ho hr hin hb HG
      go_wp2_with (first
        | (at_make; refine make_int rfl _ _ rfl _ d rfl rfl rfl (by omega) ?_; intro w1 hown1 hgrow1; have hb1 : Below wr.heap.size wr w1 := below_grown hgrow1 (Nat.le_refl _) (fun k hk => by simp at hk); have hlt1 := (hown1.lt wr.heap.size rfl).2)
        | (at_builtin; refine append_sl rfl _ _ rfl w.heap.size _ (vl i fun a => .slice (some ⟨h a, 0, none⟩) d d) rfl ((HO.out.1.below hb1 (Nat.le_refl _)).alloc _) ⟨w1.heap.size, 0, none⟩ 1 (.slice (some ⟨wr.heap.size, 0, none⟩) d d) rfl rfl (by simp) (by rw [vl_len]; omega) (by have := hb1.size; simp; omega) ?_; intro v' w3 hown3 hgrow3)
        | fail)
      go_roundw
      case rel =>
        have hb2 : Below w1.heap.size w1 (w1.alloc (.cells #[.slice (some ⟨wr.heap.size, 0, none⟩) d d] 22)) := (Below.refl _ _).alloc (Nat.le_refl _) _
        have ho2 : OwnV w.heap.size u7 (vl i fun a => .slice (some ⟨h a, 0, none⟩) d d) (w1.alloc (.cells #[.slice (some ⟨wr.heap.size, 0, none⟩) d d] 22)) := (HO.out.1.below hb1 (Nat.le_refl _)).alloc _
        have hrw : ∀ g, Row g d pnil w1 → Row g d pnil w3 := fun g hg => by
          have h2 := hg.below hb2 hg.lt
          exact h2.other (hgrow3.block g h2.lt (h2.apart ho2))
        have hnew : Row wr.heap.size d pnil w1 := row_zeros hown1
        refine ⟨i + 1, by omega, by go_num, fun a => if a = i then wr.heap.size else h a, ?_, fun a ha => ?_, fun a ha b hb e => ?_, ?_⟩
        · have e : (vl (i + 1) fun a => Value.slice (some ⟨if a = i then wr.heap.size else h a, 0, none⟩) d d) = (vl i fun a => .slice (some ⟨h a, 0, none⟩) d d) ++ [.slice (some ⟨wr.heap.size, 0, none⟩) d d] := by
            unfold vl
            rw [List.range_succ, List.map_append]
            congr 1
            · refine List.map_congr_left (fun a ha => ?_)
              rw [if_neg (by have := List.mem_range.1 ha; omega)]
            · show [Value.slice (some ⟨if i = i then wr.heap.size else h i, 0, none⟩) d d] = _
              rw [if_pos rfl]
          rw [e]; exact hown3
        · by_cases e : a = i
          · simp only [if_pos e]; exact ⟨hrw _ hnew, hsz⟩
          · simp only [if_neg e]
            have h1 := HO.out.2.1 a (by omega)
            exact ⟨hrw _ (h1.1.below hb1 h1.1.lt), h1.2⟩
        · replace e : (if a = i then wr.heap.size else h a) = (if b = i then wr.heap.size else h b) := e
          have hl2 : ∀ t, t < i → h t < wr.heap.size := fun t ht => (HO.out.2.1 t ht).1.lt
          by_cases e1 : a = i
          · by_cases e2 : b = i
            · omega
            · rw [if_pos e1, if_neg e2] at e
              have := hl2 b (by omega); omega
          · by_cases e2 : b = i
            · rw [if_neg e1, if_pos e2] at e
              have := hl2 a (by omega); omega
            · rw [if_neg e1, if_neg e2] at e
              exact HO.out.2.2.1 a (by omega) b (by omega) e
        · refine (bel_up' (bel_up' HO.out.2.2.2 hb1) hb2).trans (below_grown hgrow3 (by have := hb1.size; simp; omega) (fun x hx => ?_))
          have := HO.out.1
          rcases this.2 with ⟨h1, _⟩ | ⟨g, cap, cur, hv, hg, _⟩
          · rw [h1] at hx; cases hx
          · rw [hv] at hx; cases hx; exact hg
      case measure => simp [intOf]; omega
    · have e : i = d := by omega
      subst e
      obtain ⟨h, ho, hr, hin, hb⟩ := HG.out
      obtain ⟨G, cap, rfl, hM⟩ := ho.mx (R := sqr k i c 0) (by omega) (fun a ha => ⟨(hr a ha).1.congr (fun b _ => (sqr_zero k i c a b).symm), (hr a ha).2⟩) hin
      have H1 : Hid (Mx w.heap.size G cap i i (sqr k i c 0) h wr ∧ Below w.heap.size w wr) := ⟨hM, hb⟩
      clear ho hr hin hb HG hM
      go_wp2
      go_loopw [9, 10] (fun vn vi wq => ∃ t : Nat, t ≤ k ∧ vi = .int .i64 (t : Nat) ∧ vn = .int .i64 (pls k t : Nat) ∧ Hid (Mx w.heap.size G cap i i (sqr k i c (pls k t)) h wq ∧ Below w.heap.size w wq)) (fun _ vi _ => k - (intOf vi).toNat)
      case atStart => exact ⟨0, by omega, rfl, rfl, H1.out⟩
      case round =>
        clear H1
        obtain ⟨t, ht, rfl, rfl, HT⟩ := hrel
        rename World => wq
        by_cases htk : t < k
        · have htb : (t : Int) < (k : Int) := by omega
          go_wp2
          go_loopw [9, 11] (fun vn vj wz => ∃ j r : Nat, t ≤ j ∧ j ≤ k ∧ r ≤ nf ∧ vj = .int .i64 (j : Nat) ∧ vn = .int .i64 (r : Nat) ∧ Hid (r = pls k t + (j - t) ∧ Mx w.heap.size G cap i i (sqr k i c r) h wz ∧ Below w.heap.size w wz)) (fun _ vj _ => k - (intOf vj).toNat)
          case atStart => exact ⟨t, pls k t, by omega, by omega, by have h1 := pls_le k ht; have := HNF.out; omega, rfl, rfl, by omega, HT.out⟩
          case round =>
            obtain ⟨j, r, hj1, hj2, hrn, rfl, rfl, HJ⟩ := hrel
            rename World => wz
            by_cases hjk : j < k
            · have hjb : (j : Int) < (k : Int) := by omega
              have hre : r = plr k i t j := by unfold plr; rw [if_pos hjk]; exact HJ.out.1
              have hrl : r < nf := by have := plr_lt htk hj1 (show j < i by omega); rw [← hre] at this; have := HNF.out; omega
              have hrb : (r : Int) < (nf : Int) := by omega
              have hti : (t : Int) < (i : Int) := by omega
              have hji : (j : Int) < (i : Int) := by omega
              obtain ⟨y, hy⟩ : ∃ y, y = c r := ⟨_, rfl⟩
              obtain ⟨bf, of, rfl, hcf⟩ := HF.out.1 r hrl
              have hbfl : bf < w.heap.size := HF.out.2 _ rfl
              rw [← hy] at hcf
              have hM := HJ.out.2.1
              have hb := HJ.out.2.2
              have cf0 := ((bcell hb).1 bf (of + r) hbfl).trans hcf
              have ct := hM.cell t (by omega)
              obtain ⟨o1, q1⟩ : ∃ o1 : Nat, wz.cell? ⟨h t, j, none⟩ = some (.int .i64 (o1 : Nat)) := ⟨_, (hM.row t (by omega)).cell j (by omega)⟩
              have f1 := (hM.row t (by omega)).free j
              have hgt : w.heap.size ≤ h t := hM.ge t (by omega)
              have hgj : w.heap.size ≤ h j := hM.ge j (by omega)
              have HP1 : Hid (∀ q, Mx w.heap.size G cap i i (fun a b => if a = t ∧ b = j then y else sqr k i c r a b) h ((wz.drewN q).setCell ⟨h t, j, none⟩ (.int .i64 (y : Nat))) ∧ Below w.heap.size w ((wz.drewN q).setCell ⟨h t, j, none⟩ (.int .i64 (y : Nat)))) := fun q => ⟨mx_put1 (hM.drewN q) (by omega), (below_drewN2 hb q).setCell hgt _⟩
              have HP2 : Hid (∀ X1, Mx w.heap.size G cap i i (fun a b => if a = t ∧ b = j then y else sqr k i c r a b) h X1 → Below w.heap.size w X1 → Mx w.heap.size G cap i i (sqr k i c (r + 1)) h (X1.setCell ⟨h j, t, none⟩ (.int .i64 (y : Nat))) ∧ Below w.heap.size w (X1.setCell ⟨h j, t, none⟩ (.int .i64 (y : Nat)))) := fun X1 h1 h2 => ⟨mx_put2 hk htk hj1 (by omega) hre hy h1, h2.setCell hgj _⟩
              have HCf : Hid (∀ X1, Below w.heap.size w X1 → X1.cell? ⟨bf, of + r, none⟩ = some (.int .i64 (y : Nat))) := fun X1 h1 => ((bcell h1).1 bf (of + r) hbfl).trans hcf
              have HR : Hid (r + 1 = pls k t + (j + 1 - t)) := by have := HJ.out.1; show r + 1 = pls k t + (j + 1 - t); omega
              clear hre hy hcf hM hb
              go_wp2
              refine quiet_tail 9 (by kernel_rfl) (by kernel_rfl) ?_
              simp only [List.take_succ_cons, List.take_zero, List.drop_succ_cons, List.drop_zero]
              repeat (go_big_quiet_step (fail))
              refine wpQuiet_nil ?_
              intro _ hw'
              obtain ⟨nq, hw''⟩ := hw'
              subst hw''
              obtain ⟨X1, hX1⟩ : ∃ X1, X1 = (wz.drewN nq).setCell ⟨h t, j, none⟩ (.int .i64 (y : Nat)) := ⟨_, rfl⟩
              have hX1' : (wz.setCell ⟨h t, j, none⟩ (.int .i64 (y : Nat))).drewN nq = X1 := by rw [hX1]; rfl
              have hq := HP1.out nq
              rw [← hX1] at hq
              have HXe : Hid (X1 = (wz.drewN nq).setCell ⟨h t, j, none⟩ (.int .i64 (y : Nat)) ∧ (wz.setCell ⟨h t, j, none⟩ (.int .i64 (y : Nat))).drewN nq = X1) := ⟨hX1, hX1'⟩
              clear hX1 hX1'
              go_upto_region 14 with (fail)
              first | rw [← HXe.out.1] | rw [HXe.out.2]
              clear cf0 ct q1 f1
              have cf0 := HCf.out X1 hq.2
              have cj := hq.1.cell j (by omega)
              obtain ⟨o1, q1⟩ : ∃ o1 : Nat, X1.cell? ⟨h j, t, none⟩ = some (.int .i64 (o1 : Nat)) := ⟨_, (hq.1.row j (by omega)).cell t (by omega)⟩
              have f1 := (hq.1.row j (by omega)).free t
              have HQ1 : Hid (Mx w.heap.size G cap i i (fun a b => if a = t ∧ b = j then y else sqr k i c r a b) h X1 ∧ Below w.heap.size w X1) := hq
              clear hq
              have HQ2 : Hid (∀ q, Mx w.heap.size G cap i i (sqr k i c (r + 1)) h ((X1.drewN q).setCell ⟨h j, t, none⟩ (.int .i64 (y : Nat))) ∧ Below w.heap.size w ((X1.drewN q).setCell ⟨h j, t, none⟩ (.int .i64 (y : Nat)))) := fun q => HP2.out _ (HQ1.out.1.drewN q) (below_drewN2 HQ1.out.2 q)
              go_wp2
              refine quiet_tail 9 (by kernel_rfl) (by kernel_rfl) ?_
              simp only [List.take_succ_cons, List.take_zero, List.drop_succ_cons, List.drop_zero]
              repeat (go_big_quiet_step (fail))
              refine wpQuiet_nil ?_
              intro _ hw'
              obtain ⟨nq2, hw''⟩ := hw'
              subst hw''
              go_wp2
              go_roundw
              case rel => exact ⟨j + 1, r + 1, by omega, by omega, by omega, by go_num, by go_num, HR.out, HQ2.out nq2⟩
              case measure => simp [intOf]; omega
            · have hjb : ¬ (j : Int) < (k : Int) := by omega
              have hje : j = k := by omega
              have HE : Hid (Mx w.heap.size G cap i i (sqr k i c (pls k (t + 1))) h wz ∧ Below w.heap.size w wz) := by
                rw [pls_next, show pls k t + (k - t) = r by have := HJ.out.1; omega]; exact HJ.out.2
              have hre : (r : Int) = ((pls k (t + 1) : Nat) : Int) := by rw [pls_next]; have := HJ.out.1; omega
              have HRe : Hid ((r : Int) = ((pls k (t + 1) : Nat) : Int)) := hre
              clear hje hre
              go_wp2
              go_roundw
              case rel => exact ⟨t + 1, by omega, by go_num, by rw [HRe.out], HE.out⟩
              case measure => simp [intOf]; omega
        · have htb : ¬ (t : Int) < (k : Int) := by omega
          have hte : k = t := by omega
          subst hte
          have HNf2 : Hid (pls k k ≤ nf) := by have := HNF.out; show pls k k ≤ nf; omega
          go_wp2
          go_loopw [9, 12] (fun vn vi wq => ∃ t r : Nat, t ≤ k ∧ r ≤ nf ∧ vi = .int .i64 (t : Nat) ∧ vn = .int .i64 (r : Nat) ∧ Hid (r = pls k k + t * (i - k) ∧ Mx w.heap.size G cap i i (sqr k i c r) h wq ∧ Below w.heap.size w wq)) (fun _ vi _ => k - (intOf vi).toNat)
          case atStart => exact ⟨0, pls k k, by omega, HNf2.out, rfl, rfl, by rw [Nat.zero_mul]; rfl, HT.out⟩
          case round =>
            clear HT
            obtain ⟨t, r0, ht, hr0, rfl, rfl, HT⟩ := hrel
            rename World => wq2
            by_cases htk : t < k
            · have htb : (t : Int) < (k : Int) := by omega
              go_wp2
              go_loopw [9, 13] (fun vn vj wz => ∃ j r : Nat, k ≤ j ∧ j ≤ i ∧ r ≤ nf ∧ vj = .int .i64 (j : Nat) ∧ vn = .int .i64 (r : Nat) ∧ Hid (r = pls k k + t * (i - k) + (j - k) ∧ Mx w.heap.size G cap i i (sqr k i c r) h wz ∧ Below w.heap.size w wz)) (fun _ vj _ => i - (intOf vj).toNat)
              case atStart => exact ⟨k, r0, by omega, by omega, hr0, rfl, rfl, by have := HT.out.1; omega, HT.out.2⟩
              case round =>
                obtain ⟨j, r, hj1, hj2, hrn, rfl, rfl, HJ⟩ := hrel
                rename World => wz
                by_cases hjk : j < i
                · have hjb : (j : Int) < (i : Int) := by omega
                  have hre : r = plr k i t j := by unfold plr; rw [if_neg (by omega)]; exact HJ.out.1
                  have hrl : r < nf := by have := plr_lt htk (show t ≤ j by omega) (show j < i by omega); rw [← hre] at this; have := HNF.out; omega
                  have hrb : (r : Int) < (nf : Int) := by omega
                  have hti : (t : Int) < (i : Int) := by omega
                  have hji : (j : Int) < (i : Int) := by omega
                  obtain ⟨y, hy⟩ : ∃ y, y = c r := ⟨_, rfl⟩
                  obtain ⟨bf, of, rfl, hcf⟩ := HF.out.1 r hrl
                  have hbfl : bf < w.heap.size := HF.out.2 _ rfl
                  rw [← hy] at hcf
                  have hM := HJ.out.2.1
                  have hb := HJ.out.2.2
                  have cf0 := ((bcell hb).1 bf (of + r) hbfl).trans hcf
                  have ct := hM.cell t (by omega)
                  obtain ⟨o1, q1⟩ : ∃ o1 : Nat, wz.cell? ⟨h t, j, none⟩ = some (.int .i64 (o1 : Nat)) := ⟨_, (hM.row t (by omega)).cell j (by omega)⟩
                  have f1 := (hM.row t (by omega)).free j
                  have hgt : w.heap.size ≤ h t := hM.ge t (by omega)
                  have hgj : w.heap.size ≤ h j := hM.ge j (by omega)
                  have HP1 : Hid (∀ q, Mx w.heap.size G cap i i (fun a b => if a = t ∧ b = j then y else sqr k i c r a b) h ((wz.drewN q).setCell ⟨h t, j, none⟩ (.int .i64 (y : Nat))) ∧ Below w.heap.size w ((wz.drewN q).setCell ⟨h t, j, none⟩ (.int .i64 (y : Nat)))) := fun q => ⟨mx_put1 (hM.drewN q) (by omega), (below_drewN2 hb q).setCell hgt _⟩
                  have HP2 : Hid (∀ X1, Mx w.heap.size G cap i i (fun a b => if a = t ∧ b = j then y else sqr k i c r a b) h X1 → Below w.heap.size w X1 → Mx w.heap.size G cap i i (sqr k i c (r + 1)) h (X1.setCell ⟨h j, t, none⟩ (.int .i64 (y : Nat))) ∧ Below w.heap.size w (X1.setCell ⟨h j, t, none⟩ (.int .i64 (y : Nat)))) := fun X1 h1 h2 => ⟨mx_put2 hk htk (by omega) (by omega) hre hy h1, h2.setCell hgj _⟩
                  have HCf : Hid (∀ X1, Below w.heap.size w X1 → X1.cell? ⟨bf, of + r, none⟩ = some (.int .i64 (y : Nat))) := fun X1 h1 => ((bcell h1).1 bf (of + r) hbfl).trans hcf
                  have HR : Hid (r + 1 = pls k k + t * (i - k) + (j + 1 - k)) := by have := HJ.out.1; show r + 1 = pls k k + t * (i - k) + (j + 1 - k); omega
                  clear hre hy hcf hM hb
                  go_wp2
                  refine quiet_tail 9 (by kernel_rfl) (by kernel_rfl) ?_
                  simp only [List.take_succ_cons, List.take_zero, List.drop_succ_cons, List.drop_zero]
                  repeat (go_big_quiet_step (fail))
                  refine wpQuiet_nil ?_
                  intro _ hw'
                  obtain ⟨nq, hw''⟩ := hw'
                  subst hw''
                  obtain ⟨X1, hX1⟩ : ∃ X1, X1 = (wz.drewN nq).setCell ⟨h t, j, none⟩ (.int .i64 (y : Nat)) := ⟨_, rfl⟩
                  have hX1' : (wz.setCell ⟨h t, j, none⟩ (.int .i64 (y : Nat))).drewN nq = X1 := by rw [hX1]; rfl
                  have hq := HP1.out nq
                  rw [← hX1] at hq
                  have HXe : Hid (X1 = (wz.drewN nq).setCell ⟨h t, j, none⟩ (.int .i64 (y : Nat)) ∧ (wz.setCell ⟨h t, j, none⟩ (.int .i64 (y : Nat))).drewN nq = X1) := ⟨hX1, hX1'⟩
                  clear hX1 hX1'
                  go_upto_region 23 with (fail)
                  first | rw [← HXe.out.1] | rw [HXe.out.2]
                  clear cf0 ct q1 f1
                  have cf0 := HCf.out X1 hq.2
                  have cj := hq.1.cell j (by omega)
                  obtain ⟨o1, q1⟩ : ∃ o1 : Nat, X1.cell? ⟨h j, t, none⟩ = some (.int .i64 (o1 : Nat)) := ⟨_, (hq.1.row j (by omega)).cell t (by omega)⟩
                  have f1 := (hq.1.row j (by omega)).free t
                  have HQ1 : Hid (Mx w.heap.size G cap i i (fun a b => if a = t ∧ b = j then y else sqr k i c r a b) h X1 ∧ Below w.heap.size w X1) := hq
                  clear hq
                  have HQ2 : Hid (∀ q, Mx w.heap.size G cap i i (sqr k i c (r + 1)) h ((X1.drewN q).setCell ⟨h j, t, none⟩ (.int .i64 (y : Nat))) ∧ Below w.heap.size w ((X1.drewN q).setCell ⟨h j, t, none⟩ (.int .i64 (y : Nat)))) := fun q => HP2.out _ (HQ1.out.1.drewN q) (below_drewN2 HQ1.out.2 q)
                  go_wp2
                  refine quiet_tail 9 (by kernel_rfl) (by kernel_rfl) ?_
                  simp only [List.take_succ_cons, List.take_zero, List.drop_succ_cons, List.drop_zero]
                  repeat (go_big_quiet_step (fail))
                  refine wpQuiet_nil ?_
                  intro _ hw'
                  obtain ⟨nq2, hw''⟩ := hw'
                  subst hw''
                  go_wp2
                  go_roundw
                  case rel => exact ⟨j + 1, r + 1, by omega, by omega, by omega, by go_num, by go_num, HR.out, HQ2.out nq2⟩
                  case measure => simp [intOf]; omega
                · have hjb : ¬ (j : Int) < (i : Int) := by omega
                  have HE : Hid (r = pls k k + (t + 1) * (i - k)) := by
                    have := HJ.out.1
                    show r = pls k k + (t + 1) * (i - k)
                    rw [Nat.succ_mul]; omega
                  go_wp2
                  go_roundw
                  case rel => exact ⟨t + 1, r, by omega, hrn, by go_num, rfl, HE.out, HJ.out.2⟩
                  case measure => simp [intOf]; omega
            · have htb : ¬ (t : Int) < (k : Int) := by omega
              have HE : Hid (r0 = nf) := by
                have h1 := HT.out.1
                rw [show t = k by omega] at h1
                exact h1.trans HNF.out.symm
              go_wp2
              go_ret
              exact ⟨G, cap, rfl, ⟨h, by rw [← HE.out]; exact HT.out.2.1⟩, HT.out.2.2⟩
end Go.Proofs.Ytbofcldmgjeklaa

/- The reference: what each node has: Written. -/
namespace Go.Proofs.Ytbofcldmgjeklaa
open Go.RowKit Go.Sort

theorem Mx.matR {B G m k n : Nat} {R : Nat → Nat → Nat} {h : Nat → Nat} {w : World} (H : Mx B G m k (n + 1) R h w) (hn : n + 1 ≤ 1000000) : MatR (some ⟨G, 0, none⟩) k n R w := fun i hi =>
  ⟨G, 0, .slice (some ⟨h i, 0, none⟩) (n + 1) (n + 1), rfl, by rw [Nat.zero_add]; exact H.cell i hi, some ⟨h i, 0, none⟩, n + 1, rfl, (H.row i hi).sl (Nat.le_refl _), (fun x hx => by cases hx; exact (H.row i hi).lt), (fun e => by cases e), Nat.le_refl _, by omega⟩
theorem wrt_prod {D : FD} (F : Fld D) (k d : Nat) (c : Nat → Nat) (v : Nat) : prodR D (pwr D d v) (sqr k d c (fsz k d)) d = wrt D k d c v := by
  have h : ∀ t, t ≤ d → prodR D (pwr D d v) (sqr k d c (fsz k d)) t = prodR D (D.xp v) (sqr k d c (fsz k d)) t := fun t => by
    induction t with
    | zero => intro _; rfl
    | succ t ih =>
      intro ht
      show padd D (prodR D (pwr D d v) _ t) (pscale D (pwr D d v t) _) = padd D (prodR D (D.xp v) _ t) (pscale D (D.xp v t) _)
      rw [ih (by omega), show pwr D d v t = D.xp v t from if_pos (by omega)]
  funext j
  rw [h d (Nat.le_refl _), prodR_ev F]
  unfold wrt
  congr 1
  funext t
  exact sqr_comm k d c _ t j

set_option maxHeartbeats 8000000 in
set_option maxRecDepth 100000 in
theorem rwritten_any {D : FD} (hD : D ∈ fieldsL) (gen gm cm : Nat) {n k d d1 fc : Nat} {fo : Option Addr} {c : Nat → Nat} {w : World} (hd1 : d = d1 + 1) (hk1 : 1 ≤ k) (hk : k ≤ d) (hd : d ≤ 15) (hn : n ≤ D.q) (hn16 : n ≤ 64) (hc : El D c) (hS : Sl fo (fsz k d) c w) (hl : LtB fo w.heap.size) (hM : ModAt D (.slice (some ⟨gm, 0, none⟩) (D.m + 1) cm) D.md w) :
    Calls Try.prog 14 #[.agg #[.int .i64 D.q, .int .i64 D.p, .int .i64 D.m, .int .i64 gen, .slice (some ⟨gm, 0, none⟩) (D.m + 1) cm], .int .i64 (n : Nat), .int .i64 (k : Nat), .int .i64 (d : Nat), .slice fo (fsz k d) fc] w fun e w' => ∃ v, e = .returned v ∧ LLs w.heap.size v (rl n d1 (wrt D k d c)) w' ∧ Below w.heap.size w w' := by
  obtain ⟨wa, hwa⟩ : ∃ wa, wa = w.alloc (.cells #[.int .i64 D.q, .int .i64 D.p, .int .i64 D.m, .int .i64 gen, .slice (some ⟨gm, 0, none⟩) (D.m + 1) cm] 31) := ⟨_, rfl⟩
  have hba : Below w.heap.size w wa := by rw [hwa]; exact (Below.refl _ _).alloc (Nat.le_refl _) _
  have hsa : wa.heap.size = w.heap.size + 1 := by rw [hwa]; simp
  have HX : Hid (Box w.heap.size D gen (.slice (some ⟨gm, 0, none⟩) (D.m + 1) cm) wa ∧ wa.heap.size = w.heap.size + 1 ∧ Below w.heap.size w wa ∧ ModAt D (.slice (some ⟨gm, 0, none⟩) (D.m + 1) cm) D.md wa ∧ D ∈ fieldsL ∧ El D c) := ⟨by rw [hwa]; exact box_new D gen _ w, hsa, hba, hM.below hba, hD, hc⟩
  have HSq : Hid (Calls Try.prog 42 #[.int .i64 (k : Nat), .int .i64 (d : Nat), .slice fo (fsz k d) fc] wa fun e w' => ∃ G cap h, e = .returned (.slice (some ⟨G, 0, none⟩) d cap) ∧ Mx wa.heap.size G cap d d (sqr k d c (fsz k d)) h w' ∧ Below wa.heap.size wa w') := rsquare_any hk1 hk hd (hS.below hba hl) (hl.mono hba.size)
  have HD1 : Hid (d = d1 + 1) := hd1
  clear hD hba hM hS hl hc hd1 hsa
  go_enter Try.func14, Try.ntmps14
  go_wp2_with fail
  rw [← hwa]
  clear hwa
  refine HSq.out.mono ?_
  rintro e w1 ⟨G, cap, h, rfl, hM1, hb1⟩
  have H1 : Hid (Mx wa.heap.size G cap d d (sqr k d c (fsz k d)) h w1 ∧ Below wa.heap.size wa w1) := ⟨hM1, hb1⟩
  clear hM1 hb1
  go_wp2
  go_loopw [12, 13] (fun vl vi wr => ∃ i : Nat, i ≤ n ∧ vi = .int .i64 (i : Nat) ∧ Hid (LLs w1.heap.size vl (rl i d1 fun a => pwr D d a) wr ∧ Below w1.heap.size w1 wr)) (fun _ vi _ => n - (intOf vi).toNat)
  case atStart => exact ⟨0, by omega, rfl, LLs.nil _ _, Below.refl _ _⟩
  case round =>
    obtain ⟨i, hi, rfl, HG⟩ := hrel
    rename World => wr
    have hba : Below wa.heap.size wa wr := bel_up' H1.out.2 HG.out.2
    have hbx := HX.out.1.below (B := wa.heap.size) hba (by have := HX.out.2.1; omega)
    by_cases hlt : i < n
    · have hib : (i : Int) < (n : Int) := by omega
      obtain ⟨k0, k1, k2, k3, k4⟩ := hbx
      have HP : Hid (Calls Try.prog 23 #[.agg #[.int .i64 D.q, .int .i64 D.p, .int .i64 D.m, .int .i64 gen, .slice (some ⟨gm, 0, none⟩) (D.m + 1) cm], .int .i64 (i : Nat), .int .i64 (d : Nat)] wr fun e w' => ∃ v, e = .returned v ∧ OwnI wr.heap.size v (zl d fun j => ((D.xp i j : Nat) : Int)) w' ∧ Below wr.heap.size wr w') := rpowers_any HX.out.2.2.2.2.1 gen gm cm (by omega) (by omega) (HX.out.2.2.2.1.below hba)
      go_wp2_with fail
      refine HP.out.mono ?_
      rintro e w2 ⟨v2, rfl, hown2, hb2⟩
      have hel : Elm v2 (d1, pwr D d i) w2 := by
        have e1 : (zl d fun j => ((D.xp i j : Nat) : Int)) = zl (d1 + 1) fun j => ((pwr D d i j : Nat) : Int) := by
          rw [← HD1.out]
          exact zl_congr (fun j hj => by unfold pwr; rw [if_pos hj])
        rw [e1] at hown2
        exact (elm_of_own hown2).1
      have HE : Hid (Elm v2 (d1, pwr D d i) w2 ∧ Below w1.heap.size w1 w2) := ⟨hel, bel_up' HG.out.2 hb2⟩
      obtain ⟨l, hl1, hl2⟩ := HG.out.1
      have HL : Hid (OwnV w1.heap.size u12 l w2 ∧ Elms l (rl i d1 fun a => pwr D d a) w2) := ⟨hl1.below hb2 (Nat.le_refl _), hl2.below hb2 (Nat.le_refl _)⟩
      have hll : l.length ≤ 1000000 := by rw [hl2.1, rl_len]; omega
      have hs2 := HE.out.2.size
      obtain ⟨g2, cap2, rfl, _⟩ := hel
      clear hown2 hb2 hl1 hl2 k0 k1 k2 k3 k4
      go_wp2_with (at_builtin; refine append_sl rfl _ _ rfl w1.heap.size _ l rfl (HL.out.1.alloc _) ⟨w2.heap.size, 0, none⟩ 1 (.slice (some ⟨g2, 0, none⟩) (d1 + 1) cap2) rfl rfl (by simp) hll (by simp; omega) ?_; intro v' w4 hown4 hgrow4)
      go_roundw
      case rel =>
        have hba2 : Below w2.heap.size w2 (w2.alloc (.cells #[.slice (some ⟨g2, 0, none⟩) (d1 + 1) cap2] 22)) := (Below.refl _ _).alloc (Nat.le_refl _) _
        refine ⟨i + 1, by omega, by go_num, ?_, ?_⟩
        · rw [rl_succ]
          exact LLs.push (HL.out.1.alloc _) (HL.out.2.below hba2 (Nat.le_refl _)) (HE.out.1.below hba2 (Nat.le_refl _)) hown4 hgrow4
        · refine (bel_up' HE.out.2 hba2).trans (below_grown hgrow4 (by simp; omega) (fun x hx => ?_))
          rcases HL.out.1.2 with ⟨h1, _⟩ | ⟨g, cap, cur, hv, hg, _⟩
          · rw [h1] at hx; cases hx
          · rw [hv] at hx; cases hx; exact hg
      case measure => simp [intOf]; omega
    · have e : i = n := by omega
      subst e
      obtain ⟨k0, k1, k2, k3, k4⟩ := hbx
      obtain ⟨ro, rc, vs, rfl, hro⟩ := HG.out.1.rws
      have HPr : Hid (Calls Try.prog 43 #[.agg #[.int .i64 D.q, .int .i64 D.p, .int .i64 D.m, .int .i64 gen, .slice (some ⟨gm, 0, none⟩) (D.m + 1) cm], .slice ro i rc, .slice (some ⟨G, 0, none⟩) d cap] wr fun e w' => ∃ v, e = .returned v ∧ LLs wr.heap.size v (rl i d1 (wrt D k d c)) w' ∧ Below wr.heap.size wr w') := by
        have hMd := H1.out.1.below HG.out.2
        have hd1 := HD1.out
        have F := fld HX.out.2.2.2.2.1
        subst hd1
        have hp := rproduct_any (A := fun a => pwr D (d1 + 1) a) (ca := rc) (cb := cap) HX.out.2.2.2.2.1 gen gm cm (m := i) (l := d1) (n := d1) (by omega) (by omega) (by omega) (fun a _ => pwr_el F _ _) (fun a _ => sqr_el F k (d1 + 1) HX.out.2.2.2.2.2 _ _) hro.matR (hMd.matR (by omega)) (HX.out.2.2.2.1.below hba)
        have e1 : (fun a => prodR D (pwr D (d1 + 1) a) (sqr k (d1 + 1) c (fsz k (d1 + 1))) (d1 + 1)) = wrt D k (d1 + 1) c := by
          funext a
          exact wrt_prod F k (d1 + 1) c a
        rw [e1] at hp
        exact hp
      clear hro
      go_wp2_with fail
      refine HPr.out.mono ?_
      rintro e w3 ⟨v3, rfl, hl3, hb3⟩
      have H3 : Hid (LLs w.heap.size v3 (rl i d1 (wrt D k d c)) w3 ∧ Below w.heap.size w w3) := ⟨hl3.mono (by have := hba.size; have := HX.out.2.1; omega), bel_up' (bel_up' HX.out.2.2.1 hba) hb3⟩
      clear hl3 hb3 hba
      go_wp2
      go_ret
      exact ⟨_, rfl, H3.out⟩
end Go.Proofs.Ytbofcldmgjeklaa
