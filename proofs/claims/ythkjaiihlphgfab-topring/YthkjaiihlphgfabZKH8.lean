/- Rings: the program's Ring. -/
import Derived.Test.YthkjaiihlphgfabZKH7
namespace Go.Proofs.Ythkjaiihlphgfab
open Go.RowKit Go.Sort

theorem rgp_fin : ∀ q n : Fin 11, 2 ≤ q.1 → 1 ≤ n.1 → q.1 ^ n.1 ≤ 1024 → (q.1, n.1) ∈ rgp := by decide +kernel
theorem rgp_mem (q : Nat) (hq : q < 11) (n : Nat) (hn : n < 11) (h1 : 2 ≤ q) (h2 : 1 ≤ n) (h3 : q ^ n ≤ 1024) : (q, n) ∈ rgp := rgp_fin ⟨q, hq⟩ ⟨n, hn⟩ h1 h2 h3
theorem ring_ok {q n : Nat} (h : (q, n) ∈ rgp) : ∃ L, rgo q n 2100 [0] [] = some L ∧ rgl q n = L ∧ L.length = q ^ n ∧ ∀ x ∈ L, x < q := by
  have h1 := List.all_eq_true.1 rgp_all _ h
  unfold rgl
  revert h1
  cases rgo q n 2100 [0] [] with
  | none => intro h1; cases h1
  | some L =>
    intro h1
    have h1 : (L.length == q ^ n && L.all (fun x => Nat.blt x q)) = true := h1
    rw [Bool.and_eq_true, beq_iff_eq] at h1
    exact ⟨L, rfl, rfl, h1.1, fun x hx => Nat.le_of_ble_eq_true (List.all_eq_true.1 h1.2 x hx)⟩
theorem rgo_step {q n f : Nat} {W out L : List Nat} (h : rgo q n f W out = some L) : ∃ g, f = g + 1 ∧ (if W.length = 0 then some out else rgo q n g (nxt q n W) (if n % W.length = 0 then out ++ W else out)) = some L := by
  cases f with
  | zero => cases h
  | succ g => exact ⟨g, rfl, h⟩
theorem rgo_len {q n : Nat} : ∀ f {W out L : List Nat}, rgo q n f W out = some L → out.length ≤ L.length
  | 0, _, _, _, h => by cases h
  | f + 1, W, out, L, h => by
    have h : (if W.length = 0 then some out else rgo q n f (nxt q n W) (if n % W.length = 0 then out ++ W else out)) = some L := h
    by_cases e : W.length = 0
    · rw [if_pos e] at h; cases h; exact Nat.le_refl _
    · rw [if_neg e] at h
      have h2 := rgo_len f h
      split at h2
      · rw [List.length_append] at h2; omega
      · exact h2
theorem nzl_app (a b : List Nat) : zl (a ++ b).length (nzl (a ++ b)) = zl a.length (nzl a) ++ zl b.length (nzl b) := by
  have e : ∀ l : List Nat, zl l.length (nzl l) = l.map fun x => ((x : Nat) : Int) := fun l => by
    apply List.ext_getElem?
    intro i
    unfold zl nzl
    rw [List.getElem?_map, List.getElem?_map]
    by_cases h : i < l.length
    · rw [List.getElem?_range h, List.getElem?_eq_getElem h]
      show some (((l.getD i 0 : Nat)) : Int) = some ((l[i] : Nat) : Int)
      rw [List.getD_eq_getElem?_getD, List.getElem?_eq_getElem h]; rfl
    · rw [List.getElem?_eq_none (by rw [List.length_range]; omega), List.getElem?_eq_none (by omega)]; rfl
  rw [e, e, e, List.map_append]

/-- A word of the ring: its numbers are small. -/
def Sml (q : Nat) (W : List Nat) : Prop := ∀ j, W.getD j 0 < q
theorem stl_lt {q : Nat} {z : Nat → Nat} : ∀ m, ∀ j, j + 1 = stl q z m → z j + 1 ≠ q
  | 0, j, h => by cases h
  | m + 1, j, h => by
    have h : j + 1 = if z m + 1 = q then stl q z m else m + 1 := h
    by_cases e : z m + 1 = q
    · rw [if_pos e] at h; exact stl_lt m j h
    · rw [if_neg e] at h
      have : j = m := by omega
      rw [this]; exact e
theorem Sml.next {q n : Nat} {W : List Nat} (h : Sml q W) (hq : 0 < q) : Sml q (nxt q n W) := fun j => by
  by_cases hj : j < stl q (rpt W) n
  · rw [nxt_get q n W j hj]
    have h1 := h (j % W.length)
    split
    · rename_i e
      have h2 := stl_lt n j e
      show W.getD (j % W.length) 0 + 1 < q
      have h3 : W.getD (j % W.length) 0 + 1 ≠ q := h2
      omega
    · exact h1
  · rw [List.getD_eq_getElem?_getD, List.getElem?_eq_none (by rw [nxt_len]; omega)]
    exact hq

set_option maxHeartbeats 8000000 in
set_option maxRecDepth 100000 in
theorem ring_go {q n : Nat} (hq : 2 ≤ q) (hq2 : q ≤ 10) (hn : 1 ≤ n) (hn2 : n ≤ 10) (hp : q ^ n ≤ 1024) (w : World) :
    Calls Try.prog 13 #[.int .i64 (q : Nat), .int .i64 (n : Nat)] w fun x w' => Below w.heap.size w w' ∧ ∃ v, x = .returned (.tuple #[v, .int .i64 0]) ∧ OwnI w.heap.size v (zl (rgl q n).length (nzl (rgl q n))) w' := by
  obtain ⟨L, hL, hRl, hLl, _⟩ := ring_ok (rgp_mem q (by omega) n (by omega) hq hn hp)
  have HF : Hid (rgo q n 2100 [0] [] = some L ∧ rgl q n = L ∧ L.length = q ^ n ∧ L.length ≤ 1024) := ⟨hL, hRl, hLl, by omega⟩
  have k1 : ¬ (q : Int) < 2 := by omega
  have k2 : ¬ (10 : Int) < (q : Int) := by omega
  have k3 : ¬ (n : Int) < 1 := by omega
  clear hL hRl hLl
  go_enter Try.func13, Try.ntmps13
  go_wp2
  go_loopw [6, 20] (fun va vi wr => ∃ (i a : Nat), i ≤ n ∧ va = .int .i64 (a : Nat) ∧ vi = .int .i64 (i : Nat) ∧ Hid (a = q ^ i ∧ a ≤ 1024 ∧ wr = w)) (fun _ vi _ => n - (intOf vi).toNat)
  case atStart => exact ⟨0, 1, by omega, rfl, rfl, rfl, by omega, rfl⟩
  case round =>
    obtain ⟨i, a, hi, rfl, rfl, HG⟩ := hrel
    rename World => wr
    have ha1 := HG.out.2.1
    by_cases hlt : i < n
    · have hib : (i : Int) < (n : Int) := by omega
      obtain ⟨a2, ha2⟩ : ∃ a2, a2 = a * q := ⟨_, rfl⟩
      have hp2 : a2 = q ^ (i + 1) := by rw [ha2, Nat.pow_succ, HG.out.1]
      have ha2b : a2 ≤ 1024 := by
        rw [hp2]
        have := pow_le_pow' (q := q) (a := i + 1) (b := n) (by omega) (by omega)
        omega
      have hw : IntKind.i64.wrap ((a : Int) * (q : Int)) = (a2 : Int) := wrap_to (by rw [ha2]; simp) (by omega)
      have hz : ¬ (1024 : Int) < (a2 : Int) := by omega
      have HR : Hid (a2 = q ^ (i + 1) ∧ a2 ≤ 1024 ∧ wr = w) := ⟨hp2, ha2b, HG.out.2.2⟩
      clear ha2 hp2 ha1
      go_wp2
      go_roundw
      case rel => exact ⟨i + 1, a2, by omega, by first | rfl | go_num, by go_num, HR.out⟩
      case measure => simp [intOf]; omega
    · have hib : ¬ (i : Int) < (n : Int) := by omega
      have hwr : wr = w := HG.out.2.2
      subst hwr
      obtain ⟨i0, hi0, hz0, hz1, hz2⟩ := info_parts Try.infoInt
      go_wp2_with (at_make; refine wpList_make_own _ rfl _ _ 22 rfl wr.heap.size 3 i0 (.int .i64 0) 1 Try.underlying22 hi0 hz0 hz1 .i64 .i64 (a : Int) a rfl rfl rfl (by rw [hz2]; omega) (by unfold maxLen; omega) (Nat.le_refl _) ?_; intro w1 hown1 hgrow1)
      have HI0 : Hid (OwnI wr.heap.size (.slice (some ⟨wr.heap.size, 0, none⟩) 0 a) (zl ([] : List Nat).length (nzl [])) w1 ∧ Below wr.heap.size wr w1) := ⟨hown1, below_grown hgrow1 (Nat.le_refl _) (fun k hk => by cases hk)⟩
      clear hown1 hgrow1 hi0 hz0 hz1 hz2
      go_loopg [7, 8] 2100 (fun gk vo vw wx => ∃ (W out : List Nat) (bw cw : Nat), vw = .slice (some ⟨bw, 0, none⟩) W.length cw ∧ Hid (rgo q n gk W out = some L ∧ OwnI wr.heap.size vo (zl out.length (nzl out)) wx ∧ SlZ (some ⟨bw, 0, none⟩) W.length (nzl W) wx ∧ W.length ≤ 10 ∧ Sml q W ∧ Below wr.heap.size wr wx ∧ (∀ k, vo.ownBlock = some k → k ≠ bw)))
      case atStart =>
        refine ⟨[0], [], w1.heap.size, 1, rfl, HF.out.1, HI0.out.1.alloc _, fun j hj => ⟨_, 0, rfl, ?_⟩, by decide, fun j => ?_, bel_up' HI0.out.2 ((Below.refl _ _).alloc (Nat.le_refl _) _), fun k hk => ?_⟩
        · have hj : j < 1 := hj
          have : j = 0 := by omega
          subst this
          rw [cell_of_row _ _ _ _ _ (0, 0) (two_new _)]; rfl
        · cases j with
          | zero => show 0 < q; omega
          | succ j => show 0 < q; omega
        · have := (HI0.out.1.lt k hk).2
          omega
      case round =>
        obtain ⟨W, out, bw, cw, rfl, HG2⟩ := hrel
        rename World => wx
        obtain ⟨g, hgk, hst⟩ := rgo_step HG2.out.1
        by_cases hW : W.length = 0
        · rw [if_pos hW] at hst
          have hWb : ¬ (0 : Int) < (W.length : Int) := by omega
          have HE : Hid (OwnI wr.heap.size u7 (zl (rgl q n).length (nzl (rgl q n))) wx ∧ Below wr.heap.size wr wx) := by
            cases hst
            rw [HF.out.2.1]
            exact ⟨HG2.out.2.1, HG2.out.2.2.2.2.2.1⟩
          obtain ⟨l0, hl0⟩ : ∃ l0, l0 = W.length := ⟨_, rfl⟩
          rw [← hl0] at hWb ⊢
          clear hW hst hgk hl0
          go_wp2
          go_ret2
          exact ⟨HE.out.2, u7, rfl, HE.out.1⟩
        · rw [if_neg hW] at hst
          obtain ⟨l0, hl0⟩ : ∃ l0, l0 = W.length := ⟨_, rfl⟩
          have hWb : (0 : Int) < (l0 : Int) := by omega
          have hW0 : ¬ (l0 : Int) = 0 := by omega
          obtain ⟨md, hmd⟩ : ∃ md : Nat, md = n % l0 := ⟨_, rfl⟩
          have h1 : (n : Int).tmod (l0 : Int) = (md : Int) := by rw [hmd]; rfl
          have hl10 := HG2.out.2.2.2.1
          have HN : Hid (∀ wy : World, SlZ (some ⟨bw, 0, none⟩) W.length (nzl W) wy → Calls Try.prog 27 #[.slice (some ⟨bw, 0, none⟩) l0 cw, .int .i64 (q : Nat), .int .i64 (n : Nat)] wy fun e w' => ∃ g z, e = .returned (.slice (some ⟨g, 0, none⟩) (nxt q n W).length n) ∧ RowZ g n z w' ∧ (∀ j, j < (nxt q n W).length → z j = nzl (nxt q n W) j) ∧ wy.heap.size ≤ g ∧ Below wy.heap.size wy w') := fun wy hy => by
            rw [hl0]
            exact next_any hy (by omega) (by omega) (by omega) hq hq2 (fun j => by have := HG2.out.2.2.2.2.1 (j % W.length); unfold rpt; omega)
          have HO : Hid (gk = g + 1 ∧ l0 = W.length ∧ out.length ≤ 1024) := ⟨hgk, hl0, by have := rgo_len _ HG2.out.1; have := HF.out.2.2.2; omega⟩
          rw [← hl0]
          by_cases e : md = 0
          · have hz : ((md : Int) == 0) = true := by rw [e]; rfl
            have HS : Hid (rgo q n g (nxt q n W) (out ++ W) = some L) := by
              rw [if_pos (by rw [← hl0, ← hmd]; exact e)] at hst
              exact hst
            clear e hst hgk hmd hl0 hW
            go_wp2_with (first
              | (at_builtin; refine append_ints rfl _ _ rfl wr.heap.size u7 (zl out.length (nzl out)) rfl HG2.out.2.1 (some ⟨bw, 0, none⟩) l0 cw (nzl W) rfl (by rw [HO.out.2.1]; exact HG2.out.2.2.1) (fun e => by cases e) (by rw [zl_len]; have := HO.out; omega) HG2.out.2.2.2.2.2.1.size ?_; intro v5 w5 hown5 hg5)
              | fail)
            have H5 : Hid (OwnI wr.heap.size v5 (zl (out ++ W).length (nzl (out ++ W))) w5 ∧ SlZ (some ⟨bw, 0, none⟩) W.length (nzl W) w5 ∧ Below wr.heap.size wr w5) := by
              refine ⟨?_, fun j hj => ?_, HG2.out.2.2.2.2.2.1.grown hg5 HG2.out.2.2.2.2.2.1.size (fun k hk => (HG2.out.2.1.lt k hk).1)⟩
              · rw [nzl_app, ← HO.out.2.1]; exact hown5
              · obtain ⟨b1, o1, e1, hc1⟩ := HG2.out.2.2.1 j hj
                cases e1
                exact ⟨_, _, rfl, (World.cell?_of_block (hg5.block _ (cell_lt hc1) (fun e => HG2.out.2.2.2.2.2.2 _ e.symm rfl))).trans hc1⟩
            clear hown5 hg5
            refine (HN.out w5 H5.out.2.1).mono ?_
            rintro e w6 ⟨gn, zn, rfl, hrz, hzn, hgn, hb6⟩
            have HX : Hid (rgo q n g (nxt q n W) (out ++ W) = some L ∧ OwnI wr.heap.size v5 (zl ((out ++ W)).length (nzl ((out ++ W)))) w6 ∧ SlZ (some ⟨gn, 0, none⟩) (nxt q n W).length (nzl (nxt q n W)) w6 ∧ (nxt q n W).length ≤ 10 ∧ Sml q (nxt q n W) ∧ Below wr.heap.size wr w6 ∧ (∀ k, Value.ownBlock v5 = some k → k ≠ gn)) := by
              have hlen : (nxt q n W).length ≤ n := by rw [nxt_len]; exact stl_le _ _ _
              refine ⟨HS.out, H5.out.1.below hb6 (fun k hk => (H5.out.1.lt k hk).2), fun j hj => ⟨gn, 0, rfl, ?_⟩, by omega, HG2.out.2.2.2.2.1.next (by omega), bel_up' H5.out.2.2 hb6, fun k hk => ?_⟩
              · rw [Nat.zero_add, hrz.cell j (by omega), hzn j hj]
              · have := (H5.out.1.lt k hk).2; omega
            obtain ⟨N2, hN2⟩ : ∃ N2, N2 = nxt q n W := ⟨_, rfl⟩
            rw [← hN2] at HX ⊢
            clear hrz hzn hgn hb6 hN2
            go_wp2
            go_roundg g
            case measure => have := HO.out.1; omega
            case rel => exact ⟨N2, _, gn, n, rfl, HX.out⟩
          · have hz : ((md : Int) == 0) = false := by rw [beq_eq_false_iff_ne]; omega
            have HS : Hid (rgo q n g (nxt q n W) out = some L) := by
              rw [if_neg (by rw [← hl0, ← hmd]; exact e)] at hst
              exact hst
            clear e hst hgk hmd hl0 hW
            go_wp2_with fail
            refine (HN.out wx HG2.out.2.2.1).mono ?_
            rintro e w6 ⟨gn, zn, rfl, hrz, hzn, hgn, hb6⟩
            have HX : Hid (rgo q n g (nxt q n W) out = some L ∧ OwnI wr.heap.size u7 (zl (out).length (nzl (out))) w6 ∧ SlZ (some ⟨gn, 0, none⟩) (nxt q n W).length (nzl (nxt q n W)) w6 ∧ (nxt q n W).length ≤ 10 ∧ Sml q (nxt q n W) ∧ Below wr.heap.size wr w6 ∧ (∀ k, Value.ownBlock u7 = some k → k ≠ gn)) := by
              have hlen : (nxt q n W).length ≤ n := by rw [nxt_len]; exact stl_le _ _ _
              refine ⟨HS.out, HG2.out.2.1.below hb6 (fun k hk => (HG2.out.2.1.lt k hk).2), fun j hj => ⟨gn, 0, rfl, ?_⟩, by omega, HG2.out.2.2.2.2.1.next (by omega), bel_up' HG2.out.2.2.2.2.2.1 hb6, fun k hk => ?_⟩
              · rw [Nat.zero_add, hrz.cell j (by omega), hzn j hj]
              · have := (HG2.out.2.1.lt k hk).2; omega
            obtain ⟨N2, hN2⟩ : ∃ N2, N2 = nxt q n W := ⟨_, rfl⟩
            rw [← hN2] at HX ⊢
            clear hrz hzn hgn hb6 hN2
            go_wp2
            go_roundg g
            case measure => have := HO.out.1; omega
            case rel => exact ⟨N2, _, gn, n, rfl, HX.out⟩
end Go.Proofs.Ythkjaiihlphgfab
