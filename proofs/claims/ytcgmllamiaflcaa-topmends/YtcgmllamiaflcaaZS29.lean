/- Texts of ours, one behind the other: S29 KD10. -/
import Derived.Test.YtcgmllamiaflcaaZS27
import Derived.Test.YtcgmllamiaflcaaZX20
import Derived.Test.YtcgmllamiaflcaaZKD8
import Derived.Test.YtcgmllamiaflcaaZX19
import Derived.Deep.OwnRows
/- Plain mathematics of words that are mended by equations: there is a solution where a near message is, and each solution tells it. No Go text here. -/
namespace Go.Proofs.Ytcgmllamiaflcaa
open Go.RowKit Go.Sort

theorem dt_dot {D : FD} (u v : Nat → Nat) : ∀ n, dt D u v n = dot D u v n
  | 0 => rfl
  | n + 1 => by
    show D.ad (dt D u v n) (D.mul (u n) (v n)) = D.ad (dot D u v n) (D.mul (u n) (v n))
    rw [dt_dot u v n]
/-- Where equations have a solution, no row says 0 = 1. -/
theorem sol_meets {D : FD} (F : Fld D) {m n k : Nat} {R M : Nat → Nat → Nat} {p b u : Nat → Nat} (h : Rdg D m (n + 1) n k R p) (hel : ∀ i, i < m → El D (M i)) (hb : ∀ i, i < m → b i < D.q) (hs : ∀ v, Spn D (RowsOf m R) v ↔ Spn D (RowsOf m (aug n M b)) v)
    (hu : ∀ i, i < m → dot D (M i) u n = b i) : ∀ i, k ≤ i → i < m → R i n = 0 := fun i hk hi => by
  have h1 : Spn D (RowsOf m (aug n M b)) (R i) := (hs _).1 (spn_mem F (h.el i hi) ⟨i, hi, rfl⟩)
  have h2 : El D (R i) ∧ dt D (R i) u n = R i n := by
    refine spn_ind (Q := fun v => El D v ∧ dt D v u n = v n) ⟨el_nil F, dt_nil F _ _⟩ ?_ ?_ ?_ h1
    · rintro x y ⟨a1, a2⟩ ⟨b1, b2⟩
      refine ⟨el_add F a1 b1, ?_⟩
      rw [dt_add F _ a1 b1, a2, b2]; rfl
    · rintro s v ⟨a1, a2⟩
      refine ⟨el_scale F _ _, ?_⟩
      rw [dt_scale F, a2]; rfl
    · rintro v ⟨j, hj, rfl⟩
      refine ⟨aug_el (hel j hj) (hb j hj), ?_⟩
      have e : dot D (aug n M b j) u n = dot D (M j) u n := dot_congr n fun c hc => ⟨if_neg (by omega), rfl⟩
      rw [dt_dot, e, hu j hj]
      exact (if_pos rfl).symm
  have h3 : dot D (R i) u n = dot D pnil u n := dot_congr n fun c hc => ⟨h.rest i c hk hi hc, rfl⟩
  rw [← h2.2, dt_dot, h3, dot_nil F]
/-- What is told is a solution. -/
theorem sol_is {D : FD} (F : Fld D) {m n k : Nat} {R M : Nat → Nat → Nat} {p b : Nat → Nat} (h : Rdg D m (n + 1) n k R p) (h0 : ∀ i, k ≤ i → i < m → R i n = 0) (hel : ∀ i, i < m → El D (M i)) (hb : ∀ i, i < m → b i < D.q) (hs : ∀ v, Spn D (RowsOf m R) v ↔ Spn D (RowsOf m (aug n M b)) v) :
    El D (slx R p n k) ∧ ∀ i, i < m → dot D (M i) (slx R p n k) n = b i := by
  obtain ⟨h2, _, h3⟩ := rdg_end F (rdg_skip h h0)
  refine ⟨slx_el F k h2.el, fun i hi => ?_⟩
  rw [← dt_dot]
  exact slx_solves F h2 (fun i hi => by have := h.lt i hi; omega) hel hb (fun v => (h3 v).trans (hs v)) i hi
/-- The equations have a solution, where a near message is. -/
theorem eqs_have {D : FD} (F : Fld D) {xs y a : Nat → Nat} {n k wr : Nat} (hx : ∀ i, i < n → xs i < D.q) (ho : ofs D k n xs y a ≤ wr) :
    ∃ u, ∀ i, i < n → dot D (rwq D (xs i) (y i) (k + wr) wr) u (k + wr + wr) = D.mul (y i) (D.xp (xs i) wr) := by
  obtain ⟨E, h1, h2, h3, h4⟩ := loc_ex F (err := fun i => !decide (D.ev a (xs i) k = y i)) hx ho
  have hpb : Bd (k + wr) (pmul D k a E) := by
    have := pmul_bd F (a := a) h2 k
    rw [show k + (wr + 1) - 1 = k + wr by omega] at this
    exact this
  have hpe := el_mul F a E k
  obtain ⟨u, hu⟩ : ∃ u : Nat → Nat, u = fun c => if c < k + wr then pmul D k a E c else E (c - (k + wr)) := ⟨_, rfl⟩
  have hue : El D u := fun c => by
    rw [hu]
    show (if c < k + wr then pmul D k a E c else E (c - (k + wr))) < D.q
    split
    · exact hpe c
    · exact h1 _
  refine ⟨u, fun i hi => ?_⟩
  rw [rwq_dot F (xs i) (y i) (k + wr) hue wr]
  have e1 : D.ev u (xs i) (k + wr) = D.ev (pmul D k a E) (xs i) (k + wr) := ev_congr (xs i) _ fun c hc => by rw [hu]; exact if_pos hc
  have e2 : (fun c => u (k + wr + c)) = E := by
    funext c
    rw [hu]
    show (if k + wr + c < k + wr then _ else E (k + wr + c - (k + wr))) = E c
    rw [if_neg (by omega), Nat.add_sub_cancel_left]
  have e3 : D.ev (pmul D k a E) (xs i) (k + wr) = D.mul (D.ev a (xs i) k) (D.ev E (xs i) (wr + 1)) := by
    rw [← ev_from F (xs i) hpb (show k + wr ≤ k + (wr + 1) by omega), ev_mul F (xs i) h2 h1 k (k + (wr + 1)) (Nat.le_refl _)]
  have e4 : D.mul (D.ev a (xs i) k) (D.ev E (xs i) (wr + 1)) = D.mul (y i) (D.ev E (xs i) (wr + 1)) := by
    by_cases e : D.ev a (xs i) k = y i
    · rw [e]
    · rw [h4 i hi (by simp [e]), mul0 F, mul0 F]
  have e5 : D.ev E (xs i) (wr + 1) = D.ad (D.xp (xs i) wr) (D.ev E (xs i) wr) := by
    show D.ad (D.ev E (xs i) wr) (D.mul (E wr) (D.xp (xs i) wr)) = _
    rw [h3, omul F (xp_lt F _ _), ad_comm F]
  rw [e1, e2, e3, e4, e5, mul_ad F (xp_lt F _ _) (ev_lt F _ _ _), sb_ad F (F.mul_lt _ _) (F.mul_lt _ _)]
/-- The second part of a solution, with 1 behind it. -/
def eqE (wr long : Nat) (s : Nat → Nat) : Nat → Nat := fun c => if c < wr then s (long + c) else if c = wr then 1 else 0
theorem eqE_el {D : FD} (F : Fld D) {wr long : Nat} {s : Nat → Nat} (h : El D s) : El D (eqE wr long s) := fun c => by
  unfold eqE
  split
  · exact h _
  · split
    · exact one_lt' F
    · exact zero_lt' F
theorem eqE_bd (wr long : Nat) (s : Nat → Nat) : Bd (wr + 1) (eqE wr long s) := fun c hc => by
  unfold eqE
  rw [if_neg (by omega), if_neg (by omega)]
theorem eqE_top (wr long : Nat) (s : Nat → Nat) : eqE wr long s wr = 1 := by
  unfold eqE
  rw [if_neg (by omega), if_pos rfl]
/-- Each solution tells the near message. -/
theorem eqs_find {D : FD} (F : Fld D) {xs y a s : Nat → Nat} {n k wr : Nat} (hw : k + wr + wr ≤ n) (hx : ∀ i, i < n → xs i < D.q) (hne : ∀ i j, i < n → j < n → i ≠ j → xs i ≠ xs j) (hs : El D s)
    (he : ∀ i, i < n → dot D (rwq D (xs i) (y i) (k + wr) wr) s (k + wr + wr) = D.mul (y i) (D.xp (xs i) wr)) (ho : ofs D k n xs y a ≤ wr) : cutN (k + wr) s = pmul D k a (eqE wr (k + wr) s) := by
  refine key_eq F (y := y) (M := k + wr) (Nat.le_refl _) hw hx hne (fun c => by unfold cutN; split; exact hs c; exact zero_lt' F) (fun c hc => if_neg (by omega)) (eqE_el F hs) (eqE_bd _ _ _) ho (fun i hi => ?_)
  have h := he i hi
  rw [rwq_dot F (xs i) (y i) (k + wr) hs wr] at h
  have e1 : D.ev (cutN (k + wr) s) (xs i) (k + wr) = D.ev s (xs i) (k + wr) := ev_congr (xs i) _ fun c hc => if_pos hc
  have e2 : D.ev (eqE wr (k + wr) s) (xs i) wr = D.ev (fun c => s (k + wr + c)) (xs i) wr := ev_congr (xs i) _ fun c hc => if_pos hc
  have e3 : D.ev (eqE wr (k + wr) s) (xs i) (wr + 1) = D.ad (D.ev (fun c => s (k + wr + c)) (xs i) wr) (D.xp (xs i) wr) := by
    show D.ad (D.ev (eqE wr (k + wr) s) (xs i) wr) (D.mul (eqE wr (k + wr) s wr) (D.xp (xs i) wr)) = _
    rw [eqE_top, omul F (xp_lt F _ _), e2]
  rw [e1, e3, mul_ad F (ev_lt F _ _ _) (xp_lt F _ _), ← h, ad_sb F (ev_lt F _ _ _) (F.mul_lt _ _)]
end Go.Proofs.Ytcgmllamiaflcaa

/- Steps of a region that draws its order: rows that are made; an append that makes a new block, since none of the old one is left. -/
namespace Go.Proofs.Ytcgmllamiaflcaa
open Go.RowKit Go.Sort

theorem step_make_int {ops : Array Oper} {o : Oper} {a : Act} {w : World} {K : Act → World → Prop} {Q : Exit → Act → World → Prop} {E : Prop} (hgd : o.guard = none) (l c : Operand) (hop : o.op = Op.makeSlice 22 l c) (n : Nat) (hl : a.eval l = .int .i64 (n : Int)) (hc : a.eval c = .int .i64 (n : Int)) (hn : n ≤ 1000000)
    (h : ∀ w', Row w.heap.size n pnil w' → Below w.heap.size w w' → w'.heap.size = w.heap.size + 1 → K (a.put o.dst (.slice (some ⟨w.heap.size, 0, none⟩) n n)) w') : if Region.wanted o (yielded ops a.tmps) = true then Oper.wp Try.prog o a w K Q else E := by
  have hw : Region.wanted o (yielded ops a.tmps) = true := by simp [Region.wanted, hgd]
  rw [if_pos hw]
  obtain ⟨i0, hi, hz0, hz1, hz2⟩ := info_parts Try.infoInt
  have hrun := run_make_row (P := Try.prog) 22 3 i0 (.int .i64 0) Try.underlying22 hi hz0 hz1 rfl .i64 .i64 n (by rw [hz2]; omega) (by omega) w
  unfold Oper.wp
  simp [execOp, hop, hl, hc, hrun, Result.andThen]
  refine h _ ⟨n, fun _ => .int .i64 0, ⟨_, two_new _, ?_, fun o ho => ?_⟩, Nat.le_refl _, fun _ _ => rfl⟩ ((Below.refl _ _).alloc (Nat.le_refl _) _) (by simp)
  · simp [madeCells]
  · simp [madeCells, ho, Nat.mod_one]
theorem step_make_sls {ops : Array Oper} {o : Oper} {a : Act} {w : World} {K : Act → World → Prop} {Q : Exit → Act → World → Prop} {E : Prop} (hgd : o.guard = none) (l c : Operand) (hop : o.op = Op.makeSlice 43 l c) (n : Nat) (hl : a.eval l = .int .i64 (n : Int)) (hc : a.eval c = .int .i64 (n : Int)) (hn : n ≤ 1000000)
    (h : ∀ w', RowF w.heap.size n 22 (fun _ => .slice none 0 0) w' → Below w.heap.size w w' → w'.heap.size = w.heap.size + 1 → K (a.put o.dst (.slice (some ⟨w.heap.size, 0, none⟩) n n)) w') : if Region.wanted o (yielded ops a.tmps) = true then Oper.wp Try.prog o a w K Q else E := by
  have hw : Region.wanted o (yielded ops a.tmps) = true := by simp [Region.wanted, hgd]
  rw [if_pos hw]
  obtain ⟨i0, hi, hz0, hz1, hz2⟩ := info_parts Try.infoSl
  have hrun := run_make_row (P := Try.prog) 43 22 i0 (.slice none 0 0) Try.underlying43 hi hz0 hz1 rfl .i64 .i64 n (by rw [hz2]; omega) (by omega) w
  unfold Oper.wp
  simp [execOp, hop, hl, hc, hrun, Result.andThen]
  refine h _ ⟨_, two_new _, ?_, fun o ho => ?_⟩ ((Below.refl _ _).alloc (Nat.le_refl _) _) (by simp)
  · simp [madeCells]
  · simp [madeCells, ho, Nat.mod_one]
theorem step_append_full {ops : Array Oper} {o : Oper} {a : Act} {w : World} {K : Act → World → Prop} {Q : Exit → Act → World → Prop} {E : Prop} (hgd : o.guard = none) (s x : Operand)
    (ho : o.op = .call { callee := .builtin .append, args := #[s, x], argTypes := #[22, 22] }) (b : Addr) (m : Nat) (c : Nat → Nat) (hs : a.eval s = .slice (some b) m m) (hS : ∀ j, j < m → w.cell? (b.add j) = some (.int .i64 (c j : Nat)))
    (ad : Addr) (cc y : Nat) (hx : a.eval x = .slice (some ad) 1 cc) (hcell : w.cell? ad = some (.int .i64 (y : Nat))) (hm : m ≤ 1000)
    (h : ∀ cap w', m + 1 ≤ cap → cap ≤ 9223372036854775807 → Row w.heap.size (m + 1) (fun j => if j < m then c j else y) w' → Below w.heap.size w w' → K (a.put o.dst (.slice (some ⟨w.heap.size, 0, none⟩) (m + 1 : Nat) cap)) w') : if Region.wanted o (yielded ops a.tmps) = true then Oper.wp Try.prog o a w K Q else E := by
  have hw : Region.wanted o (yielded ops a.tmps) = true := by simp [Region.wanted, hgd]
  rw [if_pos hw]
  obtain ⟨i0, hi, hz0, hz1, hz2⟩ := info_parts Try.infoInt
  have hr := run_append_grow (P := Try.prog) w 22 o.type 3 i0 (.int .i64 0) Try.underlying22 hi hz0 b m m (vl m fun j => .int .i64 (c j : Nat)) (by rw [vl_len, hz1]; omega)
    (fun j v hj => by
      have hj' : j < m := by
        have := (List.getElem?_eq_some_iff.1 hj).1
        rwa [vl_len] at this
      rw [vl_get m _ j hj'] at hj
      cases hj
      exact hS j hj') ad 1 cc [.int .i64 (y : Nat)] (by rw [hz1]; rfl)
    (fun j v hj => by
      match j, hj with
      | 0, hj =>
        simp at hj; subst hj
        have : ad.add 0 = ad := by cases ad with | mk b o s => cases s <;> simp [Addr.add]
        rw [this]; exact hcell) (by omega) (by omega) (growslice_fits (by omega) (by rw [hz2]; omega))
  have hge := grownCap_ge w (m + 1) m 3
  have hcm := grownCap_le_maxLen w (m + 1) m 3 (by unfold maxLen; omega)
  unfold Oper.wp
  simp [execOp, ho, resolve, invoke, builtin, hs, hx, hr, Result.andThen]
  refine h _ _ hge (by unfold maxLen at hcm; omega) ?_ ((Below.refl _ _).drew.alloc (Nat.le_refl _) _)
  obtain ⟨zs, hzs⟩ : ∃ zs, zs = Builtin.zeroCells (Value.int .i64 0).cells (grownCap w (m + 1) m 3 - (m + 1)) := ⟨_, rfl⟩
  refine ⟨_, _, rowF_new w.drew _ 3 _ rfl, ?_, fun k hk => ?_⟩
  · simp [vl_len]
  · unfold hbx'
    rw [Array.getD_eq_getD_getElem?]
    have e : ((vl m fun j => Value.int .i64 (c j : Nat)).toArray ++ [Value.int .i64 (y : Nat)].toArray ++ zs)[k]? = some (.int .i64 ((if k < m then c k else y : Nat) : Int)) := by
      rw [Array.getElem?_append_left (by simp [vl_len]; omega)]
      by_cases e : k < m
      · rw [Array.getElem?_append_left (by simp [vl_len]; omega), List.getElem?_toArray, vl_get m _ k e, if_pos e]
      · rw [Array.getElem?_append_right (by simp [vl_len]; omega), if_neg e]
        have : k = m := by omega
        subst this
        simp [vl_len]
    first
      | (rw [hzs] at e; simp at e ⊢; rw [e]; rfl)
      | (rw [hzs] at e; simp at e ⊢; simp [e])
end Go.Proofs.Ytcgmllamiaflcaa
