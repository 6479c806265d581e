/- Texts of ours, one behind the other: Y1 Y2 Y3 S9 Y4 W10 Y5 S10 S11. -/
import Derived.Test.YtnjbnamcedfjaaaGreatZX19
import Derived.Test.YtnjbnamcedfjaaaGreatZL10
import Derived.Test.YtnjbnamcedfjaaaGreatZT9
import Derived.Maps.AppendAt
import Derived.Deep.AppendLies
import Derived.Test.YtnjbnamcedfjaaaGreatZW9
import Derived.Test.YtnjbnamcedfjaaaGreatZN1
/- The program's rules (reed): trim, missed, less. -/
namespace Go.Proofs.YtnjbnamcedfjaaaGreat
open Go.RowKit Go.Sort

set_option maxHeartbeats 4000000 in
set_option maxRecDepth 100000 in
theorem eless_any {F T : Nat} {D : FD} (hD : D ∈ fieldsL) {g : Nat → Value} {w : World} (hat : FAt F T D g w) {ao bo : Option Addr} {n m ca cb t : Nat} {a b : Nat → Nat} (hn : n ≤ 1000) (hm : m ≤ 1000) (ha : El D a) (hb : El D b) (hbn : Bd n a) (hbm : Bd m b) (hA : Sl ao n a w) (hB : Sl bo m b w) (hla : LtB ao w.heap.size) (hlb : LtB bo w.heap.size) (ht : t < D.q) :
    Calls Tryz.prog 71 #[.pointer (some ⟨F, 0, none⟩), .slice ao n ca, .int .i64 (t : Nat), .slice bo m cb] w fun e w' =>
      e = .returned (.slice (some ⟨w.heap.size, 0, none⟩) (max n m) (max n m)) ∧ Row w.heap.size (max n m) (psub D a (pscale D t b)) w' ∧ Below w.heap.size w w' := by
  have HF : Hid (FAt F T D g w ∧ D ∈ fieldsL ∧ Sl ao n a w ∧ Sl bo m b w ∧ El D a ∧ El D b ∧ Bd n a ∧ Bd m b ∧ LtB ao w.heap.size ∧ LtB bo w.heap.size) := ⟨hat, hD, hA, hB, ha, hb, hbn, hbm, hla, hlb⟩
  clear hat hD hA hB ha hb hbn hbm hla hlb
  obtain ⟨N, hN⟩ : ∃ N, N = max n m := ⟨_, rfl⟩
  rw [← hN]
  have hN2 : N ≤ 1000 := by omega
  have hnN : n ≤ N := by omega
  have hmN : m ≤ N := by omega
  have hmax : (if (n : Int) < (m : Int) then (m : Int) else (n : Int)) = (N : Int) := by split <;> omega
  have HN : Hid (N = max n m) := hN
  clear hN
  go_enter Tryz.func71, Tryz.ntmps71
  go_wp2_with (first
    | (at_make; refine make_int rfl _ _ rfl _ N rfl rfl (by have := HN.out; omega) (by omega) ?_; intro w1 hown1 hgrow1)
    | (show wpList _ _ _ (Oper.mk (some 20) _ _ _ _ _ :: _) _ _; (refine copy_int rfl _ _ rfl w.heap.size N N n ca ao rfl rfl pnil a (row_zeros hown1) (HF.out.2.2.1.below (below_grown hgrow1 (Nat.le_refl _) (fun k hk => by simp at hk)) HF.out.2.2.2.2.2.2.2.2.1) hnN w.heap.size w (below_grown hgrow1 (Nat.le_refl _) (fun k hk => by simp at hk)) (Nat.le_refl _) ?_); intro w2 hrow2 hb2))
  all_goals
    have HB1 : Hid (Below w.heap.size w w2 ∧ Row w.heap.size N a w2) := ⟨hb2, hrow2.congr (fun k _ => by show (if k < n then a k else pnil k) = a k; split; rfl; exact (HF.out.2.2.2.2.2.2.1 k (by omega)).symm)⟩
    clear hown1 hgrow1 hb2 hrow2
    obtain ⟨gr, hg⟩ : ∃ g, g = w.heap.size := ⟨_, rfl⟩
    have HB2 : Hid (Below w.heap.size w w2 ∧ Row gr N a w2 ∧ gr = w.heap.size) := by rw [hg]; exact ⟨HB1.out.1, HB1.out.2, rfl⟩
    rw [← hg]
    have hgD : w.heap.size ≤ gr := by omega
    clear HB1 hg
    go_loopw [23] (fun i wr => ∃ r : Nat, r ≤ m ∧ i = .int .i64 r ∧ Hid (Row gr N (fun k => if k < r then D.sb (a k) (D.mul t (b k)) else a k) wr ∧ Below w.heap.size w wr)) (fun i _ => m - (intOf i).toNat)
    case atStart => exact ⟨0, by omega, rfl, HB2.out.2.1.congr (fun k _ => by rw [if_neg (by omega)]), HB2.out.1⟩
    case round =>
      obtain ⟨r, hr, rfl, HG⟩ := hrel
      rename World => wr
      by_cases hlt : r < m
      · obtain ⟨bb, offb, rfl, hcb⟩ := (HF.out.2.2.2.1.below HG.out.2 HF.out.2.2.2.2.2.2.2.2.2) r hlt
        have hco : wr.cell? ⟨gr, r, none⟩ = some (.int .i64 (a r : Nat)) := by
          have h := HG.out.1.cell r (by omega)
          rw [if_neg (by omega)] at h; exact h
        have hfo := HG.out.1.free r
        obtain ⟨ax, hax⟩ : ∃ ax, ax = a r := ⟨_, rfl⟩
        obtain ⟨bx, hbx⟩ : ∃ bx, bx = b r := ⟨_, rfl⟩
        rw [← hax] at hco
        rw [← hbx] at hcb
        obtain ⟨y, hy⟩ : ∃ y, y = D.mul t bx := ⟨_, rfl⟩
        obtain ⟨u, hu⟩ : ∃ u, u = D.sb ax y := ⟨_, rfl⟩
        have F' := fld HF.out.2.1
        have hatr := HF.out.1.below HG.out.2 HF.out.1.ltF HF.out.1.ltT
        have HC1 : Hid (∀ d, Calls Tryz.prog 46 #[.pointer (some ⟨F, 0, none⟩), .int .i64 (t : Nat), .int .i64 (bx : Nat)] (wr.drewN d) fun e w' => e = .returned (.int .i64 (y : Nat)) ∧ ∃ k, w' = (wr.drewN d).drewN k) := fun d => by
          rw [hy]; exact mul_nat HF.out.2.1 (hatr.drewN d) ht (by rw [hbx]; exact HF.out.2.2.2.2.2.1 r)
        have HC2 : Hid (∀ d, Calls Tryz.prog 93 #[.pointer (some ⟨F, 0, none⟩), .int .i64 (ax : Nat), .int .i64 (y : Nat)] (wr.drewN d) fun e w' => e = .returned (.int .i64 (u : Nat)) ∧ ∃ k, w' = (wr.drewN d).drewN k) := fun d => by
          rw [hu]; exact sub_nat HF.out.2.1 (hatr.drewN d) (by rw [hax]; exact HF.out.2.2.2.2.1 r) (by rw [hy]; exact F'.mul_lt _ _)
        have HV : Hid (∀ k, k < N → (if k < r + 1 then D.sb (a k) (D.mul t (b k)) else a k) = if k = r then u else if k < r then D.sb (a k) (D.mul t (b k)) else a k) := fun k _ => by
          rw [hu, hy, hax, hbx]
          by_cases e : k = r
          · rw [if_pos e, if_pos (by omega), e]
          · rw [if_neg e]
            by_cases e2 : k < r
            · rw [if_pos e2, if_pos (by omega)]
            · rw [if_neg e2, if_neg (by omega)]
        have hib : (r : Int) < (N : Int) := by omega
        have hib2 : (r : Int) < (m : Int) := by omega
        clear hax hbx hy hu F' hatr
        go_wp2
        refine quiet_tail 13 (by kernel_rfl) (by kernel_rfl) ?_
        simp only [List.take_succ_cons, List.take_zero, List.drop_succ_cons, List.drop_zero]
        repeat (go_big_quiet_step (first | (go_at_call 46; exact Calls.quiet_of (HC1.out _)) | (go_at_call 93; exact Calls.quiet_of (HC2.out _)) | fail))
        refine wpQuiet_nil ?_
        intro _ hw'
        obtain ⟨nq, hw''⟩ := hw'
        subst hw''
        go_wp2
        go_roundw
        case rel => exact ⟨r + 1, by omega, by go_num, (HG.out.1.drewN nq).store r u HV.out, (below_drewN2 HG.out.2 nq).setCell hgD _⟩
        case measure => simp [intOf]; omega
      · have hib2 : ¬ (r : Int) < (m : Int) := by omega
        have HE : Hid (Row gr N (psub D a (pscale D t b)) wr) := HG.out.1.congr (fun k _ => by
          show (if k < r then D.sb (a k) (D.mul t (b k)) else a k) = D.sb (a k) (D.mul t (b k))
          split
          · rfl
          · rw [HF.out.2.2.2.2.2.2.2.1 k (by omega), mul0 (fld HF.out.2.1), sb_zero (fld HF.out.2.1) (HF.out.2.2.2.2.1 k)])
        go_wp2
        go_ret
        refine ⟨by rw [← HB2.out.2.2]; rfl, ?_, HG.out.2⟩
        rw [← HB2.out.2.2]; exact HE.out
end Go.Proofs.YtnjbnamcedfjaaaGreat

/- The program's rules (reed): the shortest one (shortest, Massey). -/
namespace Go.Proofs.YtnjbnamcedfjaaaGreat
open Go.RowKit Go.Sort

theorem OwnI.argN {base : Nat} {v : Value} {n : Nat} {c : Nat → Nat} {w : World} (h : OwnI base v (zl n fun j => ((c j : Nat) : Int)) w) (hn : n ≤ 1000000) : ∃ so sc, v = .slice so n sc ∧ Arg so n sc (fun j => ((c j : Nat) : Int)) w := by
  obtain ⟨so, sc, e, ha⟩ := h.argL
  exact ⟨so, sc, e, ha.arg hn⟩
theorem Arg.drewN {ao : Option Addr} {n cap : Nat} {z : Nat → Int} {w : World} (h : Arg ao n cap z w) (k : Nat) : Arg ao n cap z (w.drewN k) := ⟨h.sl, h.lt, h.few, h.nil, h.le, h.cap⟩

end Go.Proofs.YtnjbnamcedfjaaaGreat

/- The program's Massey; lists that are far too long. -/
namespace Go.Proofs.YtnjbnamcedfjaaaGreat
open Go.RowKit Go.Sort

end Go.Proofs.YtnjbnamcedfjaaaGreat

/- Equations that can be met, and the rules of shorter length. -/
namespace Go.Proofs.YtnjbnamcedfjaaaGreat
open Go.RowKit Go.Sort

/-- The sum of the products, place by place. -/
def dt (D : FD) (u v : Nat → Nat) : Nat → Nat
  | 0 => 0
  | n + 1 => D.ad (dt D u v n) (D.mul (u n) (v n))
theorem dt_lt {D : FD} (F : Fld D) (u v : Nat → Nat) : ∀ n, dt D u v n < D.q
  | 0 => zero_lt' F
  | n + 1 => ad_lt F (dt_lt F u v n) (F.mul_lt _ _)
theorem dt_nil {D : FD} (F : Fld D) (v : Nat → Nat) : ∀ n, dt D pnil v n = 0
  | 0 => rfl
  | n + 1 => by
    show D.ad (dt D pnil v n) (D.mul 0 (v n)) = 0
    rw [dt_nil F v n, zmul F, ad_zero F (zero_lt' F)]
theorem dt_add {D : FD} (F : Fld D) {u u' : Nat → Nat} (v : Nat → Nat) (hu : El D u) (hu' : El D u') : ∀ n, dt D (padd D u u') v n = D.ad (dt D u v n) (dt D u' v n)
  | 0 => (ad_zero F (zero_lt' F)).symm
  | n + 1 => by
    show D.ad (dt D (padd D u u') v n) (D.mul (D.ad (u n) (u' n)) (v n)) = _
    rw [dt_add F v hu hu' n, ad_mul F (hu n) (hu' n), ad4 F (dt_lt F _ _ _) (dt_lt F _ _ _) (F.mul_lt _ _) (F.mul_lt _ _)]
    rfl
theorem dt_scale {D : FD} (F : Fld D) (s : Nat) (u v : Nat → Nat) : ∀ n, dt D (pscale D s u) v n = D.mul s (dt D u v n)
  | 0 => (mul0 F s).symm
  | n + 1 => by
    show D.ad (dt D (pscale D s u) v n) (D.mul (D.mul s (u n)) (v n)) = D.mul s (D.ad (dt D u v n) (D.mul (u n) (v n)))
    rw [dt_scale F s u v n, F.mul_assoc, mul_ad F (dt_lt F _ _ _) (F.mul_lt _ _)]
theorem dt_same {D : FD} {u v v' : Nat → Nat} : ∀ n, (∀ j, j < n → v j = v' j) → dt D u v n = dt D u v' n
  | 0, _ => rfl
  | n + 1, h => by
    show D.ad (dt D u v n) (D.mul (u n) (v n)) = D.ad (dt D u v' n) (D.mul (u n) (v' n))
    rw [dt_same n (fun j hj => h j (by omega)), h n (by omega)]
theorem dt_put {D : FD} (F : Fld D) {u v : Nat → Nat} {a c : Nat} (hv : v a = 0) : ∀ n, a < n → dt D u (fun j => if j = a then c else v j) n = D.ad (dt D u v n) (D.mul (u a) c)
  | 0, h => absurd h (by omega)
  | n + 1, h => by
    show D.ad (dt D u (fun j => if j = a then c else v j) n) (D.mul (u n) (if n = a then c else v n)) = D.ad (D.ad (dt D u v n) (D.mul (u n) (v n))) (D.mul (u a) c)
    by_cases e : n = a
    · subst e
      rw [if_pos rfl, hv, mul0 F, ad_zero F (dt_lt F _ _ _), dt_same n (v' := v) (fun j hj => if_neg (by omega))]
    · rw [if_neg e, dt_put F hv n (by omega), ad_assoc F (dt_lt F _ _ _) (F.mul_lt _ _) (F.mul_lt _ _), ad_assoc F (dt_lt F _ _ _) (F.mul_lt _ _) (F.mul_lt _ _), ad_comm F (D.mul (u a) c)]
theorem slx_none {R : Nat → Nat → Nat} {p : Nat → Nat} {n j : Nat} : ∀ r, (∀ i, i < r → p i ≠ j) → slx R p n r j = 0
  | 0, _ => rfl
  | r + 1, h => by
    show (if j = p r then R r n else slx R p n r j) = 0
    rw [if_neg (fun e => h r (by omega) e.symm), slx_none r (fun i hi => h i (by omega))]
theorem slx_el {D : FD} (F : Fld D) {R : Nat → Nat → Nat} {p : Nat → Nat} {n : Nat} : ∀ r, (∀ i, i < r → El D (R i)) → El D (slx R p n r)
  | 0, _ => fun _ => zero_lt' F
  | r + 1, h => fun j => by
    show (if j = p r then R r n else slx R p n r j) < D.q
    split
    · exact h r (by omega) n
    · exact slx_el F r (fun i hi => h i (by omega)) j
theorem dt_slx {D : FD} (F : Fld D) {n k : Nat} {R : Nat → Nat → Nat} {p : Nat → Nat} (h : RRE D (n + 1) k R p) (hp : ∀ i, i < k → p i ≠ n) (i : Nat) (hi : i < k) : ∀ r, r ≤ k → dt D (R i) (slx R p n r) n = if i < r then R i n else 0
  | 0, _ => by
    rw [if_neg (by omega)]
    have e : ∀ n, dt D (R i) (slx R p n 0) n = 0 := fun n => by
      have : ∀ m, dt D (R i) (slx R p n 0) m = 0 := fun m => by
        induction m with
        | zero => rfl
        | succ m ih =>
          show D.ad (dt D (R i) (slx R p n 0) m) (D.mul (R i m) 0) = 0
          rw [ih, mul0 F, ad_zero F (zero_lt' F)]
      exact this n
    exact e n
  | r + 1, hr => by
    have hpr : p r < n := by have := h.lt r (by omega); have := hp r (by omega); omega
    have e := dt_put F (u := R i) (v := slx R p n r) (a := p r) (c := R r n) (slx_none r (fun j hj => by have := h.mono j r hj (by omega); omega)) n hpr
    have e2 : slx R p n (r + 1) = fun j => if j = p r then R r n else slx R p n r j := rfl
    rw [e2, e, dt_slx F h hp i hi r (by omega)]
    by_cases e3 : i = r
    · subst e3
      rw [if_neg (by omega), if_pos (by omega), h.one i hi, omul F (h.el i hi n), zero_ad F (h.el i hi n)]
    · rw [h.zero i r hi (by omega) e3, zmul F]
      by_cases e4 : i < r
      · rw [if_pos e4, if_pos (by omega), ad_zero F (h.el i hi n)]
      · rw [if_neg e4, if_neg (by omega), ad_zero F (zero_lt' F)]
/-- What the reduced equations say is a solution. -/
theorem slx_solves {D : FD} (F : Fld D) {m n k : Nat} {R M : Nat → Nat → Nat} {p b : Nat → Nat} (h : RRE D (n + 1) k R p) (hp : ∀ i, i < k → p i ≠ n) (hel : ∀ i, i < m → El D (M i)) (hb : ∀ i, i < m → b i < D.q) (hs : ∀ v, Spn D (RowsOf k R) v ↔ Spn D (RowsOf m (aug n M b)) v) (i : Nat) (hi : i < m) : dt D (M i) (slx R p n k) n = b i := by
  have h1 : Spn D (RowsOf k R) (aug n M b i) := (hs _).2 (spn_mem F (aug_el (hel i hi) (hb i hi)) ⟨i, hi, rfl⟩)
  have h2 : El D (aug n M b i) ∧ dt D (aug n M b i) (slx R p n k) n = aug n M b i n := by
    refine spn_ind (Q := fun v => El D v ∧ dt D v (slx R p n k) n = v n) ⟨el_nil F, dt_nil F _ _⟩ ?_ ?_ ?_ h1
    · rintro u v ⟨a1, a2⟩ ⟨b1, b2⟩
      refine ⟨el_add F a1 b1, ?_⟩
      rw [dt_add F _ a1 b1, a2, b2]; rfl
    · rintro s v ⟨a1, a2⟩
      refine ⟨el_scale F _ _, ?_⟩
      rw [dt_scale F, a2]; rfl
    · rintro v ⟨j, hj, rfl⟩
      refine ⟨h.el j hj, ?_⟩
      rw [dt_slx F h hp j hj k (Nat.le_refl _), if_pos hj]
  have h3 := h2.2
  have e1 : ∀ r, r ≤ n → dt D (aug n M b i) (slx R p n k) r = dt D (M i) (slx R p n k) r := fun r => by
    induction r with
    | zero => intro _; rfl
    | succ r ih =>
      intro hr
      show D.ad (dt D (aug n M b i) (slx R p n k) r) (D.mul (aug n M b i r) _) = D.ad (dt D (M i) (slx R p n k) r) (D.mul (M i r) _)
      rw [ih (by omega)]
      have : aug n M b i r = M i r := if_neg (by omega)
      rw [this]
  rw [e1 n (Nat.le_refl _)] at h3
  rw [h3]
  exact if_pos rfl
end Go.Proofs.YtnjbnamcedfjaaaGreat

/- The reference's Rules: does the rule hold? -/
namespace Go.Proofs.YtnjbnamcedfjaaaGreat
open Go.RowKit Go.Sort

end Go.Proofs.YtnjbnamcedfjaaaGreat

/- 'append' of one number, and where its list lies then. -/
namespace Go.Proofs.YtnjbnamcedfjaaaGreat
open Go.RowKit Go.Sort

/-- The same, at a step of a region that draws its order. -/
theorem step_append_int_at {ops : Array Oper} {o : Oper} {a : Act} {w : World} {K : Act → World → Prop} {Q : Exit → Act → World → Prop} {E : Prop} (hgd : o.guard = none) (s x : Operand)
    (ho : o.op = .call { callee := .builtin .append, args := #[s, x], argTypes := #[22, 22] })
    (base : Nat) (v : Value) (l : List Int) (hs : a.eval s = v) (hown : OwnI base v l w) (ad : Addr) (c : Nat) (y : Int) (hx : a.eval x = .slice (some ad) 1 c) (hcell : w.cell? ad = some (.int .i64 y))
    (hlen : l.length ≤ 1000000) (hbase : base ≤ w.heap.size)
    (h : ∀ g cap w', OwnI base (.slice (some ⟨g, 0, none⟩) (l.length + 1) cap) (l ++ [y]) w' → w.grownBy w' v.ownBlock → (Value.ownBlock (.slice (some ⟨g, 0, none⟩) (l.length + 1) cap) = v.ownBlock ∨ Value.ownBlock (.slice (some ⟨g, 0, none⟩) (l.length + 1) cap) = some w.heap.size) → K (a.put o.dst (.slice (some ⟨g, 0, none⟩) (l.length + 1) cap)) w') :
    if Region.wanted o (yielded ops a.tmps) = true then Oper.wp Tryz.prog o a w K Q else E := by
  obtain ⟨i0, hi, hz0, hz1, hz2⟩ := info_parts Tryz.infoInt
  refine step_append_lies w hgd s x 22 ho base 3 i0 (.int .i64 0) 1 8 Tryz.underlying22 hi hz0 hz1 hz2 rfl (by decide) v l.length _ hs hown ad 1 c [.int .i64 y] hx rfl ?_ ?_ (by omega) ?_ ?_ hbase _ rfl ?_
  · intro j u hj
    match j, hj with
    | 0, hj =>
      simp at hj; subst hj
      have : ad.add 0 = ad := by cases ad with | mk b o s => cases s <;> simp [Addr.add]
      rw [this]; exact hcell
  · intro u hu; simp at hu; subst hu; rfl
  · unfold maxLen; omega
  · omega
  · intro g cap w' hown' hgrow hat _
    refine h g cap w' ?_ hgrow ?_
    · unfold OwnI
      rw [List.map_append, List.length_append]
      exact hown'
    · rcases hat with e | e
      · exact Or.inl e.symm
      · exact Or.inr (by rw [e]; rfl)
end Go.Proofs.YtnjbnamcedfjaaaGreat

/- The reference's Shortest: is there no shorter rule? What it keeps. -/
namespace Go.Proofs.YtnjbnamcedfjaaaGreat
open Go.RowKit Go.Sort

theorem MkS.matR {base q c n i : Nat} {v : Value} {vs : Nat → Value} {Z : Nat → Nat → Int} {M : Nat → Nat → Nat} {w : World} (h : MkS base q c i v vs Z w) (hc : c = n + 1) (hZ : ∀ j, j < i → ∀ t, t < c → Z j t = ((M j t : Nat) : Int)) : ∃ mo mc, v = .slice mo i mc ∧ MatR mo i n M w := by
  subst hc
  obtain ⟨mo, mc, hv, _, _, _, hcell⟩ := h.own.open
  rw [vl_len] at hv
  refine ⟨mo, mc, hv, fun j hj => ?_⟩
  obtain ⟨g, e, hc, _⟩ := hcell j (vs j) (vl_get i vs j hj)
  obtain ⟨so, sc, e2, ha⟩ := (h.row j hj).argL
  refine ⟨g, 0, vs j, e, by rw [Nat.zero_add]; exact hc, so, sc, e2, fun t ht => ?_, ha.lt, ha.nil, ha.le, ha.cap⟩
  obtain ⟨b, off, e3, hc3⟩ := ha.sl t ht
  exact ⟨b, off, e3, by rw [hc3, hZ j hj t ht]⟩
end Go.Proofs.YtnjbnamcedfjaaaGreat

/- Lists that a rule makes: the shortest rule of enough of them makes the rest. -/
namespace Go.Proofs.YtnjbnamcedfjaaaGreat
open Go.RowKit Go.Sort

theorem ng_ad {D : FD} (F : Fld D) {a b : Nat} (ha : a < D.q) (hb : b < D.q) : D.ng (D.ad a b) = D.ad (D.ng a) (D.ng b) := by
  have h1 : D.ad (D.ad a b) (D.ad (D.ng a) (D.ng b)) = 0 := by
    rw [ad4 F ha hb (ng_lt F ha) (ng_lt F hb), ad_ng F ha, ad_ng F hb, ad_zero F (zero_lt' F)]
  exact (ad_cancel F (ad_lt F ha hb) (ad_lt F (ng_lt F ha) (ng_lt F hb)) (ng_lt F (ad_lt F ha hb)) (h1.trans (ad_ng F (ad_lt F ha hb)).symm)).symm
theorem sb_ad2 {D : FD} (F : Fld D) {a b c : Nat} (ha : a < D.q) (hb : b < D.q) (hc : c < D.q) : D.sb a (D.ad b c) = D.sb (D.sb a b) c := by
  unfold FD.sb
  rw [ng_ad F hb hc, ad_assoc F ha (ng_lt F hb) (ng_lt F hc)]
end Go.Proofs.YtnjbnamcedfjaaaGreat

/- A polynomial that is not nought has fewer roots than coefficients; words of few coefficients are far apart. -/
namespace Go.Proofs.YtnjbnamcedfjaaaGreat
open Go.RowKit Go.Sort

/-- How many of the first n. -/
def ct (p : Nat → Bool) : Nat → Nat
  | 0 => 0
  | n + 1 => ct p n + if p n = true then 1 else 0
theorem ct_none {p : Nat → Bool} : ∀ n, (∀ i, i < n → p i = false) → ct p n = 0
  | 0, _ => rfl
  | n + 1, h => by
    show ct p n + (if p n = true then 1 else 0) = 0
    rw [ct_none n (fun i hi => h i (by omega)), h n (by omega)]; rfl
theorem ct_one1 {p p' : Nat → Bool} (i0 : Nat) : ∀ n, (∀ i, i < n → i ≠ i0 → p i = true → p' i = true) → ct p n ≤ ct p' n + if i0 < n then 1 else 0
  | 0, _ => by simp [ct]
  | n + 1, h => by
    show ct p n + (if p n = true then 1 else 0) ≤ ct p' n + (if p' n = true then 1 else 0) + if i0 < n + 1 then 1 else 0
    have ih := ct_one1 i0 n (fun i hi => h i (by omega))
    by_cases e : i0 = n
    · rw [if_neg (by omega)] at ih
      rw [if_pos (show i0 < n + 1 by omega)]
      split <;> split <;> omega
    · have h1 := h n (by omega) (fun x => e x.symm)
      by_cases hp : p n = true
      · rw [if_pos hp, if_pos (h1 hp)]
        by_cases hi : i0 < n
        · rw [if_pos hi] at ih; rw [if_pos (show i0 < n + 1 by omega)]; omega
        · rw [if_neg hi] at ih; split <;> omega
      · rw [if_neg hp]
        by_cases hi : i0 < n
        · rw [if_pos hi] at ih; rw [if_pos (show i0 < n + 1 by omega)]; omega
        · rw [if_neg hi] at ih; omega
theorem ct_not (p : Nat → Bool) : ∀ n, ct p n + ct (fun i => !p i) n = n
  | 0 => rfl
  | n + 1 => by
    show ct p n + (if p n = true then 1 else 0) + (ct (fun i => !p i) n + if (!p n) = true then 1 else 0) = n + 1
    have := ct_not p n
    cases p n <;> simp <;> omega
theorem ev_sub {D : FD} (F : Fld D) {a b : Nat → Nat} (x : Nat) (ha : El D a) (hb : El D b) : ∀ n, D.ev (psub D a b) x n = D.sb (D.ev a x n) (D.ev b x n)
  | 0 => (sb_self F (zero_lt' F)).symm
  | n + 1 => by
    show D.ad (D.ev (psub D a b) x n) (D.mul (D.sb (a n) (b n)) (D.xp x n)) = D.sb (D.ad (D.ev a x n) (D.mul (a n) (D.xp x n))) (D.ad (D.ev b x n) (D.mul (b n) (D.xp x n)))
    rw [ev_sub F x ha hb n, sb_mul F (ha n) (hb n)]
    have h1 := ev_lt F a x n
    have h2 := ev_lt F b x n
    have h3 := F.mul_lt (a n) (D.xp x n)
    have h4 := F.mul_lt (b n) (D.xp x n)
    unfold FD.sb
    rw [ng_ad F h2 h4, ad4 F h1 (ng_lt F h2) h3 (ng_lt F h4)]
/-- X - r. -/
def xmr (D : FD) (r : Nat) : Nat → Nat := fun j => if j = 0 then D.ng r else if j = 1 then 1 else 0
theorem xmr_el {D : FD} (F : Fld D) {r : Nat} (hr : r < D.q) : El D (xmr D r) := fun j => by
  unfold xmr
  split
  · exact ng_lt F hr
  · split
    · exact one_lt' F
    · exact zero_lt' F
theorem xmr_bd {D : FD} (r : Nat) : Bd 2 (xmr D r) := fun j hj => by
  unfold xmr
  rw [if_neg (by omega), if_neg (by omega)]
theorem xmr_ev {D : FD} (F : Fld D) {r x : Nat} (hr : r < D.q) (hx : x < D.q) : D.ev (xmr D r) x 2 = D.sb x r := by
  show D.ad (D.ad 0 (D.mul (D.ng r) 1)) (D.mul 1 (D.mul 1 x)) = D.ad x (D.ng r)
  rw [mul1 F (ng_lt F hr), omul F (F.mul_lt _ _), omul F hx, zero_ad F (ng_lt F hr), ad_comm F]
/-- A root goes out as a factor. -/
theorem root_out {D : FD} (F : Fld D) {d : Nat → Nat} {k r : Nat} (hd : El D d) (hb : Bd (k + 1) d) (hr : r < D.q) (h0 : D.ev d r (k + 1) = 0) : ∃ Q, El D Q ∧ Bd k Q ∧ d = pmul D k Q (xmr D r) := by
  have hi : D.mul (xmr D r 1) 1 = 1 := mul1 F (one_lt' F)
  have h1 := div_is F (b := xmr D r) (l := 1) (inv := 1) k hd
  have hR := divR_bd F (xmr_el F hr) (xmr_bd r) hi k hd hb
  obtain ⟨Q, hQ⟩ : ∃ Q, Q = divQ D (xmr D r) 1 1 k d := ⟨_, rfl⟩
  obtain ⟨R, hRe⟩ : ∃ R, R = divR D (xmr D r) 1 1 k d := ⟨_, rfl⟩
  rw [← hQ, ← hRe] at h1
  rw [← hRe] at hR
  have eQ : El D Q := by rw [hQ]; exact el_divQ F k d
  have bQ : Bd k Q := by rw [hQ]; exact divQ_bd k d
  have eR : El D R := by rw [hRe]; exact el_divR F k hd
  have h2 : D.ev d r (k + 2) = 0 := by rw [ev_from F r hb (by omega)]; exact h0
  rw [← h1, ev_add F r (el_mul F _ _ _) eR, ev_mul F r (xmr_bd r) (xmr_el F hr) k (k + 2) (Nat.le_refl _), xmr_ev F hr hr, sb_self F hr, mul0 F, zero_ad F (ev_lt F _ _ _), ev_from F r hR (by omega)] at h2
  have h3 : R 0 = 0 := by
    have h2 : D.ad 0 (D.mul (R 0) 1) = 0 := h2
    rw [zero_ad F (F.mul_lt _ _), mul1 F (eR 0)] at h2; exact h2
  have h4 : R = pnil := by
    funext j
    cases j with
    | zero => exact h3
    | succ j => exact hR _ (by omega)
  refine ⟨Q, eQ, bQ, ?_⟩
  rw [h4] at h1
  rw [← h1]
  funext j
  exact ad_zero F (el_mul F _ _ _ _)
theorem few_roots {D : FD} (F : Fld D) {xs : Nat → Nat} {n : Nat} (hx : ∀ i, i < n → xs i < D.q) (hne : ∀ i j, i < n → j < n → i ≠ j → xs i ≠ xs j) : ∀ k {d : Nat → Nat}, El D d → Bd k d → d ≠ pnil → ct (fun i => decide (D.ev d (xs i) k = 0)) n < k
  | 0, d, _, hb, h0 => absurd (bd_nil_of hb) h0
  | k + 1, d, hd, hb, h0 => by
    by_cases h : ∃ i, i < n ∧ D.ev d (xs i) (k + 1) = 0
    · obtain ⟨i0, hi0, hr⟩ := h
      obtain ⟨Q, eQ, bQ, hQ⟩ := root_out F hd hb (hx i0 hi0) hr
      have hQ0 : Q ≠ pnil := fun e => h0 (by
        rw [hQ, e]
        funext j
        have : ∀ m, pmul D m pnil (xmr D (xs i0)) j = 0 := fun m => by
          induction m with
          | zero => rfl
          | succ m ih =>
            show D.ad (pmul D m pnil (xmr D (xs i0)) j) (psh m (pscale D 0 (xmr D (xs i0))) j) = 0
            rw [ih]
            unfold psh pscale
            split
            · rw [zmul F, ad_zero F (zero_lt' F)]
            · rw [ad_zero F (zero_lt' F)]
        exact this k)
      have ih := few_roots F hx hne k eQ bQ hQ0
      have h1 := ct_one1 (p := fun i => decide (D.ev d (xs i) (k + 1) = 0)) (p' := fun i => decide (D.ev Q (xs i) k = 0)) i0 n (fun i hi hne' hp => by
        have hp : D.ev d (xs i) (k + 1) = 0 := of_decide_eq_true hp
        refine decide_eq_true ?_
        have h2 : D.ev d (xs i) (k + 2) = 0 := by rw [ev_from F _ hb (by omega)]; exact hp
        rw [hQ, ev_mul F _ (xmr_bd _) (xmr_el F (hx i0 hi0)) k (k + 2) (Nat.le_refl _), xmr_ev F (hx i0 hi0) (hx i hi)] at h2
        by_cases e : D.ev Q (xs i) k = 0
        · exact e
        · exfalso
          have h3 : D.sb (xs i) (xs i0) = 0 := mul_cancel F e (sb_lt F (hx i hi) (hx i0 hi0)) (zero_lt' F) (h2.trans (mul0 F _).symm)
          exact hne i i0 hi hi0 hne' (sb_eq_zero F (hx i hi) (hx i0 hi0) h3))
      rw [if_pos hi0] at h1
      omega
    · rw [ct_none n (fun i hi => decide_eq_false (fun e => h ⟨i, hi, e⟩))]
      omega
/-- Words of two messages of k numbers: apart at more than n - k places. -/
theorem far_apart {D : FD} (F : Fld D) {xs a b : Nat → Nat} {n k : Nat} (hx : ∀ i, i < n → xs i < D.q) (hne : ∀ i j, i < n → j < n → i ≠ j → xs i ≠ xs j) (ha : El D a) (hb : El D b) (hba : Bd k a) (hbb : Bd k b) (h : a ≠ b) : n < k + ct (fun i => !decide (D.ev a (xs i) k = D.ev b (xs i) k)) n := by
  have h1 := few_roots F hx hne k (el_sub F ha hb) (fun j hj => by show D.sb (a j) (b j) = 0; rw [hba j hj, hbb j hj, sb_self F (zero_lt' F)]) (fun e => h (by
    funext j
    exact sb_eq_zero F (ha j) (hb j) (congrFun e j)))
  have h2 := ct_not (fun i => decide (D.ev a (xs i) k = D.ev b (xs i) k)) n
  have e : (fun i => decide (D.ev (psub D a b) (xs i) k = 0)) = fun i => decide (D.ev a (xs i) k = D.ev b (xs i) k) := by
    funext i
    rw [ev_sub F _ ha hb]
    refine decide_eq_decide.2 ⟨fun e => sb_eq_zero F (ev_lt F _ _ _) (ev_lt F _ _ _) e, fun e => by rw [e, sb_self F (ev_lt F _ _ _)]⟩
  rw [e] at h1
  omega
end Go.Proofs.YtnjbnamcedfjaaaGreat
