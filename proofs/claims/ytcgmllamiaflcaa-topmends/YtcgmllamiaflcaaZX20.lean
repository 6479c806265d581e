/- Texts of ours, one behind the other: X20 S6 O2 O3 L11 L12 L13 L14 U23 H1 H2 H3 H4 K4 S8 Y1 Y2 Y3 S9 Y4. -/
import Derived.Test.YtcgmllamiaflcaaZX19
import Derived.Test.YtcgmllamiaflcaaZX14
import Derived.Test.YtcgmllamiaflcaaZL10
import Derived.Test.YtcgmllamiaflcaaZS1
import Derived.Test.YtcgmllamiaflcaaZU22
/- The program's matrices: inverses (rightOf, Inverse). -/
namespace Go.Proofs.Ytcgmllamiaflcaa
open Go.RowKit

end Go.Proofs.Ytcgmllamiaflcaa

/- Plain mathematics: there is a reduced form. -/
namespace Go.Proofs.Ytcgmllamiaflcaa

end Go.Proofs.Ytcgmllamiaflcaa

/- A list of lists of numbers that a statement is given, opened. -/
namespace Go.Proofs.Ytcgmllamiaflcaa
open Go.ChangeShapes Go.WideShapes Go.ChangeAt Go.RowKit

end Go.Proofs.Ytcgmllamiaflcaa

/- How heavy a list of lists is that a statement is given. -/
namespace Go.Proofs.Ytcgmllamiaflcaa
open Go.RowKit Go.Sort

end Go.Proofs.Ytcgmllamiaflcaa

/- MatrixSays: lists of lists held against one another; how heavy a matrix is; are all numbers elements. -/
namespace Go.Proofs.Ytcgmllamiaflcaa
open Go.RowKit Go.Sort

end Go.Proofs.Ytcgmllamiaflcaa

/- MatrixSays: inverses. -/
namespace Go.Proofs.Ytcgmllamiaflcaa
open Go.RowKit Go.Sort

theorem mchk_of {D : FD} {m : Nat} {N : Nat → Nat} {Z : Nat → Nat → Int} (hm : m ≤ 64) (h : ∀ i, i < m → D.mrow (N 0) (N i) (Z i) = 0) : D.mchk m N Z = 0 := by
  have key : ∀ k, k ≤ m → D.mchks N Z k = 0 := fun k => by
    induction k with
    | zero => intro _; rfl
    | succ k ih =>
      intro hk
      rw [FD.mchks, ih (by omega)]
      simp [h k (by omega)]
  unfold FD.mchk
  rw [if_neg (by omega)]
  exact key m (Nat.le_refl _)
end Go.Proofs.Ytcgmllamiaflcaa

/- MatrixSays: one matrix (matrixOne), where it may not be, and where it has no row. -/
namespace Go.Proofs.Ytcgmllamiaflcaa
open Go.RowKit Go.Sort

end Go.Proofs.Ytcgmllamiaflcaa

/- MatrixSays: one matrix that may be: what the calls on both sides tell, in one form. -/
namespace Go.Proofs.Ytcgmllamiaflcaa
open Go.RowKit Go.Sort

theorem KI.open {v : Value} {k : Nat} {z : Nat → Int} {w : World} (h : KI v (zl k z) w) : ∃ ao ca, v = .slice ao k ca := by
  rcases h.1 with ⟨e, ao, ca, rfl⟩ | ⟨_, _, b, off, ca, rfl, _⟩
  · have := congrArg List.length e
    rw [zl_len] at this
    have : k = 0 := this
    subst this
    exact ⟨ao, ca, rfl⟩
  · rw [zl_len]; exact ⟨_, _, rfl⟩


end Go.Proofs.Ytcgmllamiaflcaa

/- The program's polynomials: a sum with an empty list, wherever that lies. -/
namespace Go.Proofs.Ytcgmllamiaflcaa
open Go.RowKit Go.Sort

end Go.Proofs.Ytcgmllamiaflcaa

/- Curves (lists.Curve): what both sides reckon; the calls that they make. -/
namespace Go.Proofs.Ytcgmllamiaflcaa
open Go.RowKit Go.Sort

theorem zc_nat {n : Nat} {c : Nat → Nat} (h : Bd n c) : zc n (fun j => ((c j : Nat) : Int)) = c := by
  funext j
  unfold zc
  by_cases e : j < n
  · rw [if_pos e]; simp
  · rw [if_neg e, h j (by omega)]
theorem chk_nat {D : FD} {n : Nat} {c : Nat → Nat} (h : El D c) (hn : n ≤ 128) : D.chk n (fun j => ((c j : Nat) : Int)) = 0 := by
  unfold FD.chk
  rw [if_neg (by omega), if_pos (allHas_iff.2 (fun j _ => has_of_lt (h j)))]
theorem OwnP.arg {base n : Nat} {v : Value} {c : Nat → Nat} {w : World} (h : OwnP base v n c w) (hn : n ≤ 1000000) : ∃ so sc, v = .slice so n sc ∧ Arg so n sc (fun j => ((c j : Nat) : Int)) w := by
  obtain ⟨so, sc, rfl, h1, h2, _, h4, h5, h6⟩ := h.open
  exact ⟨so, sc, rfl, h6, h4, hn, h5, h1, h2⟩
theorem arg_nil (w : World) (z : Nat → Int) : Arg none 0 0 z w := ⟨fun j hj => absurd hj (by omega), fun x hx => (by cases hx), by omega, fun _ => rfl, by omega, by omega⟩
theorem MatZ.arg {ao : Option Addr} {m : Nat} {A : Nat → Option Addr} {N C : Nat → Nat} {Z : Nat → Nat → Int} {w : World} (h : MatZ ao m A N C Z w) {j : Nat} (hj : j < m) (hN : N j ≠ 0) : Arg (A j) (N j) (C j) (Z j) w := by
  refine ⟨h.sl j hj, fun x hx => ?_, h.few j hj, h.nil j hj, h.le j hj, h.cap j hj⟩
  obtain ⟨b, off, e, hc⟩ := h.sl j hj 0 (by omega)
  rw [hx] at e
  cases e
  exact cell_lt hc
end Go.Proofs.Ytcgmllamiaflcaa

/- Curves: the program's, and the reference's. -/
namespace Go.Proofs.Ytcgmllamiaflcaa
open Go.RowKit Go.Sort

end Go.Proofs.Ytcgmllamiaflcaa

/- Curves: the reference's. -/
namespace Go.Proofs.Ytcgmllamiaflcaa
open Go.RowKit Go.Sort

end Go.Proofs.Ytcgmllamiaflcaa

/- ListsCurve: the walk of the statement, whatever it is given. -/
namespace Go.Proofs.Ytcgmllamiaflcaa
open Go.RowKit Go.Sort

end Go.Proofs.Ytcgmllamiaflcaa

/- Matrices out of raw numbers (MatrixOf). -/
namespace Go.Proofs.Ytcgmllamiaflcaa
open Go.RowKit Go.Sort

def slA (v : Value) : Option Addr := match v with | .slice a _ _ => a | _ => none
def slC (v : Value) : Nat := match v with | .slice _ _ c => c | _ => 0
end Go.Proofs.Ytcgmllamiaflcaa

/- Plain mathematics: the shortest rule of a list (Berlekamp and Massey). -/
namespace Go.Proofs.Ytcgmllamiaflcaa

end Go.Proofs.Ytcgmllamiaflcaa

/- The program's rules (reed): trim, missed, less. -/
namespace Go.Proofs.Ytcgmllamiaflcaa
open Go.RowKit Go.Sort

set_option maxHeartbeats 4000000 in
set_option maxRecDepth 100000 in
theorem eless_any {F T : Nat} {D : FD} (hD : D ∈ fieldsL) {g : Nat → Value} {w : World} (hat : FAt F T D g w) {ao bo : Option Addr} {n m ca cb t : Nat} {a b : Nat → Nat} (hn : n ≤ 1000) (hm : m ≤ 1000) (ha : El D a) (hb : El D b) (hbn : Bd n a) (hbm : Bd m b) (hA : Sl ao n a w) (hB : Sl bo m b w) (hla : LtB ao w.heap.size) (hlb : LtB bo w.heap.size) (ht : t < D.q) :
    Calls Try.prog 63 #[.pointer (some ⟨F, 0, none⟩), .slice ao n ca, .int .i64 (t : Nat), .slice bo m cb] w fun e w' =>
      e = .returned (.slice (some ⟨w.heap.size, 0, none⟩) (max n m) (max n m)) ∧ Row w.heap.size (max n m) (psub D a (pscale D t b)) w' ∧ Below w.heap.size w w' := by
  have HF : Hid (FAt F T D g w ∧ D ∈ fieldsL ∧ Sl ao n a w ∧ Sl bo m b w ∧ El D a ∧ El D b ∧ Bd n a ∧ Bd m b ∧ LtB ao w.heap.size ∧ LtB bo w.heap.size) := ⟨hat, hD, hA, hB, ha, hb, hbn, hbm, hla, hlb⟩
  clear hat hD hA hB ha hb hbn hbm hla hlb
  obtain ⟨N, hN⟩ : ∃ N, N = max n m := ⟨_, rfl⟩
  rw [← hN]
  have hN2 : N ≤ 1000 := by omega
  have hnN : n ≤ N := by omega
  have hmN : m ≤ N := by omega
  have hmax : (if (n : Int) < (m : Int) then (m : Int) else (n : Int)) = (N : Int) := by split <;> omega
  have HN : Hid (N = max n m) := hN
  clear hN
  go_enter Try.func63, Try.ntmps63
  go_wp2_with (first
    | (at_make; refine make_int rfl _ _ rfl _ N rfl rfl (by have := HN.out; omega) (by omega) ?_; intro w1 hown1 hgrow1)
    | (show wpList _ _ _ (Oper.mk (some 20) _ _ _ _ _ :: _) _ _; (refine copy_int rfl _ _ rfl w.heap.size N N n ca ao rfl rfl pnil a (row_zeros hown1) (HF.out.2.2.1.below (below_grown hgrow1 (Nat.le_refl _) (fun k hk => by simp at hk)) HF.out.2.2.2.2.2.2.2.2.1) hnN w.heap.size w (below_grown hgrow1 (Nat.le_refl _) (fun k hk => by simp at hk)) (Nat.le_refl _) ?_); intro w2 hrow2 hb2))
  all_goals
    have HB1 : Hid (Below w.heap.size w w2 ∧ Row w.heap.size N a w2) := ⟨hb2, hrow2.congr (fun k _ => by show (if k < n then a k else pnil k) = a k; split; rfl; exact (HF.out.2.2.2.2.2.2.1 k (by omega)).symm)⟩
    clear hown1 hgrow1 hb2 hrow2
    obtain ⟨gr, hg⟩ : ∃ g, g = w.heap.size := ⟨_, rfl⟩
    have HB2 : Hid (Below w.heap.size w w2 ∧ Row gr N a w2 ∧ gr = w.heap.size) := by rw [hg]; exact ⟨HB1.out.1, HB1.out.2, rfl⟩
    rw [← hg]
    have hgD : w.heap.size ≤ gr := by omega
    clear HB1 hg
    go_loopw [23] (fun i wr => ∃ r : Nat, r ≤ m ∧ i = .int .i64 r ∧ Hid (Row gr N (fun k => if k < r then D.sb (a k) (D.mul t (b k)) else a k) wr ∧ Below w.heap.size w wr)) (fun i _ => m - (intOf i).toNat)
    case atStart => exact ⟨0, by omega, rfl, HB2.out.2.1.congr (fun k _ => by rw [if_neg (by omega)]), HB2.out.1⟩
    case round =>
      obtain ⟨r, hr, rfl, HG⟩ := hrel
      rename World => wr
      by_cases hlt : r < m
      · obtain ⟨bb, offb, rfl, hcb⟩ := (HF.out.2.2.2.1.below HG.out.2 HF.out.2.2.2.2.2.2.2.2.2) r hlt
        have hco : wr.cell? ⟨gr, r, none⟩ = some (.int .i64 (a r : Nat)) := by
          have h := HG.out.1.cell r (by omega)
          rw [if_neg (by omega)] at h; exact h
        have hfo := HG.out.1.free r
        obtain ⟨ax, hax⟩ : ∃ ax, ax = a r := ⟨_, rfl⟩
        obtain ⟨bx, hbx⟩ : ∃ bx, bx = b r := ⟨_, rfl⟩
        rw [← hax] at hco
        rw [← hbx] at hcb
        obtain ⟨y, hy⟩ : ∃ y, y = D.mul t bx := ⟨_, rfl⟩
        obtain ⟨u, hu⟩ : ∃ u, u = D.sb ax y := ⟨_, rfl⟩
        have F' := fld HF.out.2.1
        have hatr := HF.out.1.below HG.out.2 HF.out.1.ltF HF.out.1.ltT
        have HC1 : Hid (∀ d, Calls Try.prog 20 #[.pointer (some ⟨F, 0, none⟩), .int .i64 (t : Nat), .int .i64 (bx : Nat)] (wr.drewN d) fun e w' => e = .returned (.int .i64 (y : Nat)) ∧ ∃ k, w' = (wr.drewN d).drewN k) := fun d => by
          rw [hy]; exact mul_nat HF.out.2.1 (hatr.drewN d) ht (by rw [hbx]; exact HF.out.2.2.2.2.2.1 r)
        have HC2 : Hid (∀ d, Calls Try.prog 22 #[.pointer (some ⟨F, 0, none⟩), .int .i64 (ax : Nat), .int .i64 (y : Nat)] (wr.drewN d) fun e w' => e = .returned (.int .i64 (u : Nat)) ∧ ∃ k, w' = (wr.drewN d).drewN k) := fun d => by
          rw [hu]; exact sub_nat HF.out.2.1 (hatr.drewN d) (by rw [hax]; exact HF.out.2.2.2.2.1 r) (by rw [hy]; exact F'.mul_lt _ _)
        have HV : Hid (∀ k, k < N → (if k < r + 1 then D.sb (a k) (D.mul t (b k)) else a k) = if k = r then u else if k < r then D.sb (a k) (D.mul t (b k)) else a k) := fun k _ => by
          rw [hu, hy, hax, hbx]
          by_cases e : k = r
          · rw [if_pos e, if_pos (by omega), e]
          · rw [if_neg e]
            by_cases e2 : k < r
            · rw [if_pos e2, if_pos (by omega)]
            · rw [if_neg e2, if_neg (by omega)]
        have hib : (r : Int) < (N : Int) := by omega
        have hib2 : (r : Int) < (m : Int) := by omega
        clear hax hbx hy hu F' hatr
        go_wp2
        refine quiet_tail 13 (by kernel_rfl) (by kernel_rfl) ?_
        simp only [List.take_succ_cons, List.take_zero, List.drop_succ_cons, List.drop_zero]
        repeat (go_big_quiet_step (first | (go_at_call 20; exact Calls.quiet_of (HC1.out _)) | (go_at_call 22; exact Calls.quiet_of (HC2.out _)) | fail))
        refine wpQuiet_nil ?_
        intro _ hw'
        obtain ⟨nq, hw''⟩ := hw'
        subst hw''
        go_wp2
        go_roundw
        case rel => exact ⟨r + 1, by omega, by go_num, (HG.out.1.drewN nq).store r u HV.out, (below_drewN2 HG.out.2 nq).setCell hgD _⟩
        case measure => simp [intOf]; omega
      · have hib2 : ¬ (r : Int) < (m : Int) := by omega
        have HE : Hid (Row gr N (psub D a (pscale D t b)) wr) := HG.out.1.congr (fun k _ => by
          show (if k < r then D.sb (a k) (D.mul t (b k)) else a k) = D.sb (a k) (D.mul t (b k))
          split
          · rfl
          · rw [HF.out.2.2.2.2.2.2.2.1 k (by omega), mul0 (fld HF.out.2.1), sb_zero (fld HF.out.2.1) (HF.out.2.2.2.2.1 k)])
        go_wp2
        go_ret
        refine ⟨by rw [← HB2.out.2.2]; rfl, ?_, HG.out.2⟩
        rw [← HB2.out.2.2]; exact HE.out
end Go.Proofs.Ytcgmllamiaflcaa

/- The program's rules (reed): the shortest one (shortest, Massey). -/
namespace Go.Proofs.Ytcgmllamiaflcaa
open Go.RowKit Go.Sort

theorem Arg.drewN {ao : Option Addr} {n cap : Nat} {z : Nat → Int} {w : World} (h : Arg ao n cap z w) (k : Nat) : Arg ao n cap z (w.drewN k) := ⟨h.sl, h.lt, h.few, h.nil, h.le, h.cap⟩

end Go.Proofs.Ytcgmllamiaflcaa

/- The program's Massey; lists that are far too long. -/
namespace Go.Proofs.Ytcgmllamiaflcaa
open Go.RowKit Go.Sort

end Go.Proofs.Ytcgmllamiaflcaa

/- Equations that can be met, and the rules of shorter length. -/
namespace Go.Proofs.Ytcgmllamiaflcaa
open Go.RowKit Go.Sort

/-- The sum of the products, place by place. -/
def dt (D : FD) (u v : Nat → Nat) : Nat → Nat
  | 0 => 0
  | n + 1 => D.ad (dt D u v n) (D.mul (u n) (v n))
theorem dt_lt {D : FD} (F : Fld D) (u v : Nat → Nat) : ∀ n, dt D u v n < D.q
  | 0 => zero_lt' F
  | n + 1 => ad_lt F (dt_lt F u v n) (F.mul_lt _ _)
theorem dt_nil {D : FD} (F : Fld D) (v : Nat → Nat) : ∀ n, dt D pnil v n = 0
  | 0 => rfl
  | n + 1 => by
    show D.ad (dt D pnil v n) (D.mul 0 (v n)) = 0
    rw [dt_nil F v n, zmul F, ad_zero F (zero_lt' F)]
theorem dt_add {D : FD} (F : Fld D) {u u' : Nat → Nat} (v : Nat → Nat) (hu : El D u) (hu' : El D u') : ∀ n, dt D (padd D u u') v n = D.ad (dt D u v n) (dt D u' v n)
  | 0 => (ad_zero F (zero_lt' F)).symm
  | n + 1 => by
    show D.ad (dt D (padd D u u') v n) (D.mul (D.ad (u n) (u' n)) (v n)) = _
    rw [dt_add F v hu hu' n, ad_mul F (hu n) (hu' n), ad4 F (dt_lt F _ _ _) (dt_lt F _ _ _) (F.mul_lt _ _) (F.mul_lt _ _)]
    rfl
theorem dt_scale {D : FD} (F : Fld D) (s : Nat) (u v : Nat → Nat) : ∀ n, dt D (pscale D s u) v n = D.mul s (dt D u v n)
  | 0 => (mul0 F s).symm
  | n + 1 => by
    show D.ad (dt D (pscale D s u) v n) (D.mul (D.mul s (u n)) (v n)) = D.mul s (D.ad (dt D u v n) (D.mul (u n) (v n)))
    rw [dt_scale F s u v n, F.mul_assoc, mul_ad F (dt_lt F _ _ _) (F.mul_lt _ _)]
theorem dt_same {D : FD} {u v v' : Nat → Nat} : ∀ n, (∀ j, j < n → v j = v' j) → dt D u v n = dt D u v' n
  | 0, _ => rfl
  | n + 1, h => by
    show D.ad (dt D u v n) (D.mul (u n) (v n)) = D.ad (dt D u v' n) (D.mul (u n) (v' n))
    rw [dt_same n (fun j hj => h j (by omega)), h n (by omega)]
theorem dt_put {D : FD} (F : Fld D) {u v : Nat → Nat} {a c : Nat} (hv : v a = 0) : ∀ n, a < n → dt D u (fun j => if j = a then c else v j) n = D.ad (dt D u v n) (D.mul (u a) c)
  | 0, h => absurd h (by omega)
  | n + 1, h => by
    show D.ad (dt D u (fun j => if j = a then c else v j) n) (D.mul (u n) (if n = a then c else v n)) = D.ad (D.ad (dt D u v n) (D.mul (u n) (v n))) (D.mul (u a) c)
    by_cases e : n = a
    · subst e
      rw [if_pos rfl, hv, mul0 F, ad_zero F (dt_lt F _ _ _), dt_same n (v' := v) (fun j hj => if_neg (by omega))]
    · rw [if_neg e, dt_put F hv n (by omega), ad_assoc F (dt_lt F _ _ _) (F.mul_lt _ _) (F.mul_lt _ _), ad_assoc F (dt_lt F _ _ _) (F.mul_lt _ _) (F.mul_lt _ _), ad_comm F (D.mul (u a) c)]
theorem slx_none {R : Nat → Nat → Nat} {p : Nat → Nat} {n j : Nat} : ∀ r, (∀ i, i < r → p i ≠ j) → slx R p n r j = 0
  | 0, _ => rfl
  | r + 1, h => by
    show (if j = p r then R r n else slx R p n r j) = 0
    rw [if_neg (fun e => h r (by omega) e.symm), slx_none r (fun i hi => h i (by omega))]
theorem slx_el {D : FD} (F : Fld D) {R : Nat → Nat → Nat} {p : Nat → Nat} {n : Nat} : ∀ r, (∀ i, i < r → El D (R i)) → El D (slx R p n r)
  | 0, _ => fun _ => zero_lt' F
  | r + 1, h => fun j => by
    show (if j = p r then R r n else slx R p n r j) < D.q
    split
    · exact h r (by omega) n
    · exact slx_el F r (fun i hi => h i (by omega)) j
theorem dt_slx {D : FD} (F : Fld D) {n k : Nat} {R : Nat → Nat → Nat} {p : Nat → Nat} (h : RRE D (n + 1) k R p) (hp : ∀ i, i < k → p i ≠ n) (i : Nat) (hi : i < k) : ∀ r, r ≤ k → dt D (R i) (slx R p n r) n = if i < r then R i n else 0
  | 0, _ => by
    rw [if_neg (by omega)]
    have e : ∀ n, dt D (R i) (slx R p n 0) n = 0 := fun n => by
      have : ∀ m, dt D (R i) (slx R p n 0) m = 0 := fun m => by
        induction m with
        | zero => rfl
        | succ m ih =>
          show D.ad (dt D (R i) (slx R p n 0) m) (D.mul (R i m) 0) = 0
          rw [ih, mul0 F, ad_zero F (zero_lt' F)]
      exact this n
    exact e n
  | r + 1, hr => by
    have hpr : p r < n := by have := h.lt r (by omega); have := hp r (by omega); omega
    have e := dt_put F (u := R i) (v := slx R p n r) (a := p r) (c := R r n) (slx_none r (fun j hj => by have := h.mono j r hj (by omega); omega)) n hpr
    have e2 : slx R p n (r + 1) = fun j => if j = p r then R r n else slx R p n r j := rfl
    rw [e2, e, dt_slx F h hp i hi r (by omega)]
    by_cases e3 : i = r
    · subst e3
      rw [if_neg (by omega), if_pos (by omega), h.one i hi, omul F (h.el i hi n), zero_ad F (h.el i hi n)]
    · rw [h.zero i r hi (by omega) e3, zmul F]
      by_cases e4 : i < r
      · rw [if_pos e4, if_pos (by omega), ad_zero F (h.el i hi n)]
      · rw [if_neg e4, if_neg (by omega), ad_zero F (zero_lt' F)]
/-- What the reduced equations say is a solution. -/
theorem slx_solves {D : FD} (F : Fld D) {m n k : Nat} {R M : Nat → Nat → Nat} {p b : Nat → Nat} (h : RRE D (n + 1) k R p) (hp : ∀ i, i < k → p i ≠ n) (hel : ∀ i, i < m → El D (M i)) (hb : ∀ i, i < m → b i < D.q) (hs : ∀ v, Spn D (RowsOf k R) v ↔ Spn D (RowsOf m (aug n M b)) v) (i : Nat) (hi : i < m) : dt D (M i) (slx R p n k) n = b i := by
  have h1 : Spn D (RowsOf k R) (aug n M b i) := (hs _).2 (spn_mem F (aug_el (hel i hi) (hb i hi)) ⟨i, hi, rfl⟩)
  have h2 : El D (aug n M b i) ∧ dt D (aug n M b i) (slx R p n k) n = aug n M b i n := by
    refine spn_ind (Q := fun v => El D v ∧ dt D v (slx R p n k) n = v n) ⟨el_nil F, dt_nil F _ _⟩ ?_ ?_ ?_ h1
    · rintro u v ⟨a1, a2⟩ ⟨b1, b2⟩
      refine ⟨el_add F a1 b1, ?_⟩
      rw [dt_add F _ a1 b1, a2, b2]; rfl
    · rintro s v ⟨a1, a2⟩
      refine ⟨el_scale F _ _, ?_⟩
      rw [dt_scale F, a2]; rfl
    · rintro v ⟨j, hj, rfl⟩
      refine ⟨h.el j hj, ?_⟩
      rw [dt_slx F h hp j hj k (Nat.le_refl _), if_pos hj]
  have h3 := h2.2
  have e1 : ∀ r, r ≤ n → dt D (aug n M b i) (slx R p n k) r = dt D (M i) (slx R p n k) r := fun r => by
    induction r with
    | zero => intro _; rfl
    | succ r ih =>
      intro hr
      show D.ad (dt D (aug n M b i) (slx R p n k) r) (D.mul (aug n M b i r) _) = D.ad (dt D (M i) (slx R p n k) r) (D.mul (M i r) _)
      rw [ih (by omega)]
      have : aug n M b i r = M i r := if_neg (by omega)
      rw [this]
  rw [e1 n (Nat.le_refl _)] at h3
  rw [h3]
  exact if_pos rfl
end Go.Proofs.Ytcgmllamiaflcaa

/- The reference's Rules: does the rule hold? -/
namespace Go.Proofs.Ytcgmllamiaflcaa
open Go.RowKit Go.Sort

end Go.Proofs.Ytcgmllamiaflcaa
