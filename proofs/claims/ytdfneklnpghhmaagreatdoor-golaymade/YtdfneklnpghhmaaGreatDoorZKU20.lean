/- Texts of ours, one behind the other: KU20 KU21. -/
import Derived.Test.YtdfneklnpghhmaaGreatDoorZKU19
import Derived.Test.YtdfneklnpghhmaaGreatDoorZKU16
import Derived.Test.YtdfneklnpghhmaaGreatDoorZKU12
import Derived.Test.YtdfneklnpghhmaaGreatDoorZKA6
import Derived.Test.YtdfneklnpghhmaaGreatDoorZI6
import Derived.Test.YtdfneklnpghhmaaGreatDoorZO2
import Derived.Test.YtdfneklnpghhmaaGreatDoorZI22
/- GolayBlocks, joined. -/
namespace Go.Proofs.YtdfneklnpghhmaaGreatDoor
open Go.RowKit Go.Sort

theorem bls_next (q n : Nat) : ∀ r, bls q (n + 1) (r + 1) = bls q n (r + 1) + (q - 1) * bls q n r
  | 0 => by
    show bls q (n + 1) 0 + (q - 1) ^ 0 * chs (n + 1) 0 = bls q n 0 + (q - 1) ^ 0 * chs n 0 + (q - 1) * 0
    rw [chs_zero, chs_zero]; rfl
  | r + 1 => by
    show bls q (n + 1) (r + 1) + (q - 1) ^ (r + 1) * chs (n + 1) (r + 1) = bls q n (r + 1) + (q - 1) ^ (r + 1) * chs n (r + 1) + (q - 1) * (bls q n r + (q - 1) ^ r * chs n r)
    rw [bls_next q n r]
    have e : chs (n + 1) (r + 1) = chs n r + chs n (r + 1) := rfl
    have e2 : (q - 1) ^ (r + 1) * chs n r = (q - 1) * ((q - 1) ^ r * chs n r) := by rw [Nat.pow_succ, Nat.mul_comm ((q - 1) ^ r) (q - 1), Nat.mul_assoc]
    rw [e, Nat.mul_add, e2, Nat.mul_add]
    omega
theorem chs_past : ∀ n k, n < k → chs n k = 0
  | 0, 0, h => absurd h (by omega)
  | 0, _ + 1, _ => rfl
  | n + 1, 0, h => absurd h (by omega)
  | n + 1, k + 1, h => by
    show chs n k + chs n (k + 1) = 0
    rw [chs_past n k (by omega), chs_past n (k + 1) (by omega)]
theorem bls_full {q : Nat} (hq : 1 ≤ q) : ∀ n, bls q n (n + 1) = q ^ n
  | 0 => by show 0 + (q - 1) ^ 0 * chs 0 0 = 1; rw [chs_zero]; rfl
  | n + 1 => by
    rw [bls_next]
    have e : bls q n (n + 1 + 1) = bls q n (n + 1) := by
      show bls q n (n + 1) + (q - 1) ^ (n + 1) * chs n (n + 1) = _
      rw [chs_past n (n + 1) (by omega), Nat.mul_zero, Nat.add_zero]
    rw [e, bls_full hq n, Nat.pow_succ]
    have : q ^ n + (q - 1) * q ^ n = q * q ^ n := by
      obtain ⟨p, rfl⟩ : ∃ p, q = p + 1 := ⟨q - 1, by omega⟩
      rw [Nat.add_sub_cancel, Nat.add_mul, Nat.one_mul, Nat.add_comm]
    rw [this, Nat.mul_comm]
theorem lwt_ex (c : Nat → Nat) : ∀ N, ∃ d, Lwt c N d
  | 0 => ⟨0, Or.inl ⟨rfl, fun i _ h => absurd h (by omega)⟩⟩
  | N + 1 => by
    obtain ⟨d, h⟩ := lwt_ex c N
    rcases h with ⟨h1, h2⟩ | ⟨h1, h2, h3, h4⟩
    · by_cases hN : N = 0
      · exact ⟨0, Or.inl ⟨rfl, fun i a b => absurd a (by omega)⟩⟩
      · by_cases hc : c N = 0
        · refine ⟨0, Or.inl ⟨rfl, fun i a b => ?_⟩⟩
          by_cases e : i = N
          · rw [e]; exact hc
          · exact h2 i a (by omega)
        · exact ⟨N, Or.inr ⟨by omega, by omega, by omega, fun i a b => h2 i a b⟩⟩
    · exact ⟨d, Or.inr ⟨h1, by omega, h3, h4⟩⟩
theorem tsm_pos {f : Nat → Nat} {i : Nat} (hf : 0 < f i) : ∀ n, i < n → 0 < tsm (fun j => ((f j : Nat) : Int)) n
  | 0, h => absurd h (by omega)
  | n + 1, h => by
    rw [tsm_succ]
    have h0 := tsm_nn (N := n) (f := fun j => ((f j : Nat) : Int)) (fun j _ => Int.natCast_nonneg _) n (Nat.le_refl _)
    by_cases e : i = n
    · subst e; show 0 < tsm _ i + ((f i : Nat) : Int); omega
    · have := tsm_pos hf n (by omega); show 0 < tsm _ n + ((f n : Nat) : Int); omega
theorem tsm_zero {c : Nat → Nat} {n d r : Nat} (h : Lwt c (n + 1) d) : (tsm (fun i => ((c (1 + i) : Nat) : Int)) (min (2 * r) n) = 0) ↔ (d = 0 ∨ 2 * r < d) := by
  constructor
  · intro h0
    by_cases e : d = 0
    · exact Or.inl e
    · right
      rcases h with ⟨h1, _⟩ | ⟨h1, h2, h3, _⟩
      · exact absurd h1 e
      · rcases Nat.lt_or_ge (2 * r) d with q | q
        · exact q
        · have := tsm_pos (f := fun i => c (1 + i)) (i := d - 1) (by show 0 < c (1 + (d - 1)); rw [show 1 + (d - 1) = d by omega]; exact h3) (min (2 * r) n) (by omega)
          rw [h0] at this
          omega
  · intro h0
    refine tsm_none _ fun i hi => ?_
    rcases h with ⟨_, h2⟩ | ⟨h1, h2, h3, h4⟩
    · rw [h2 (1 + i) (by omega) (by omega)]; rfl
    · rw [h4 (1 + i) (by omega) (by omega)]; rfl
theorem pfB_is {D : FD} (F : Fld D) {R : Nat → Nat → Nat} {n k r d : Nat} (hk : k ≤ n) (h : Lwt (wcn D R n k (D.q ^ k)) (n + 1) d) :
    pfB D R n k r = (decide (d = 0 ∨ 2 * r < d) && decide (bls D.q n (r + 1) = D.q ^ (n - k))) := by
  unfold pfB
  have h2 := F.q2
  have e1 : decide (tsm (fun i => ((wcn D R n k (D.q ^ k) (1 + i) : Nat) : Int)) (min (2 * r) n) = 0) = decide (d = 0 ∨ 2 * r < d) := decide_eq_decide.2 (tsm_zero h)
  have e2 : decide (D.q ^ k * bls D.q n (r + 1) = bls D.q n (n + 1)) = decide (bls D.q n (r + 1) = D.q ^ (n - k)) := by
    refine decide_eq_decide.2 ?_
    have hp : 0 < D.q ^ k := Nat.pow_pos (by omega)
    have e3 : D.q ^ n = D.q ^ k * D.q ^ (n - k) := by rw [← Nat.pow_add, show k + (n - k) = n by omega]
    rw [bls_full (by omega), e3]
    exact Nat.mul_right_inj (by omega)
  rw [e1, e2]
/-- The keys of the blocks, in order, each once. -/
def BkL (D : FD) (R : Nat → Nat → Nat) (n k wt : Nat) (v : Value) (w : World) : Prop := ∃ base B, Inc B ∧ (∀ x, x ∈ B ↔ ∃ r, r < D.q ^ k ∧ wgr D R n k r = wt ∧ x = kyP (pLs (wnz D R k r) n)) ∧ B.length ≤ 4096 ∧ KLm base v wt B w
theorem BkL.below {D : FD} {R : Nat → Nat → Nat} {n k wt : Nat} {v : Value} {w w' : World} (h : BkL D R n k wt v w) (hb : Below w.heap.size w w') : BkL D R n k wt v w' := by
  obtain ⟨base, B, h1, h2, h3, h4⟩ := h
  exact ⟨base, B, h1, h2, h3, h4.below hb⟩
theorem BkL.same {D : FD} {R : Nat → Nat → Nat} {n k wt : Nat} {v v' : Value} {w : World} (h : BkL D R n k wt v w) (h' : BkL D R n k wt v' w) (hw : wt ≤ 64) :
    Calls Tryz.prog 9 #[v, .int .i64 0, v', .int .i64 0] w fun r w' => r = .returned (.bool true) ∧ ∃ n, w' = w.drewN n := by
  obtain ⟨_, N, h1, h2, h3, h4⟩ := h
  obtain ⟨_, N', k1, k2, k3, k4⟩ := h'
  have e : N = N' := inc_eq h1 k1 fun x => (h2 x).trans (k2 x).symm
  subst e
  exact lists_rl h4.rl k4.rl (by omega) (by omega)
theorem wnz_congr {D : FD} {R R' : Nat → Nat → Nat} {k : Nat} (h : wdr D R k = wdr D R' k) : wnz D R k = wnz D R' k := by unfold wnz; rw [h]
theorem wgr_cong2 {D : FD} {R R' : Nat → Nat → Nat} {n k : Nat} (h : wdr D R k = wdr D R' k) : wgr D R n k = wgr D R' n k := funext fun _ => by unfold wgr; rw [h]
theorem BkL.congr {D : FD} {R R' : Nat → Nat → Nat} {n k wt : Nat} {v : Value} {w : World} (h : wdr D R k = wdr D R' k) (hB : BkL D R n k wt v w) : BkL D R' n k wt v w := by
  unfold BkL at hB ⊢
  rw [wnz_congr h, wgr_cong2 h] at hB
  exact hB
/-- What golay.Blocks tells are these. -/
theorem blk_of {D : FD} {R : Nat → Nat → Nat} {n k wt base : Nat} (hn : n ≤ 64) (hF : D.q ^ k ≤ 4096) {L A : List Nat} {v : Value} {w : World} (hA : List.Pairwise (fun a b => a ≤ b) A) (hpA : A.Perm (L.map fun s => kyP (plN s))) (hp : L.Perm (gsl D R n k wt (D.q ^ k))) (hnd : (gsl D R n k wt (D.q ^ k)).Nodup) (hv : KLm base v wt A w) : BkL D R n k wt v w := by
  have hnd' : L.Nodup := hp.nodup_iff.2 hnd
  have hof : ∀ x ∈ L, ∃ r, r < D.q ^ k ∧ wgr D R n k r = wt ∧ x = wst D R n k r := fun x hx => (gsl_mem D R n k wt x _).1 (hp.mem_iff.1 hx)
  have h1 : (L.map fun s => kyP (plN s)).Nodup := by
    rw [List.Nodup, List.pairwise_map]
    refine List.Pairwise.imp_of_mem (fun {a b} ha hb hab e => hab ?_) hnd'
    obtain ⟨r, _, hr, rfl⟩ := hof a ha
    obtain ⟨s, _, hs, rfl⟩ := hof b hb
    have lt : ∀ r, ∀ x ∈ pLs (wnz D R k r) n, x < 64 := fun r x hx => by have := pLs_lt x hx; omega
    rw [wst_places D R k r hn, wst_places D R k s hn] at e
    have e2 := kyP_inj (by rw [wnz_len, wnz_len, hr, hs]) (lt r) (lt s) e
    rw [← wst_places D R k r hn, ← wst_places D R k s hn] at e2
    exact plN_inj (wst_lt D R k r hn) (wst_lt D R k s hn) e2
  refine ⟨base, A, inc_of hA (hpA.nodup_iff.2 h1), fun x => ?_, ?_, hv⟩
  · rw [hpA.mem_iff, List.mem_map]
    constructor
    · rintro ⟨s, hs, rfl⟩
      obtain ⟨r, a, b, rfl⟩ := hof s hs
      exact ⟨r, a, b, by rw [wst_places D R k r hn]⟩
    · rintro ⟨r, a, b, rfl⟩
      exact ⟨wst D R n k r, hp.mem_iff.2 ((gsl_mem D R n k wt _ _).2 ⟨r, a, b, rfl⟩), by rw [wst_places D R k r hn]⟩
  · rw [hpA.length_eq, List.length_map, hp.length_eq]
    have := gsl_len D R n k wt (D.q ^ k)
    omega
theorem gsl_nd (D : FD) (R : Nat → Nat → Nat) (n k wt : Nat) : ∀ N, (gsl D R n k wt N).Nodup
  | 0 => List.nodup_nil
  | N + 1 => by
    show (if wgr D R n k N = wt then addL (gsl D R n k wt N) (wst D R n k N) else gsl D R n k wt N).Nodup
    have ih := gsl_nd D R n k wt N
    split
    · unfold addL
      split
      · exact ih
      · rename_i c
        rw [List.nodup_append]
        refine ⟨ih, by simp, fun a ha b hb e => c ?_⟩
        rw [List.mem_singleton.1 hb] at e
        rw [← e]; exact List.contains_iff_mem.2 ha
    · exact ih
theorem wcn_cong2 {D : FD} {R R' : Nat → Nat → Nat} {n k : Nat} (h : wdr D R k = wdr D R' k) : wcn D R n k = wcn D R' n k := funext fun r => by
  induction r with
  | zero => rfl
  | succ r ih => funext x; show wcn D R n k r x + _ = wcn D R' n k r x + _; rw [ih, wgr_cong2 h]

set_option maxHeartbeats 4000000 in
theorem golayBlocks_light (q n wt r : Int) {ao : Option Addr} {m ca : Nat} {A : Nat → Option Addr} {N C : Nat → Nat} {Z : Nat → Nat → Int} {w : World} (hA : MatZ ao m A N C Z w) (hm : m ≤ 1000000) (hwt : I64 wt) (hr : I64 r) (hT : TzOk w)
    (hHv : ∀ wx, Below w.heap.size w wx → Calls Tryz.prog 5 #[.slice ao m ca] wx fun r w' => r = .returned (.bool false) ∧ w' = wx) :
    Calls Tryz.prog 3 #[.agg #[.int .i64 q, .int .i64 n, .slice ao m ca], .int .i64 wt, .int .i64 r] w fun r w' => r = .returned (.bool true) ∧ Below w.heap.size w w' := by
  obtain ⟨E, hChk, hMay, hok⟩ := code_may q n ca hA hm
  by_cases hE : E = 0
  · subst hE
    obtain ⟨D, hD, rfl, n', rfl, cA⟩ := hok rfl
    have F := fld hD
    obtain ⟨hm64, hel, hbd, _⟩ := cA.rows F
    have hn1 := cA.n1
    have hn64 := cA.n64
    have mat : ∀ wx, Below w.heap.size w wx → MatR ao m (n' - 1) (mzc N Z) wx := fun wx hx => ((cA.below hx).rows F).2.2.2
    have hnn : n' = n' - 1 + 1 := by omega
    have hel' : ∀ i, i < m → El D (mzc N Z i) ∧ Bd (n' - 1 + 1) (mzc N Z i) := fun i hi => ⟨hel i hi, by rw [← hnn]; exact hbd i hi⟩
    obtain ⟨k, R, p, hkn, hrre, hsp⟩ := rre_ex hD hel hbd
    have hred : Red D n' m (mzc N Z) k R := ⟨p, hrre, hsp⟩
    have hkle : k ≤ n' := hred.le
    have same : ∀ k' R', Red D n' m (mzc N Z) k' R' → k' = k ∧ wdr D R' k' = wdr D R k := fun k' R' h => by
      obtain ⟨e, e2⟩ := Red.uniq F h hred (fun _ => Iff.rfl)
      subst e
      exact ⟨rfl, funext fun _ => enw_congr e2⟩
    clear hsp
    have cod : ∀ wx, Below w.heap.size w wx → Cod D n' ao m (mzc N Z) wx := fun wx hx => ⟨_, _, _, _, cA.below hx, fun _ _ => rfl⟩
    have hW : ∀ wx, Below w.heap.size w wx → Calls Tryz.prog 25 #[.agg #[.int .i64 D.q, .int .i64 (n' : Nat), .slice ao m ca]] wx (WsP D n' m (mzc N Z) wx) := fun wx hx => Cod.wts hD ca (cod wx hx)
    have hWm : ∀ wx, Below w.heap.size w wx → Calls Tryz.prog 6 #[.agg #[.int .i64 D.q, .int .i64 (n' : Nat), .slice ao m ca]] wx (WmP D n' m (mzc N Z) wx) := fun wx hx => rweightsMay_ok hD (by omega) hn64 hnn hel' (mat wx hx) (fun wy hy => hMay wy (bel_up' hx hy))
    by_cases hfew : D.q ^ k ≤ 4096
    · have hF : ∀ k' R', Red D n' m (mzc N Z) k' R' → D.q ^ k' ≤ 4096 := fun k' R' h => by rw [(same k' R' h).1]; exact hfew
      have a1 : ∀ wx, Below w.heap.size w wx → Calls Tryz.prog 6 #[.agg #[.int .i64 D.q, .int .i64 (n' : Nat), .slice ao m ca]] wx fun x w' => x = .returned (.int .i64 0) ∧ Below wx.heap.size wx w' := fun wx hx => (hWm wx hx).mono fun x w' ⟨k', R', hr, hx', hb⟩ => ⟨by rw [hx', if_pos (hF k' R' hr)], hb⟩
      have a2 : ∀ wx, Below w.heap.size w wx → Calls Tryz.prog 25 #[.agg #[.int .i64 D.q, .int .i64 (n' : Nat), .slice ao m ca]] wx fun x w' => ∃ go gk gc, x = .returned (.tuple #[.slice go gk gc, .int .i64 0]) ∧ Below wx.heap.size wx w' := fun wx hx => (hW wx hx).mono fun x w' ⟨k', R', hr, hb, h⟩ => by
        rcases h with ⟨_, g, _, hrow, hx'⟩ | ⟨h, _⟩
        · exact ⟨_, _, _, hx', hb⟩
        · exact absurd (hF k' R' hr) h
      have cm : ∀ wx, Calls Tryz.prog 10 #[.int .i64 D.q, .int .i64 (n' : Nat)] wx fun x w' => x = .returned (.int .i64 (D.wck (n' : Nat))) ∧ Below wx.heap.size wx w' := fun wx => rcount_any hD (n' : Nat) (by omega) wx
      have wc : ∀ wx, Calls Tryz.prog 35 #[.int .i64 D.q, .int .i64 (n' : Nat)] wx fun x w' => x = .returned (.int .i64 (D.wck (n' : Nat))) ∧ Below wx.heap.size wx w' := fun wx => wcheck_any hD (n' : Nat) (by omega) wx
      have pe : (D.wck (n' : Nat) ≠ 0 ∨ r < 0 ∨ (n' : Int) < r) → ∀ wx, Below w.heap.size w wx → Calls Tryz.prog 11 #[.agg #[.int .i64 D.q, .int .i64 (n' : Nat), .slice ao m ca], .int .i64 r] wx fun x w' => x = .returned (.tuple #[.bool false, .int .i64 (if D.wck (n' : Nat) = 0 then 10 else D.wck (n' : Nat))]) ∧ Below wx.heap.size wx w' := fun hp wx hx => perfect_e2 (D.wck (n' : Nat)) D.q (n' : Nat) r hp (fun wy hy => a2 wy (bel_up' hx hy)) wc
      obtain ⟨d, hd⟩ := lwt_ex (wcn D R n' k (D.q ^ k)) (n' + 1)
      have md : ∀ wx, Below w.heap.size w wx → Calls Tryz.prog 12 #[.agg #[.int .i64 D.q, .int .i64 (n' : Nat), .slice ao m ca]] wx fun x w' => ∃ ro rc, x = .returned (.agg #[.int .i64 D.q, .int .i64 (n' : Nat), .slice ro k rc]) ∧ Below wx.heap.size wx w' := fun wx hx => (made_any hD (by omega) hn64 hnn hel' (mat wx hx)).mono fun x w' ⟨k', R', ro, rc, hx', _, hr, hb⟩ => by
        have e := (same k' R' hr).1
        subst e
        exact ⟨ro, rc, hx', hb⟩
      have wd : ∀ wx, Below w.heap.size w wx → Calls Tryz.prog 14 #[.agg #[.int .i64 D.q, .int .i64 (n' : Nat), .slice ao m ca]] wx fun x w' => ∃ go gk gc, x = .returned (.slice go gk gc) ∧ Below wx.heap.size wx w' ∧ Calls Tryz.prog 13 #[.slice go gk gc] w' fun y w2 => y = .returned (.int .i64 (d : Nat)) ∧ w2 = w' := fun wx hx => (rweighed_any hD (by omega) hn64 hnn hel' (mat wx hx) hF).mono fun x w' ⟨k', R', g, hr, hx', hrow, _, hb⟩ => by
        obtain ⟨e, e2⟩ := same k' R' hr
        subst e
        rw [wcn_cong2 e2] at hrow
        refine ⟨_, _, _, hx', hb, (rleast_any hrow (by omega)).mono fun y w2 ⟨d', hd', hy, hw2⟩ => ⟨?_, hw2⟩⟩
        rw [hy, Lwt.uniq hd' hd]
      by_cases hc : D.wck (n' : Nat) = 0
      · obtain ⟨n2, hn2, _, _, hq30⟩ := wck_ok F hc
        have e2 : n2 = n' := by omega
        subst e2
        rw [hc] at cm
        by_cases hr0 : r < 0 ∨ (n2 : Int) < r
        · have pf := pe (Or.inr hr0)
          rw [if_pos hc] at pf
          by_cases hw0 : wt < 1 ∨ (n2 : Int) < wt
          · exact gbw_Az D.q (n2 : Nat) wt r hw0 hr0 hHv a1 (fun wx hx => gblocks_e2 D.q (n2 : Nat) wt hw0 (fun wy hy => a2 wy (bel_up' hx hy))) cm pf
          · obtain ⟨wN, rfl⟩ : ∃ wN : Nat, wt = (wN : Int) := ⟨wt.toNat, by omega⟩
            refine gbw_Bz D.q (n2 : Nat) (wN : Nat) r (by omega) (by omega) (Q := BkL D R n2 k wN) hr0 hHv a1 ?_ ?_ (fun v wx wy h hb => h.below hb) (fun v v' wx h h' => h.same h' (by omega)) cm pf
            · exact fun wx hx => (rblocks_any hD (by omega) hn64 hnn (by omega) hel' (mat wx hx) hF).mono fun x w' ⟨k', R', v, B, base, hr, hx', h1, h2, h3, _, h4, hb⟩ => by
                obtain ⟨e, e2⟩ := same k' R' hr
                subst e
                exact ⟨v, hx', BkL.congr e2 ⟨base, B, h1, h2, h3, h4⟩, hb⟩
            · exact fun wx hx => (gblocks_ok hD ca (cod wx hx) hn64 (by omega) (by omega) (fun x wy hy => hT x wy (bel_up' hx hy)) hF).mono fun x w' ⟨k', R', v, Ak, L, base, hr, hx', h1, h2, h3, _, h4, hb⟩ => by
                obtain ⟨e, e2⟩ := same k' R' hr
                subst e
                exact ⟨v, hx', BkL.congr e2 (blk_of hn64 (hF _ _ hr) h1 h2 h3 (gsl_nd _ _ _ _ _ _) h4), hb⟩
        · obtain ⟨rN, rfl⟩ : ∃ rN : Nat, r = (rN : Int) := ⟨r.toNat, by omega⟩
          have pf : ∀ wx, Below w.heap.size w wx → Calls Tryz.prog 11 #[.agg #[.int .i64 D.q, .int .i64 (n2 : Nat), .slice ao m ca], .int .i64 (rN : Nat)] wx fun x w' => x = .returned (.tuple #[.bool (pfB D R n2 k rN), .int .i64 0]) ∧ Below wx.heap.size wx w' := fun wx hx => perfect_gen hD ca (cod wx hx) hq30 (by omega) hred hfew
          have pi := pfB_is F (r := rN) hkle hd
          have h2q := F.q2
          have h64 := F.q64
          have hal : D.q ^ (n2 - k) ≤ 1073741824 := Nat.le_trans (Nat.pow_le_pow_right (by omega) (by omega)) hq30
          have pw : ∀ wx, Calls Tryz.prog 15 #[.int .i64 D.q, .int .i64 ((n2 - k : Nat) : Int)] wx fun x w' => x = .returned (.int .i64 ((D.q ^ (n2 - k) : Nat) : Int)) ∧ Below wx.heap.size wx w' := fun wx => (rpower_any D.q ((n2 - k : Nat) : Int) h2q h64 (by omega) (by omega) wx).mono fun x w' ⟨v, hx', hw, h⟩ => by
            rw [Int.toNat_natCast] at h
            rcases h with ⟨_, hv⟩ | ⟨hv, _⟩
            · rw [hx', hv, hw]; exact ⟨rfl, Below.refl _ _⟩
            · omega
          have bl : ∀ wx, Calls Tryz.prog 16 #[.int .i64 D.q, .int .i64 (n2 : Nat), .int .i64 (rN : Nat)] wx fun x w' => x = .returned (.int .i64 ((bls D.q n2 (rN + 1) : Nat) : Int)) ∧ Below wx.heap.size wx w' := fun wx => rball_any D.q n2 rN h2q h64 hq30 (by omega) wx
          have eqb : ∀ a b : Nat, ((a : Int) == (b : Int)) = decide (a = b) := fun a b => by
            by_cases c : a = b
            · rw [c]; simp
            · rw [decide_eq_false c]; exact beq_eq_false_iff_ne.2 (by omega)
          by_cases hw0 : wt < 1 ∨ (n2 : Int) < wt
          · have gb := fun wx hx => gblocks_e2 (m := m) (ca := ca) (ao := ao) (w := wx) D.q (n2 : Nat) wt hw0 (fun wy hy => a2 wy (bel_up' hx hy))
            by_cases h0 : d = 0
            · exact gbw_Av1 D.q (n2 : Nat) wt (rN : Nat) hw0 (by omega) (by omega) (by omega) (r2 := 2 * rN) (by omega) (by omega) (by omega) (by omega) h0 (by rw [eqb, pi, decide_eq_true (Or.inl h0)]; rfl) hHv a1 gb cm pf md wd pw bl
            · by_cases h1 : 2 * rN < d
              · exact gbw_Av2 D.q (n2 : Nat) wt (rN : Nat) hw0 (by omega) (by omega) (by omega) (r2 := 2 * rN) (by omega) (by omega) (by omega) (by omega) h1 (by rw [eqb, pi, decide_eq_true (Or.inr h1)]; rfl) hHv a1 gb cm pf md wd pw bl
              · exact gbw_Av3 D.q (n2 : Nat) wt (rN : Nat) hw0 (by omega) (by omega) (by omega) (r2 := 2 * rN) (by omega) (by omega) (by omega) (by omega) h0 h1 (by rw [pi, decide_eq_false (fun h => h.elim h0 h1)]; rfl) hHv a1 gb cm pf md wd pw bl
          · obtain ⟨wN, rfl⟩ : ∃ wN : Nat, wt = (wN : Int) := ⟨wt.toNat, by omega⟩
            have rb : ∀ wx, Below w.heap.size w wx → Calls Tryz.prog 7 #[.agg #[.int .i64 D.q, .int .i64 (n2 : Nat), .slice ao m ca], .int .i64 (wN : Nat)] wx fun x w' => ∃ v, x = .returned v ∧ BkL D R n2 k wN v w' ∧ Below wx.heap.size wx w' := fun wx hx => (rblocks_any hD (by omega) hn64 hnn (by omega) hel' (mat wx hx) hF).mono fun x w' ⟨k', R', v, B, base, hr, hx', h1, h2, h3, _, h4, hb⟩ => by
                obtain ⟨e, e2⟩ := same k' R' hr
                subst e
                exact ⟨v, hx', BkL.congr e2 ⟨base, B, h1, h2, h3, h4⟩, hb⟩
            have gb : ∀ wx, Below w.heap.size w wx → Calls Tryz.prog 8 #[.agg #[.int .i64 D.q, .int .i64 (n2 : Nat), .slice ao m ca], .int .i64 (wN : Nat)] wx fun x w' => ∃ v, x = .returned (.tuple #[v, .int .i64 0]) ∧ BkL D R n2 k wN v w' ∧ Below wx.heap.size wx w' := fun wx hx => (gblocks_ok hD ca (cod wx hx) hn64 (by omega) (by omega) (fun x wy hy => hT x wy (bel_up' hx hy)) hF).mono fun x w' ⟨k', R', v, Ak, L, base, hr, hx', h1, h2, h3, _, h4, hb⟩ => by
                obtain ⟨e, e2⟩ := same k' R' hr
                subst e
                exact ⟨v, hx', BkL.congr e2 (blk_of hn64 (hF _ _ hr) h1 h2 h3 (gsl_nd _ _ _ _ _ _) h4), hb⟩
            have qb : ∀ v wx wy, BkL D R n2 k wN v wx → Below wx.heap.size wx wy → BkL D R n2 k wN v wy := fun v wx wy h hb => h.below hb
            have ls : ∀ v v' wx, BkL D R n2 k wN v wx → BkL D R n2 k wN v' wx → Calls Tryz.prog 9 #[v, .int .i64 0, v', .int .i64 0] wx fun r w' => r = .returned (.bool true) ∧ ∃ d, w' = wx.drewN d := fun v v' wx h h' => h.same h' (by omega)
            by_cases h0 : d = 0
            · exact gbw_Bv1 D.q (n2 : Nat) (wN : Nat) (rN : Nat) (by omega) (by omega) (by omega) (by omega) (by omega) (r2 := 2 * rN) (by omega) (by omega) (by omega) (by omega) h0 (by rw [eqb, pi, decide_eq_true (Or.inl h0)]; rfl) hHv a1 rb gb qb ls cm pf md wd pw bl
            · by_cases h1 : 2 * rN < d
              · exact gbw_Bv2 D.q (n2 : Nat) (wN : Nat) (rN : Nat) (by omega) (by omega) (by omega) (by omega) (by omega) (r2 := 2 * rN) (by omega) (by omega) (by omega) (by omega) h1 (by rw [eqb, pi, decide_eq_true (Or.inr h1)]; rfl) hHv a1 rb gb qb ls cm pf md wd pw bl
              · exact gbw_Bv3 D.q (n2 : Nat) (wN : Nat) (rN : Nat) (by omega) (by omega) (by omega) (by omega) (by omega) (r2 := 2 * rN) (by omega) (by omega) (by omega) (by omega) h0 h1 (by rw [pi, decide_eq_false (fun h => h.elim h0 h1)]; rfl) hHv a1 rb gb qb ls cm pf md wd pw bl
      · have pf := pe (Or.inl hc)
        rw [if_neg hc] at pf
        by_cases hw0 : wt < 1 ∨ (n' : Int) < wt
        · exact gbw_Ay D.q (n' : Nat) wt r hw0 _ hc hHv a1 (fun wx hx => gblocks_e2 D.q (n' : Nat) wt hw0 (fun wy hy => a2 wy (bel_up' hx hy))) cm pf
        · obtain ⟨wN, rfl⟩ : ∃ wN : Nat, wt = (wN : Int) := ⟨wt.toNat, by omega⟩
          refine gbw_By D.q (n' : Nat) (wN : Nat) r (by omega) (by omega) (Q := BkL D R n' k wN) _ hc hHv a1 ?_ ?_ (fun v wx wy h hb => h.below hb) (fun v v' wx h h' => h.same h' (by omega)) cm pf
          · exact fun wx hx => (rblocks_any hD (by omega) hn64 hnn (by omega) hel' (mat wx hx) hF).mono fun x w' ⟨k', R', v, B, base, hr, hx', h1, h2, h3, _, h4, hb⟩ => by
              obtain ⟨e, e2⟩ := same k' R' hr
              subst e
              exact ⟨v, hx', BkL.congr e2 ⟨base, B, h1, h2, h3, h4⟩, hb⟩
          · exact fun wx hx => (gblocks_ok hD ca (cod wx hx) hn64 (by omega) (by omega) (fun x wy hy => hT x wy (bel_up' hx hy)) hF).mono fun x w' ⟨k', R', v, Ak, L, base, hr, hx', h1, h2, h3, _, h4, hb⟩ => by
              obtain ⟨e, e2⟩ := same k' R' hr
              subst e
              exact ⟨v, hx', BkL.congr e2 (blk_of hn64 (hF _ _ hr) h1 h2 h3 (gsl_nd _ _ _ _ _ _) h4), hb⟩
    · have hF : ∀ k' R', Red D n' m (mzc N Z) k' R' → ¬ D.q ^ k' ≤ 4096 := fun k' R' h => by rw [(same k' R' h).1]; exact hfew
      have hW4 : ∀ wx, Below w.heap.size w wx → Calls Tryz.prog 25 #[.agg #[.int .i64 D.q, .int .i64 (n' : Nat), .slice ao m ca]] wx fun x w' => x = .returned (.tuple #[.slice none 0 0, .int .i64 4]) ∧ Below wx.heap.size wx w' := fun wx hx => (hW wx hx).mono fun x w' ⟨k', R', hr, hb, h⟩ => by
        rcases h with ⟨h, _⟩ | ⟨_, hx'⟩
        · exact absurd h (hF k' R' hr)
        · exact ⟨hx', hb⟩
      exact gbw_Cx D.q (n' : Nat) wt r 4 (by omega) hHv (fun wx hx => (hWm wx hx).mono fun x w' ⟨k', R', hr, hx', hb⟩ => ⟨by rw [hx', if_neg (hF k' R' hr)], hb⟩) (fun wx hx => gblocks_e1 4 (by omega) D.q (n' : Nat) wt (fun wy hy => hW4 wy (bel_up' hx hy))) (fun wx hx => perfect_e1 4 (by omega) D.q (n' : Nat) r (fun wy hy => hW4 wy (bel_up' hx hy)))
  · have hS : ∀ wx, Below w.heap.size w wx → Calls Tryz.prog 45 #[.agg #[.int .i64 q, .int .i64 n, .slice ao m ca]] wx fun x w' => x = .returned (.tuple #[.agg #[.int .i64 0, .int .i64 0, .slice none 0 0], .int .i64 E]) ∧ Below wx.heap.size wx w' := fun wx hx => small_err E hE q n (fun wy hy => hChk wy (bel_up' hx hy))
    have hW : ∀ wx, Below w.heap.size w wx → Calls Tryz.prog 25 #[.agg #[.int .i64 q, .int .i64 n, .slice ao m ca]] wx fun x w' => x = .returned (.tuple #[.slice none 0 0, .int .i64 E]) ∧ Below wx.heap.size wx w' := fun wx hx => weights_err E hE q n (fun wy hy => hS wy (bel_up' hx hy))
    exact gbw_Cx q n wt r E hE hHv (fun wx hx => rweightsMay_err E hE q n (fun wy hy => hMay wy (bel_up' hx hy))) (fun wx hx => gblocks_e1 E hE q n wt (fun wy hy => hW wy (bel_up' hx hy))) (fun wx hx => perfect_e1 E hE q n r (fun wy hy => hW wy (bel_up' hx hy)))
set_option maxHeartbeats 2000000 in
theorem golayBlocks_heavy (q n wt r : Int) {ao : Option Addr} {m ca : Nat} {w : World}
    (hHv : ∀ wx, Below w.heap.size w wx → Calls Tryz.prog 5 #[.slice ao m ca] wx fun r w' => r = .returned (.bool true) ∧ w' = wx) :
    Calls Tryz.prog 3 #[.agg #[.int .i64 q, .int .i64 n, .slice ao m ca], .int .i64 wt, .int .i64 r] w fun r w' => r = .returned (.bool true) ∧ Below w.heap.size w w' := by
  obtain ⟨w0, hw0⟩ : ∃ w0, w0 = w.alloc (.cells #[.int .i64 q, .int .i64 n, .slice ao m ca] 24) := ⟨_, rfl⟩
  have H0 : Hid (Below w.heap.size w w0 ∧ CB w.heap.size q n (.slice ao m ca) w0) := by
    have := box_at q n (.slice ao m ca) w
    rw [← hw0] at this; exact ⟨this.1, this.2.1⟩
  have HV : Hid (Calls Tryz.prog 5 #[.slice ao m ca] w0 fun r w' => r = .returned (.bool true) ∧ w' = w0) := hHv w0 H0.out.1
  obtain ⟨q0, q1, q2⟩ := H0.out.2
  rw [hw0] at q0 q1 q2
  clear hHv
  go_enter Tryz.func3, Tryz.ntmps3
  go_wp2_with fail
  rw [← hw0]
  clear q0 q1 q2 hw0
  refine HV.out.mono ?_
  rintro x wH ⟨rfl, hw⟩
  have hw := hw.symm
  subst hw
  go_wp2
  go_ret
  exact ⟨rfl, H0.out.1⟩
theorem golayBlocks_walk (q n wt r : Int) {ao : Option Addr} {m ca : Nat} {A : Nat → Option Addr} {N C : Nat → Nat} {Z : Nat → Nat → Int} {w : World} (hA : MatO ao m A N C Z w) (hm : m ≤ 17592186044416) (hN : ∀ i, i < m → N i ≤ 17592186044416) (hwt : I64 wt) (hr : I64 r) (hT : TzOk w) :
    Calls Tryz.prog 3 #[.agg #[.int .i64 q, .int .i64 n, .slice ao m ca], .int .i64 wt, .int .i64 r] w fun r w' => r = .returned (.bool true) ∧ Below w.heap.size w w' := by
  have hHa := fun wx hx => heavy_below (ca := ca) hA hm hN wx hx
  by_cases h1 : hvs N m m ≤ 6000
  · rw [decide_eq_false (by omega)] at hHa
    have f1 := hvs_few m h1
    exact golayBlocks_light q n wt r (hA.matZ (fun i hi => by have := f1.2 i hi; omega)) (by omega) hwt hr hT hHa
  · rw [decide_eq_true (by omega)] at hHa
    exact golayBlocks_heavy q n wt r hHa
end Go.Proofs.YtdfneklnpghhmaaGreatDoor

/- GolayMade: whatever it is given. -/
namespace Go.Proofs.YtdfneklnpghhmaaGreatDoor
open Go.RowKit Go.Sort

theorem mat_open {ao : Option Addr} {m : Nat} {A : Nat → Option Addr} {N C : Nat → Nat} {Z : Nat → Nat → Int} {w : World} (h : MatZ ao m A N C Z w) : MatO ao m A N C Z w := ⟨h.cell, h.sl, h.le, h.cap, h.nil⟩
set_option maxHeartbeats 1000000 in
theorem golayMade_long (q n rs wt r : Int) {ao : Option Addr} {m ca : Nat} {w : World} (h2 : m ≤ 17592186044416) (h : ¬ m ≤ 256) :
    Calls Tryz.prog 4 #[.slice ao m ca, .int .i64 q, .int .i64 n, .int .i64 rs, .int .i64 wt, .int .i64 r] w fun x w' => x = .returned (.bool true) ∧ Below w.heap.size w w' := by
  have h3 : (256 : Int) < (m : Int) := by omega
  go_enter Tryz.func4, Tryz.ntmps4
  go_wp2
  go_ret
  exact ⟨rfl, Below.refl _ _⟩

set_option maxHeartbeats 8000000 in
set_option maxRecDepth 100000 in
theorem golayMade_walk {q n rs wt r : Int} {ao : Option Addr} {m ca : Nat} {z : Nat → Int} {w : World} (ha : Arg ao m ca z w) (hm : m ≤ 256) (hq : I64 q) (hn : I64 n) (hrs : I64 rs) (hwt : I64 wt) (hr : I64 r) (hT : TzOk w) :
    Calls Tryz.prog 4 #[.slice ao m ca, .int .i64 q, .int .i64 n, .int .i64 rs, .int .i64 wt, .int .i64 r] w fun x w' => x = .returned (.bool true) ∧ Below w.heap.size w w' := by
  have HA : Hid (Arg ao m ca z w ∧ I64 q ∧ I64 n ∧ I64 rs ∧ TzOk w) := ⟨ha, hq, hn, hrs, hT⟩
  have HI : Hid (I64 wt ∧ I64 r) := ⟨hwt, hr⟩
  have hmb : ¬ (256 : Int) < (m : Int) := by omega
  clear ha hq hn hrs hwt hr hT
  go_enter Tryz.func4, Tryz.ntmps4
  go_wp2_with fail
  refine (codeOf_any q n rs HA.out.1 hm HA.out.2.1 HA.out.2.2.1 HA.out.2.2.2.1).mono ?_
  rintro e w1 ⟨D, N, rr, mo, mc, A, C, Z, hD, hD8, hN, hr5, hqr, rfl, hcd, hb1⟩
  obtain ⟨w2, hw2⟩ : ∃ w2, w2 = w1.alloc (.cells #[.int .i64 D.q, .int .i64 (N : Nat), .slice mo rr mc] 24) := ⟨_, rfl⟩
  obtain ⟨g1, g2, g3⟩ := box_at D.q (N : Nat) (.slice mo rr mc) w1
  rw [← hw2] at g1 g2 g3
  have hn1 := hcd.n1
  have H2 : Hid (CdZ D mo rr N A (fun _ => N) C Z w2 ∧ CB w1.heap.size D.q (N : Nat) (.slice mo rr mc) w2 ∧ Below w.heap.size w w2) := ⟨hcd.below g1, g2, bel_up' hb1 g1⟩
  obtain ⟨pw, hpw, HPw⟩ : ∃ x : Nat, x < N ∧ Hid (∀ wx : World, Calls Tryz.prog 18 #[.int .i64 wt, .int .i64 (N : Nat)] wx fun e w' => e = .returned (.int .i64 (x : Nat)) ∧ w' = wx) := by
    have a1 := pick_lo wt (N : Nat) (by omega)
    have a2 := pick_hi wt (N : Nat) (by omega)
    refine ⟨(pick wt (N : Nat)).toNat, by omega, fun wx => ?_⟩
    rw [Int.toNat_of_nonneg a1]
    exact pick_any wt (N : Nat) wx HI.out.1.1 HI.out.1.2 (by omega) (by omega)
  obtain ⟨pr, hpr, HPr⟩ : ∃ x : Nat, x < 4 ∧ Hid (∀ wx : World, Calls Tryz.prog 18 #[.int .i64 r, .int .i64 4] wx fun e w' => e = .returned (.int .i64 (x : Nat)) ∧ w' = wx) := by
    have a1 := pick_lo r 4 (by omega)
    have a2 := pick_hi r 4 (by omega)
    refine ⟨(pick r 4).toNat, by omega, fun wx => ?_⟩
    rw [Int.toNat_of_nonneg a1]
    exact pick_any r 4 wx HI.out.2.1 HI.out.2.2 (by omega) (by omega)
  obtain ⟨pw1, hpw1⟩ : ∃ pw1, pw1 = pw + 1 := ⟨_, rfl⟩
  have wpw : IntKind.i64.wrap (1 + (pw : Int)) = (pw1 : Int) := wrap_to (by omega) (by omega)
  have hpb : pw1 ≤ 12 := by omega
  have HT2 : Hid (TzOk w2) := fun x wx hb => HA.out.2.2.2.2 x wx (bel_up' H2.out.2.2 hb)
  have hrr : rr ≤ 5 := hr5
  clear hcd hb1 g1 g2 g3 hD hqr hpw1
  obtain ⟨q0, q1, q2⟩ := H2.out.2.1
  go_wp2_with fail
  rw [← hw2]
  clear hw2
  try go_upto_region 4 with fail
  refine quiet_tail 8 (by kernel_rfl) (by kernel_rfl) ?_
  simp only [List.take_succ_cons, List.take_zero, List.drop_succ_cons, List.drop_zero]
  repeat (go_big_quiet_step (first | (go_at_call_of 18 (Value.int .i64 wt); exact Calls.quiet_of_same (HPw.out _)) | (go_at_call_of 18 (Value.int .i64 r); exact Calls.quiet_of_same (HPr.out _))))
  refine wpQuiet_nil ?_
  intro _ hw'
  obtain ⟨nq, hw''⟩ := hw'
  subst hw''
  have hbq := below_drewN2 (Below.refl w2.heap.size w2) nq
  have HQ : Hid (Calls Tryz.prog 3 #[.agg #[.int .i64 D.q, .int .i64 (N : Nat), .slice mo rr mc], .int .i64 (pw1 : Nat), .int .i64 (pr : Nat)] (w2.drewN nq) fun x w' => x = .returned (.bool true) ∧ Below (w2.drewN nq).heap.size (w2.drewN nq) w') := golayBlocks_walk D.q (N : Nat) (pw1 : Nat) (pr : Nat) (mat_open (H2.out.1.below hbq).mat) (by omega) (fun i _ => by omega) ⟨by omega, by omega⟩ ⟨by omega, by omega⟩ (fun x wx hb => HT2.out x wx (bel_up' hbq hb))
  have HB : Hid (Below w.heap.size w (w2.drewN nq)) := bel_up' H2.out.2.2 hbq
  clear hbq q0 q1 q2
  go_wp2_with fail
  refine HQ.out.mono ?_
  rintro x w3 ⟨rfl, hb3⟩
  have H3 : Hid (Below w.heap.size w w3) := bel_up' HB.out hb3
  clear hb3
  go_wp2
  go_ret
  exact ⟨rfl, H3.out⟩
end Go.Proofs.YtdfneklnpghhmaaGreatDoor
