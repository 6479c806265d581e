/- MatrixSays: one matrix that may be: what the calls on both sides tell, in one form. -/
import Derived.Test.YtbpeahhhkcljeaaZL13
import Derived.Test.YtbpeahhhkcljeaaZX20
namespace Go.Proofs.Ytbpeahhhkcljeaa
open Go.RowKit Go.Sort

/-- A matrix that may be, of at least one row; its reduced form; the rows for its free columns, and their reduced form. -/
structure MOk (D : FD) (ao : Option Addr) (m n : Nat) (A : Nat → Option Addr) (N C : Nat → Nat) (Z : Nat → Nat → Int) (w : World) (k : Nat) (R : Nat → Nat → Nat) (p : Nat → Nat) (k2 : Nat) (R2 : Nat → Nat → Nat) (p2 : Nat → Nat) : Prop where
  hD : D ∈ fieldsL
  mat : MatZ ao m A N C Z w
  chk : D.mchk m N Z = 0
  pos : 0 < m
  m64 : m ≤ 64
  n64 : n < 64
  wd : N 0 = n + 1
  el : ∀ i, i < m → El D (mzc N Z i) ∧ Bd (n + 1) (mzc N Z i)
  km : k ≤ m
  rre : RRE D (n + 1) k R p
  spn : ∀ v, Spn D (RowsOf k R) v ↔ Spn D (RowsOf m (mzc N Z)) v
  km2 : k2 ≤ nct k p (n + 1)
  rre2 : RRE D (n + 1) k2 R2 p2
  spn2 : ∀ v, Spn D (RowsOf k2 R2) v ↔ Spn D (RowsOf (nct k p (n + 1)) (nul D R p k (n + 1))) v
theorem mok_ex {D : FD} (hD : D ∈ fieldsL) {ao : Option Addr} {m : Nat} {A : Nat → Option Addr} {N C : Nat → Nat} {Z : Nat → Nat → Int} {w : World} (ha : MatZ ao m A N C Z w) (h0 : D.mchk m N Z = 0) (hm : 0 < m) : ∃ n k R p k2 R2 p2, MOk D ao m n A N C Z w k R p k2 R2 p2 := by
  obtain ⟨h1, n, h2, h3, h4, h5⟩ := mchk_rows (fld hD) h0 ha hm
  obtain ⟨k, R, p, a1, a2, a3⟩ := rre_ex hD (m := m) (n := n + 1) (R := mzc N Z) (fun i hi => (h4 i hi).2.1) (fun i hi => (h4 i hi).2.2)
  obtain ⟨k2, R2, p2, b1, b2, b3⟩ := rre_ex hD (m := nct k p (n + 1)) (n := n + 1) (R := nul D R p k (n + 1)) (fun i _ => nul_el (fld hD) a2.el _ _) (fun i hi => nul_bd a2.lt hi)
  exact ⟨n, k, R, p, k2, R2, p2, hD, ha, h0, hm, h1, h3, h2, fun i hi => (h4 i hi).2, a1, a2, a3, b1, b2, b3⟩
theorem MOk.below {D : FD} {ao : Option Addr} {m n : Nat} {A : Nat → Option Addr} {N C : Nat → Nat} {Z : Nat → Nat → Int} {w w' : World} {k : Nat} {R : Nat → Nat → Nat} {p : Nat → Nat} {k2 : Nat} {R2 : Nat → Nat → Nat} {p2 : Nat → Nat} (h : MOk D ao m n A N C Z w k R p k2 R2 p2) (hb : Below w.heap.size w w') : MOk D ao m n A N C Z w' k R p k2 R2 p2 :=
  ⟨h.hD, h.mat.below hb, h.chk, h.pos, h.m64, h.n64, h.wd, h.el, h.km, h.rre, h.spn, h.km2, h.rre2, h.spn2⟩
theorem MOk.matR {D : FD} {ao : Option Addr} {m n : Nat} {A : Nat → Option Addr} {N C : Nat → Nat} {Z : Nat → Nat → Int} {w : World} {k : Nat} {R : Nat → Nat → Nat} {p : Nat → Nat} {k2 : Nat} {R2 : Nat → Nat → Nat} {p2 : Nat → Nat} (h : MOk D ao m n A N C Z w k R p k2 R2 p2) : MatR ao m n (mzc N Z) w := by
  obtain ⟨_, n', h2, _, _, h5⟩ := mchk_rows (fld h.hD) h.chk h.mat h.pos
  have : n' = n := by have := h.wd; omega
  rw [← this]; exact h5
theorem RL.open {v : Value} {k n : Nat} {R : Nat → Nat → Nat} {w : World} (h : RL v k n R w) : ∃ ao ca, v = .slice ao k ca := by
  obtain ⟨ao, ca, e, _⟩ := h
  exact ⟨ao, ca, e⟩
theorem KI.open {v : Value} {k : Nat} {z : Nat → Int} {w : World} (h : KI v (zl k z) w) : ∃ ao ca, v = .slice ao k ca := by
  rcases h.1 with ⟨e, ao, ca, rfl⟩ | ⟨_, _, b, off, ca, rfl, _⟩
  · have := congrArg List.length e
    rw [zl_len] at this
    have : k = 0 := this
    subst this
    exact ⟨ao, ca, rfl⟩
  · rw [zl_len]; exact ⟨_, _, rfl⟩


theorem c_rred {D : FD} {ao : Option Addr} {m n ca : Nat} {A : Nat → Option Addr} {N C : Nat → Nat} {Z : Nat → Nat → Int} {w : World} {k : Nat} {R : Nat → Nat → Nat} {p : Nat → Nat} {k2 : Nat} {R2 : Nat → Nat → Nat} {p2 : Nat → Nat} (h : MOk D ao m n A N C Z w k R p k2 R2 p2) (gen gm cm : Nat) (hM : ModAt D (.slice (some ⟨gm, 0, none⟩) (D.m + 1) cm) D.md w) :
    Calls Try.prog 57 #[.agg #[.int .i64 D.q, .int .i64 D.p, .int .i64 D.m, .int .i64 gen, .slice (some ⟨gm, 0, none⟩) (D.m + 1) cm], .slice ao m ca] w fun e w' => ∃ ro rc po pc, e = .returned (.tuple #[.slice ro k rc, .slice po k pc]) ∧ RL (.slice ro k rc) k (n + 1) R w' ∧ KI (.slice po k pc) (zl k fun j => ((p j : Nat) : Int)) w' ∧ Below w.heap.size w w' := by
  have h1 := h.m64
  have h2 := h.n64
  refine (rreduce_any h.hD gen gm cm (by omega) (by omega) h.el h.matR hM).mono ?_
  rintro e w' ⟨vr, vp, k', R', p', rfl, hk', hvr, hvp, hR', hS', _, hb⟩
  obtain ⟨rfl, he⟩ := rre_uniq (fld h.hD) hR' h.rre (fun v => (hS' v).trans (h.spn v).symm)
  have hrl := hvr.rl.congr (fun i hi => (he i hi).2)
  obtain ⟨ro, rc, rfl⟩ := hrl.open
  have hki : KI vp (zl k' fun j => ((p j : Nat) : Int)) w' := by
    have h3 := hvp.ki (by rw [zl_len]; omega)
    rw [zl_congr (y := fun j => ((p j : Nat) : Int)) (fun j hj => by rw [(he j hj).1])] at h3
    exact h3
  obtain ⟨po, pc, rfl⟩ := hki.open
  exact ⟨ro, rc, po, pc, rfl, hrl, hki, hb⟩
theorem c_rnull {D : FD} {ao : Option Addr} {m n ca : Nat} {A : Nat → Option Addr} {N C : Nat → Nat} {Z : Nat → Nat → Int} {w : World} {k : Nat} {R : Nat → Nat → Nat} {p : Nat → Nat} {k2 : Nat} {R2 : Nat → Nat → Nat} {p2 : Nat → Nat} (h : MOk D ao m n A N C Z w k R p k2 R2 p2) (gen gm cm : Nat) (hM : ModAt D (.slice (some ⟨gm, 0, none⟩) (D.m + 1) cm) D.md w) :
    Calls Try.prog 58 #[.agg #[.int .i64 D.q, .int .i64 D.p, .int .i64 D.m, .int .i64 gen, .slice (some ⟨gm, 0, none⟩) (D.m + 1) cm], .slice ao m ca, .int .i64 (N 0 : Nat)] w fun e w' => ∃ lo lc, e = .returned (.slice lo (nct k p (n + 1)) lc) ∧ RL (.slice lo (nct k p (n + 1)) lc) (nct k p (n + 1)) (n + 1) R2 w' ∧ k2 = nct k p (n + 1) ∧ Below w.heap.size w w' := by
  have h1 := h.m64
  have h2 := h.n64
  refine (rnull_any h.hD gen gm cm h.wd (by omega) (by omega) h.el h.matR hM).mono ?_
  rintro e w' ⟨v, k', R', p', R2', p2', rfl, hk', hR', hS', hll, hR2, hS2, hb⟩
  rw [h.wd] at hR' hll hR2 hS2
  obtain ⟨rfl, he⟩ := rre_uniq (fld h.hD) hR' h.rre (fun v => (hS' v).trans (h.spn v).symm)
  have hc : nct k' p' (n + 1) = nct k' p (n + 1) := nct_congr (fun i hi => (he i hi).1) _
  have hn : nul D R' p' k' (n + 1) = nul D R p k' (n + 1) := nul_congr he _
  rw [hc] at hll hR2 hS2
  rw [hn] at hS2
  obtain ⟨hk2, he2⟩ := rre_uniq (fld h.hD) hR2 h.rre2 (fun v => (hS2 v).trans (h.spn2 v).symm)
  have hrl := hll.rl.congr (fun i hi => (he2 i hi).2)
  obtain ⟨lo, lc, rfl⟩ := hrl.open
  exact ⟨lo, lc, rfl, hrl, hk2.symm, hb⟩
theorem c_red {D : FD} {ao : Option Addr} {m n ca : Nat} {A : Nat → Option Addr} {N C : Nat → Nat} {Z : Nat → Nat → Int} {w : World} {k : Nat} {R : Nat → Nat → Nat} {p : Nat → Nat} {k2 : Nat} {R2 : Nat → Nat → Nat} {p2 : Nat → Nat} (h : MOk D ao m n A N C Z w k R p k2 R2 p2) :
    Calls Try.prog 39 #[.int .i64 D.q, .slice ao m ca] w fun e w' => ∃ ro rc po pc, e = .returned (.tuple #[.slice ro k rc, .slice po k pc, .int .i64 0]) ∧ RL (.slice ro k rc) k (n + 1) R w' ∧ KI (.slice po k pc) (zl k fun j => ((p j : Nat) : Int)) w' ∧ Below w.heap.size w w' := by
  have h1 := h.m64
  have h2 := h.n64
  refine (mreduce_any h.hD h.mat (by omega)).mono ?_
  rintro e w' ⟨hb, hr⟩
  rcases hr with ⟨h0, _⟩ | ⟨_, G, k', R', p', h', pv, W, rfl, _, hW, hk, hmx, hown, hR', hS'⟩
  · exact absurd h.chk h0
  · have hWe : W = n + 1 := by rw [hW h.pos, h.wd]
    subst hWe
    obtain ⟨rfl, he⟩ := rre_uniq (fld h.hD) hR' h.rre (fun v => (hS' v).trans (h.spn v).symm)
    have hki : KI pv (zl k' fun j => ((p j : Nat) : Int)) w' := by
      have h3 := hown.ki (by rw [zl_len]; omega)
      rw [zl_congr (y := fun j => ((p j : Nat) : Int)) (fun j hj => by rw [(he j hj).1])] at h3
      exact h3
    obtain ⟨po, pc, rfl⟩ := hki.open
    exact ⟨_, m, po, pc, rfl, (hmx.rl hk m).congr (fun i hi => (he i hi).2), hki, hb⟩
theorem c_rank {D : FD} {ao : Option Addr} {m n ca : Nat} {A : Nat → Option Addr} {N C : Nat → Nat} {Z : Nat → Nat → Int} {w : World} {k : Nat} {R : Nat → Nat → Nat} {p : Nat → Nat} {k2 : Nat} {R2 : Nat → Nat → Nat} {p2 : Nat → Nat} (h : MOk D ao m n A N C Z w k R p k2 R2 p2) :
    Calls Try.prog 37 #[.int .i64 D.q, .slice ao m ca] w fun e w' => e = .returned (.tuple #[.int .i64 (k : Nat), .int .i64 0]) ∧ Below w.heap.size w w' := by
  have h1 := h.m64
  refine (mrank_any h.hD h.mat (by omega)).mono ?_
  rintro e w' ⟨hb, hr⟩
  rcases hr with ⟨h0, _⟩ | ⟨_, k', R', p', W, rfl, hW, hk, hR', hS'⟩
  · exact absurd h.chk h0
  · have hWe : W = n + 1 := by rw [hW h.pos, h.wd]
    subst hWe
    obtain ⟨rfl, _⟩ := rre_uniq (fld h.hD) hR' h.rre (fun v => (hS' v).trans (h.spn v).symm)
    exact ⟨rfl, hb⟩
theorem c_null {D : FD} {ao : Option Addr} {m n ca : Nat} {A : Nat → Option Addr} {N C : Nat → Nat} {Z : Nat → Nat → Int} {w : World} {k : Nat} {R : Nat → Nat → Nat} {p : Nat → Nat} {k2 : Nat} {R2 : Nat → Nat → Nat} {p2 : Nat → Nat} (h : MOk D ao m n A N C Z w k R p k2 R2 p2) :
    Calls Try.prog 38 #[.int .i64 D.q, .slice ao m ca] w fun e w' => ∃ lo lc, e = .returned (.tuple #[.slice lo (nct k p (n + 1)) lc, .int .i64 0]) ∧ (k2 = nct k p (n + 1) → RL (.slice lo (nct k p (n + 1)) lc) (nct k p (n + 1)) (n + 1) R2 w') ∧ Below w.heap.size w w' := by
  have h1 := h.m64
  refine (mnull_any h.hD h.mat (by omega)).mono ?_
  rintro e w' ⟨hb, hr⟩
  rcases hr with ⟨h0, _⟩ | ⟨_, v, k', R', p', k2', R2', p2', W, rfl, _, hW, hR', hS', hrl, hk2, hR2, hS2⟩
  · exact absurd h.chk h0
  · have hWe : W = n + 1 := by rw [hW h.pos, h.wd]
    subst hWe
    replace hrl := hrl.rl
    obtain ⟨rfl, he⟩ := rre_uniq (fld h.hD) hR' h.rre (fun v => (hS' v).trans (h.spn v).symm)
    have hc : nct k' p' (n + 1) = nct k' p (n + 1) := nct_congr (fun i hi => (he i hi).1) _
    have hn : nul D R' p' k' (n + 1) = nul D R p k' (n + 1) := nul_congr he _
    rw [hc] at hrl hk2 hS2
    rw [hn] at hS2
    obtain ⟨hk2e, he2⟩ := rre_uniq (fld h.hD) hR2 h.rre2 (fun v => (hS2 v).trans (h.spn2 v).symm)
    obtain ⟨lo, lc, rfl⟩ := hrl.open
    exact ⟨lo, lc, rfl, fun e => hrl.congr (fun i hi => (he2 i (by omega)).2), hb⟩
theorem c_inv {D : FD} {ao : Option Addr} {m n ca : Nat} {A : Nat → Option Addr} {N C : Nat → Nat} {Z : Nat → Nat → Int} {w : World} {k : Nat} {R : Nat → Nat → Nat} {p : Nat → Nat} {k2 : Nat} {R2 : Nat → Nat → Nat} {p2 : Nat → Nat} (h : MOk D ao m n A N C Z w k R p k2 R2 p2) (gm cm : Nat) (hM : ModAt D (.slice (some ⟨gm, 0, none⟩) (D.m + 1) cm) D.md w) :
    Calls Try.prog 65 #[.int .i64 D.q, .agg #[.int .i64 D.q, .int .i64 D.p, .int .i64 D.m, .int .i64 D.gen, .slice (some ⟨gm, 0, none⟩) (D.m + 1) cm], .slice ao m ca, .int .i64 (k : Nat), .int .i64 0] w fun r w' => r = .returned (.bool true) ∧ Below w.heap.size w w' := by
  have h1 := h.m64
  have hpos := h.pos
  have hkm := h.km
  by_cases hNm : N 0 = m
  · have hn1 : n + 1 = m := by have := h.wd; omega
    have hre : RRE D m k R p := by have := h.rre; rw [hn1] at this; exact this
    have hel : ∀ i, i < m → El D (mzc N Z i) ∧ Bd m (mzc N Z i) := by have := h.el; rw [hn1] at this; exact this
    have hI : ∀ w1, Below w.heap.size w w1 → Calls Try.prog 99 #[.int .i64 D.q, .slice ao m ca] w1 fun e w' => Below w1.heap.size w1 w' ∧ ∃ R' p', Rdg D m (m + m) m k R' p' ∧ (∀ v, Spn D (RowsOf m R') v ↔ Spn D (RowsOf m (augI m (mzc N Z))) v) ∧ ((k < m ∧ e = .returned (.tuple #[.slice none 0 0, .int .i64 8])) ∨ (k = m ∧ ∃ G2 h, e = .returned (.tuple #[.slice (some ⟨G2, 0, none⟩) m m, .int .i64 0]) ∧ InvR G2 m h R' w')) := fun w1 hb1 => by
      refine (minverse_any h.hD (h.mat.below hb1) (by omega)).mono ?_
      rintro e w' ⟨hb, hr⟩
      rcases hr with ⟨h0, _⟩ | ⟨_, h0, _⟩ | ⟨_, _, k', R', p', hR', hS', hc⟩
      · exact absurd h.chk h0
      · exact absurd hNm h0.2
      · have hke := inv_rank (fld h.hD) hel hR' hS' hre h.spn
        subst hke
        exact ⟨hb, R', p', hR', hS', hc⟩
    by_cases hk : k < m
    · refine inverse_no D.q 8 D.q D.p D.m D.gen (some ⟨gm, 0, none⟩) (D.m + 1) cm h.mat hpos (Or.inr ⟨hNm, hk, rfl⟩) (fun w1 hb1 => ?_)
      refine (hI w1 hb1).mono ?_
      rintro e w' ⟨hb, R', p', _, _, hc⟩
      rcases hc with ⟨_, rfl⟩ | ⟨hc, _⟩
      · exact ⟨rfl, hb⟩
      · omega
    · have hkm2 : k = m := by omega
      rw [hkm2] at hI ⊢
      refine inverse_yes h.hD gm cm h.mat h.chk hn1.symm hNm hM (fun w1 hb1 => ?_)
      refine (hI w1 hb1).mono ?_
      rintro e w' ⟨hb, R', p', hR', hS', hc⟩
      rcases hc with ⟨hc, _⟩ | ⟨_, G2, hh, rfl, hinv⟩
      · omega
      · exact ⟨⟨G2, hh, R', rfl, hinv, hR'.el, fun i c hi => minv_is (fld h.hD) hR' hS' (fun i hi => (hel i hi).1) i c hi⟩, hb⟩
  · refine inverse_no D.q 3 D.q D.p D.m D.gen (some ⟨gm, 0, none⟩) (D.m + 1) cm h.mat hpos (Or.inl ⟨hNm, rfl⟩) (fun w1 hb1 => ?_)
    refine (minverse_any h.hD (h.mat.below hb1) (by omega)).mono ?_
    rintro e w' ⟨hb, hr⟩
    rcases hr with ⟨h0, _⟩ | ⟨_, _, rfl⟩ | ⟨_, h0, _⟩
    · exact absurd h.chk h0
    · exact ⟨rfl, hb⟩
    · exact absurd (h0 hpos) hNm
/-- What both sides tell of linear equations. -/
theorem c_solve {D : FD} {ao : Option Addr} {m n ca : Nat} {A : Nat → Option Addr} {N C : Nat → Nat} {Z : Nat → Nat → Int} {w : World} {k : Nat} {R : Nat → Nat → Nat} {p : Nat → Nat} {k2 : Nat} {R2 : Nat → Nat → Nat} {p2 : Nat → Nat} (h : MOk D ao m n A N C Z w k R p k2 R2 p2) {bo : Option Addr} {cb : Nat} {y : Nat → Int} (hy : SlZ bo m y w) (hall : D.allHas y m = true) : ∃ (okb : Bool) (L : Nat) (s : Nat → Int), L ≤ 1000 ∧
    (∀ w1, Below w.heap.size w w1 → ∀ (gen gm cm : Nat), ModAt D (.slice (some ⟨gm, 0, none⟩) (D.m + 1) cm) D.md w1 → Calls Try.prog 62 #[.agg #[.int .i64 D.q, .int .i64 D.p, .int .i64 D.m, .int .i64 gen, .slice (some ⟨gm, 0, none⟩) (D.m + 1) cm], .slice ao m ca, .slice bo m cb] w1 fun e w' => (∃ xo xc, e = .returned (.tuple #[.slice xo L xc, .bool okb]) ∧ KI (.slice xo L xc) (zl L s) w') ∧ Below w1.heap.size w1 w') ∧
    (∀ w1, Below w.heap.size w w1 → Calls Try.prog 63 #[.int .i64 D.q, .slice ao m ca, .slice bo m cb] w1 fun e w' => (∃ xo xc, e = .returned (.tuple #[.slice xo L xc, .bool okb, .int .i64 0]) ∧ KI (.slice xo L xc) (zl L s) w') ∧ Below w1.heap.size w1 w') := by
  have h1 := h.m64
  have h2 := h.n64
  have F := fld h.hD
  have hbq : ∀ i, i < m → zc m y i < D.q := fun i hi => (allHas_lt hall i hi).1
  have hsl : ∀ w1, Below w.heap.size w w1 → Sl bo m (zc m y) w1 := fun w1 hb1 j hj => by
    obtain ⟨b, off, e, hc⟩ := slz_below hy hb1 j hj
    exact ⟨b, off, e, by rw [hc, (allHas_lt hall j hj).2]⟩
  obtain ⟨kr, Rr, pr, _, hRr, hSr⟩ := rre_ex h.hD (m := m) (n := n + 1 + 1) (R := aug (n + 1) (mzc N Z) (zc m y)) (fun i hi => aug_el (h.el i hi).1 (hbq i hi)) (fun i hi => aug_bd (h.el i hi).2)
  have kinil : ∀ wx s, KI (.slice none 0 0) (zl 0 s) wx := fun wx s => ⟨Or.inl ⟨rfl, _, _, rfl⟩, fun q hq => by cases hq⟩
  have hprog : ∀ w1, Below w.heap.size w w1 → Calls Try.prog 63 #[.int .i64 D.q, .slice ao m ca, .slice bo m cb] w1 fun e w' => Below w1.heap.size w1 w' ∧ (((∃ i, i < kr ∧ pr i = n + 1) ∧ e = .returned (.tuple #[.slice none 0 0, .bool false, .int .i64 0])) ∨ ((∀ i, i < kr → pr i ≠ n + 1) ∧ ∃ v, e = .returned (.tuple #[v, .bool true, .int .i64 0]) ∧ KI v (zl (n + 1) fun c => ((slx Rr pr (n + 1) kr c : Nat) : Int)) w')) := fun w1 hb1 => by
    refine (msolve_any h.hD (h.mat.below hb1) (by omega) (slz_below hy hb1)).mono ?_
    rintro e w' ⟨hb, hr⟩
    rcases hr with ⟨h0, _⟩ | ⟨_, h0, _⟩ | ⟨_, _, k', R', p', W, _, hW, hR', hS', hc⟩
    · exact absurd h.chk h0
    · rw [hall] at h0; cases h0
    · have hWe : W = n + 1 := by rw [hW h.pos, h.wd]
      subst hWe
      refine ⟨hb, ?_⟩
      rcases hc with ⟨hc, rfl⟩ | ⟨hc, v, rfl, hki⟩
      · exact Or.inl ⟨solve_no F hR' hc hRr (fun v => (hS' v).trans (hSr v).symm), rfl⟩
      · obtain ⟨hk, he, hne⟩ := solve_yes F hR' hc hRr (fun v => (hS' v).trans (hSr v).symm)
        refine Or.inr ⟨hne, v, rfl, ?_⟩
        rw [hk, ← slx_congr (n + 1) k' he]; exact hki
  have href : ∀ w1, Below w.heap.size w w1 → ∀ (gen gm cm : Nat), ModAt D (.slice (some ⟨gm, 0, none⟩) (D.m + 1) cm) D.md w1 → Calls Try.prog 62 #[.agg #[.int .i64 D.q, .int .i64 D.p, .int .i64 D.m, .int .i64 gen, .slice (some ⟨gm, 0, none⟩) (D.m + 1) cm], .slice ao m ca, .slice bo m cb] w1 fun e w' => Below w1.heap.size w1 w' ∧ (((∃ i, i < kr ∧ pr i = n + 1) ∧ e = .returned (.tuple #[.slice none 0 0, .bool false])) ∨ ((∀ i, i < kr → pr i ≠ n + 1) ∧ ∃ v, e = .returned (.tuple #[v, .bool true]) ∧ KI v (zl (n + 1) fun c => ((slx Rr pr (n + 1) kr c : Nat) : Int)) w')) := fun w1 hb1 gen gm cm hM => by
    refine (rsolve_any h.hD gen gm cm rfl h.pos (by omega) (by omega) h.el (h.below hb1).matR (hsl w1 hb1) hbq hM).mono ?_
    rintro e w' ⟨hb, k', R', p', _, hR', hS', hc⟩
    obtain ⟨rfl, he⟩ := rre_uniq F hR' hRr (fun v => (hS' v).trans (hSr v).symm)
    refine ⟨hb, ?_⟩
    rcases hc with ⟨⟨i, hi, e1⟩, rfl⟩ | ⟨hc, v, rfl, hki⟩
    · exact Or.inl ⟨⟨i, hi, by rw [← (he i hi).1]; exact e1⟩, rfl⟩
    · refine Or.inr ⟨fun i hi => by rw [← (he i hi).1]; exact hc i hi, v, rfl, ?_⟩
      rw [← slx_congr (n + 1) k' he]; exact hki
  by_cases hdec : ∃ i, i < kr ∧ pr i = n + 1
  · refine ⟨false, 0, fun _ => 0, by omega, fun w1 hb1 gen gm cm hM => (href w1 hb1 gen gm cm hM).mono ?_, fun w1 hb1 => (hprog w1 hb1).mono ?_⟩
    · rintro e w' ⟨hb, hc⟩
      rcases hc with ⟨_, rfl⟩ | ⟨hc, _⟩
      · exact ⟨⟨none, 0, rfl, kinil _ _⟩, hb⟩
      · obtain ⟨i, hi, e⟩ := hdec
        exact absurd e (hc i hi)
    · rintro e w' ⟨hb, hc⟩
      rcases hc with ⟨_, rfl⟩ | ⟨hc, _⟩
      · exact ⟨⟨none, 0, rfl, kinil _ _⟩, hb⟩
      · obtain ⟨i, hi, e⟩ := hdec
        exact absurd e (hc i hi)
  · refine ⟨true, n + 1, fun c => ((slx Rr pr (n + 1) kr c : Nat) : Int), by omega, fun w1 hb1 gen gm cm hM => (href w1 hb1 gen gm cm hM).mono ?_, fun w1 hb1 => (hprog w1 hb1).mono ?_⟩
    · rintro e w' ⟨hb, hc⟩
      rcases hc with ⟨hc, _⟩ | ⟨_, v, rfl, hki⟩
      · exact absurd hc hdec
      · obtain ⟨xo, xc, rfl⟩ := hki.open
        exact ⟨⟨xo, xc, rfl, hki⟩, hb⟩
    · rintro e w' ⟨hb, hc⟩
      rcases hc with ⟨hc, _⟩ | ⟨_, v, rfl, hki⟩
      · exact absurd hc hdec
      · obtain ⟨xo, xc, rfl⟩ := hki.open
        exact ⟨⟨xo, xc, rfl, hki⟩, hb⟩
end Go.Proofs.Ytbpeahhhkcljeaa
