/- Texts of ours, one behind the other: H2 H3 H4 K4 S8 Y1 Y2 Y3 S9 Y4 W10 Y5 S10. -/
import Derived.Test.YtcgmllamiaflcaaZU23
import Derived.Test.YtcgmllamiaflcaaZL10
import Derived.Test.YtcgmllamiaflcaaZS4
import Derived.Test.YtcgmllamiaflcaaZX18
import Derived.Test.YtcgmllamiaflcaaZV7
import Derived.Maps.AppendAt
import Derived.Deep.AppendLies
import Derived.Test.YtcgmllamiaflcaaZS2
/- Curves: the program's, and the reference's. -/
namespace Go.Proofs.Ytcgmllamiaflcaa
open Go.RowKit Go.Sort

theorem pmulN_any {D : FD} (hD : D ∈ fieldsL) {so yo : Option Addr} {L my sc cy : Nat} {c : Nat → Nat} {yz : Nat → Int} {w : World} (hs : Arg so L sc (fun j => ((c j : Nat) : Int)) w) (hy : Arg yo my cy yz w) (hE : El D c) (hT : Trd L c) (hL : L ≤ 128) (h0 : D.chk my yz = 0) :
    Calls Try.prog 49 #[.int .i64 D.q, .slice so L sc, .slice yo my cy] w fun e w' => Below w.heap.size w w' ∧
      ((¬ 129 < L + dgn (zc my yz) my ∧ ∃ po pc, e = .returned (.tuple #[.slice po (dgn (pmul D L c (zc my yz)) (L + dgn (zc my yz) my)) pc, .int .i64 0]) ∧ Arg po (dgn (pmul D L c (zc my yz)) (L + dgn (zc my yz) my)) pc (fun j => ((pmul D L c (zc my yz) j : Nat) : Int)) w') ∨
       (129 < L + dgn (zc my yz) my ∧ e = .returned (.tuple #[.slice none 0 0, .int .i64 4]))) := by
  have hc := chk_nat hE hL
  have hz := zc_nat hT.1
  have hdg := hT.dgn (Nat.le_refl L)
  refine (pmul_any hD hs hy).mono ?_
  rintro e w' ⟨hb, hr⟩
  rw [chk2_def, if_pos hc, hz, hdg] at hr
  refine ⟨hb, ?_⟩
  rcases hr with ⟨_, h1, v, rfl, ho⟩ | ⟨_, h1, rfl⟩ | ⟨h1, _⟩
  · have hle := dgn_le (pmul D L c (zc my yz)) (L + dgn (zc my yz) my)
    have hm := (chk_zero h0).1
    have hd := dgn_le (zc my yz) my
    obtain ⟨po, pc, rfl, ha⟩ := ho.arg (by omega)
    exact Or.inl ⟨by omega, po, pc, rfl, ha⟩
  · exact Or.inr ⟨h1, rfl⟩
  · exact absurd h0 h1

set_option maxHeartbeats 8000000 in
set_option maxRecDepth 100000 in
theorem curve_any {D : FD} (hD : D ∈ fieldsL) {ao yo : Option Addr} {m my ca cy : Nat} {A : Nat → Option Addr} {N C : Nat → Nat} {Z : Nat → Nat → Int} {yz : Nat → Int} {w : World} (ha : MatZ ao m A N C Z w) (hy : Arg yo my cy yz w) (h0 : D.chk my yz = 0) (hm : m ≤ 64) :
    Calls Try.prog 26 #[.int .i64 D.q, .slice ao m ca, .slice yo my cy] w fun e w' => Below w.heap.size w w' ∧
      ((cve D (zc my yz) (dgn (zc my yz) my) N Z m m ≠ 0 ∧ e = .returned (.tuple #[.slice none 0 0, .int .i64 (cve D (zc my yz) (dgn (zc my yz) my) N Z m m)])) ∨
       (cve D (zc my yz) (dgn (zc my yz) my) N Z m m = 0 ∧ ∃ v, e = .returned (.tuple #[v, .int .i64 0]) ∧ KI v (zl (cvs D (zc my yz) (dgn (zc my yz) my) N Z m m).1 fun j => (((cvs D (zc my yz) (dgn (zc my yz) my) N Z m m).2 j : Nat) : Int)) w')) := by
  obtain ⟨Y, hY⟩ : ∃ Y, Y = zc my yz := ⟨_, rfl⟩
  obtain ⟨T, hT⟩ : ∃ T, T = dgn Y my := ⟨_, rfl⟩
  rw [← hY, ← hT]
  have HH : Hid (D ∈ fieldsL ∧ MatZ ao m A N C Z w ∧ Arg yo my cy yz w ∧ D.chk my yz = 0 ∧ Y = zc my yz ∧ T = dgn Y my ∧ El D Y ∧ Bd T Y) := ⟨hD, ha, hy, h0, hY, hT, by rw [hY]; exact zc_el (fld hD) h0, by rw [hT]; exact dgn_bd (by rw [hY]; exact zc_bd _ _)⟩
  have HCk : Hid (Calls Try.prog 30 #[.int .i64 D.q, .slice yo my cy] w fun e w' => e = .returned (.int .i64 0) ∧ Below w.heap.size w w') := by
    show Calls _ _ _ _ _
    have h := check_any (cap := cy) hD hy.sl hy.lt hy.few
    rw [h0] at h; exact h
  have hmi : ¬ (64 : Int) < (m : Int) := by omega
  clear hD ha hy h0 hY hT
  go_enter Try.func26, Try.ntmps26
  go_wp2_with fail
  refine HCk.out.mono ?_
  rintro e w1 ⟨rfl, hb1⟩
  have H1 : Hid (Below w.heap.size w w1) := hb1
  clear hb1
  go_wp2_with fail
  go_loopw [9, 10] (fun vs vi wr => ∃ (r j1 : Nat) (so : Option Addr) (sc L : Nat), r + j1 = m ∧ vs = .slice so L sc ∧ ((j1 = 0 ∧ vi = .int .i64 (-1)) ∨ ∃ j : Nat, j1 = j + 1 ∧ vi = .int .i64 (j : Nat)) ∧ Hid (cve D Y T N Z m r = 0 ∧ L = (cvs D Y T N Z m r).1 ∧ Arg so L sc (fun j => (((cvs D Y T N Z m r).2 j : Nat) : Int)) wr ∧ Below w.heap.size w wr)) (fun _ vi _ => (intOf vi + 1).toNat)
  case atStart =>
    by_cases hm0 : m = 0
    · exact ⟨0, 0, none, 0, 0, by omega, rfl, Or.inl ⟨rfl, by rw [hm0]; rfl⟩, rfl, rfl, arg_nil _ _, H1.out⟩
    · exact ⟨0, m, none, 0, 0, by omega, rfl, Or.inr ⟨m - 1, by omega, by go_num⟩, rfl, rfl, arg_nil _ _, H1.out⟩
  case round =>
    obtain ⟨r, j1, so, sc, L, hrj, rfl, hvi, HG⟩ := hrel
    rename World => wA
    rcases hvi with ⟨hj0, rfl⟩ | ⟨j, hj, rfl⟩
    · have hre : m = r := by omega
      subst hre
      have HE : Hid (KI (.slice so L sc) (zl L fun j => (((cvs D Y T N Z m m).2 j : Nat) : Int)) wA) := by
        refine ⟨arg_sliceI HG.out.2.2.1 (Nat.le_refl _), fun k hk => ?_⟩
        cases so with
        | none => cases hk
        | some x => cases hk; exact HG.out.2.2.1.lt x rfl
      have HL : Hid (L = (cvs D Y T N Z m m).1) := HG.out.2.1
      go_wp2
      go_ret2
      refine ⟨HG.out.2.2.2, Or.inr ⟨HG.out.1, _, rfl, ?_⟩⟩
      rw [← HL.out]; exact HE.out
    · have hjm : j < m := by omega
      have hjr : m - 1 - r = j := by omega
      have hji : (j : Int) < (m : Int) := by omega
      have hj0 : (0 : Int) ≤ (j : Int) := by omega
      have hrm : r < m := by omega
      have hst := cvs_ok HH.out.1 HH.out.2.2.2.2.2.2.1 HH.out.2.2.2.2.2.2.2 r HG.out.1
      obtain ⟨c, hc⟩ : ∃ c, c = (cvs D Y T N Z m r).2 := ⟨_, rfl⟩
      have HS : Hid (El D c ∧ Trd L c ∧ L ≤ 128 ∧ Arg so L sc (fun j => ((c j : Nat) : Int)) wA ∧ L = (cvs D Y T N Z m r).1 ∧ c = (cvs D Y T N Z m r).2) := by
        rw [hc, HG.out.2.1]
        exact ⟨hst.1, hst.2.1, hst.2.2, by rw [← HG.out.2.1]; exact HG.out.2.2.1, rfl, rfl⟩
      have HB : Hid (Below w.heap.size w wA ∧ cve D Y T N Z m r = 0) := ⟨HG.out.2.2.2, HG.out.1⟩
      clear hst hc HG
      obtain ⟨lp, hlp⟩ : ∃ lp, lp = dgn (pmul D L c Y) (L + T) := ⟨_, rfl⟩
      have HM : Hid (Calls Try.prog 49 #[.int .i64 D.q, .slice so L sc, .slice yo my cy] wA fun e w' => Below wA.heap.size wA w' ∧ ((¬ 129 < L + T ∧ ∃ po pc, e = .returned (.tuple #[.slice po lp pc, .int .i64 0]) ∧ Arg po lp pc (fun j => ((pmul D L c Y j : Nat) : Int)) w') ∨ (129 < L + T ∧ e = .returned (.tuple #[.slice none 0 0, .int .i64 4])))) := by
        show Calls _ _ _ _ _
        have h := pmulN_any HH.out.1 HS.out.2.2.2.1 (HH.out.2.2.1.below HB.out.1) HS.out.1 HS.out.2.1 HS.out.2.2.1 HH.out.2.2.2.1
        rw [← HH.out.2.2.2.2.1, ← HH.out.2.2.2.2.2.1, ← hlp] at h
        exact h
      have HLp : Hid (lp = dgn (pmul D L c Y) (L + T)) := hlp
      clear hlp
      go_wp2_with fail
      refine HM.out.mono ?_
      rintro e w2 ⟨hb2, hr⟩
      rcases hr with ⟨h129, po, pc, rfl, hpa⟩ | ⟨h129, rfl⟩
      · have H2 : Hid (Below w.heap.size w w2 ∧ Arg po lp pc (fun j => ((pmul D L c Y j : Nat) : Int)) w2 ∧ El D (pmul D L c Y) ∧ Bd lp (pmul D L c Y) ∧ lp ≤ 128 ∧ ¬ 129 < L + T) := by
          refine ⟨bel_up' HB.out.1 hb2, hpa, el_mul (fld HH.out.1) _ _ _, ?_, ?_, h129⟩
          · rw [HLp.out]
            exact dgn_bd ((pmul_bd (fld HH.out.1) HH.out.2.2.2.2.2.2.2 _).mono (by omega))
          · rw [HLp.out, pmul_len HH.out.1 HS.out.1 HH.out.2.2.2.2.2.2.1 HS.out.2.1.1 HH.out.2.2.2.2.2.2.2]
            have b1 := dgn_le c L
            have b2 := dgn_le Y T
            have b3 := HS.out.2.2.1
            split <;> omega
        clear hb2 hpa h129
        obtain ⟨bA, oA, eA, hcA⟩ := (HH.out.2.1.below H2.out.1).cell j hjm
        subst eA
        obtain ⟨e, he⟩ : ∃ e, e = D.chk (N j) (Z j) := ⟨_, rfl⟩
        have HA : Hid (Calls Try.prog 50 #[.int .i64 D.q, .slice po lp pc, .slice (A j) (N j) (C j)] w2 fun x w' => Below w2.heap.size w2 w' ∧ ((e = 0 ∧ ∃ v, x = .returned (.tuple #[v, .int .i64 0]) ∧ OwnP w2.heap.size v (dgn (padd D (pmul D L c Y) (zc (N j) (Z j))) (max lp (N j))) (padd D (pmul D L c Y) (zc (N j) (Z j))) w') ∨ (e ≠ 0 ∧ x = .returned (.tuple #[.slice none 0 0, .int .i64 e])))) := by
          show Calls _ _ _ _ _
          rw [he]
          exact cadd_any HH.out.1 (HH.out.2.1.below H2.out.1) hjm H2.out.2.1 H2.out.2.2.1 H2.out.2.2.2.1 H2.out.2.2.2.2.1
        have HEr : Hid (cve D Y T N Z m (r + 1) = e) := by
          show cve D Y T N Z m (r + 1) = e
          rw [cve, if_neg (fun hn => hn HB.out.2), ← HS.out.2.2.2.2.1, if_neg H2.out.2.2.2.2.2, hjr, he]
        have HSt : Hid (cvs D Y T N Z m (r + 1) = (dgn (padd D (pmul D L c Y) (zc (N j) (Z j))) (max lp (N j)), padd D (pmul D L c Y) (zc (N j) (Z j)))) := by
          show cvs D Y T N Z m (r + 1) = _
          rw [cvs, ← HS.out.2.2.2.2.1, ← HS.out.2.2.2.2.2, hjr, ← HLp.out]
        clear he
        go_wp2_with fail
        refine HA.out.mono ?_
        rintro x w3 ⟨hb3, hr3⟩
        rcases hr3 with ⟨h0, v, rfl, ho⟩ | ⟨h0, rfl⟩
        · have hokr : cve D Y T N Z m (r + 1) = 0 := by rw [HEr.out, h0]
          have hst := cvs_ok HH.out.1 HH.out.2.2.2.2.2.2.1 HH.out.2.2.2.2.2.2.2 (r + 1) hokr
          rw [HSt.out] at hst
          obtain ⟨so', sc', rfl, ha'⟩ := ho.arg (by have h := hst.2.2; show dgn _ _ ≤ 1000000; omega)
          obtain ⟨L', hL'⟩ : ∃ L', L' = dgn (padd D (pmul D L c Y) (zc (N j) (Z j))) (max lp (N j)) := ⟨_, rfl⟩
          rw [← hL'] at ha' ⊢
          have HR : Hid (cve D Y T N Z m (r + 1) = 0 ∧ L' = (cvs D Y T N Z m (r + 1)).1 ∧ Arg so' L' sc' (fun j => (((cvs D Y T N Z m (r + 1)).2 j : Nat) : Int)) w3 ∧ Below w.heap.size w w3) := by
            rw [HSt.out]
            exact ⟨hokr, hL', ha', bel_up' H2.out.1 hb3⟩
          clear hokr hst ho ha' hL' hb3 h0
          go_wp2
          go_roundw
          case rel =>
            by_cases hj00 : j = 0
            · exact ⟨r + 1, 0, so', sc', L', by omega, rfl, Or.inl ⟨rfl, by rw [hj00]; rfl⟩, HR.out⟩
            · exact ⟨r + 1, j, so', sc', L', by omega, rfl, Or.inr ⟨j - 1, by omega, by go_num⟩, HR.out⟩
          case measure => first | (simp [intOf]; done) | (simp [intOf]; omega)
        · have HR : Hid (cve D Y T N Z m m = e ∧ e ≠ 0 ∧ Below w.heap.size w w3) := ⟨cve_to h0 hrm HEr.out, h0, bel_up' H2.out.1 hb3⟩
          have hz : (e != 0) = true := by rw [bne_iff_ne]; exact h0
          clear hb3 h0
          go_wp2
          go_ret2
          exact ⟨HR.out.2.2, Or.inl ⟨by rw [HR.out.1]; exact HR.out.2.1, by rw [HR.out.1]; rfl⟩⟩
      · have HR : Hid (cve D Y T N Z m m = 4 ∧ Below w.heap.size w w2) := by
          refine ⟨cve_to (by omega) hrm ?_, bel_up' HB.out.1 hb2⟩
          rw [cve, if_neg (fun hn => hn HB.out.2), ← HS.out.2.2.2.2.1, if_pos h129]
        clear hb2 h129
        go_wp2
        go_ret2
        exact ⟨HR.out.2, Or.inl ⟨by rw [HR.out.1]; omega, by rw [HR.out.1]; rfl⟩⟩
end Go.Proofs.Ytcgmllamiaflcaa

/- Curves: the reference's. -/
namespace Go.Proofs.Ytcgmllamiaflcaa
open Go.RowKit Go.Sort

end Go.Proofs.Ytcgmllamiaflcaa

/- ListsCurve: the walk of the statement, whatever it is given. -/
namespace Go.Proofs.Ytcgmllamiaflcaa
open Go.RowKit Go.Sort

end Go.Proofs.Ytcgmllamiaflcaa

/- Matrices out of raw numbers (MatrixOf). -/
namespace Go.Proofs.Ytcgmllamiaflcaa
open Go.RowKit Go.Sort

end Go.Proofs.Ytcgmllamiaflcaa

/- Plain mathematics: the shortest rule of a list (Berlekamp and Massey). -/
namespace Go.Proofs.Ytcgmllamiaflcaa

end Go.Proofs.Ytcgmllamiaflcaa

/- The program's rules (reed): trim, missed, less. -/
namespace Go.Proofs.Ytcgmllamiaflcaa
open Go.RowKit Go.Sort

end Go.Proofs.Ytcgmllamiaflcaa

/- The program's rules (reed): the shortest one (shortest, Massey). -/
namespace Go.Proofs.Ytcgmllamiaflcaa
open Go.RowKit Go.Sort

theorem Arg.drewN {ao : Option Addr} {n cap : Nat} {z : Nat → Int} {w : World} (h : Arg ao n cap z w) (k : Nat) : Arg ao n cap z (w.drewN k) := ⟨h.sl, h.lt, h.few, h.nil, h.le, h.cap⟩

end Go.Proofs.Ytcgmllamiaflcaa

/- The program's Massey; lists that are far too long. -/
namespace Go.Proofs.Ytcgmllamiaflcaa
open Go.RowKit Go.Sort

end Go.Proofs.Ytcgmllamiaflcaa

/- Equations that can be met, and the rules of shorter length. -/
namespace Go.Proofs.Ytcgmllamiaflcaa
open Go.RowKit Go.Sort

end Go.Proofs.Ytcgmllamiaflcaa

/- The reference's Rules: does the rule hold? -/
namespace Go.Proofs.Ytcgmllamiaflcaa
open Go.RowKit Go.Sort

end Go.Proofs.Ytcgmllamiaflcaa

/- 'append' of one number, and where its list lies then. -/
namespace Go.Proofs.Ytcgmllamiaflcaa
open Go.RowKit Go.Sort

/-- The same, at a step of a region that draws its order. -/
theorem step_append_int_at {ops : Array Oper} {o : Oper} {a : Act} {w : World} {K : Act → World → Prop} {Q : Exit → Act → World → Prop} {E : Prop} (hgd : o.guard = none) (s x : Operand)
    (ho : o.op = .call { callee := .builtin .append, args := #[s, x], argTypes := #[22, 22] })
    (base : Nat) (v : Value) (l : List Int) (hs : a.eval s = v) (hown : OwnI base v l w) (ad : Addr) (c : Nat) (y : Int) (hx : a.eval x = .slice (some ad) 1 c) (hcell : w.cell? ad = some (.int .i64 y))
    (hlen : l.length ≤ 1000000) (hbase : base ≤ w.heap.size)
    (h : ∀ g cap w', OwnI base (.slice (some ⟨g, 0, none⟩) (l.length + 1) cap) (l ++ [y]) w' → w.grownBy w' v.ownBlock → (Value.ownBlock (.slice (some ⟨g, 0, none⟩) (l.length + 1) cap) = v.ownBlock ∨ Value.ownBlock (.slice (some ⟨g, 0, none⟩) (l.length + 1) cap) = some w.heap.size) → K (a.put o.dst (.slice (some ⟨g, 0, none⟩) (l.length + 1) cap)) w') :
    if Region.wanted o (yielded ops a.tmps) = true then Oper.wp Try.prog o a w K Q else E := by
  obtain ⟨i0, hi, hz0, hz1, hz2⟩ := info_parts Try.infoInt
  refine step_append_lies w hgd s x 22 ho base 3 i0 (.int .i64 0) 1 8 Try.underlying22 hi hz0 hz1 hz2 rfl (by decide) v l.length _ hs hown ad 1 c [.int .i64 y] hx rfl ?_ ?_ (by omega) ?_ ?_ hbase _ rfl ?_
  · intro j u hj
    match j, hj with
    | 0, hj =>
      simp at hj; subst hj
      have : ad.add 0 = ad := by cases ad with | mk b o s => cases s <;> simp [Addr.add]
      rw [this]; exact hcell
  · intro u hu; simp at hu; subst hu; rfl
  · unfold maxLen; omega
  · omega
  · intro g cap w' hown' hgrow hat _
    refine h g cap w' ?_ hgrow ?_
    · unfold OwnI
      rw [List.map_append, List.length_append]
      exact hown'
    · rcases hat with e | e
      · exact Or.inl e.symm
      · exact Or.inr (by rw [e]; rfl)
end Go.Proofs.Ytcgmllamiaflcaa

/- The reference's Shortest: is there no shorter rule? What it keeps. -/
namespace Go.Proofs.Ytcgmllamiaflcaa
open Go.RowKit Go.Sort

theorem OwnI.apartV {base base' : Nat} {u v : Value} {l : List Int} {l' : List Value} {w : World} (h : OwnI base u l w) (h' : OwnV base' v l' w) : v.ownBlock = none ∨ v.ownBlock ≠ u.ownBlock := by
  rcases h.apart h' with e | e
  · cases hv : v.ownBlock with
    | none => exact Or.inl rfl
    | some g => exact Or.inr (by rw [e]; exact fun x => by cases x)
  · exact Or.inr (fun x => e x.symm)
end Go.Proofs.Ytcgmllamiaflcaa

/- Lists that a rule makes: the shortest rule of enough of them makes the rest. -/
namespace Go.Proofs.Ytcgmllamiaflcaa
open Go.RowKit Go.Sort

theorem ng_ad {D : FD} (F : Fld D) {a b : Nat} (ha : a < D.q) (hb : b < D.q) : D.ng (D.ad a b) = D.ad (D.ng a) (D.ng b) := by
  have h1 : D.ad (D.ad a b) (D.ad (D.ng a) (D.ng b)) = 0 := by
    rw [ad4 F ha hb (ng_lt F ha) (ng_lt F hb), ad_ng F ha, ad_ng F hb, ad_zero F (zero_lt' F)]
  exact (ad_cancel F (ad_lt F ha hb) (ad_lt F (ng_lt F ha) (ng_lt F hb)) (ng_lt F (ad_lt F ha hb)) (h1.trans (ad_ng F (ad_lt F ha hb)).symm)).symm
end Go.Proofs.Ytcgmllamiaflcaa
