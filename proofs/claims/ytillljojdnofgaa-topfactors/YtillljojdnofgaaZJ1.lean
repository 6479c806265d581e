/- Calls at polynomials that end with 1: products, parts. -/
import Derived.Test.YtillljojdnofgaaZK1
import Derived.Test.YtillljojdnofgaaZN7
namespace Go.Proofs.Ytillljojdnofgaa
open Go.RowKit

theorem Elm.arg {D : FD} {v : Value} {d : Nat} {x : Nat → Nat} {w : World} (h : Elm v (d, x) w) (hx : Mn D d x) (hd : d ≤ 120) :
    ∃ ao ca, v = .slice ao (d + 1) ca ∧ Arg ao (d + 1) ca (fun j => ((x j : Nat) : Int)) w ∧ D.chk (d + 1) (fun j => ((x j : Nat) : Int)) = 0 ∧ zc (d + 1) (fun j => ((x j : Nat) : Int)) = x := by
  obtain ⟨ao, ca, hv, h1, h2, hs, hl, hn⟩ := h.sl
  refine ⟨ao, ca, hv, ⟨hs.z, hl, by omega, hn, h1, h2⟩, ?_, ?_⟩
  · unfold FD.chk
    rw [if_neg (by omega), if_pos]
    refine allHas_iff.2 fun j hj => ?_
    unfold FD.has
    rw [decide_eq_true_eq]
    have := hx.el j
    omega
  · funext j
    unfold zc
    by_cases e : j < d + 1
    · rw [if_pos e, Int.toNat_natCast]
    · rw [if_neg e, hx.bd j (by omega)]
theorem iv_one {D : FD} (hD : D ∈ fieldsL) : D.iv 1 = 1 := by
  have F := fld hD
  have h := iv_is hD (one_lt' F) (by omega)
  rwa [omul F (iv_lt hD 1)] at h
theorem mon_self {D : FD} (hD : D ∈ fieldsL) {d : Nat} {x : Nat → Nat} (hx : Mn D d x) : D.mon x (d + 1) = x := by
  unfold FD.mon
  rw [Nat.add_sub_cancel, hx.top, iv_one hD, pscale_one (fld hD) hx.el]

theorem mul_elm {D : FD} (hD : D ∈ fieldsL) {va vb : Value} {a b : Nat → Nat} {da db : Nat} {w : World} (ha : Mn D da a) (hb : Mn D db b) (hva : Elm va (da, a) w) (hvb : Elm vb (db, b) w) (h : da + db ≤ 100) :
    Calls Try.prog 40 #[.int .i64 D.q, va, vb] w fun e w' => ∃ v, e = .returned (.tuple #[v, .int .i64 0]) ∧ Elm v (da + db, pmul D (da + 1) a b) w' ∧ Below w.heap.size w w' := by
  obtain ⟨ao, ca, rfl, hA, hc1, hz1⟩ := hva.arg ha (by omega)
  obtain ⟨bo, cb, rfl, hB, hc2, hz2⟩ := hvb.arg hb (by omega)
  refine (pmul_any hD hA hB).mono ?_
  rintro e w' ⟨hbl, hr⟩
  have h12 : D.chk2 (da + 1) (fun j => ((a j : Nat) : Int)) (db + 1) (fun j => ((b j : Nat) : Int)) = 0 := by
    unfold FD.chk2
    rw [if_pos hc1, hc2]
  have d1 : dgn a (da + 1) = da + 1 := ha.trd.dgn (Nat.le_refl _)
  have d2 : dgn b (db + 1) = db + 1 := hb.trd.dgn (Nat.le_refl _)
  rw [hz1, hz2, d1, d2] at hr
  rcases hr with ⟨_, _, v, rfl, ho⟩ | ⟨_, h3, _⟩ | ⟨h3, _⟩
  · rw [(mn_mul (fld hD) ha hb).trd.dgn (by omega)] at ho
    exact ⟨v, rfl, ho.elm, hbl⟩
  · omega
  · exact absurd h12 h3
theorem facSpec_elm {D : FD} (hD : D ∈ fieldsL) {a : Nat → Nat} {da : Nat} {er : Int} {L : List (Nat × (Nat → Nat))} (ha : Mn D da a) (hd : da ≤ 120) (hq : D.q ^ (da / 2) ≤ 4096) (hz : zc (da + 1) (fun j => ((a j : Nat) : Int)) = a) (hc : D.chk (da + 1) (fun j => ((a j : Nat) : Int)) = 0)
    (h : FacSpec D (da + 1) (fun j => ((a j : Nat) : Int)) er L) : er = 0 ∧ Pre D L a pone := by
  have d1 : dgn a (da + 1) = da + 1 := ha.trd.dgn (Nat.le_refl _)
  unfold FacSpec at h
  rw [hz, d1, mon_self hD ha, Nat.add_sub_cancel] at h
  rcases h with ⟨_, _, _, h1, h2⟩ | ⟨_, _, h1, _⟩ | ⟨_, h1, _⟩ | ⟨h1, _⟩
  · exact ⟨h1, h2⟩
  · omega
  · omega
  · exact absurd hc h1
theorem factors_elm {D : FD} (hD : D ∈ fieldsL) {va : Value} {a : Nat → Nat} {da : Nat} {w : World} (ha : Mn D da a) (hva : Elm va (da, a) w) (hd : da ≤ 100) (hq : D.q ^ (da / 2) ≤ 4096) :
    Calls Try.prog 41 #[.int .i64 D.q, va] w fun e w' => ∃ v L, e = .returned (.tuple #[v, .int .i64 0]) ∧ LLs w.heap.size v L w' ∧ Fac D L ∧ prodL D L = a ∧ Below w.heap.size w w' := by
  obtain ⟨ao, ca, rfl, hA, hc1, hz1⟩ := hva.arg ha (by omega)
  refine (factors_any hD hA).mono ?_
  rintro e w' ⟨v, er, L, rfl, hb, hl, hs⟩
  obtain ⟨rfl, hp⟩ := facSpec_elm hD ha (by omega) hq hz1 hc1 hs
  have hf := pre_fac hD L a da ha hp
  exact ⟨v, L, rfl, hl, hf.1, hf.2, hb⟩
theorem irred_elm {D : FD} (hD : D ∈ fieldsL) {v : Value} {p : Nat × (Nat → Nat)} {w : World} (hp : Irr D p) (hv : Elm v p w) (hd : p.1 ≤ 100) (hq : D.q ^ (p.1 / 2) ≤ 4096) :
    Calls Try.prog 42 #[.int .i64 D.q, v] w fun e w' => e = .returned (.tuple #[.bool true, .int .i64 0]) ∧ Below w.heap.size w w' := by
  obtain ⟨ao, ca, rfl, hA, hc1, hz1⟩ := hv.arg hp.mn (by omega)
  refine (irred_any hD hA).mono ?_
  rintro e w' ⟨er, L, rfl, hb, hs⟩
  obtain ⟨rfl, h1⟩ := facSpec_elm hD hp.mn (by omega) hq hz1 hc1 hs
  have := pre_uniq (fld hD) L [p] p.2 h1 (irr_pre hD hp)
  subst this
  exact ⟨rfl, hb⟩

theorem len_degL {D : FD} : ∀ (L : List (Nat × (Nat → Nat))), Fac D L → L.length ≤ degL L ∧ ∀ p, p ∈ L → p.1 ≤ degL L
  | [], _ => ⟨Nat.le_refl _, fun p hp => by simp at hp⟩
  | r :: L, h => by
    have ih := len_degL L (fun p hp => h p (List.mem_cons_of_mem _ hp))
    have hr := (h r (List.mem_cons_self ..)).pos
    refine ⟨by simp only [List.length_cons, degL]; omega, fun p hp => ?_⟩
    rcases List.mem_cons.1 hp with rfl | hp
    · simp only [degL]; omega
    · have := ih.2 p hp
      simp only [degL]; omega
theorem mn_deg {D : FD} {d e : Nat} {x : Nat → Nat} (h1 : Mn D d x) (h2 : Mn D e x) : d = e := by
  rcases Nat.lt_trichotomy d e with h | h | h
  · have := h1.bd e (by omega)
    rw [h2.top] at this; cases this
  · exact h
  · have := h2.bd d (by omega)
    rw [h1.top] at this; cases this

theorem degL_take : ∀ (L : List (Nat × (Nat → Nat))) (k : Nat), degL (L.take k) ≤ degL L
  | [], k => by simp [degL]
  | r :: L, 0 => by simp [degL]
  | r :: L, k + 1 => by
    have := degL_take L k
    simp only [List.take_succ_cons, degL]
    omega

/-- A polynomial's numbers, as a list. -/
def numL (p : Nat × (Nat → Nat)) : List Int := zl (p.1 + 1) fun j => ((p.2 j : Nat) : Int)
theorem Elm.si {v : Value} {p : Nat × (Nat → Nat)} {w : World} (h : Elm v p w) (hn : p.1 ≤ 1000) : SliceI v (numL p) w := h.sliceI (by omega)
theorem prod_snoc {D : FD} (F : Fld D) (L : List (Nat × (Nat → Nat))) (p : Nat × (Nat → Nat)) (hL : ∀ r, r ∈ L → Mn D r.1 r.2) (hp : Mn D p.1 p.2) : prodL D (L ++ [p]) = pmul D (degL L + 1) (prodL D L) p.2 ∧ degL (L ++ [p]) = degL L + p.1 := by
  refine ⟨?_, ?_⟩
  · rw [prod_app F L [p] hL (fun r hr => by rw [List.mem_singleton.1 hr]; exact hp)]
    show pmul D (degL L + 1) (prodL D L) (pmul D (p.1 + 1) p.2 pone) = _
    rw [pmul_one F hp.el hp.bd]
  · induction L with
    | nil => simp [degL]
    | cons r L ih =>
      have := ih (fun s hs => hL s (List.mem_cons_of_mem _ hs))
      simp only [List.cons_append, degL, this]
      omega
/-- How often p stands among the first k. -/
def cntF (p : Nat × (Nat → Nat)) (L : List (Nat × (Nat → Nat))) (k : Nat) : Nat := (L.take k).countP fun r => decide (numL p = numL r)
theorem cntF_step {p r : Nat × (Nat → Nat)} {L : List (Nat × (Nat → Nat))} {k : Nat} (h : L[k]? = some r) : cntF p L (k + 1) = cntF p L k + if numL p = numL r then 1 else 0 := by
  unfold cntF
  rw [List.take_add_one, h, List.countP_append]
  simp [List.countP_cons]
theorem cntF_le (p : Nat × (Nat → Nat)) (L : List (Nat × (Nat → Nat))) (k : Nat) : cntF p L k ≤ k := by
  unfold cntF
  exact Nat.le_trans List.countP_le_length (by rw [List.length_take]; omega)
theorem cntF_all (p : Nat × (Nat → Nat)) (L : List (Nat × (Nat → Nat))) : cntF p L L.length = L.countP fun r => decide (numL p = numL r) := by
  unfold cntF
  rw [List.take_length]
theorem cntF_perm {p : Nat × (Nat → Nat)} {L X Y : List (Nat × (Nat → Nat))} (h : L.Perm (X ++ Y)) : cntF p L L.length = cntF p X X.length + cntF p Y Y.length := by
  rw [cntF_all, cntF_all, cntF_all, h.countP_eq, List.countP_append]
end Go.Proofs.Ytillljojdnofgaa
