/- Plain mathematics of polynomials, gone on: Euclid's lemma; parting is unique. No Go text here. -/
import Derived.Test.YtillljojdnofgaaZW7
namespace Go.Proofs.Ytillljojdnofgaa

theorem pd_mull {D : FD} (F : Fld D) {p a S : Nat → Nat} {m : Nat} (h : PD D p a) : PD D p (pmul D m S a) := by
  obtain ⟨n, Q, eQ, hn, rfl⟩ := h
  refine ⟨m + n, pmul D m S Q, el_mul F _ _ _, (pmul_bd F hn m).mono (by omega), ?_⟩
  exact (pmul_assoc F hn m (m + n) (Nat.le_refl _)).symm
theorem pd_mulr {D : FD} (F : Fld D) {p f g : Nat → Nat} {n m : Nat} (ef : El D f) (eg : El D g) (hn : Bd n f) (hm : Bd m g) (h : PD D p f) : PD D p (pmul D n f g) := by
  rw [pmul_comm F ef eg hn hm]
  exact pd_mull F h
theorem pd_add {D : FD} (F : Fld D) {p a b : Nat → Nat} (h1 : PD D p a) (h2 : PD D p b) : PD D p (padd D a b) := by
  obtain ⟨n, Q, eQ, hn, rfl⟩ := h1
  obtain ⟨m, R, eR, hm, rfl⟩ := h2
  refine ⟨n + m, padd D Q R, el_add F eQ eR, fun k hk => ?_, ?_⟩
  · show D.ad (Q k) (R k) = 0
    rw [hn k (by omega), hm k (by omega), ad_zero F (zero_lt' F)]
  · rw [pmul_add_l F eQ eR, pmul_to (N := n + m) F p hn (by omega), pmul_to (N := n + m) F p hm (by omega)]
theorem pd_scale {D : FD} (F : Fld D) {p a : Nat → Nat} (s : Nat) (h : PD D p a) : PD D p (pscale D s a) := by
  obtain ⟨n, Q, eQ, hn, rfl⟩ := h
  refine ⟨n, pscale D s Q, el_scale F _ _, fun k hk => ?_, (pmul_scale_l F s Q p n).symm⟩
  show D.mul s (Q k) = 0
  rw [hn k hk, mul0 F]
theorem pneg_add {D : FD} (F : Fld D) {x y : Nat → Nat} (ex : El D x) (ey : El D y) : padd D (padd D x y) (pscale D (D.ng 1) x) = y := by
  funext k
  show D.ad (D.ad (x k) (y k)) (D.mul (D.ng 1) (x k)) = y k
  rw [F.mul_comm, mul_ng F (one_lt' F), mul1 F (ex k), ad_comm F (x k) (y k), ad_assoc F (ey k) (ex k) (ng_lt F (ex k)), ad_ng F (ex k), ad_zero F (ey k)]
theorem pd_of_add {D : FD} (F : Fld D) {p x y : Nat → Nat} (ex : El D x) (ey : El D y) (h : PD D p (padd D x y)) (h1 : PD D p x) : PD D p y := by
  rw [← pneg_add F ex ey]
  exact pd_add F h (pd_scale F _ h1)
theorem pd_nil {D : FD} (F : Fld D) (p : Nat → Nat) : PD D p pnil := ⟨0, pnil, el_nil F, fun _ _ => rfl, rfl⟩

/-- It can't be parted: it is the first of all that divide it. -/
def Irr (D : FD) (p : Nat × (Nat → Nat)) : Prop := Lst D p.2 p.1 p.2

/-- Euclid: what can't be parted and divides a product divides one of the two. -/
theorem euclid {D : FD} (hD : D ∈ fieldsL) {p : Nat → Nat} {dp : Nat} (hp : Lst D p dp p) {g : Nat → Nat} {m : Nat} (eg : El D g) (hg : Bd m g) :
    ∀ (N : Nat) (f : Nat → Nat), El D f → Bd N f → PD D p (pmul D N f g) → PD D p f ∨ PD D p g := by
  have F := fld hD
  have hpt : p dp ≠ 0 := by rw [hp.mn.top]; omega
  have hpi : D.mul (p dp) (D.iv (p dp)) = 1 := iv_is hD (hp.mn.el dp) hpt
  intro N
  induction N using Nat.strongRecOn with
  | _ N ih =>
    intro f ef hf hd
    have hle := dgn_le f N
    by_cases h0 : dgn f N = 0
    · left
      have : Bd 0 f := by have := dgn_bd hf; rwa [h0] at this
      rw [bd_nil_of this]
      exact pd_nil F p
    · obtain ⟨l, hl⟩ : ∃ l, dgn f N = l + 1 := ⟨dgn f N - 1, by omega⟩
      have hfb : Bd (l + 1) f := by have := dgn_bd hf; rwa [hl] at this
      have hft : f l ≠ 0 := by have := dgn_top f N h0; rwa [hl, Nat.add_sub_cancel] at this
      rw [pmul_to F g hfb (by omega)] at hd
      by_cases hdp : dp < l + 1
      · -- f by p
        have hq := div_is F (b := p) (l := dp) (inv := D.iv (p dp)) (l + 1) ef
        have hrb : Bd dp (divR D p dp (D.iv (p dp)) (l + 1) f) := divR_bd F hp.mn.el hp.mn.bd hpi (l + 1) ef (hfb.mono (by omega))
        have er := el_divR F (b := p) (l := dp) (inv := D.iv (p dp)) (l + 1) ef
        have eq := el_divQ F (b := p) (l := dp) (inv := D.iv (p dp)) (l + 1) f
        have hqb := divQ_bd (D := D) (b := p) (l := dp) (inv := D.iv (p dp)) (l + 1) f
        obtain ⟨r, hr⟩ : ∃ r, r = divR D p dp (D.iv (p dp)) (l + 1) f := ⟨_, rfl⟩
        obtain ⟨Q, hQ⟩ : ∃ Q, Q = divQ D p dp (D.iv (p dp)) (l + 1) f := ⟨_, rfl⟩
        rw [← hr] at hq hrb er
        rw [← hQ] at hq eq hqb
        clear hr hQ
        have hqp : PD D p (pmul D (l + 1) Q p) := ⟨l + 1, Q, eq, hqb, rfl⟩
        have hpd : PD D p (pmul D dp r g) := by
          have e : pmul D (l + 1 + dp + 1) f g = padd D (pmul D (l + 1 + dp + 1) (pmul D (l + 1) Q p) g) (pmul D (l + 1 + dp + 1) r g) := by
            rw [← pmul_add_l F (el_mul F _ _ _) er, hq]
          rw [pmul_to F g hfb (by omega), pmul_to F g hrb (by omega)] at e
          rw [e] at hd
          exact pd_of_add F (el_mul F _ _ _) (el_mul F _ _ _) hd (pd_mulr F (el_mul F _ _ _) eg ((pmul_bd F hp.mn.bd (l + 1)).mono (by omega)) hg hqp)
        rcases ih dp (by omega) r er hrb hpd with h | h
        · left
          rw [← hq]
          exact pd_add F hqp h
        · exact Or.inr h
      · -- p by f
        have hfi : D.mul (f l) (D.iv (f l)) = 1 := iv_is hD (ef l) hft
        have hq := div_is F (b := f) (l := l) (inv := D.iv (f l)) (dp + 1) hp.mn.el
        have hrb : Bd l (divR D f l (D.iv (f l)) (dp + 1) p) := divR_bd F ef hfb hfi (dp + 1) hp.mn.el (hp.mn.bd.mono (by omega))
        have er := el_divR F (b := f) (l := l) (inv := D.iv (f l)) (dp + 1) hp.mn.el
        have eq := el_divQ F (b := f) (l := l) (inv := D.iv (f l)) (dp + 1) p
        have hqb := divQ_bd (D := D) (b := f) (l := l) (inv := D.iv (f l)) (dp + 1) p
        obtain ⟨r, hr⟩ : ∃ r, r = divR D f l (D.iv (f l)) (dp + 1) p := ⟨_, rfl⟩
        obtain ⟨Q, hQ⟩ : ∃ Q, Q = divQ D f l (D.iv (f l)) (dp + 1) p := ⟨_, rfl⟩
        rw [← hr] at hq hrb er
        rw [← hQ] at hq eq hqb
        clear hr hQ
        have hpd : PD D p (pmul D l r g) := by
          have e : pmul D (dp + 1 + l + 1) p g = padd D (pmul D (dp + 1 + l + 1) (pmul D (dp + 1) Q f) g) (pmul D (dp + 1 + l + 1) r g) := by
            rw [← pmul_add_l F (el_mul F _ _ _) er, hq]
          rw [pmul_to F g hp.mn.bd (by omega), pmul_to F g hrb (by omega), pmul_assoc F hfb (dp + 1) _ (by omega)] at e
          have h1 : PD D p (pmul D (dp + 1) p g) := pd_mulr F hp.mn.el eg hp.mn.bd hg (PD.refl F hp.mn.el)
          rw [e] at h1
          exact pd_of_add F (el_mul F _ _ _) (el_mul F _ _ _) h1 (pd_mull F hd)
        rcases ih l (by omega) r er hrb hpd with h | h
        · -- r is nought
          obtain ⟨n', S, eS, hS, e⟩ := h
          have hS0 : S = pnil := pmul_zero_of F hp.mn.bd hpt n' hS (by rw [← e]; exact hrb.mono (by omega))
          have hr0 : r = pnil := by rw [e, hS0, pmul_zeros F (a := pnil) p (fun _ _ => rfl)]
          rw [hr0, padd_nil F (el_mul F _ _ _)] at hq
          have hfm : Mn D l (D.mon f (l + 1)) := mon_mn hD ef ⟨hfb, fun _ => hft⟩
          have hfs : f = pscale D (f l) (D.mon f (l + 1)) := by
            unfold FD.mon
            rw [pscale_pscale F, Nat.add_sub_cancel, hfi, pscale_one F ef]
          by_cases hl1 : 1 ≤ l
          · exfalso
            refine hp.least l (D.mon f (l + 1)) hl1 hfm ⟨dp + 1, pscale D (f l) Q, el_scale F _ _, fun k hk => by show D.mul (f l) (Q k) = 0; rw [hqb k hk, mul0 F], ?_⟩ (Or.inl (by omega))
            rw [pmul_scale_l F, ← pmul_scale_r F, ← hfs, hq]
          · have hl0 : l = 0 := by omega
            subst hl0
            right
            have hone : D.mon f 1 = pone := mn_zero hfm
            rw [hone] at hfs
            have e1 : pmul D 1 f g = pscale D (f 0) g := by
              rw [hfs, pmul_scale_l F, show (pscale D (f 0) pone) 0 = f 0 from by show D.mul (f 0) (pone 0) = f 0; exact mul1 F (ef 0)]
              rw [pmul_comm F (el_one F) eg pone_bd hg, pmul_one F eg hg]
            rw [e1] at hd
            have := pd_scale F (D.iv (f 0)) hd
            rwa [pscale_pscale F, F.mul_comm, hfi, pscale_one F eg] at this
        · exact Or.inr h

/-- The product of all. -/
def prodL (D : FD) : List (Nat × (Nat → Nat)) → Nat → Nat
  | [] => pone
  | p :: L => pmul D (p.1 + 1) p.2 (prodL D L)
/-- None of them can be parted. -/
def Fac (D : FD) (L : List (Nat × (Nat → Nat))) : Prop := ∀ p, p ∈ L → Irr D p
def degL : List (Nat × (Nat → Nat)) → Nat
  | [] => 0
  | p :: L => p.1 + degL L
theorem mn_mul {D : FD} (F : Fld D) {a b : Nat → Nat} {da db : Nat} (ha : Mn D da a) (hb : Mn D db b) : Mn D (da + db) (pmul D (da + 1) a b) :=
  ⟨el_mul F _ _ _, (pmul_bd F hb.bd (da + 1)).mono (by omega), by rw [pmul_top F hb.bd, ha.top, hb.top, mul1 F (one_lt' F)]⟩
theorem mn_one {D : FD} (F : Fld D) : Mn D 0 pone := ⟨el_one F, pone_bd, rfl⟩
theorem prod_mn {D : FD} (F : Fld D) : ∀ (L : List (Nat × (Nat → Nat))), (∀ p, p ∈ L → Mn D p.1 p.2) → Mn D (degL L) (prodL D L)
  | [], _ => mn_one F
  | p :: L, h => mn_mul F (h p (List.mem_cons_self ..)) (prod_mn F L (fun r hr => h r (List.mem_cons_of_mem _ hr)))
theorem Fac.mn {D : FD} {L : List (Nat × (Nat → Nat))} (h : Fac D L) : ∀ p, p ∈ L → Mn D p.1 p.2 := fun p hp => (h p hp).mn
theorem irr_eq {D : FD} (hD : D ∈ fieldsL) {p r : Nat × (Nat → Nat)} (hp : Irr D p) (hr : Irr D r) (h : PD D p.2 r.2) : p = r := by
  have F := fld hD
  have h1 := hr.least p.1 p.2 hp.pos hp.mn h
  have h2 := pd_deg hD hr.mn hp.mn h
  have h3 : p.1 = r.1 := by
    rcases Nat.lt_or_ge p.1 r.1 with e | e
    · exact absurd (Or.inl e) h1
    · omega
  obtain ⟨m, b, eb, hm, e⟩ := h
  obtain ⟨db, hdb, e2⟩ := mn_quot hD hr.mn hp.mn eb hm e
  have e3 : db = 0 := by omega
  subst e3
  have e4 := mn_zero hdb
  subst e4
  have e5 : r.2 = p.2 := by rw [e, pmul_comm F eb hp.mn.el hm hp.mn.bd, pmul_one F hp.mn.el hp.mn.bd]
  exact Prod.ext h3 e5.symm
theorem irr_mem {D : FD} (hD : D ∈ fieldsL) {p : Nat × (Nat → Nat)} (hp : Irr D p) : ∀ (M : List (Nat × (Nat → Nat))), Fac D M → PD D p.2 (prodL D M) → p ∈ M
  | [], _, h => absurd h (not_pd_one (fld hD) hp.mn hp.pos)
  | r :: M, hM, h => by
    have hr := hM r (List.mem_cons_self ..)
    have hM' : Fac D M := fun s hs => hM s (List.mem_cons_of_mem _ hs)
    have hpm := prod_mn (fld hD) M hM'.mn
    rcases euclid hD hp hpm.el hpm.bd (r.1 + 1) r.2 hr.mn.el hr.mn.bd h with h1 | h1
    · rw [irr_eq hD hp hr h1]; exact List.mem_cons_self ..
    · exact List.mem_cons_of_mem _ (irr_mem hD hp M hM' h1)
theorem prod_app {D : FD} (F : Fld D) : ∀ (L M : List (Nat × (Nat → Nat))), (∀ p, p ∈ L → Mn D p.1 p.2) → (∀ p, p ∈ M → Mn D p.1 p.2) → prodL D (L ++ M) = pmul D (degL L + 1) (prodL D L) (prodL D M)
  | [], M, _, hM => by
    have hX := prod_mn F M hM
    show prodL D M = pmul D 1 pone (prodL D M)
    rw [pmul_comm F (el_one F) hX.el pone_bd hX.bd, pmul_one F hX.el hX.bd]
  | p :: L, M, h, hM => by
    have hL : ∀ r, r ∈ L → Mn D r.1 r.2 := fun r hr => h r (List.mem_cons_of_mem _ hr)
    have hX := prod_mn F L hL
    have hp := h p (List.mem_cons_self ..)
    show pmul D (p.1 + 1) p.2 (prodL D (L ++ M)) = pmul D (p.1 + degL L + 1) (pmul D (p.1 + 1) p.2 (prodL D L)) (prodL D M)
    rw [prod_app F L M hL hM, ← pmul_assoc F hX.bd (p.1 + 1) (p.1 + 1 + (degL L + 1)) (Nat.le_refl _)]
    exact pmul_to F _ (mn_mul F hp hX).bd (by omega)
theorem prod_mid {D : FD} (F : Fld D) (p : Nat × (Nat → Nat)) (s t : List (Nat × (Nat → Nat))) (hp : Mn D p.1 p.2) (hs : ∀ r, r ∈ s → Mn D r.1 r.2) (ht : ∀ r, r ∈ t → Mn D r.1 r.2) : prodL D (s ++ p :: t) = prodL D (p :: (s ++ t)) := by
  have hS := prod_mn F s hs
  have hT := prod_mn F t ht
  rw [prod_app F s (p :: t) hs (fun r hr => by rcases List.mem_cons.1 hr with rfl | hr; exact hp; exact ht r hr)]
  show pmul D (degL s + 1) (prodL D s) (pmul D (p.1 + 1) p.2 (prodL D t)) = pmul D (p.1 + 1) p.2 (prodL D (s ++ t))
  rw [prod_app F s t hs ht, ← pmul_assoc F hp.bd (degL s + 1) (degL s + 1 + (p.1 + 1)) (Nat.le_refl _), ← pmul_assoc F hS.bd (p.1 + 1) (degL s + 1 + (p.1 + 1)) (by omega)]
  rw [pmul_comm F hS.el hp.el hS.bd hp.bd]
/-- Parting is unique: another order, no more. -/
theorem fac_uniq {D : FD} (hD : D ∈ fieldsL) : ∀ (L M : List (Nat × (Nat → Nat))), Fac D L → Fac D M → prodL D L = prodL D M → L.Perm M
  | [], M, _, hM, h => by
    cases M with
    | nil => exact List.Perm.refl _
    | cons r M =>
      have hr := hM r (List.mem_cons_self ..)
      have hM' : Fac D M := fun s hs => hM s (List.mem_cons_of_mem _ hs)
      have hX := prod_mn (fld hD) M hM'.mn
      exfalso
      refine not_pd_one (fld hD) hr.mn hr.pos ?_
      have h : pone = pmul D (r.1 + 1) r.2 (prodL D M) := h
      rw [h]
      exact pd_mulr (fld hD) hr.mn.el hX.el hr.mn.bd hX.bd (PD.refl (fld hD) hr.mn.el)
  | p :: L, M, hL, hM, h => by
    have F := fld hD
    have hp := hL p (List.mem_cons_self ..)
    have hL' : Fac D L := fun s hs => hL s (List.mem_cons_of_mem _ hs)
    have hX := prod_mn F L hL'.mn
    have hpd : PD D p.2 (prodL D M) := by
      rw [← h]
      exact pd_mulr F hp.mn.el hX.el hp.mn.bd hX.bd (PD.refl F hp.mn.el)
    obtain ⟨s, t, rfl⟩ := List.append_of_mem (irr_mem hD hp M hM hpd)
    have hs : Fac D s := fun r hr => hM r (List.mem_append_left _ hr)
    have ht : Fac D t := fun r hr => hM r (List.mem_append_right _ (List.mem_cons_of_mem _ hr))
    have hst : Fac D (s ++ t) := fun r hr => by rcases List.mem_append.1 hr with h | h; exact hs r h; exact ht r h
    rw [prod_mid F p s t hp.mn hs.mn ht.mn] at h
    have hY := prod_mn F (s ++ t) hst.mn
    have h : pmul D (p.1 + 1) p.2 (prodL D L) = pmul D (p.1 + 1) p.2 (prodL D (s ++ t)) := h
    have e : prodL D L = prodL D (s ++ t) := by
      rw [pmul_comm F hp.mn.el hX.el hp.mn.bd hX.bd, pmul_comm F hp.mn.el hY.el hp.mn.bd hY.bd] at h
      have hN : pmul D (degL L + degL (s ++ t) + 1) (prodL D L) p.2 = pmul D (degL L + degL (s ++ t) + 1) (prodL D (s ++ t)) p.2 := by
        rw [pmul_to F p.2 hX.bd (by omega), pmul_to F p.2 hY.bd (by omega), h]
      exact (div_uniq F hp.mn.bd (by rw [hp.mn.top]; omega) hX.el hY.el (el_nil F) (el_nil F) (hX.bd.mono (by omega : degL L + 1 ≤ degL L + degL (s ++ t) + 1)) (hY.bd.mono (by omega)) (fun _ _ => rfl) (fun _ _ => rfl) (by rw [hN])).1
    exact (List.Perm.cons p (fac_uniq hD L (s ++ t) hL' hst e)).trans List.perm_middle.symm
theorem pre_fac {D : FD} (hD : D ∈ fieldsL) : ∀ (L : List (Nat × (Nat → Nat))) (a0 : Nat → Nat) (da : Nat), Mn D da a0 → Pre D L a0 pone → Fac D L ∧ prodL D L = a0
  | [], a0, _, _, h => ⟨fun p hp => by simp at hp, (show a0 = pone from h).symm⟩
  | r :: L, a0, da, h0, ⟨h1, m, b, h2, h3, h4, h5⟩ => by
    have F := fld hD
    obtain ⟨db, h6, h7⟩ := mn_quot hD h0 h1.mn h2 h3 h4
    have ih := pre_fac hD L b db h6 h5
    refine ⟨fun p hp => ?_, ?_⟩
    · rcases List.mem_cons.1 hp with rfl | hp
      · exact ⟨h1.mn, h1.pos, PD.refl F h1.mn.el, fun e y he hy hd hb => h1.least e y he hy (PD.trans F h1.dv hd) hb⟩
      · exact ih.1 p hp
    · show pmul D (r.1 + 1) r.2 (prodL D L) = a0
      rw [ih.2, h4, pmul_comm F h1.mn.el h2 h1.mn.bd h3]
theorem irr_pre {D : FD} (hD : D ∈ fieldsL) {p : Nat × (Nat → Nat)} (h : Irr D p) : Pre D [p] p.2 pone := by
  have F := fld hD
  refine ⟨h, 1, pone, el_one F, pone_bd, ?_, rfl⟩
  rw [pmul_comm F (el_one F) h.mn.el pone_bd h.mn.bd, pmul_one F h.mn.el h.mn.bd]
end Go.Proofs.Ytillljojdnofgaa
