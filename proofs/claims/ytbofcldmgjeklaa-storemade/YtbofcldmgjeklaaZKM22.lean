/- Texts of ours, one behind the other: KM22 KM23. -/
import Derived.Test.YtbofcldmgjeklaaZKM19
import Derived.Test.YtbofcldmgjeklaaZO3
import Derived.Test.YtbofcldmgjeklaaZKM20
/- The reference: may nodes have such lists? HaveMay. -/
namespace Go.Proofs.Ytbofcldmgjeklaa
open Go.RowKit Go.Sort

theorem nchk_allHas (D : FD) (n : Nat) (z : Nat → Int) (many : Int) : D.nchk n z many = if ((n : Nat) : Int) ≠ many then 6 else if D.allHas z n = true then 0 else 2 := by
  have h : ∀ n, anyB (fun j => !D.has (z j)) n = !D.allHas z n := fun n => by
    induction n with
    | zero => rfl
    | succ n ih =>
      show (anyB (fun j => !D.has (z j)) n || !D.has (z n)) = !(D.allHas z n && D.has (z n))
      rw [ih, Bool.not_and]
  unfold FD.nchk
  rw [h n]
  cases D.allHas z n <;> rfl

set_option maxHeartbeats 8000000 in
set_option maxRecDepth 100000 in
theorem haveMay_any {D : FD} (gen : Nat) (v : Value) {m ca hm hc : Nat} {ao ho : Option Addr} {A : Nat → Option Addr} {N C : Nat → Nat} {Z : Nat → Nat → Int} {w : World} (hH : MatZ ho hm A N C Z w) (hhm : hm ≤ 1000000) (d : Int) :
    Calls Try.prog 49 #[.agg #[.int .i64 D.q, .int .i64 D.p, .int .i64 D.m, .int .i64 gen, v], .slice ao m ca, .slice ho hm hc, .int .i64 d] w fun e w' => e = .returned (.int .i64 (hvm D m hm N Z d)) ∧ Below w.heap.size w w' := by
  obtain ⟨wa, hwa⟩ : ∃ wa, wa = w.alloc (.cells #[.int .i64 D.q, .int .i64 D.p, .int .i64 D.m, .int .i64 gen, v] 31) := ⟨_, rfl⟩
  have hba : Below w.heap.size w wa := by rw [hwa]; exact (Below.refl _ _).alloc (Nat.le_refl _) _
  have hsa : wa.heap.size = w.heap.size + 1 := by rw [hwa]; simp
  have HX : Hid (Box w.heap.size D gen v wa ∧ wa.heap.size = w.heap.size + 1 ∧ Below w.heap.size w wa ∧ MatZ ho hm A N C Z wa) := ⟨by rw [hwa]; exact box_new D gen _ w, hsa, hba, hH.below hba⟩
  obtain ⟨E, hE⟩ : ∃ E, E = hvm D m hm N Z d := ⟨_, rfl⟩
  have HE : Hid (E = hvm D m hm N Z d) := hE
  rw [← hE]
  clear hba hH hsa hE
  go_enter Try.func49, Try.ntmps49
  by_cases h2 : hm = m
  · have hz : ((hm : Int) != (m : Int)) = false := by rw [h2]; simp
    have HM : Hid (E = hvc D N Z d hm) := by have h := HE.out; unfold hvm at h; rw [if_neg (by omega)] at h; exact h
    clear h2
    go_wp2
    rw [← hwa]
    clear hwa
    go_loopw [9] (fun vi wr => ∃ r : Nat, r ≤ hm ∧ vi = .int .i64 (r : Nat) ∧ Hid (hvc D N Z d r = 0 ∧ Below wa.heap.size wa wr)) (fun vi _ => hm - (intOf vi).toNat)
    case atStart => exact ⟨0, by omega, rfl, rfl, Below.refl _ _⟩
    case round =>
      obtain ⟨r, hr, rfl, HG⟩ := hrel
      rename World => wr
      have hb := HG.out.2
      by_cases hlt : r < hm
      · have hib : (r : Int) < (hm : Int) := by omega
        obtain ⟨b, off, rfl, hcr⟩ := (HX.out.2.2.2.below hb).cell r hlt
        obtain ⟨Nr, hNr⟩ : ∃ Nr, Nr = N r := ⟨_, rfl⟩
        have hfr : Nr ≤ 1000000 := by rw [hNr]; exact HX.out.2.2.2.few r hlt
        obtain ⟨t, ht⟩ : ∃ t, t = D.allHas (Z r) (N r) := ⟨_, rfl⟩
        have HEl : Hid (∀ q cap, Calls Try.prog 13 #[.agg #[.int .i64 D.q, .int .i64 D.p, .int .i64 D.m, .int .i64 gen, v], .slice (A r) Nr cap] (wr.drewN q) fun e w' => e = .returned (.bool t) ∧ Below (wr.drewN q).heap.size (wr.drewN q) w') := fun q cap => by
          rw [ht, hNr]
          exact relements_any gen v (HX.out.2.2.2.few r hlt) ((HX.out.2.2.2.below hb).sl r hlt)
        have HS : Hid (hvc D N Z d (r + 1) = if ((Nr : Nat) : Int) ≠ d then 6 else if t = true then 0 else 2) := by
          show (if hvc D N Z d r ≠ 0 then hvc D N Z d r else D.nchk (N r) (Z r) d) = _
          rw [if_neg (by rw [HG.out.1]; omega), nchk_allHas, hNr, ht]
        rw [← hNr] at hcr
        obtain ⟨k0, k1, k2, k3, k4⟩ := HX.out.1.below (B := wa.heap.size) hb (by have := HX.out.2.1; omega)
        clear hNr ht hb
        by_cases hn : ((Nr : Nat) : Int) = d
        · have hzn : (((Nr : Nat) : Int) != d) = false := by rw [hn]; simp
          have HS2 : Hid (hvc D N Z d (r + 1) = if t = true then 0 else 2) := by have h := HS.out; rw [if_neg (by omega)] at h; exact h
          clear hn
          go_wp2
          refine quiet_tail 5 (by kernel_rfl) (by kernel_rfl) ?_
          simp only [List.take_succ_cons, List.take_zero, List.drop_succ_cons, List.drop_zero]
          repeat (go_big_quiet_step (fail))
          refine wpQuiet_nil ?_
          intro _ hw'
          obtain ⟨nq, hw''⟩ := hw'
          subst hw''
          go_wp2_with fail
          refine (HEl.out nq _).mono ?_
          rintro e w1 ⟨rfl, hb1⟩
          have HB1 : Hid (Below wa.heap.size wa w1) := bel_up' (below_drewN2 HG.out.2 nq) hb1
          clear hb1
          cases t with
          | true =>
            have HV : Hid (hvc D N Z d (r + 1) = 0) := by have h := HS2.out; simp at h; exact h
            go_wp2
            go_roundw
            case rel => exact ⟨r + 1, by omega, by go_num, HV.out, HB1.out⟩
            case measure => simp [intOf]; omega
          | false =>
            have HV : Hid (E = 2) := by
              have h := HS2.out
              simp at h
              show E = 2
              rw [HM.out, hvc_bad (r := r + 1) (by rw [h]; decide) hm (by omega), h]
            go_wp2
            go_ret
            exact ⟨by rw [HV.out]; rfl, bel_up' HX.out.2.2.1 HB1.out⟩
        · have hzn : (((Nr : Nat) : Int) != d) = true := by rw [bne_iff_ne]; exact hn
          have HV : Hid (E = 6) := by
            have h := HS.out
            rw [if_pos hn] at h
            show E = 6
            rw [HM.out, hvc_bad (r := r + 1) (by rw [h]; decide) hm (by omega), h]
          clear hn
          go_wp2
          go_ret
          exact ⟨by rw [HV.out]; rfl, bel_up' HX.out.2.2.1 HG.out.2⟩
      · have hib : ¬ (r : Int) < (hm : Int) := by omega
        have HV : Hid (E = 0) := by show E = 0; rw [HM.out, show hm = r by omega]; exact HG.out.1
        go_wp2
        go_ret
        exact ⟨by rw [HV.out]; rfl, bel_up' HX.out.2.2.1 HG.out.2⟩
  · have hz : ((hm : Int) != (m : Int)) = true := by rw [bne_iff_ne]; omega
    have HV : Hid (E = 6) := by have h := HE.out; unfold hvm at h; rw [if_pos h2] at h; exact h
    go_wp2
    rw [← hwa]
    go_ret
    exact ⟨by rw [HV.out]; rfl, HX.out.2.2.1⟩
end Go.Proofs.Ytbofcldmgjeklaa

/- For the reference's file of what nodes have: there is a square; rows that grow; sums that are taken away one after another. -/
namespace Go.Proofs.Ytbofcldmgjeklaa
open Go.RowKit Go.Sort

theorem fnd_ex {D : FD} (hD : D ∈ fieldsL) {k d : Nat} {xs : Nat → Nat} {H : Nat → Nat → Nat} (hk : k ≤ d) (hx : ∀ i, i < k → xs i < D.q) (hne : ∀ i j, i < k → j < k → i ≠ j → xs i ≠ xs j) (hH : ∀ i, i < k → El D (H i)) : ∃ Q, Fnd D k d xs H Q := by
  have F := fld hD
  have h : ∀ m, m ≤ d → ∃ Q, Fdn D k d xs H (d - m) Q := fun m => by
    induction m with
    | zero => intro _; exact ⟨_, Fdn.start F hk xs H⟩
    | succ m ih =>
      intro hm
      obtain ⟨Q, hQ⟩ := ih (by omega)
      rw [show d - m = d - (m + 1) + 1 by omega] at hQ
      obtain ⟨co, h1, h2, h3⟩ := thr_ex hD k hx hne (y := rst D d (d - (m + 1)) xs H Q) (fun i hi => sb_lt F (hH i hi _) (ev_lt F _ _ _))
      exact ⟨_, hQ.next F hk (by omega) hH h1 h2 h3⟩
  obtain ⟨Q, hQ⟩ := h d (Nat.le_refl _)
  rw [Nat.sub_self] at hQ
  exact ⟨Q, hQ.fnd⟩
/-- What solves the equations of a column beyond k. -/
theorem Fnd.solve_far {D : FD} (hD : D ∈ fieldsL) {k d kr j : Nat} {xs : Nat → Nat} {H Q R : Nat → Nat → Nat} {p : Nat → Nat} (hx : ∀ i, i < k → xs i < D.q) (hne : ∀ i j, i < k → j < k → i ≠ j → xs i ≠ xs j) (hH : ∀ i, i < k → El D (H i)) (h : Fnd D k d xs H Q) (h1 : k ≤ j) (h2 : j < d) (hr : RRE D (k + 1) kr R p)
    (hs : ∀ v, Spn D (RowsOf kr R) v ↔ Spn D (RowsOf k (aug k (fun i => pwr D k (xs i)) fun t => H t j)) v) : (∀ i, i < kr → p i ≠ k) ∧ ∀ i, i < k → slx R p k kr i = Q j i :=
  solve_thr hD hx hne (fun i hi => hH i hi j) (h.el j) (h.far j h1 h2).1 (h.far j h1 h2).2 hr hs
/-- What is left of a column below k, when the further numbers are taken away. -/
def lft (D : FD) (k : Nat) (x y : Nat) (q : Nat → Nat) (c : Nat) : Nat := D.sb y (D.ev (fun a => if a < k then 0 else q a) x c)
theorem lft_start {D : FD} (F : Fld D) {k x y : Nat} (hy : y < D.q) (q : Nat → Nat) : lft D k x y q k = y := by
  unfold lft
  rw [ev_same (a := fun a => if a < k then 0 else q a) (b := pnil) x k (fun i hi => by show (if i < k then 0 else q i) = 0; rw [if_pos hi]), ev_nil F, sb_zero F hy]
theorem sb_more {D : FD} (F : Fld D) {a b c : Nat} (ha : a < D.q) (hb : b < D.q) (hc : c < D.q) : D.sb (D.sb a b) c = D.sb a (D.ad b c) := by
  have h1 := sb_lt F ha hb
  refine ad_cancel F (ad_lt F hb hc) (sb_lt F h1 hc) (sb_lt F ha (ad_lt F hb hc)) ?_
  rw [ad_sb F ha (ad_lt F hb hc), ad_assoc F hb hc (sb_lt F h1 hc), ad_sb F h1 hc, ad_sb F ha hb]
theorem lft_next {D : FD} (F : Fld D) {k x y c : Nat} (hy : y < D.q) (q : Nat → Nat) (hc : k ≤ c) : D.sb (lft D k x y q c) (D.mul (D.xp x c) (q c)) = lft D k x y q (c + 1) := by
  unfold lft
  rw [sb_more F hy (ev_lt F _ _ _) (F.mul_lt _ _)]
  congr 1
  show _ = D.ad (D.ev (fun a => if a < k then 0 else q a) x c) (D.mul (if c < k then 0 else q c) (D.xp x c))
  rw [if_neg (by omega), F.mul_comm]
theorem Fnd.lft_is {D : FD} (F : Fld D) {k d j t : Nat} {xs : Nat → Nat} {H Q : Nat → Nat → Nat} (hk : k ≤ d) (h : Fnd D k d xs H Q) (hj : j < k) (ht : t < k) : lft D k (xs t) (H t j) (Q j) d = D.ev (fun a => if a < k then Q j a else 0) (xs t) k := by
  unfold lft
  have h1 := h.mid j t hj ht
  rw [show d = k + (d - k) by omega, ev_two F, show k + (d - k) = d by omega] at h1
  rw [← h1]
  exact sb_ad F (ev_lt F _ _ _) (ev_lt F _ _ _)
theorem Fnd.solve_mid {D : FD} (hD : D ∈ fieldsL) {k d kr j : Nat} {xs : Nat → Nat} {H Q R : Nat → Nat → Nat} {p : Nat → Nat} (hk : k ≤ d) (hx : ∀ i, i < k → xs i < D.q) (hne : ∀ i j, i < k → j < k → i ≠ j → xs i ≠ xs j) (h : Fnd D k d xs H Q) (hj : j < k) (hr : RRE D (k + 1) kr R p)
    (hs : ∀ v, Spn D (RowsOf kr R) v ↔ Spn D (RowsOf k (aug k (fun i => pwr D k (xs i)) fun t => lft D k (xs t) (H t j) (Q j) d)) v) : (∀ i, i < kr → p i ≠ k) ∧ ∀ i, i < k → slx R p k kr i = Q j i := by
  have F := fld hD
  have hs2 : ∀ v, Spn D (RowsOf kr R) v ↔ Spn D (RowsOf k (aug k (fun i => pwr D k (xs i)) fun t => D.ev (fun a => if a < k then Q j a else 0) (xs t) k)) v := fun v => by
    rw [hs v]
    have e : ∀ u, RowsOf k (aug k (fun i => pwr D k (xs i)) fun t => lft D k (xs t) (H t j) (Q j) d) u ↔ RowsOf k (aug k (fun i => pwr D k (xs i)) fun t => D.ev (fun a => if a < k then Q j a else 0) (xs t) k) u := fun u => by
      have e2 : ∀ t, t < k → aug k (fun i => pwr D k (xs i)) (fun t => lft D k (xs t) (H t j) (Q j) d) t = aug k (fun i => pwr D k (xs i)) (fun t => D.ev (fun a => if a < k then Q j a else 0) (xs t) k) t := fun t ht => by
        funext a
        unfold aug
        by_cases c : a = k
        · rw [if_pos c, if_pos c]; exact h.lft_is F hk hj ht
        · rw [if_neg c, if_neg c]
      constructor
      · rintro ⟨t, ht, rfl⟩; exact ⟨t, ht, e2 t ht⟩
      · rintro ⟨t, ht, rfl⟩; exact ⟨t, ht, (e2 t ht).symm⟩
    unfold Spn
    constructor
    · rintro ⟨l, h1, h2⟩; exact ⟨l, fun x hx => (e _).1 (h1 x hx), h2⟩
    · rintro ⟨l, h1, h2⟩; exact ⟨l, fun x hx => (e _).2 (h1 x hx), h2⟩
  have r := solve_thr hD hx hne (fun i _ => ev_lt F _ _ _) (co := fun a => if a < k then Q j a else 0) (fun a => by
    show (if a < k then Q j a else 0) < D.q
    split
    · exact h.el j a
    · exact zero_lt' F) (fun a ha => if_neg (by omega)) (fun i _ => rfl) hr hs2
  refine ⟨r.1, fun i hi => ?_⟩
  rw [r.2 i hi]
  exact if_pos hi

/-- Rows that grow: k lists of the call's own in a list of its own. -/
structure FrS (base G k : Nat) (L : Nat → List Int) (us : Nat → Value) (w : World) : Prop where
  outer : RowF G k 22 us w
  row : ∀ i, i < k → OwnI base (us i) (L i) w
  ap : ∀ i j, i < k → j < k → i ≠ j → (us i).ownBlock = none ∨ (us i).ownBlock ≠ (us j).ownBlock
  lt : G < base
  le : base ≤ w.heap.size
theorem FrS.below {base G k : Nat} {L : Nat → List Int} {us : Nat → Value} {w w' : World} (h : FrS base G k L us w) (hb : Below w.heap.size w w') : FrS base G k L us w' :=
  ⟨h.outer.below hb h.outer.lt, fun i hi => (h.row i hi).below hb (fun x hx => ((h.row i hi).lt x hx).2), h.ap, h.lt, Nat.le_trans h.le hb.size⟩
theorem FrS.congr {base G k : Nat} {L L' : Nat → List Int} {us : Nat → Value} {w : World} (h : FrS base G k L us w) (e : ∀ i, i < k → L i = L' i) : FrS base G k L' us w :=
  ⟨h.outer, fun i hi => by rw [← e i hi]; exact h.row i hi, h.ap, h.lt, h.le⟩
theorem FrS.put {base G k i : Nat} {L : Nat → List Int} {us : Nat → Value} {v' : Value} {y : Int} {w w2 : World} (h : FrS base G k L us w) (hi : i < k) (ho : OwnI base v' (L i ++ [y]) w2) (hg : w.grownBy w2 (us i).ownBlock) (hat : v'.ownBlock = (us i).ownBlock ∨ v'.ownBlock = some w.heap.size) :
    FrS base G k (fun a => if a = i then L i ++ [y] else L a) (fun a => if a = i then v' else us a) (w2.setCell ⟨G, i, none⟩ v') := by
  refine ⟨?_, fun a ha => ?_, fun a b ha hb hne => ?_, h.lt, ?_⟩
  · have h1 : RowF G k 22 us w2 := h.outer.grown hg (fun e => by have := ((h.row i hi).lt G e.symm).1; have := h.lt; omega)
    exact (h1.store i v').congr (fun o _ => rfl)
  · by_cases e : a = i
    · simp only [if_pos e]
      exact ho.same (fun x hx => Below.heap_setCell _ _ _ _ (by have := (ho.lt x hx).1; have := h.lt; show x ≠ G; omega))
    · simp only [if_neg e]
      have h1 : OwnI base (us a) (L a) w2 := (h.row a ha).kept hg (h.ap a i ha hi e)
      exact h1.same (fun x hx => Below.heap_setCell _ _ _ _ (by have := (h1.lt x hx).1; have := h.lt; show x ≠ G; omega))
  · have key : ∀ c, c < k → c ≠ i → v'.ownBlock = none ∨ v'.ownBlock ≠ (us c).ownBlock := fun c hc hci => by
      rcases hat with e | e
      · rw [e]; exact h.ap i c hi hc (fun x => hci x.symm)
      · right
        rw [e]
        intro e2
        have := ((h.row c hc).lt _ e2.symm).2
        omega
    by_cases e1 : a = i
    · simp only [if_pos e1, if_neg (show ¬ b = i by omega)]
      exact key b hb (by omega)
    · simp only [if_neg e1]
      by_cases e2 : b = i
      · simp only [if_pos e2]
        rcases key a ha e1 with c | c
        · cases hva : (us a).ownBlock with
          | none => exact Or.inl rfl
          | some x => exact Or.inr (by rw [c]; intro e; cases e)
        · exact Or.inr (fun x => c x.symm)
      · simp only [if_neg e2]
        exact h.ap a b ha hb hne
  · have := hg.size
    have := h.le
    simp [World.setCell]
    omega
theorem FrS.put_below {base G k i : Nat} {L : Nat → List Int} {us : Nat → Value} {v' : Value} {B : Nat} {w0 w w2 : World} (h : FrS base G k L us w) (hi : i < k) (hg : w.grownBy w2 (us i).ownBlock) (hb : Below B w0 w) (hB : B ≤ G) : Below B w0 (w2.setCell ⟨G, i, none⟩ v') :=
  (hb.trans (below_grown hg (by have := h.lt; have := h.le; omega) (fun x hx => by have := ((h.row i hi).lt x hx).1; have := h.lt; omega))).setCell hB _
/-- A new list of so many nil rows. -/
theorem FrS.new {G k : Nat} {w : World} (h : RowF G k 22 (fun _ => .slice none 0 0) w) : FrS w.heap.size G k (fun _ => []) (fun _ => .slice none 0 0) w :=
  ⟨h, fun _ _ => OwnI.nil _ _, fun _ _ _ _ _ => Or.inl rfl, h.lt, Nat.le_refl _⟩
/-- A row's numbers, where it lies. -/
theorem FrS.at {base G k i m : Nat} {L : Nat → List Int} {us : Nat → Value} {z : Nat → Int} {w : World} (h : FrS base G k L us w) (hi : i < k) (hL : L i = zl m z) : w.cell? ⟨G, i, none⟩ = some (us i) ∧ ∃ ao ca, us i = .slice ao m ca ∧ ArgL ao m ca z w := by
  refine ⟨h.outer.cell i hi, ?_⟩
  have h1 := h.row i hi
  rw [hL] at h1
  exact h1.argL
end Go.Proofs.Ytbofcldmgjeklaa
