/- Texts of ours, one behind the other: S47 S65 KT1 LS5 S89 S90 S91. -/
import Derived.Test.YtbnkekeeceicaaaZS9
import Derived.Test.YtbnkekeeceicaaaZI24
import Derived.Test.YtbnkekeeceicaaaZA1
import Derived.Test.YtbnkekeeceicaaaZW4
import Derived.Maps.OwnOps
import Derived.Maps.OwnSet
import Derived.Lib.SlKeysI
import Derived.Deep.LoopGhost
import Derived.Shelf.SlIterI.Nil
import Derived.Shelf.SortM.Plain
import Derived.Shelf.SortM.SortNone
import Derived.Ground.GgzProg
import Derived.Ground.SlgmProg
import Derived.Shelf.SlGeneric
import Derived.Test.YtbnkekeeceicaaaProg
/- Plain mathematics: through values at different places goes just one short polynomial, and equations of powers are met by it alone. No Go text here. -/
namespace Go.Proofs.Ytbnkekeeceicaaa
open Go.RowKit Go.Sort

/-- Equations that are met have no row that says 0 = 1. -/
theorem met_no {D : FD} (F : Fld D) {m n k : Nat} {R M : Nat → Nat → Nat} {p b u : Nat → Nat} (h : RRE D (n + 1) k R p) (hel : ∀ i, i < m → El D (M i)) (hb : ∀ i, i < m → b i < D.q) (hs : ∀ v, Spn D (RowsOf k R) v ↔ Spn D (RowsOf m (aug n M b)) v) (hu : ∀ i, i < m → dt D (M i) u n = b i) : ∀ i, i < k → p i ≠ n := fun i hi e => by
  have h1 : Spn D (RowsOf m (aug n M b)) (R i) := (hs _).1 ⟨[(1, R i)], fun x hx => by simp at hx; rw [hx]; exact ⟨i, hi, rfl⟩, by
    show R i = padd D (pscale D 1 (R i)) pnil
    rw [pscale_one F (h.el i hi), padd_nil F (h.el i hi)]⟩
  have dtc : ∀ {a a' : Nat → Nat} (t : Nat), (∀ j, j < t → a j = a' j) → dt D a u t = dt D a' u t := fun {a a'} t => by
    induction t with
    | zero => intro _; rfl
    | succ t ih =>
      intro ht
      show D.ad (dt D a u t) (D.mul (a t) (u t)) = D.ad (dt D a' u t) (D.mul (a' t) (u t))
      rw [ih (fun j hj => ht j (by omega)), ht t (by omega)]
  have h2 : El D (R i) ∧ dt D (R i) u n = R i n := by
    refine spn_ind (Q := fun v => El D v ∧ dt D v u n = v n) ⟨el_nil F, dt_nil F u n⟩ (fun a c ha hc => ⟨el_add F ha.1 hc.1, ?_⟩) (fun s v hv => ⟨el_scale F _ _, ?_⟩) (fun v hv => ?_) h1
    · rw [dt_add F u ha.1 hc.1, ha.2, hc.2]; rfl
    · rw [dt_scale F, hv.2]; rfl
    · obtain ⟨j, hj, rfl⟩ := hv
      refine ⟨fun t => ?_, ?_⟩
      · unfold aug
        by_cases e : t = n
        · rw [if_pos e]; exact hb j hj
        · rw [if_neg e]; exact hel j hj t
      · rw [dtc n (a' := M j) (fun t ht => by unfold aug; rw [if_neg (by omega)]), hu j hj]
        unfold aug
        rw [if_pos rfl]
  have h3 : dt D (R i) u n = 0 := by
    rw [dtc n (a' := pnil) (fun t ht => h.lead i t hi (by omega)), dt_nil F]
  have h4 := h.one i hi
  rw [e] at h4
  have := h2.2
  omega

end Go.Proofs.Ytbnkekeeceicaaa

/- Numbers below n that come of each other times q: the lists of them (plain mathematics). -/
namespace Go.Proofs.Ytbnkekeeceicaaa

end Go.Proofs.Ytbnkekeeceicaaa

/- Cyclic: numbers that come of each other (together): a map that the call makes. -/
namespace Go.Proofs.Ytbnkekeeceicaaa
open Go.RowKit Go.Maps

theorem cty_int : Try.prog.underlying 3 = some (.int .i64) := by kernel_rfl
theorem ct_map : Try.prog.underlying 58 = some (.map 3 3) := by kernel_rfl
theorem ct_law : Keyed Try.prog 3 := int_keyed cty_int
theorem ct_zero (w : World) : (zeroValue 3).run Try.prog w = .ok (.int .i64 0) w := by kernel_rfl
theorem ct_key (a : Int) (h : (Lit.int .i64 a).wf = true) : keyOf Try.prog 3 (.int .i64 a) = some (.int .i64 a) := keyOf_int_mk cty_int h
theorem ct_wf {k : Nat} (h : k ≤ 1000) : (Lit.int .i64 (k : Nat)).wf = true := WalkArith.wf_i64 (by omega)
theorem ct_lit (x : Int) : WideAt.IsKeyLit (.int .i64 x) := by first | trivial | (unfold WideAt.IsKeyLit; trivial) | exact Or.inl ⟨_, _, rfl⟩ | simp [WideAt.IsKeyLit]
theorem lit_inj {c d : Int} (h : (DataW.lit (.int .i64 c) : DataW Value) = .lit (.int .i64 d)) : c = d := by cases h; rfl
theorem nd_len {n : Nat} {L : List Nat} (h : L.Nodup) (hl : ∀ k ∈ L, k < n) : L.length ≤ n := by
  have hp : ((List.range n).filter fun j => L.contains j).Perm L := by
    refine (List.perm_ext_iff_of_nodup (List.nodup_range.filter _) h).2 (fun a => ?_)
    rw [List.mem_filter, List.contains_iff_mem]
    exact ⟨fun h => h.2, fun h => ⟨List.mem_range.2 (hl a h), h⟩⟩
  rw [← hp.length_eq]
  have := List.length_filter_le (fun j => L.contains j) (List.range n)
  rwa [List.length_range] at this

end Go.Proofs.Ytbnkekeeceicaaa

/- How the library sorts a map's keys here (slices.Sorted of maps.Keys): what the shelf asks of the program. -/
namespace Go.Proofs.Ytbnkekeeceicaaa
open Go.Shelf
end Go.Proofs.Ytbnkekeeceicaaa

/- Nets: flows and cuts. -/
namespace Go.Proofs.Ytbnkekeeceicaaa

theorem nf_cg {p q : Nat → Bool} : ∀ n, (∀ i, i < n → p i = q i) → ct p n = ct q n
  | 0, _ => rfl
  | n + 1, h => by
    show ct p n + (if p n = true then 1 else 0) = ct q n + (if q n = true then 1 else 0)
    rw [nf_cg n (fun i hi => h i (by omega)), h n (by omega)]
theorem nf_le {p q : Nat → Bool} : ∀ n, (∀ i, i < n → p i = true → q i = true) → ct p n ≤ ct q n
  | 0, _ => Nat.le_refl _
  | n + 1, h => by
    show ct p n + (if p n = true then 1 else 0) ≤ ct q n + (if q n = true then 1 else 0)
    have h1 := nf_le n (fun i hi => h i (by omega))
    by_cases c : p n = true
    · rw [if_pos c, if_pos (h n (by omega) c)]; omega
    · rw [if_neg c]; omega
theorem nf_eq {p q : Nat → Bool} : ∀ n, (∀ i, i < n → p i = true → q i = true) → ct p n = ct q n → ∀ i, i < n → q i = true → p i = true
  | 0, _, _, i, hi, _ => absurd hi (by omega)
  | n + 1, h, he, i, hi, hq => by
    have he : ct p n + (if p n = true then 1 else 0) = ct q n + (if q n = true then 1 else 0) := he
    have h1 := nf_le (p := p) (q := q) n (fun i hi => h i (by omega))
    by_cases c : p n = true
    · rw [if_pos c, if_pos (h n (by omega) c)] at he
      by_cases e : i = n
      · rw [e]; exact c
      · exact nf_eq n (fun i hi => h i (by omega)) (by omega) i (by omega) hq
    · rw [if_neg c] at he
      by_cases d : q n = true
      · rw [if_pos d] at he; omega
      · rw [if_neg d] at he
        by_cases e : i = n
        · rw [e] at hq; exact absurd hq d
        · exact nf_eq n (fun i hi => h i (by omega)) (by omega) i (by omega) hq
theorem nf_part (p s : Nat → Bool) : ∀ n, ct p n = ct (fun i => p i && s i) n + ct (fun i => p i && !s i) n
  | 0 => rfl
  | n + 1 => by
    show ct p n + (if p n = true then 1 else 0) = ct (fun i => p i && s i) n + (if (p n && s n) = true then 1 else 0) + (ct (fun i => p i && !s i) n + (if (p n && !s n) = true then 1 else 0))
    rw [nf_part p s n]
    cases p n <;> cases s n <;> simp <;> omega
theorem nf_pos {p : Nat → Bool} : ∀ n, 0 < ct p n → ∃ i, i < n ∧ p i = true
  | 0, h => absurd h (by show ¬ 0 < 0; omega)
  | n + 1, h => by
    have h : 0 < ct p n + (if p n = true then 1 else 0) := h
    by_cases c : p n = true
    · exact ⟨n, by omega, c⟩
    · rw [if_neg c] at h
      obtain ⟨i, hi, hp⟩ := nf_pos n (by omega)
      exact ⟨i, by omega, hp⟩
theorem nf_top (p : Nat → Bool) : ∀ n, ct p n ≤ n
  | 0 => Nat.le_refl _
  | n + 1 => by
    show ct p n + (if p n = true then 1 else 0) ≤ n + 1
    have := nf_top p n
    split <;> omega
theorem nf_full {p : Nat → Bool} : ∀ n, ct p n = n → ∀ i, i < n → p i = true
  | 0, _, i, hi => absurd hi (by omega)
  | n + 1, h, i, hi => by
    have h : ct p n + (if p n = true then 1 else 0) = n + 1 := h
    have h2 := nf_top p n
    by_cases c : p n = true
    · rw [if_pos c] at h
      by_cases e : i = n
      · rw [e]; exact c
      · exact nf_full n (by omega) i (by omega)
    · rw [if_neg c] at h; omega
theorem nf_has {p : Nat → Bool} {i : Nat} (hp : p i = true) : ∀ n, i < n → 0 < ct p n
  | 0, h => absurd h (by omega)
  | n + 1, h => by
    show 0 < ct p n + (if p n = true then 1 else 0)
    by_cases e : i = n
    · rw [← e, if_pos hp]; omega
    · have := nf_has hp n (by omega); omega
theorem nf_nil {p : Nat → Bool} : ∀ n, ct p n = 0 → ∀ i, i < n → p i = false := fun n h i hi => by
  cases c : p i with
  | false => rfl
  | true => have := nf_has c n hi; omega
/-- One of them turned. -/
def tgl (us : Nat → Bool) (e : Nat) : Nat → Bool := fun i => if i = e then !us i else us i
theorem nf_far {us p : Nat → Bool} {e : Nat} : ∀ n, n ≤ e → ct (fun i => tgl us e i && p i) n = ct (fun i => us i && p i) n := fun n h => nf_cg n (fun i hi => by unfold tgl; rw [if_neg (by omega)])
theorem nf_tgl {us p : Nat → Bool} {e : Nat} : ∀ n, e < n → ct (fun i => tgl us e i && p i) n + (if (us e && p e) = true then 1 else 0) = ct (fun i => us i && p i) n + (if (!us e && p e) = true then 1 else 0)
  | 0, h => absurd h (by omega)
  | n + 1, h => by
    show ct (fun i => tgl us e i && p i) n + (if (tgl us e n && p n) = true then 1 else 0) + _ = ct (fun i => us i && p i) n + (if (us n && p n) = true then 1 else 0) + _
    by_cases c : e = n
    · subst c
      rw [nf_far e (Nat.le_refl _)]
      unfold tgl
      rw [if_pos rfl]
      cases us e <;> cases p e <;> simp
    · have ih := nf_tgl (us := us) (p := p) (e := e) n (by omega)
      have e2 : tgl us e n = us n := by unfold tgl; rw [if_neg (by omega)]
      rw [e2]
      omega
/-- A sum. -/
def nsm (f : Nat → Nat) : Nat → Nat
  | 0 => 0
  | n + 1 => nsm f n + f n
theorem nsm_cg {f g : Nat → Nat} : ∀ n, (∀ v, v < n → f v = g v) → nsm f n = nsm g n
  | 0, _ => rfl
  | n + 1, h => by show nsm f n + f n = nsm g n + g n; rw [nsm_cg n (fun v hv => h v (by omega)), h n (by omega)]
theorem nsm_two (f g : Nat → Nat) : ∀ n, nsm (fun v => f v + g v) n = nsm f n + nsm g n
  | 0 => rfl
  | n + 1 => by
    show nsm (fun v => f v + g v) n + (f n + g n) = nsm f n + f n + (nsm g n + g n)
    rw [nsm_two f g n]; omega
theorem nsm_nil : ∀ n, nsm (fun _ => 0) n = 0
  | 0 => rfl
  | n + 1 => by show nsm (fun _ => 0) n + 0 = 0; rw [nsm_nil n]
theorem nsm_one (a x : Nat) : ∀ n, nsm (fun v => if v = a then x else 0) n = if a < n then x else 0
  | 0 => by rw [if_neg (by omega)]; rfl
  | n + 1 => by
    show nsm (fun v => if v = a then x else 0) n + (if n = a then x else 0) = _
    rw [nsm_one a x n]
    by_cases c : n = a
    · rw [if_pos c, if_neg (by omega), if_pos (by omega)]; omega
    · rw [if_neg c]
      by_cases d : a < n
      · rw [if_pos d, if_pos (by omega), Nat.add_zero]
      · rw [if_neg d, if_neg (by omega)]
/-- How many edges are used, of those with a node at one end. -/
def edN (m : Nat) (G : Nat → Nat) (us : Nat → Bool) (v : Nat) : Nat := ct (fun i => us i && decide (G i = v)) m
theorem nsm_ct (us : Nat → Bool) (G : Nat → Nat) (S : Nat → Bool) (n : Nat) : ∀ m, (∀ i, i < m → G i < n) → nsm (fun v => if S v = true then edN m G us v else 0) n = ct (fun i => us i && S (G i)) m
  | 0, _ => by
    rw [nsm_cg (g := fun _ => 0) n (fun v _ => by show (if S v = true then 0 else 0) = 0; split <;> rfl), nsm_nil]; rfl
  | m + 1, h => by
    have e : ∀ v, v < n → (if S v = true then edN (m + 1) G us v else 0) = (if S v = true then edN m G us v else 0) + (if v = G m then (if (us m && S (G m)) = true then 1 else 0) else 0) := fun v _ => by
      show (if S v = true then edN m G us v + (if (us m && decide (G m = v)) = true then 1 else 0) else 0) = _
      by_cases c : v = G m
      · subst c
        cases us m <;> cases S (G m) <;> simp
      · have c2 : ¬ G m = v := fun x => c x.symm
        rw [if_neg c, decide_eq_false c2, Bool.and_false]
        cases S v <;> simp
    rw [nsm_cg n e, nsm_two, nsm_ct us G S n m (fun i hi => h i (by omega)), nsm_one, if_pos (h m (by omega))]
    rfl
/-- A net: each edge leads on. -/
structure Nt (n m : Nat) (F T : Nat → Nat) : Prop where
  up : ∀ i, i < m → F i < T i
  lt : ∀ i, i < m → T i < n
/-- k ways from the source to a node. -/
def Flw (m : Nat) (F T : Nat → Nat) (us : Nat → Bool) (t k : Nat) : Prop := ∀ v, edN m F us v + (if v = t then k else 0) = edN m T us v + (if v = 0 then k else 0)
/-- And one from x. -/
def Bal (m : Nat) (F T : Nat → Nat) (us : Nat → Bool) (x t k : Nat) : Prop := ∀ v, edN m F us v + (if v = t then k + 1 else 0) = edN m T us v + (if v = 0 then k else 0) + (if v = x then 1 else 0)
def frF (F T : Nat → Nat) (us : Nat → Bool) (e : Nat) : Nat := if us e = true then T e else F e
def frT (F T : Nat → Nat) (us : Nat → Bool) (e : Nat) : Nat := if us e = true then F e else T e
theorem Flw.none (m : Nat) (F T : Nat → Nat) (t : Nat) : Flw m F T (fun _ => false) t 0 := fun v => by
  have h : ∀ G, edN m G (fun _ => false) v = 0 := fun G => ct_none m (fun i _ => rfl)
  rw [h, h]
  split <;> split <;> rfl
theorem Flw.start {m : Nat} {F T : Nat → Nat} {us : Nat → Bool} {t k : Nat} (h : Flw m F T us t k) : Bal m F T us t t k := fun v => by
  have h1 := h v
  by_cases c : v = t
  · rw [if_pos c] at h1 ⊢; rw [if_pos c]; omega
  · rw [if_neg c] at h1 ⊢; rw [if_neg c]; omega
theorem Bal.done {m : Nat} {F T : Nat → Nat} {us : Nat → Bool} {t k : Nat} (h : Bal m F T us 0 t k) : Flw m F T us t (k + 1) := fun v => by
  have h1 := h v
  by_cases c : v = 0
  · rw [if_pos c, if_pos c] at h1; rw [if_pos c]; omega
  · rw [if_neg c, if_neg c] at h1; rw [if_neg c]; omega
theorem ed_if (a v : Nat) : (if decide (a = v) = true then 1 else 0) = if v = a then 1 else 0 := by
  by_cases c : a = v
  · rw [if_pos (decide_eq_true c), if_pos c.symm]
  · rw [if_neg (by rw [decide_eq_true_eq]; exact c), if_neg (fun q => c q.symm)]
theorem ed_on {m : Nat} {G : Nat → Nat} {us : Nat → Bool} {e : Nat} (he : e < m) (hu : us e = false) (v : Nat) : edN m G (tgl us e) v = edN m G us v + if v = G e then 1 else 0 := by
  have h := nf_tgl (us := us) (p := fun i => decide (G i = v)) m he
  rw [hu, Bool.false_and, if_neg (by intro q; cases q), Bool.not_false, Bool.true_and] at h
  unfold edN
  rw [show ct (fun i => tgl us e i && decide (G i = v)) m = _ from h]
  rw [ed_if]
theorem ed_off {m : Nat} {G : Nat → Nat} {us : Nat → Bool} {e : Nat} (he : e < m) (hu : us e = true) (v : Nat) : edN m G (tgl us e) v + (if v = G e then 1 else 0) = edN m G us v := by
  have h := nf_tgl (us := us) (p := fun i => decide (G i = v)) m he
  rw [hu, Bool.true_and, Bool.not_true, Bool.false_and, if_neg (c := false = true) (by intro q; cases q)] at h
  unfold edN
  rw [show ct (fun i => us i && decide (G i = v)) m = _ from h.symm]
  rw [ed_if]
theorem Bal.step {m : Nat} {F T : Nat → Nat} {us : Nat → Bool} {x t k e : Nat} (h : Bal m F T us x t k) (he : e < m) (hx : frT F T us e = x) : Bal m F T (tgl us e) (frF F T us e) t k := fun v => by
  have h1 := h v
  unfold frT at hx
  unfold frF
  cases hu : us e with
  | true =>
    rw [hu, if_pos rfl] at hx
    rw [if_pos rfl]
    have h2 := ed_off (G := F) he hu v
    have h3 := ed_off (G := T) he hu v
    rw [← hx] at h1
    omega
  | false =>
    rw [hu, if_neg (show ¬ (false = true) by decide)] at hx
    rw [if_neg (show ¬ (false = true) by decide)]
    have h2 := ed_on (G := F) he hu v
    have h3 := ed_on (G := T) he hu v
    rw [← hx] at h1
    omega
theorem fr_imp {F T : Nat → Nat} {us S : Nat → Bool} {e : Nat} : (S (frF F T us e) = true → S (frT F T us e) = true) ↔ ((us e && S (T e)) && !S (F e)) = false ∧ ((!us e && S (F e)) && !S (T e)) = false := by
  unfold frF frT
  cases us e with
  | true =>
    rw [if_pos rfl, if_pos rfl]
    cases S (F e) <;> cases S (T e) <;> simp
  | false =>
    rw [if_neg (by intro q; cases q), if_neg (by intro q; cases q)]
    cases S (F e) <;> cases S (T e) <;> simp
/-- How many edges lead out of a set. -/
def cpS (m : Nat) (F T : Nat → Nat) (S : Nat → Bool) : Nat := ct (fun i => S (F i) && !S (T i)) m
theorem Flw.sum {n m : Nat} {F T : Nat → Nat} {us : Nat → Bool} {t k : Nat} (hN : Nt n m F T) (hn : 0 < n) (h : Flw m F T us t k) {S : Nat → Bool} (h0 : S 0 = true) (ht : S t = false) : ct (fun i => us i && S (F i)) m = ct (fun i => us i && S (T i)) m + k := by
  rw [← nsm_ct us F S n m (fun i hi => by have := hN.up i hi; have := hN.lt i hi; omega), ← nsm_ct us T S n m (fun i hi => hN.lt i hi)]
  have e : ∀ v, v < n → (if S v = true then edN m F us v else 0) = (if S v = true then edN m T us v else 0) + (if v = 0 then k else 0) := fun v _ => by
    have h1 := h v
    by_cases c : v = t
    · rw [c, ht]
      have : t ≠ 0 := fun q => by rw [q, h0] at ht; cases ht
      rw [if_neg this]; rfl
    · rw [if_neg c] at h1
      by_cases d : v = 0
      · subst d; rw [if_pos h0, if_pos h0, if_pos rfl]; rw [if_pos rfl] at h1; omega
      · rw [if_neg d] at h1 ⊢; rw [show edN m F us v = edN m T us v by omega]; omega
  rw [nsm_cg n e, nsm_two, nsm_one, if_pos hn]
theorem Flw.cut {n m : Nat} {F T : Nat → Nat} {us : Nat → Bool} {t k : Nat} (hN : Nt n m F T) (hn : 0 < n) (h : Flw m F T us t k) {S : Nat → Bool} (h0 : S 0 = true) (ht : S t = false) :
    ct (fun i => (us i && S (F i)) && !S (T i)) m = ct (fun i => (us i && S (T i)) && !S (F i)) m + k := by
  have h1 := h.sum hN hn h0 ht
  have h2 := nf_part (fun i => us i && S (F i)) (fun i => S (T i)) m
  have h3 := nf_part (fun i => us i && S (T i)) (fun i => S (F i)) m
  have h4 : ct (fun i => (us i && S (F i)) && S (T i)) m = ct (fun i => (us i && S (T i)) && S (F i)) m := nf_cg m (fun i _ => by cases us i <;> cases S (F i) <;> cases S (T i) <;> rfl)
  omega
theorem Flw.le {n m : Nat} {F T : Nat → Nat} {us : Nat → Bool} {t k : Nat} (hN : Nt n m F T) (hn : 0 < n) (h : Flw m F T us t k) {S : Nat → Bool} (h0 : S 0 = true) (ht : S t = false) : k ≤ cpS m F T S := by
  have h1 := h.cut hN hn h0 ht
  have h2 : ct (fun i => (us i && S (F i)) && !S (T i)) m ≤ cpS m F T S := nf_le m (fun i _ q => by revert q; cases us i <;> cases S (F i) <;> cases S (T i) <;> simp)
  omega
theorem Flw.tight {n m : Nat} {F T : Nat → Nat} {us : Nat → Bool} {t k : Nat} (hN : Nt n m F T) (hn : 0 < n) (h : Flw m F T us t k) {S : Nat → Bool} (h0 : S 0 = true) (ht : S t = false) (hk : cpS m F T S = k) : ∀ e, e < m → S (frF F T us e) = true → S (frT F T us e) = true := fun e he hf => by
  have h1 := h.cut hN hn h0 ht
  have h2 : ct (fun i => (us i && S (F i)) && !S (T i)) m ≤ cpS m F T S := nf_le m (fun i _ q => by revert q; cases us i <;> cases S (F i) <;> cases S (T i) <;> simp)
  have h3 : ct (fun i => (us i && S (T i)) && !S (F i)) m = 0 := by omega
  have h4 : ct (fun i => (us i && S (F i)) && !S (T i)) m = cpS m F T S := by omega
  have a1 : ((us e && S (T e)) && !S (F e)) = false := nf_nil m h3 e he
  have a2 : (S (F e) && !S (T e)) = true → ((us e && S (F e)) && !S (T e)) = true := nf_eq (p := fun i => (us i && S (F i)) && !S (T i)) (q := fun i => S (F i) && !S (T i)) m (fun i _ q => by revert q; cases us i <;> cases S (F i) <;> cases S (T i) <;> simp) h4 e he
  refine fr_imp.2 ⟨a1, ?_⟩ hf
  revert a2
  cases us e <;> cases S (F e) <;> cases S (T e) <;> simp
/-- What is reached by edges that are free. -/
structure Rch (m : Nat) (F T : Nat → Nat) (us : Nat → Bool) (L : List Nat) (bt : Nat → Nat) : Prop where
  hd : ∃ L', L = 0 :: L'
  nd : L.Nodup
  by' : ∀ v, v ∈ L → v ≠ 0 → bt v < m ∧ frT F T us (bt v) = v ∧ frF F T us (bt v) ∈ L ∧ L.idxOf (frF F T us (bt v)) < L.idxOf v
  cl : ∀ e, e < m → frF F T us e ∈ L → frT F T us e ∈ L
theorem Rch.zero {m : Nat} {F T : Nat → Nat} {us : Nat → Bool} {L : List Nat} {bt : Nat → Nat} (h : Rch m F T us L bt) : 0 ∈ L := by
  obtain ⟨L', e⟩ := h.hd
  rw [e]; exact List.mem_cons_self
theorem Rch.least {m : Nat} {F T : Nat → Nat} {us : Nat → Bool} {L : List Nat} {bt : Nat → Nat} (h : Rch m F T us L bt) {S : Nat → Bool} (h0 : S 0 = true) (hc : ∀ e, e < m → S (frF F T us e) = true → S (frT F T us e) = true) : ∀ r v, L.idxOf v < r → v ∈ L → S v = true
  | 0, _, hr, _ => absurd hr (by omega)
  | r + 1, v, hr, hv => by
    by_cases e : v = 0
    · rw [e]; exact h0
    · obtain ⟨h1, h2, h3, h4⟩ := h.by' v hv e
      have := h.least h0 hc r (frF F T us (bt v)) (by omega) h3
      rw [← h2]
      exact hc _ h1 this
theorem Rch.sub {m : Nat} {F T : Nat → Nat} {us : Nat → Bool} {L : List Nat} {bt : Nat → Nat} (h : Rch m F T us L bt) {S : Nat → Bool} (h0 : S 0 = true) (hc : ∀ e, e < m → S (frF F T us e) = true → S (frT F T us e) = true) {v : Nat} (hv : v ∈ L) : S v = true := h.least h0 hc _ v (Nat.lt_succ_self _) hv
theorem fr_lt {n m : Nat} {F T : Nat → Nat} {us : Nat → Bool} (hN : Nt n m F T) {e : Nat} (he : e < m) : frF F T us e < n ∧ frT F T us e < n := by
  have h1 := hN.up e he
  have h2 := hN.lt e he
  unfold frF frT
  split <;> omega
theorem Rch.lt {n m : Nat} {F T : Nat → Nat} {us : Nat → Bool} {L : List Nat} {bt : Nat → Nat} (hN : Nt n m F T) (hn : 0 < n) (h : Rch m F T us L bt) {v : Nat} (hv : v ∈ L) : v < n := by
  by_cases e : v = 0
  · omega
  · obtain ⟨h1, h2, _, _⟩ := h.by' v hv e
    rw [← h2]; exact (fr_lt hN h1).2
/-- The set as truths. -/
def inL (L : List Nat) : Nat → Bool := fun v => L.contains v
theorem inL_yes {L : List Nat} {v : Nat} : inL L v = true ↔ v ∈ L := List.contains_iff_mem
theorem Rch.tight {n m : Nat} {F T : Nat → Nat} {us : Nat → Bool} {t k : Nat} {L : List Nat} {bt : Nat → Nat} (hN : Nt n m F T) (hn : 0 < n) (h : Flw m F T us t k) (hR : Rch m F T us L bt) (ht : t ∉ L) : cpS m F T (inL L) = k := by
  have h1 := h.cut hN hn (S := inL L) (inL_yes.2 hR.zero) (by cases c : inL L t with | false => rfl | true => exact absurd (inL_yes.1 c) ht)
  have cl : ∀ e, e < m → inL L (frF F T us e) = true → inL L (frT F T us e) = true := fun e he q => inL_yes.2 (hR.cl e he (inL_yes.1 q))
  have h3 : ct (fun i => (us i && inL L (T i)) && !inL L (F i)) m = 0 := ct_none m (fun i hi => (fr_imp.1 (cl i hi)).1)
  have h4 : ct (fun i => (us i && inL L (F i)) && !inL L (T i)) m = cpS m F T (inL L) := nf_cg m (fun i hi => by
    have a := (fr_imp.1 (cl i hi)).2
    revert a
    cases us i <;> cases inL L (F i) <;> cases inL L (T i) <;> simp)
  omega
/-- Where all edges are ways. -/
theorem Flw.all {n m : Nat} {F T : Nat → Nat} {us : Nat → Bool} {t : Nat} {L : List Nat} {bt : Nat → Nat} (hN : Nt n m F T) (h : Flw m F T us t m) (h0 : t ≠ 0) (hR : Rch m F T us L bt) : t ∉ L := fun hv => by
  have h1 := h 0
  rw [if_neg (fun q => h0 q.symm), if_pos rfl] at h1
  have h2 : edN m F us 0 ≤ m := nf_top _ m
  have h3 : edN m F us 0 = m := by omega
  have h4 := nf_full m h3
  have := hR.sub (S := fun v => decide (v = 0)) rfl (fun e he q => by
    exfalso
    have a := h4 e he
    have b := hN.up e he
    simp only [Bool.and_eq_true, decide_eq_true_eq] at a q
    unfold frF at q
    rw [if_pos a.1] at q
    omega) hv
  simp at this
  exact h0 this
end Go.Proofs.Ytbnkekeeceicaaa

/- Nets: reaching node after node. -/
namespace Go.Proofs.Ytbnkekeeceicaaa

/-- What is known while nodes are reached: of the first d all that follows is there. -/
structure Bfs (n m : Nat) (F T : Nat → Nat) (us : Nat → Bool) (L : List Nat) (bt : Nat → Nat) (d : Nat) : Prop where
  hd : ∃ L', L = 0 :: L'
  nd : L.Nodup
  lt : ∀ v, v ∈ L → v < n
  by' : ∀ v, v ∈ L → v ≠ 0 → bt v < m ∧ frT F T us (bt v) = v ∧ frF F T us (bt v) ∈ L ∧ L.idxOf (frF F T us (bt v)) < L.idxOf v
  cl : ∀ j, j < d → ∀ e, e < m → frF F T us e = L.getD j 0 → frT F T us e ∈ L
theorem Bfs.start {n m : Nat} {F T : Nat → Nat} {us : Nat → Bool} (hn : 0 < n) (bt : Nat → Nat) : Bfs n m F T us [0] bt 0 :=
  ⟨⟨[], rfl⟩, by simp, fun v hv => by rw [List.mem_singleton.1 hv]; exact hn, fun v hv h => absurd (List.mem_singleton.1 hv) h, fun j hj => absurd hj (by omega)⟩
theorem idx_app {L : List Nat} {a v : Nat} (h : a ∈ L) : (L ++ [v]).idxOf a = L.idxOf a := by
  rw [List.idxOf_append, if_pos h]
theorem idx_new {L : List Nat} {v : Nat} (h : v ∉ L) : (L ++ [v]).idxOf v = L.length := by
  rw [List.idxOf_append, if_neg h]
  simp
theorem getD_app {L : List Nat} {v j : Nat} (h : j < L.length) : (L ++ [v]).getD j 0 = L.getD j 0 := by
  rw [List.getD_eq_getElem?_getD, List.getD_eq_getElem?_getD, List.getElem?_append_left h]
theorem getD_inl {L : List Nat} {j : Nat} (h : j < L.length) : L.getD j 0 ∈ L := by
  rw [List.getD_eq_getElem?_getD, List.getElem?_eq_getElem h]
  exact List.getElem_mem h
theorem Bfs.add {n m : Nat} {F T : Nat → Nat} {us : Nat → Bool} {L : List Nat} {bt : Nat → Nat} {d e : Nat} (h : Bfs n m F T us L bt d) (hN : Nt n m F T) (hd : d ≤ L.length) (he : e < m) (hx : frF F T us e ∈ L) (hv : frT F T us e ∉ L) :
    Bfs n m F T us (L ++ [frT F T us e]) (fun u => if u = frT F T us e then e else bt u) d := by
  refine ⟨?_, ?_, fun v q => ?_, fun v q q0 => ?_, fun j hj e' he' q => ?_⟩
  · obtain ⟨L', e1⟩ := h.hd
    exact ⟨L' ++ [frT F T us e], by rw [e1]; rfl⟩
  · rw [List.nodup_append]
    exact ⟨h.nd, by simp, fun a ha b hb => by rw [List.mem_singleton.1 hb]; intro c; rw [c] at ha; exact hv ha⟩
  · rcases List.mem_append.1 q with c | c
    · exact h.lt v c
    · rw [List.mem_singleton.1 c]; exact (fr_lt hN he).2
  · rcases List.mem_append.1 q with c | c
    · have hne : v ≠ frT F T us e := fun z => hv (by rw [← z]; exact c)
      obtain ⟨a1, a2, a3, a4⟩ := h.by' v c q0
      show (if v = frT F T us e then e else bt v) < m ∧ frT F T us (if v = frT F T us e then e else bt v) = v ∧ frF F T us (if v = frT F T us e then e else bt v) ∈ _ ∧ (L ++ [frT F T us e]).idxOf (frF F T us (if v = frT F T us e then e else bt v)) < _
      rw [if_neg hne, idx_app a3, idx_app c]
      exact ⟨a1, a2, List.mem_append.2 (Or.inl a3), a4⟩
    · have c := List.mem_singleton.1 c
      show (if v = frT F T us e then e else bt v) < m ∧ frT F T us (if v = frT F T us e then e else bt v) = v ∧ frF F T us (if v = frT F T us e then e else bt v) ∈ _ ∧ (L ++ [frT F T us e]).idxOf (frF F T us (if v = frT F T us e then e else bt v)) < _
      rw [if_pos c, idx_app hx]
      refine ⟨he, c.symm, List.mem_append.2 (Or.inl hx), ?_⟩
      rw [c, idx_new hv]
      exact List.idxOf_lt_length_of_mem hx
  · rw [getD_app (by omega)] at q
    exact List.mem_append.2 (Or.inl (h.cl j hj e' he' q))
theorem Bfs.next {n m : Nat} {F T : Nat → Nat} {us : Nat → Bool} {L : List Nat} {bt : Nat → Nat} {d : Nat} (h : Bfs n m F T us L bt d) (hx : ∀ e, e < m → frF F T us e = L.getD d 0 → frT F T us e ∈ L) : Bfs n m F T us L bt (d + 1) :=
  ⟨h.hd, h.nd, h.lt, h.by', fun j hj e he q => by
    by_cases c : j = d
    · rw [c] at q; exact hx e he q
    · exact h.cl j (by omega) e he q⟩
theorem Bfs.rch {n m : Nat} {F T : Nat → Nat} {us : Nat → Bool} {L : List Nat} {bt : Nat → Nat} (h : Bfs n m F T us L bt L.length) : Rch m F T us L bt :=
  ⟨h.hd, h.nd, h.by', fun e he q => by
    have h1 := List.idxOf_lt_length_of_mem q
    refine h.cl _ h1 e he ?_
    rw [List.getD_eq_getElem?_getD, List.getElem?_eq_getElem h1, Option.getD_some, List.getElem_idxOf h1]⟩
theorem Bfs.few {n m : Nat} {F T : Nat → Nat} {us : Nat → Bool} {L : List Nat} {bt : Nat → Nat} {d : Nat} (h : Bfs n m F T us L bt d) (hl : ∀ {L : List Nat}, L.Nodup → (∀ k ∈ L, k < n) → L.length ≤ n) : L.length ≤ n := hl h.nd h.lt
/-- What waits. -/
def qzl (L : List Nat) (d : Nat) : List Int := (L.drop d).map fun v => ((v : Nat) : Int)
theorem qzl_len (L : List Nat) (d : Nat) : (qzl L d).length = L.length - d := by unfold qzl; rw [List.length_map, List.length_drop]
theorem qzl_cons {L : List Nat} {d : Nat} (h : d < L.length) : qzl L d = ((L.getD d 0 : Nat) : Int) :: qzl L (d + 1) := by
  unfold qzl
  rw [List.drop_eq_getElem_cons h, List.map_cons, List.getD_eq_getElem?_getD, List.getElem?_eq_getElem h, Option.getD_some]
theorem qzl_add {L : List Nat} {d v : Nat} (h : d ≤ L.length) : qzl (L ++ [v]) d = qzl L d ++ [((v : Nat) : Int)] := by
  unfold qzl
  rw [List.drop_append_of_le_length h, List.map_append]
  rfl
end Go.Proofs.Ytbnkekeeceicaaa

/- Nets: one way more, edge by edge back to the source. -/
namespace Go.Proofs.Ytbnkekeeceicaaa

/-- The way has come from t back to x: what is used now, against what was. -/
structure Pth (m : Nat) (F T : Nat → Nat) (u0 : Nat → Bool) (L : List Nat) (bt : Nat → Nat) (us : Nat → Bool) (x t k : Nat) : Prop where
  bal : Bal m F T us x t k
  at' : x ∈ L
  dif : ∀ e, us e ≠ u0 e → ∃ u, u ∈ L ∧ u ≠ 0 ∧ bt u = e ∧ L.idxOf x < L.idxOf u
theorem Pth.start {m : Nat} {F T : Nat → Nat} {u0 : Nat → Bool} {L : List Nat} {bt : Nat → Nat} {t k : Nat} (h : Flw m F T u0 t k) (ht : t ∈ L) : Pth m F T u0 L bt u0 t t k := ⟨h.start, ht, fun _ q => absurd rfl q⟩
theorem Pth.step {m : Nat} {F T : Nat → Nat} {u0 : Nat → Bool} {L : List Nat} {bt : Nat → Nat} {us : Nat → Bool} {x t k : Nat} (hR : Rch m F T u0 L bt) (h : Pth m F T u0 L bt us x t k) (hx : x ≠ 0) :
    bt x < m ∧ Pth m F T u0 L bt (tgl us (bt x)) (frF F T us (bt x)) t k ∧ L.idxOf (frF F T us (bt x)) < L.idxOf x := by
  obtain ⟨h1, h2, h3, h4⟩ := hR.by' x h.at' hx
  have hs : us (bt x) = u0 (bt x) := Classical.byContradiction fun c => by
    obtain ⟨u, a1, a2, a3, a4⟩ := h.dif _ c
    obtain ⟨_, b2, _, _⟩ := hR.by' u a1 a2
    rw [a3, h2] at b2
    rw [b2] at a4
    omega
  have hF : frF F T us (bt x) = frF F T u0 (bt x) := by unfold frF; rw [hs]
  have hT : frT F T us (bt x) = x := by unfold frT at h2 ⊢; rw [hs]; exact h2
  refine ⟨h1, ⟨h.bal.step h1 hT, by rw [hF]; exact h3, fun e q => ?_⟩, by rw [hF]; exact h4⟩
  rw [hF]
  by_cases c : e = bt x
  · exact ⟨x, h.at', hx, c.symm, h4⟩
  · have q2 : us e ≠ u0 e := by unfold tgl at q; rw [if_neg c] at q; exact q
    obtain ⟨u, a1, a2, a3, a4⟩ := h.dif e q2
    exact ⟨u, a1, a2, a3, by omega⟩
end Go.Proofs.Ytbnkekeeceicaaa
