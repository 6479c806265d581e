/- Texts of ours, one behind the other: S3 X12 X13. -/
import Derived.Test.YtjkncdmbcckcdabZX11
import Derived.Test.YtjkncdmbcckcdabZL10
/- Plain mathematics: bringing rows to their one form, column by column, as the program does. -/
namespace Go.Proofs.Ytjkncdmbcckcdab
open Go.RowKit

/-- m rows of n numbers whose first c columns are done: k of the rows begin in columns p, the others are 0 there. -/
structure Rdg (D : FD) (m n c k : Nat) (R : Nat → Nat → Nat) (p : Nat → Nat) : Prop where
  el : ∀ i, i < m → El D (R i)
  bd : ∀ i, i < m → Bd n (R i)
  le : k ≤ m
  lt : ∀ i, i < k → p i < c
  mono : ∀ i j, i < j → j < k → p i < p j
  one : ∀ i, i < k → R i (p i) = 1
  zero : ∀ i j, i < m → j < k → i ≠ j → R i (p j) = 0
  lead : ∀ i c', i < k → c' < p i → R i c' = 0
  rest : ∀ i c', k ≤ i → i < m → c' < c → R i c' = 0
theorem rdg_start {D : FD} {m n : Nat} {R : Nat → Nat → Nat} (he : ∀ i, i < m → El D (R i)) (hb : ∀ i, i < m → Bd n (R i)) (p : Nat → Nat) : Rdg D m n 0 0 R p :=
  ⟨he, hb, Nat.zero_le _, fun i hi => by omega, fun i j _ hj => by omega, fun i hi => by omega, fun i j _ hj => by omega, fun i c' hi => by omega, fun i c' _ _ hc => by omega⟩
theorem rdg_skip {D : FD} {m n c k : Nat} {R : Nat → Nat → Nat} {p : Nat → Nat} (h : Rdg D m n c k R p) (h0 : ∀ i, k ≤ i → i < m → R i c = 0) : Rdg D m n (c + 1) k R p :=
  ⟨h.el, h.bd, h.le, fun i hi => by have := h.lt i hi; omega, h.mono, h.one, h.zero, h.lead, fun i c' hk hi hc => by
    by_cases e : c' = c
    · rw [e]; exact h0 i hk hi
    · exact h.rest i c' hk hi (by omega)⟩
/-- Rows a and b change places. -/
def swpR {α : Type} (R : Nat → α) (a b : Nat) : Nat → α := fun i => if i = a then R b else if i = b then R a else R i
theorem swpR_lo {α : Type} (R : Nat → α) {a b i : Nat} (ha : i ≠ a) (hb : i ≠ b) : swpR R a b i = R i := by unfold swpR; rw [if_neg ha, if_neg hb]
theorem swpR_hi {α : Type} (R : Nat → α) {a b i m : Nat} (hab : a ≤ b) (hb : b < m) (ha : a ≤ i) (hi : i < m) : ∃ i', a ≤ i' ∧ i' < m ∧ swpR R a b i = R i' := by
  unfold swpR
  by_cases e : i = a
  · rw [if_pos e]; exact ⟨b, hab, hb, rfl⟩
  · rw [if_neg e]
    by_cases e2 : i = b
    · rw [if_pos e2]; exact ⟨a, Nat.le_refl _, by omega, rfl⟩
    · rw [if_neg e2]; exact ⟨i, ha, hi, rfl⟩
theorem rdg_swap {D : FD} {m n c k b : Nat} {R : Nat → Nat → Nat} {p : Nat → Nat} (h : Rdg D m n c k R p) (hb : k ≤ b) (hbm : b < m) : Rdg D m n c k (swpR R k b) p := by
  have lo : ∀ i, i < k → swpR R k b i = R i := fun i hi => swpR_lo R (by omega) (by omega)
  have hi' : ∀ i, k ≤ i → i < m → ∃ i', k ≤ i' ∧ i' < m ∧ swpR R k b i = R i' := fun i h1 h2 => swpR_hi R hb hbm h1 h2
  have all : ∀ i, i < m → ∃ i', i' < m ∧ swpR R k b i = R i' ∧ (k ≤ i → k ≤ i') ∧ (i < k → i' = i) := fun i hi => by
    by_cases e : i < k
    · exact ⟨i, hi, lo i e, fun h => by omega, fun _ => rfl⟩
    · obtain ⟨i', a, b, c⟩ := hi' i (by omega) hi
      exact ⟨i', b, c, fun _ => a, fun h => absurd h e⟩
  refine ⟨fun i hi => ?_, fun i hi => ?_, h.le, h.lt, h.mono, fun i hi => by rw [lo i hi]; exact h.one i hi, fun i j hi hj hij => ?_, fun i c' hi hc => by rw [lo i hi]; exact h.lead i c' hi hc, fun i c' hk hi hc => ?_⟩
  · obtain ⟨i', h1, h2, _⟩ := all i hi
    rw [h2]; exact h.el i' h1
  · obtain ⟨i', h1, h2, _⟩ := all i hi
    rw [h2]; exact h.bd i' h1
  · obtain ⟨i', h1, h2, h3, h4⟩ := all i hi
    rw [h2]
    refine h.zero i' j h1 hj (fun e => ?_)
    by_cases e2 : i < k
    · have := h4 e2; omega
    · have := h3 (by omega); omega
  · obtain ⟨i', h1, h2, h3⟩ := hi' i hk hi
    rw [h3]; exact h.rest i' c' h1 h2 hc
theorem rdg_clear {D : FD} (hD : D ∈ fieldsL) {m n c k : Nat} {R : Nat → Nat → Nat} {p : Nat → Nat} (h : Rdg D m n c k R p) (hk : k < m) (h0 : R k c ≠ 0) : Rdg D m n (c + 1) (k + 1) (clrR D R k c m) (fun i => if i = k then c else p i) := by
  have F := fld hD
  have P0 : ∀ c', c' < c → clrP D R k c c' = 0 := fun c' hc => by
    show D.mul _ (R k c') = 0
    rw [h.rest k c' (Nat.le_refl _) hk hc, mul0 F]
  have P1 : clrP D R k c c = 1 := by
    show D.mul (D.iv (R k c)) (R k c) = 1
    rw [F.mul_comm]; exact iv_is hD (h.el k hk c) h0
  have top : clrR D R k c m k = clrP D R k c := by unfold clrR; rw [if_pos rfl]
  have oth : ∀ i, i < m → i ≠ k → clrR D R k c m i = padd D (R i) (pscale D (D.ng (R i c)) (clrP D R k c)) := fun i hi e => by unfold clrR; rw [if_neg e, if_pos hi]
  have keep : ∀ i c', i < m → i ≠ k → c' < c → clrR D R k c m i c' = R i c' := fun i c' hi e hc => by
    rw [oth i hi e]
    show D.ad (R i c') (D.mul _ (clrP D R k c c')) = _
    rw [P0 c' hc, mul0 F, ad_zero F (h.el i hi c')]
  have gone : ∀ i, i < m → i ≠ k → clrR D R k c m i c = 0 := fun i hi e => by
    rw [oth i hi e]
    show D.ad (R i c) (D.mul (D.ng (R i c)) (clrP D R k c c)) = 0
    rw [P1, mul1 F (ng_lt F (h.el i hi c)), ad_ng F (h.el i hi c)]
  have hPel : El D (clrP D R k c) := el_scale F _ _
  refine ⟨fun i hi => ?_, fun i hi => ?_, by omega, fun i hi => ?_, fun i j hij hj => ?_, fun i hi => ?_, fun i j hi hj hij => ?_, fun i c' hi hc => ?_, fun i c' hki hi hc => ?_⟩
  · by_cases e : i = k
    · rw [e, top]; exact hPel
    · rw [oth i hi e]; exact el_add F (h.el i hi) (el_scale F _ _)
  · have hPb : Bd n (clrP D R k c) := fun j hj => by
      show D.mul _ (R k j) = 0
      rw [h.bd k hk j hj, mul0 F]
    by_cases e : i = k
    · rw [e, top]; exact hPb
    · rw [oth i hi e]
      intro j hj
      show D.ad (R i j) (D.mul _ (clrP D R k c j)) = 0
      rw [h.bd i hi j hj, hPb j hj, mul0 F, ad_zero F (zero_lt' F)]
  · show (if i = k then c else p i) < c + 1
    by_cases e : i = k
    · rw [if_pos e]; omega
    · rw [if_neg e]; have := h.lt i (by omega); omega
  · show (if i = k then c else p i) < (if j = k then c else p j)
    rw [if_neg (by omega)]
    by_cases e : j = k
    · rw [if_pos e]; exact h.lt i (by omega)
    · rw [if_neg e]; exact h.mono i j hij (by omega)
  · show clrR D R k c m i (if i = k then c else p i) = 1
    by_cases e : i = k
    · rw [if_pos e, e, top]; exact P1
    · rw [if_neg e, keep i _ (by omega) e (h.lt i (by omega))]; exact h.one i (by omega)
  · show clrR D R k c m i (if j = k then c else p j) = 0
    by_cases e : j = k
    · rw [if_pos e]; exact gone i hi (by omega)
    · rw [if_neg e]
      have hpj := h.lt j (by omega)
      by_cases e2 : i = k
      · rw [e2, top]; exact P0 _ hpj
      · rw [keep i _ hi e2 hpj]; exact h.zero i j hi (by omega) hij
  · by_cases e : i = k
    · have hc' : c' < (if i = k then c else p i) := hc
      rw [if_pos e] at hc'
      rw [e, top]; exact P0 c' hc'
    · have hc' : c' < (if i = k then c else p i) := hc
      rw [if_neg e] at hc'
      have := h.lt i (by omega)
      rw [keep i c' (by omega) e (by omega)]; exact h.lead i c' (by omega) hc'
  · have e : i ≠ k := by omega
    by_cases e2 : c' = c
    · rw [e2]; exact gone i hi e
    · rw [keep i c' hi e (by omega)]; exact h.rest i c' (by omega) hi (by omega)

/-- What rows span hangs on no order. -/
theorem spn_swap {D : FD} (F : Fld D) {m a b : Nat} {R : Nat → Nat → Nat} (ha : a < m) (hb : b < m) (he : ∀ i, i < m → El D (R i)) (v : Nat → Nat) : Spn D (RowsOf m (swpR R a b)) v ↔ Spn D (RowsOf m R) v := by
  constructor
  · refine fun h => spn_le F (fun u hu => ?_) h
    obtain ⟨i, hi, rfl⟩ := hu
    unfold swpR
    by_cases e : i = a
    · rw [if_pos e]; exact spn_mem F (he b hb) ⟨b, hb, rfl⟩
    · rw [if_neg e]
      by_cases e2 : i = b
      · rw [if_pos e2]; exact spn_mem F (he a ha) ⟨a, ha, rfl⟩
      · rw [if_neg e2]; exact spn_mem F (he i hi) ⟨i, hi, rfl⟩
  · refine fun h => spn_le F (fun u hu => ?_) h
    obtain ⟨i, hi, rfl⟩ := hu
    refine spn_mem F (he i hi) ?_
    by_cases e : i = a
    · refine ⟨b, hb, ?_⟩
      unfold swpR
      by_cases e2 : b = a
      · rw [if_pos e2, e, e2]
      · rw [if_neg e2, if_pos rfl, e]
    · by_cases e2 : i = b
      · refine ⟨a, ha, ?_⟩
        unfold swpR
        rw [if_pos rfl, e2]
      · refine ⟨i, hi, ?_⟩
        unfold swpR
        rw [if_neg e, if_neg e2]
theorem spn_clear {D : FD} (hD : D ∈ fieldsL) {m c k : Nat} {R : Nat → Nat → Nat} (hk : k < m) (he : ∀ i, i < m → El D (R i)) (h0 : R k c ≠ 0) (v : Nat → Nat) : Spn D (RowsOf m (clrR D R k c m)) v ↔ Spn D (RowsOf m R) v := by
  have F := fld hD
  have hPel : El D (clrP D R k c) := el_scale F _ _
  constructor
  · refine fun h => spn_le F (fun u hu => ?_) h
    obtain ⟨i, hi, rfl⟩ := hu
    have hP : Spn D (RowsOf m R) (clrP D R k c) := spn_scale F _ (spn_mem F (he k hk) ⟨k, hk, rfl⟩)
    unfold clrR
    by_cases e : i = k
    · rw [if_pos e]; exact hP
    · rw [if_neg e, if_pos hi]; exact spn_add F (spn_mem F (he i hi) ⟨i, hi, rfl⟩) (spn_scale F _ hP)
  · refine fun h => spn_le F (fun u hu => ?_) h
    obtain ⟨i, hi, rfl⟩ := hu
    have hP : Spn D (RowsOf m (clrR D R k c m)) (clrP D R k c) := spn_mem F hPel ⟨k, hk, by unfold clrR; rw [if_pos rfl]⟩
    by_cases e : i = k
    · have h1 : R k = pscale D (R k c) (clrP D R k c) := by
        unfold clrP
        rw [pscale_pscale F, iv_is hD (he k hk c) h0, pscale_one F (he k hk)]
      rw [e, h1]; exact spn_scale F _ hP
    · have h1 : R i = padd D (clrR D R k c m i) (pscale D (R i c) (clrP D R k c)) := by
        funext j
        unfold clrR
        rw [if_neg e, if_pos hi]
        show R i j = D.ad (D.ad (R i j) (D.mul (D.ng (R i c)) (clrP D R k c j))) (D.mul (R i c) (clrP D R k c j))
        rw [F.mul_comm (D.ng (R i c)), mul_ng F (he i hi c), F.mul_comm (clrP D R k c j), ad_assoc F (he i hi j) (ng_lt F (F.mul_lt _ _)) (F.mul_lt _ _), ad_comm F (D.ng _), ad_ng F (F.mul_lt _ _), ad_zero F (he i hi j)]
      rw [h1]
      refine spn_add F (spn_mem F ?_ ⟨i, hi, rfl⟩) (spn_scale F _ hP)
      unfold clrR
      rw [if_neg e, if_pos hi]
      exact el_add F (he i hi) (el_scale F _ _)
/-- All columns are done: the one form. -/
theorem rdg_end {D : FD} (F : Fld D) {m n k : Nat} {R : Nat → Nat → Nat} {p : Nat → Nat} (h : Rdg D m n n k R p) : RRE D n k R p ∧ (∀ i, k ≤ i → i < m → R i = pnil) ∧ ∀ v, Spn D (RowsOf k R) v ↔ Spn D (RowsOf m R) v := by
  have hle := h.le
  have h1 : ∀ i, k ≤ i → i < m → R i = pnil := fun i hk hi => by
    funext c
    by_cases e : c < n
    · exact h.rest i c hk hi e
    · exact h.bd i hi c (by omega)
  refine ⟨⟨fun i hi => h.el i (by omega), fun i hi => h.bd i (by omega), h.lt, h.mono, h.one, fun i j hi hj hij => h.zero i j (by omega) hj hij, h.lead⟩, h1, fun v => ⟨fun hv => spn_le F (fun u hu => ?_) hv, fun hv => spn_le F (fun u hu => ?_) hv⟩⟩
  · obtain ⟨i, hi, rfl⟩ := hu
    exact spn_mem F (h.el i (by omega)) ⟨i, by omega, rfl⟩
  · obtain ⟨i, hi, rfl⟩ := hu
    by_cases e : i < k
    · exact spn_mem F (h.el i hi) ⟨i, e, rfl⟩
    · rw [h1 i (by omega) hi]; exact spn_nil D _
end Go.Proofs.Ytjkncdmbcckcdab

/- The program's matrices: the first row that is not 0 in a column. -/
namespace Go.Proofs.Ytjkncdmbcckcdab
open Go.RowKit

set_option maxHeartbeats 2000000 in
set_option maxRecDepth 100000 in
theorem nz_any {g n col Bc cap : Nat} {c : Nat → Nat} {w : World} (hr : Row g n c w) (hb : w.cell? ⟨Bc, 0, none⟩ = some (.int .i64 col)) (hc : col < n) :
    Calls Try.prog 65 #[.slice (some ⟨g, 0, none⟩) n cap, .pointer (some ⟨Bc, 0, none⟩)] w fun e w' => e = .returned (.bool ((c col : Int) != 0)) ∧ w' = w := by
  have hco := hr.cell col hc
  have hcb : (col : Int) < (n : Int) := by omega
  obtain ⟨x, hx⟩ : ∃ x : Int, x = (c col : Int) := ⟨_, rfl⟩
  rw [← hx] at hco ⊢
  clear hr hx
  go_enter Try.func65, Try.ntmps65
  go_wp2
  go_ret
  exact ⟨rfl, rfl⟩
theorem enters_nz : ∀ args w, (callFunc 65 args).run Try.prog w = .ok (.enter 65 args) w :=
  enters_of Try.func65 (by kernel_rfl) rfl

set_option maxHeartbeats 2000000 in
set_option maxRecDepth 100000 in
theorem indexSls_any {gf : Nat} {lb : Array Value} (eg : ∀ args w, (callFunc gf args).run Try.prog w = .ok (.enter gf args) w) {G off n cap : Nat} {h : Nat → Nat} {l cl : Nat} {p : Nat → Bool} {w : World}
    (hs : ∀ j, j < n → w.cell? ⟨G, off + j, none⟩ = some (.slice (some ⟨h j, 0, none⟩) l cl)) (hn : n ≤ 1000000) (hp : ∀ j, j < n → Calls Try.prog gf (#[.slice (some ⟨h j, 0, none⟩) l cl] ++ lb) w fun e w' => e = .returned (.bool (p j)) ∧ w' = w) :
    Calls Try.prog 64 #[.slice (some ⟨G, off, none⟩) n cap, .func (.func gf) #[] lb] w fun e w' => w' = w ∧ ((∃ i : Nat, i < n ∧ p i = true ∧ (∀ j, j < i → p j = false) ∧ e = .returned (.int .i64 i)) ∨ ((∀ j, j < n → p j = false) ∧ e = .returned (.int .i64 (-1)))) := by
  have HS : Hid ((∀ j, j < n → w.cell? ⟨G, off + j, none⟩ = some (.slice (some ⟨h j, 0, none⟩) l cl)) ∧ ∀ j, j < n → Calls Try.prog gf (#[.slice (some ⟨h j, 0, none⟩) l cl] ++ lb) w fun e w' => e = .returned (.bool (p j)) ∧ w' = w) := ⟨hs, hp⟩
  clear hs hp
  go_enter Try.func64, Try.ntmps64
  go_wp2
  go_loopw [5, 8] (fun _ i wr => ∃ r : Nat, r ≤ n ∧ i = .int .i64 r ∧ Hid (∀ j, j < r → p j = false) ∧ wr = w) (fun _ i _ => n - (intOf i).toNat)
  case atStart => exact ⟨0, by omega, rfl, (show Hid _ from fun j hj => by omega), rfl⟩
  case round =>
    obtain ⟨r, hr, rfl, HH, rfl⟩ := hrel
    by_cases hlt : r < n
    · have hcz := HS.out.1 r hlt
      have hib : (r : Int) < (n : Int) := by omega
      have hcall := HS.out.2 r hlt
      by_cases hh : p r = true
      · have HV : Hid (p r = true) := hh
        rw [hh] at hcall
        clear hh
        go_wp2_with (go_at_fn gf; refine hcall.mono ?_; rintro e w' ⟨rfl, hw⟩; have hw := hw.symm; subst hw)
        go_ret
        exact ⟨rfl, Or.inl ⟨r, hlt, HV.out, HH.out, rfl⟩⟩
      · have hh' : p r = false := by simpa using hh
        have HV : Hid (∀ j, j < r + 1 → p j = false) := fun j hj => by
          by_cases e : j = r
          · rw [e]; exact hh'
          · exact HH.out j (by omega)
        rw [hh'] at hcall
        clear hh hh'
        go_wp2_with (go_at_fn gf; refine hcall.mono ?_; rintro e w' ⟨rfl, hw⟩; have hw := hw.symm; subst hw)
        go_roundw
        case rel => exact ⟨r + 1, by omega, by go_num, HV.out, by first | rfl | trivial⟩
        case measure => simp [intOf]; omega
    · have HV : Hid (∀ j, j < n → p j = false) := fun j hj => HH.out j (by omega)
      go_wp2
      go_ret
      exact ⟨rfl, Or.inr ⟨HV.out, rfl⟩⟩

/-- The first of the rows from top on that is not 0 in a column. -/
theorem indexNz_any {B G mc m n top col Bc cap : Nat} {R : Nat → Nat → Nat} {h : Nat → Nat} {w : World} (hM : Mx B G mc m n R h w) (hb : w.cell? ⟨Bc, 0, none⟩ = some (.int .i64 col)) (hc : col < n) (ht : top ≤ m) (hm : m ≤ 1000) :
    Calls Try.prog 64 #[.slice (some ⟨G, top, none⟩) (m - top) cap, .func (.func 65) #[] #[.pointer (some ⟨Bc, 0, none⟩)]] w fun e w' => w' = w ∧ ((∃ i : Nat, top + i < m ∧ R (top + i) col ≠ 0 ∧ e = .returned (.int .i64 i)) ∨ ((∀ j, top ≤ j → j < m → R j col = 0) ∧ e = .returned (.int .i64 (-1)))) := by
  have hp : ∀ j, j < m - top → Calls Try.prog 65 (#[.slice (some ⟨h (top + j), 0, none⟩) n n] ++ #[.pointer (some ⟨Bc, 0, none⟩)]) w fun e w' => e = .returned (.bool ((R (top + j) col : Int) != 0)) ∧ w' = w := fun j hj => by
    have e : (#[Value.slice (some ⟨h (top + j), 0, none⟩) n n] ++ #[Value.pointer (some ⟨Bc, 0, none⟩)] : Array Value) = #[.slice (some ⟨h (top + j), 0, none⟩) n n, .pointer (some ⟨Bc, 0, none⟩)] := rfl
    rw [e]
    exact nz_any (hM.row (top + j) (by omega)) hb hc
  refine (indexSls_any (cap := cap) (h := fun j => h (top + j)) (p := fun j => (R (top + j) col : Int) != 0) enters_nz (fun j hj => hM.cell (top + j) (by omega)) (by omega) hp).mono ?_
  rintro e w' ⟨hw, ⟨i, hi, hpi, _, rfl⟩ | ⟨ha, rfl⟩⟩
  · refine ⟨hw, Or.inl ⟨i, by omega, ?_, rfl⟩⟩
    have hpi' : ((R (top + i) col : Int) != 0) = true := hpi
    rw [bne_iff_ne] at hpi'
    omega
  · refine ⟨hw, Or.inr ⟨fun j h1 h2 => ?_, rfl⟩⟩
    have h3 : ((R (top + (j - top)) col : Int) != 0) = false := ha (j - top) (by omega)
    rw [show top + (j - top) = j from by omega] at h3
    simpa using h3
end Go.Proofs.Ytjkncdmbcckcdab

/- The program's matrices: two rows change places; rows that are left as they are. -/
namespace Go.Proofs.Ytjkncdmbcckcdab
open Go.RowKit

theorem Mx.keep {B G m k n : Nat} {R : Nat → Nat → Nat} {h : Nat → Nat} {w w' : World} (H : Mx B G m k n R h w) (hG : w'.heap[G]? = w.heap[G]?) (hh : ∀ i, i < k → w'.heap[h i]? = w.heap[h i]?) : Mx B G m k n R h w' := by
  obtain ⟨f, hf, hf'⟩ := H.outer
  exact ⟨⟨f, hf.other hG, hf'⟩, fun i hi => (H.row i hi).other (hh i hi), H.geG, H.ge, H.inj, H.ne, H.le⟩
theorem OwnI.same {base : Nat} {v : Value} {l : List Int} {w w' : World} (h : OwnI base v l w) (hb : ∀ k, v.ownBlock = some k → w'.heap[k]? = w.heap[k]?) : OwnI base v l w' := by
  obtain ⟨h1, h2⟩ := h
  refine ⟨h1, ?_⟩
  rcases h2 with h2 | ⟨g, cap, cur, hv, hg, hh, r⟩
  · exact Or.inl h2
  · exact Or.inr ⟨g, cap, cur, hv, hg, by rw [hb g (by rw [hv]; rfl)]; exact hh, r⟩
/-- The place from which row i came. -/
def swpI (a b i : Nat) : Nat := if i = a then b else if i = b then a else i
theorem swpR_is {α : Type} (R : Nat → α) (a b i : Nat) : swpR R a b i = R (swpI a b i) := by
  unfold swpR swpI
  by_cases e : i = a
  · rw [if_pos e, if_pos e]
  · rw [if_neg e, if_neg e]
    by_cases e2 : i = b
    · rw [if_pos e2, if_pos e2]
    · rw [if_neg e2, if_neg e2]
theorem swpI_lt {a b i m : Nat} (ha : a < m) (hb : b < m) (hi : i < m) : swpI a b i < m := by unfold swpI; split; exact hb; split; exact ha; exact hi
theorem swpI_inj {a b i j : Nat} (h : swpI a b i = swpI a b j) : i = j := by
  unfold swpI at h
  (repeat' split at h) <;> omega
theorem Mx.swap {B G mc m n a b : Nat} {R : Nat → Nat → Nat} {h : Nat → Nat} {w : World} (H : Mx B G mc m n R h w) (ha : a < m) (hb : b < m) :
    Mx B G mc m n (swpR R a b) (swpR h a b) ((w.setCell ⟨G, a, none⟩ (.slice (some ⟨h b, 0, none⟩) n n)).setCell ⟨G, b, none⟩ (.slice (some ⟨h a, 0, none⟩) n n)) := by
  obtain ⟨f, hf, hf'⟩ := H.outer
  refine ⟨⟨_, (hf.store a (.slice (some ⟨h b, 0, none⟩) n n)).store b (.slice (some ⟨h a, 0, none⟩) n n), fun i hi => ?_⟩, fun i hi => ?_, H.geG, fun i hi => ?_, fun i hi j hj e => ?_, fun i hi => ?_, H.le⟩
  · unfold swpR
    by_cases e2 : i = b
    · rw [e2, upd_at]
      by_cases e : b = a
      · rw [if_pos e, e]
      · rw [if_neg e, if_pos rfl]
    · rw [upd_ne _ _ _ e2]
      by_cases e : i = a
      · rw [if_pos e, e, upd_at]
      · rw [if_neg e, if_neg e2, upd_ne _ _ _ e]; exact hf' i hi
  · rw [swpR_is, swpR_is]
    have hi' := swpI_lt ha hb hi
    have hne := H.ne _ hi'
    exact (H.row _ hi').other ((Below.heap_setCell _ _ _ _ hne).trans (Below.heap_setCell _ _ _ _ hne))
  · rw [swpR_is]; exact H.ge _ (swpI_lt ha hb hi)
  · rw [swpR_is, swpR_is] at e
    exact swpI_inj (H.inj _ (swpI_lt ha hb hi) _ (swpI_lt ha hb hj) e)
  · rw [swpR_is]; exact H.ne _ (swpI_lt ha hb hi)
end Go.Proofs.Ytjkncdmbcckcdab
