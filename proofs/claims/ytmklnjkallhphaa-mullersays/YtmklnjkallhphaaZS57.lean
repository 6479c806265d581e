/- Texts of ours, one behind the other: S57 KO10 S58. -/
import Derived.Test.YtmklnjkallhphaaZKO4
import Derived.Test.YtmklnjkallhphaaZW19
import Derived.Test.YtmklnjkallhphaaZKE3
import Derived.Test.YtmklnjkallhphaaZW18
import Derived.Test.YtmklnjkallhphaaZI18
import Derived.Test.YtmklnjkallhphaaZI5
/- Muller: Reed's majority tells a message's bits, where there are few errors. -/
namespace Go.Proofs.Ytmklnjkallhphaa

/-- Without a monomial's own variables. -/
def rmv (s x : Nat) : Nat := x - (x &&& s)
/-- The sum over a monomial's places beside y, of the first n, less twos. -/
def csm (s y : Nat) (c : Nat → Nat) : Nat → Nat
  | 0 => 0
  | n + 1 => if rmv s n = y then (csm s y c n + c n) % 2 else csm s y c n
/-- A monomial's word. -/
def mof (t x : Nat) : Nat := if mon t x = true then 1 else 0
/-- All below n are so. -/
def alb (p : Nat → Bool) : Nat → Bool
  | 0 => true
  | n + 1 => p n && alb p n
theorem alb_at {p : Nat → Bool} : ∀ {n}, alb p n = true → ∀ i, i < n → p i = true
  | n + 1, h, i, hi => by
    have h' : (p n && alb p n) = true := h
    rw [Bool.and_eq_true] at h'
    by_cases e : i = n
    · rw [e]; exact h'.1
    · exact alb_at h'.2 i (by omega)
/-- The sums of monomials over a monomial's places. -/
def ckm (m : Nat) : Bool := alb (fun s => alb (fun y => y &&& s != 0 || (csm s y (mof s) (2 ^ m) == 1 && alb (fun t => mon s t || csm s y (mof t) (2 ^ m) == 0) (2 ^ m))) (2 ^ m)) (2 ^ m)
theorem ckm1 : ckm 1 = true := by decide +kernel
theorem ckm2 : ckm 2 = true := by decide +kernel
theorem ckm3 : ckm 3 = true := by decide +kernel
theorem ckm4 : ckm 4 = true := by decide +kernel
theorem ckm5 : ckm 5 = true := by decide +kernel
theorem ckm_all {m : Nat} (h1 : 1 ≤ m) (h : m ≤ 5) : ckm m = true := by
  have : m = 1 ∨ m = 2 ∨ m = 3 ∨ m = 4 ∨ m = 5 := by omega
  rcases this with rfl | rfl | rfl | rfl | rfl
  · exact ckm1
  · exact ckm2
  · exact ckm3
  · exact ckm4
  · exact ckm5
theorem csm_self {m s y : Nat} (h1 : 1 ≤ m) (h : m ≤ 5) (hs : s < 2 ^ m) (hy : y < 2 ^ m) (h0 : y &&& s = 0) : csm s y (mof s) (2 ^ m) = 1 := by
  have := alb_at (alb_at (ckm_all h1 h) s hs) y hy
  rw [h0] at this
  simp only [bne_self_eq_false, Bool.false_or, Bool.and_eq_true, beq_iff_eq] at this
  exact this.1
theorem csm_out {m s y t : Nat} (h1 : 1 ≤ m) (h : m ≤ 5) (hs : s < 2 ^ m) (hy : y < 2 ^ m) (ht : t < 2 ^ m) (h0 : y &&& s = 0) (hn : mon s t = false) : csm s y (mof t) (2 ^ m) = 0 := by
  have := alb_at (alb_at (ckm_all h1 h) s hs) y hy
  rw [h0] at this
  simp only [bne_self_eq_false, Bool.false_or, Bool.and_eq_true, beq_iff_eq] at this
  have := alb_at this.2 t ht
  rw [hn] at this
  simpa using this
theorem csm_add (s y : Nat) {a b c : Nat → Nat} : ∀ n, (∀ x, x < n → c x % 2 = (a x + b x) % 2) → csm s y c n = (csm s y a n + csm s y b n) % 2
  | 0, _ => rfl
  | n + 1, h => by
    have h1 := csm_add s y n (fun x hx => h x (by omega))
    have h2 := h n (by omega)
    show (if rmv s n = y then (csm s y c n + c n) % 2 else csm s y c n) = ((if rmv s n = y then (csm s y a n + a n) % 2 else csm s y a n) + (if rmv s n = y then (csm s y b n + b n) % 2 else csm s y b n)) % 2
    split <;> omega
theorem csm_nil (s y : Nat) : ∀ n, csm s y (fun _ => 0) n = 0
  | 0 => rfl
  | n + 1 => by
    show (if rmv s n = y then (csm s y (fun _ => 0) n + 0) % 2 else csm s y (fun _ => 0) n) = 0
    rw [csm_nil s y n]; split <;> rfl
theorem csm_congr (s y : Nat) {a b : Nat → Nat} : ∀ n, (∀ x, x < n → a x = b x) → csm s y a n = csm s y b n
  | 0, _ => rfl
  | n + 1, h => by
    show (if rmv s n = y then (csm s y a n + a n) % 2 else csm s y a n) = (if rmv s n = y then (csm s y b n + b n) % 2 else csm s y b n)
    rw [csm_congr s y n (fun x hx => h x (by omega)), h n (by omega)]
/-- Monomials in order: a later one lies in no elder one. -/
def MOrd (m : Nat) (l : List Nat) : Prop := (∀ i, i < l.length → l.getD i 0 < 2 ^ m) ∧ ∀ i j, i < j → j < l.length → mon (l.getD j 0) (l.getD i 0) = false
theorem mwv_step (l : List Nat) (g : Nat → Nat) (x i : Nat) : mwv l g x (i + 1) % 2 = (mwv l g x i + if g i = 1 then mof (l.getD i 0) x else 0) % 2 := by
  have := mwv_lt l g x i
  show (if g i = 1 ∧ mon (l.getD i 0) x = true then 1 - mwv l g x i else mwv l g x i) % 2 = _
  unfold mof
  by_cases h1 : g i = 1
  · by_cases h2 : mon (l.getD i 0) x = true
    · rw [if_pos ⟨h1, h2⟩, if_pos h1, if_pos h2]; omega
    · rw [if_neg (fun h => h2 h.2), if_pos h1, if_neg h2]; omega
  · rw [if_neg (fun h => h1 h.1), if_neg h1]; omega
/-- What elder monomials have at the places of a later one comes to nothing. -/
theorem csm_word {m : Nat} (h1 : 1 ≤ m) (h : m ≤ 5) {l : List Nat} (hl : MOrd m l) {y k : Nat} (g : Nat → Nat) (hk : k < l.length) (hy : y < 2 ^ m) (h0 : y &&& l.getD k 0 = 0) : ∀ i, i ≤ k → csm (l.getD k 0) y (fun x => mwv l g x i) (2 ^ m) = 0
  | 0, _ => csm_nil _ _ _
  | i + 1, hi => by
    rw [csm_add _ _ (a := fun x => mwv l g x i) (b := fun x => if g i = 1 then mof (l.getD i 0) x else 0) (2 ^ m) (fun x _ => mwv_step l g x i), csm_word h1 h hl g hk hy h0 i (by omega)]
    by_cases hg : g i = 1
    · have e : csm (l.getD k 0) y (fun x => if g i = 1 then mof (l.getD i 0) x else 0) (2 ^ m) = csm (l.getD k 0) y (mof (l.getD i 0)) (2 ^ m) := csm_congr _ _ _ (fun x _ => if_pos hg)
      rw [e, csm_out h1 h (hl.1 k hk) hy (hl.1 i (by omega)) h0 (hl.2 i k (by omega) hk)]
    · have e : csm (l.getD k 0) y (fun x => if g i = 1 then mof (l.getD i 0) x else 0) (2 ^ m) = csm (l.getD k 0) y (fun _ => 0) (2 ^ m) := csm_congr _ _ _ (fun x _ => if_neg hg)
      rw [e, csm_nil]
/-- The order of the lists. -/
def cor (m : Nat) : Bool := alb (fun j => decide ((mnl m (m + 1)).getD j 0 < 2 ^ m) && alb (fun i => !mon ((mnl m (m + 1)).getD j 0) ((mnl m (m + 1)).getD i 0)) j) (mnl m (m + 1)).length
theorem cor_all {m : Nat} (h1 : 1 ≤ m) (h : m ≤ 5) : cor m = true := by
  have : m = 1 ∨ m = 2 ∨ m = 3 ∨ m = 4 ∨ m = 5 := by omega
  rcases this with rfl | rfl | rfl | rfl | rfl <;> decide +kernel
theorem mnl_pre {m r : Nat} (hr : r ≤ m) : (mnl m (r + 1)).length ≤ (mnl m (m + 1)).length ∧ ∀ i, i < (mnl m (r + 1)).length → (mnl m (m + 1)).getD i 0 = (mnl m (r + 1)).getD i 0 := by
  obtain ⟨t, ht⟩ := pre_mnl m (r + 1) (m - r)
  rw [show r + 1 + (m - r) = m + 1 by omega] at ht
  rw [ht]
  refine ⟨by rw [List.length_append]; omega, fun i hi => ?_⟩
  rw [List.getD_eq_getElem?_getD, List.getD_eq_getElem?_getD, List.getElem?_append_left hi]
theorem mnl_ord {m r : Nat} (h1 : 1 ≤ m) (h : m ≤ 5) (hr : r ≤ m) : MOrd m (mnl m (r + 1)) := by
  obtain ⟨hlen, hpre⟩ := mnl_pre hr
  have hc := alb_at (cor_all h1 h)
  refine ⟨fun i hi => ?_, fun i j hij hj => ?_⟩
  · have := hc i (by omega)
    rw [Bool.and_eq_true, decide_eq_true_iff, hpre i hi] at this
    exact this.1
  · have := hc j (by omega)
    rw [Bool.and_eq_true] at this
    have := alb_at this.2 i hij
    rw [hpre i (by omega), hpre j hj] at this
    simpa using this
end Go.Proofs.Ytmklnjkallhphaa

/- Muller: Encode (the program). -/
namespace Go.Proofs.Ytmklnjkallhphaa
open Go.RowKit Go.Sort

set_option maxHeartbeats 2000000 in
theorem collectM_any {b1 b2 r m : Nat} (hm : m ≤ 5) (hr : r ≤ m) {w : World} (hP : BxU b1 b2 r m w) :
    Calls Try.prog 36 #[.func (.func 51) #[] #[.pointer (some ⟨b1, 0, none⟩), .pointer (some ⟨b2, 0, none⟩)]] w fun e w' => ∃ v, e = .returned v ∧ OwnM w.heap.size v (nli (mnl m (r + 1))) w' ∧ Below w.heap.size w w' := by
  have HC : Hid (Calls Try.prog 54 #[.slice none 0 0, .func (.func 51) #[] #[.pointer (some ⟨b1, 0, none⟩), .pointer (some ⟨b2, 0, none⟩)]] w fun e w' => ∃ v, e = .returned v ∧ OwnM w.heap.size v (nli (mnl m (r + 1))) w' ∧ Below w.heap.size w w') := appendSeqM_any hm hr hP
  clear hP
  go_enter Try.func36, Try.ntmps36
  go_wp2_with fail
  refine HC.out.mono ?_
  rintro e w1 ⟨v, rfl, h1, h2⟩
  have H1 : Hid (OwnM w.heap.size v (nli (mnl m (r + 1))) w1 ∧ Below w.heap.size w w1) := ⟨h1, h2⟩
  clear h1 h2 HC
  go_wp2
  go_ret
  exact ⟨_, rfl, H1.out⟩
def clp (m : Nat) : Bool := alb (fun r => Nat.blt 0 (mnl m (r + 1)).length) (m + 1)
theorem mnl_pos {m r : Nat} (h1 : 1 ≤ m) (h : m ≤ 5) (hr : r ≤ m) : 0 < (mnl m (r + 1)).length := by
  have hc : clp m = true := by
    have : m = 1 ∨ m = 2 ∨ m = 3 ∨ m = 4 ∨ m = 5 := by omega
    rcases this with rfl | rfl | rfl | rfl | rfl <;> decide +kernel
  have := alb_at hc r (by omega)
  simp [Nat.blt] at this
  omega
theorem mwv_mad {l : List Nat} {g : Nat → Nat} {i P : Nat} (hg : g i = 1) : ∀ x, x < P → mad (l.getD i 0) (fun x => mwv l g x i) P x = mwv l g x (i + 1) := fun x hx => by
  unfold mad
  show _ = (if g i = 1 ∧ mon (l.getD i 0) x = true then 1 - mwv l g x i else mwv l g x i)
  by_cases h : mon (l.getD i 0) x = true
  · rw [if_pos ⟨hx, h⟩, if_pos ⟨hg, h⟩]
  · rw [if_neg (fun q => h q.2), if_neg (fun q => h q.2)]
theorem mwv_same {l : List Nat} {g : Nat → Nat} {i x : Nat} (hg : g i ≠ 1) : mwv l g x (i + 1) = mwv l g x i := if_neg (fun h => hg h.1)
theorem mck_fine {r m : Nat} (h1 : 1 ≤ m) (h : m ≤ 5) (hr : r ≤ m) : mck (r : Int) (m : Int) = 0 := by
  unfold mck
  rw [if_neg (by omega), if_neg (by omega)]

set_option maxHeartbeats 4000000 in
set_option maxRecDepth 100000 in
theorem mEncode_none (r m : Int) (he : mck r m ≠ 0) (ao : Option Addr) (k cap : Nat) (w : World) :
    Calls Try.prog 15 #[.int .i64 r, .int .i64 m, .slice ao k cap] w fun e w' => e = .returned (.tuple #[.slice none 0 0, .int .i64 (mck r m)]) ∧ w' = w := by
  obtain ⟨E, hE⟩ : ∃ E, E = mck r m := ⟨_, rfl⟩
  have HC : Hid (Calls Try.prog 10 #[.int .i64 r, .int .i64 m] w fun e w' => e = .returned (.int .i64 E) ∧ w' = w) := by rw [hE]; exact mullCheck_any r m w
  have hz : (E != 0) = true := by rw [bne_iff_ne, hE]; exact he
  rw [← hE]
  clear hE he
  go_enter Try.func15, Try.ntmps15
  go_wp2_with fail
  refine HC.out.mono ?_
  rintro e w' ⟨rfl, hw⟩
  have hw := hw.symm
  subst hw
  clear HC
  go_wp2
  go_ret2
  exact ⟨rfl, rfl⟩

/-- What Encode tells of a message. -/
def EnP (r m P k : Nat) (z : Nat → Int) (w : World) (e : Ending) (w' : World) : Prop :=
  Below w.heap.size w w' ∧ ((bchk isbt k z ((mnl m (r + 1)).length : Nat) = 0 ∧ ∃ G, e = .returned (.tuple #[.slice (some ⟨G, 0, none⟩) P P, .int .i64 0]) ∧ w.heap.size ≤ G ∧ Row G P (fun x => mwv (mnl m (r + 1)) (fun j => (z j).toNat) x (mnl m (r + 1)).length) w') ∨
    (bchk isbt k z ((mnl m (r + 1)).length : Nat) ≠ 0 ∧ e = .returned (.tuple #[.slice none 0 0, .int .i64 (bchk isbt k z ((mnl m (r + 1)).length : Nat))])))

set_option maxHeartbeats 8000000 in
set_option maxRecDepth 100000 in
theorem mEncode_any (r m P : Nat) (h1 : 1 ≤ m) (h : m ≤ 5) (hr : r ≤ m) (hP : P = 2 ^ m) {ao : Option Addr} {k cap : Nat} {z : Nat → Int} {w : World} (hs : SlZ ao k z w) (hk : k ≤ 100000) :
    Calls Try.prog 15 #[.int .i64 (r : Nat), .int .i64 (m : Nat), .slice ao k cap] w (EnP r m P k z w) := by
  obtain ⟨l, hl⟩ : ∃ l, l = mnl m (r + 1) := ⟨_, rfl⟩
  obtain ⟨E, hE⟩ : ∃ E, E = bchk isbt k z (l.length : Nat) := ⟨_, rfl⟩
  have hlen : l.length ≤ 1000 := by have := mnl_len h (r + 1); rw [hl]; omega
  have hpos : 0 < l.length := by rw [hl]; exact mnl_pos h1 h hr
  have hPb : P ≤ 32 := by rw [hP]; exact Nat.pow_le_pow_right (by omega) h
  have hsh : (2 : Int) ^ m = (P : Int) := by rw [hP]; simp
  have HC : Hid (Calls Try.prog 10 #[.int .i64 (r : Nat), .int .i64 (m : Nat)] w fun e w' => e = .returned (.int .i64 0) ∧ w' = w) := by
    have := mullCheck_any (r : Int) (m : Int) w
    rw [mck_fine h1 h hr] at this; exact this
  have HL : Hid (SlZ ao k z w ∧ l = mnl m (r + 1) ∧ E = bchk isbt k z (l.length : Nat) ∧ ∀ i, i < l.length → l.getD i 0 < 32) := ⟨hs, hl, hE, fun i hi => by
    have hlt := (mnl_ord h1 h hr).1 i (by rw [← hl]; exact hi)
    rw [← hl] at hlt
    have : 2 ^ m ≤ 2 ^ 5 := Nat.pow_le_pow_right (by omega) h
    omega⟩
  clear hs hl hE hP
  have hm5 := h
  go_enter Try.func15, Try.ntmps15
  go_wp2_with fail
  refine HC.out.mono ?_
  rintro e w' ⟨rfl, hw⟩
  have hw := hw.symm
  subst hw
  clear HC
  go_wp2_with fail
  refine (monos_any r m w).mono ?_
  rintro e w1 ⟨b1, b2, rfl, hbb, hbx, hb1⟩
  have HC2 : Hid (Calls Try.prog 36 #[.func (.func 51) #[] #[.pointer (some ⟨b1, 0, none⟩), .pointer (some ⟨b2, 0, none⟩)]] w1 fun e w' => ∃ v, e = .returned v ∧ OwnM w1.heap.size v (nli (mnl m (r + 1))) w' ∧ Below w1.heap.size w1 w') := collectM_any hm5 hr hbx
  have H1 : Hid (Below w.heap.size w w1) := hb1
  clear hbb hbx hb1
  go_wp2_with fail
  refine HC2.out.mono ?_
  rintro e w2 ⟨v, rfl, hov, hb2⟩
  rw [← HL.out.2.1] at hov
  obtain ⟨gM, cM, rfl, ⟨hc1, hc2⟩, hgM, hgM2, hcl, hfr⟩ := hov.at (fun e => by have := nli_len l; rw [e] at this; simp at this; omega)
  rw [nli_len] at hcl hc1
  obtain ⟨K, hK⟩ : ∃ K, K = l.length := ⟨_, rfl⟩
  have hKe : (nli l).length = K := by rw [nli_len, hK]
  rw [hKe]
  have H2 : Hid (Below w.heap.size w w2 ∧ gM < w2.heap.size ∧ (∀ j, j < K → w2.cell? ⟨gM, j, none⟩ = some (.int .i64 (l.getD j 0 : Nat))) ∧ SlZ ao k z w2 ∧ K = l.length) := by
    have hbw := bel_up' H1.out hb2
    refine ⟨hbw, hgM2, fun j hj => ?_, slz_below HL.out.1 hbw, hK⟩
    rw [hcl j (by omega)]
    have e := congrArg (fun q : List Int => q.getD j 0) (nli_zl l)
    rw [e, zl_getD _ _ _ (by omega)]
  have HCk : Hid (Calls Try.prog 37 #[.slice ao k cap, .int .i64 (K : Nat)] w2 fun e w' => e = .returned (.int .i64 E) ∧ w' = w2) := by rw [HL.out.2.2.1, ← hK]; exact bCheck_any (K : Nat) H2.out.2.2.2.1 (by omega)
  have hKb : 0 < K ∧ K ≤ 1000 := by omega
  clear hK hov hb2 hcl hfr hgM hgM2 hKe hc1 hc2 HC2 hlen hpos
  by_cases hE0 : E = 0
  · have hz : (E != 0) = false := by rw [hE0]; rfl
    have HE : Hid (E = 0) := hE0
    clear hE0
    go_wp2_with fail
    refine HCk.out.mono ?_
    rintro e w' ⟨rfl, hw⟩
    have hw := hw.symm
    subst hw
    clear HCk
    go_wp2_with (at_make; refine make_int rfl _ _ rfl _ P rfl rfl rfl (by omega) ?_; intro w3 hown3 hgrow3)
    have hrow3 := row_zeros hown3
    obtain ⟨G, hG⟩ : ∃ G, G = w2.heap.size := ⟨_, rfl⟩
    rw [← hG] at hrow3
    rw [← hG]
    have hb3 : Below w2.heap.size w2 w3 := below_grown hgrow3 (Nat.le_refl _) (fun k hk => by cases hk)
    have H3 : Hid (Row G P pnil w3 ∧ Below w2.heap.size w2 w3 ∧ G = w2.heap.size) := ⟨hrow3, hb3, hG⟩
    clear hrow3 hb3 hown3 hgrow3 hG
    go_wp2
    go_loopw [36] (fun vi wr => ∃ i : Nat, i ≤ K ∧ vi = .int .i64 (i : Nat) ∧ Hid (Row G P (fun x => mwv l (fun j => (z j).toNat) x i) wr ∧ Below w2.heap.size w2 wr)) (fun vi _ => K - (intOf vi).toNat)
    case atStart => exact ⟨0, by omega, rfl, H3.out.1, H3.out.2.1⟩
    case round =>
      obtain ⟨i, hi, rfl, HI⟩ := hrel
      rename World => wr
      by_cases hlt : i < K
      · have hib : (i : Int) < (K : Int) := by omega
        have hib0 : (0 : Int) ≤ (i : Int) := by omega
        have hmc : wr.cell? ⟨gM, i, none⟩ = some (.int .i64 (l.getD i 0 : Nat)) := ((bcell HI.out.2).1 gM i H2.out.2.1).trans (H2.out.2.2.1 i hlt)
        obtain ⟨s, hse⟩ : ∃ s, s = l.getD i 0 := ⟨_, rfl⟩
        rw [← hse] at hmc
        have hs32 : s < 32 := by rw [hse]; exact HL.out.2.2.2 i (by have := H2.out.2.2.2.2; omega)
        have hk : k = K ∧ ∀ j, j < k → z j = 0 ∨ z j = 1 := by
          have e := HL.out.2.2.1
          rw [HE.out] at e
          unfold bchk at e
          have hK := H2.out.2.2.2.2
          by_cases c : (k : Int) ≠ (l.length : Nat)
          · rw [if_pos c] at e; cases e
          · rw [if_neg c] at e
            by_cases c2 : allP isbt z k = true
            · exact ⟨by omega, fun j hj => of_decide_eq_true (allP_iff k c2 j hj)⟩
            · rw [if_neg c2] at e; cases e
        obtain ⟨bb, off, hao, hci⟩ := (slz_below H2.out.2.2.2.1 HI.out.2) i (by omega)
        subst hao
        have hzi := hk.2 i (by omega)
        obtain ⟨y, hy⟩ : ∃ y, y = z i := ⟨_, rfl⟩
        rw [← hy] at hci hzi
        have hik : i < k := by omega
        have hikb : (i : Int) < (k : Int) := by omega
        clear hk
        by_cases hy1 : y = 1
        · have hyb : (y == 1) = true := by rw [hy1]; rfl
          have HA : Hid (Calls Try.prog 33 #[.int .i64 (s : Nat), .slice (some ⟨G, 0, none⟩) P P] wr fun e w' => e = .returned (.tuple #[]) ∧ Row G P (fun x => mwv l (fun j => (z j).toNat) x (i + 1)) w' ∧ Below w2.heap.size wr w') := by
            refine (monAdd_any s G P P w2.heap.size (by omega) hPb (by have := H3.out.2.2; omega) _ (fun x _ => mwv_lt _ _ _ _) HI.out.1).mono ?_
            rintro e w' ⟨rfl, hr2, hb⟩
            refine ⟨rfl, hr2.congr (fun x hx => ?_), hb⟩
            rw [hse]
            exact mwv_mad (by show (z i).toNat = 1; rw [← hy, hy1]; rfl) x hx
          clear hy1 hy hse hzi
          go_wp2_with fail
          refine HA.out.mono ?_
          rintro e w4 ⟨rfl, hr4, hb4⟩
          have H4 : Hid (Row G P (fun x => mwv l (fun j => (z j).toNat) x (i + 1)) w4 ∧ Below w2.heap.size w2 w4) := ⟨hr4, HI.out.2.trans hb4⟩
          clear hr4 hb4 HA
          go_wp2
          go_roundw
          case rel => exact ⟨i + 1, by omega, by go_num, H4.out⟩
          case measure => simp [intOf]; omega
        · have hyb : (y == 1) = false := by rw [beq_eq_false_iff_ne]; exact hy1
          have HX : Hid (Row G P (fun x => mwv l (fun j => (z j).toNat) x (i + 1)) wr ∧ Below w2.heap.size w2 wr) := ⟨HI.out.1.congr (fun x _ => (mwv_same (by show (z i).toNat ≠ 1; rw [← hy]; omega)).symm), HI.out.2⟩
          clear hy1 hy hse hzi
          go_wp2
          go_roundw
          case rel => exact ⟨i + 1, by omega, by go_num, HX.out⟩
          case measure => simp [intOf]; omega
      · have hib : ¬ (i : Int) < (K : Int) := by omega
        have HX : Hid (Row G P (fun x => mwv l (fun j => (z j).toNat) x l.length) wr ∧ Below w.heap.size w wr ∧ w.heap.size ≤ G) := by
          have hh := HI.out
          rw [show i = l.length by have := H2.out.2.2.2.2; omega] at hh
          exact ⟨hh.1, bel_up' H2.out.1 hh.2, by have := H2.out.1.size; have := H3.out.2.2; omega⟩
        go_wp2
        go_ret2
        have e1 := HL.out.2.1
        have e2 := HL.out.2.2.1
        unfold EnP
        rw [← e1, ← e2]
        exact ⟨HX.out.2.1, Or.inl ⟨HE.out, G, rfl, HX.out.2.2, HX.out.1⟩⟩
  · have hz : (E != 0) = true := by rw [bne_iff_ne]; exact hE0
    have HE : Hid (E ≠ 0) := hE0
    clear hE0
    go_wp2_with fail
    refine HCk.out.mono ?_
    rintro e w' ⟨rfl, hw⟩
    have hw := hw.symm
    subst hw
    clear HCk
    go_wp2
    go_ret2
    have e1 := HL.out.2.1
    have e2 := HL.out.2.2.1
    unfold EnP
    rw [← e1, ← e2]
    exact ⟨H2.out.1, Or.inr ⟨HE.out, rfl⟩⟩
end Go.Proofs.Ytmklnjkallhphaa

/- Muller: the codes' rows: independent; the dual is one of them; how far their words lie apart. -/
namespace Go.Proofs.Ytmklnjkallhphaa

/-- The field of two. -/
def FM : FD := ⟨2, 2, 1, 0, 1⟩
theorem FM_in : FM ∈ fieldsL := List.Mem.head _
theorem FM_ad {a b : Nat} (ha : a < 2) (hb : b < 2) : FM.ad a b = (a + b) % 2 := by
  have h : (List.range 2).all (fun a => (List.range 2).all fun b => FM.ad a b == (a + b) % 2) = true := by decide +kernel
  have := List.all_eq_true.1 (List.all_eq_true.1 h a (List.mem_range.2 ha)) b (List.mem_range.2 hb)
  exact eq_of_beq this
theorem mof_lt (t x : Nat) : mof t x < 2 := by unfold mof; split <;> omega
/-- A code's rows: the monomials' words. -/
def mrow (l : List Nat) (P i : Nat) : Nat → Nat := fun x => if x < P then mof (l.getD i 0) x else 0
/-- A message's word. -/
def wordf (l : List Nat) (P : Nat) (g : Nat → Nat) (k : Nat) : Nat → Nat := fun x => if x < P then mwv l g x k else 0
theorem mrow_el (l : List Nat) (P i : Nat) : El FM (mrow l P i) := fun x => by
  show mrow l P i x < 2
  unfold mrow
  split
  · exact mof_lt _ _
  · omega
theorem mrow_bd (l : List Nat) (P i : Nat) : Bd P (mrow l P i) := fun x hx => by unfold mrow; rw [if_neg (by omega)]
theorem wordf_lt (l : List Nat) (P : Nat) (g : Nat → Nat) (k x : Nat) : wordf l P g k x < 2 := by
  unfold wordf
  split
  · exact mwv_lt _ _ _ _
  · omega
theorem mwv_sum (l : List Nat) (g h : Nat → Nat) (x : Nat) (hg : ∀ i, g i < 2) (hh : ∀ i, h i < 2) : ∀ k, mwv l (fun i => (g i + h i) % 2) x k = (mwv l g x k + mwv l h x k) % 2
  | 0 => rfl
  | k + 1 => by
    have a := mwv_step l (fun i => (g i + h i) % 2) x k
    have b := mwv_step l g x k
    have c := mwv_step l h x k
    have d := mwv_lt l (fun i => (g i + h i) % 2) x (k + 1)
    have ih := mwv_sum l g h x hg hh k
    have e1 := hg k
    have e2 := hh k
    have : g k = 0 ∨ g k = 1 := by omega
    have : h k = 0 ∨ h k = 1 := by omega
    have hm := mof_lt (l.getD k 0) x
    rcases ‹g k = 0 ∨ g k = 1› with u | u <;> rcases ‹h k = 0 ∨ h k = 1› with v | v <;> simp only [u, v] at a b c <;> simp at a b c <;> omega
theorem mwv_none (l : List Nat) (x : Nat) : ∀ k, mwv l (fun _ => 0) x k = 0
  | 0 => rfl
  | k + 1 => by
    show (if (0 : Nat) = 1 ∧ mon (l.getD k 0) x = true then 1 - mwv l (fun _ => 0) x k else mwv l (fun _ => 0) x k) = 0
    rw [if_neg (by omega), mwv_none l x k]
theorem mwv_unit (l : List Nat) (x i : Nat) : ∀ k, mwv l (fun j => if j = i then 1 else 0) x k = if i < k then mof (l.getD i 0) x else 0
  | 0 => rfl
  | k + 1 => by
    have a := mwv_step l (fun j => if j = i then 1 else 0) x k
    have d := mwv_lt l (fun j => if j = i then 1 else 0) x (k + 1)
    have hm := mof_lt (l.getD i 0) x
    rw [mwv_unit l x i k] at a
    by_cases e : k = i
    · subst e
      have e1 : (if k < k then mof (l.getD k 0) x else 0) = 0 := if_neg (by omega)
      have e2 : (if (if k = k then 1 else 0) = 1 then mof (l.getD k 0) x else 0) = mof (l.getD k 0) x := by rw [if_pos (if_pos rfl)]
      rw [e1, e2] at a
      rw [if_pos (show k < k + 1 by omega)]
      omega
    · have e2 : (if (if k = i then 1 else 0) = 1 then mof (l.getD k 0) x else 0) = 0 := by rw [if_neg e, if_neg (by omega)]
      rw [e2] at a
      by_cases h : i < k
      · rw [if_pos h] at a; rw [if_pos (show i < k + 1 by omega)]; omega
      · rw [if_neg h] at a; rw [if_neg (show ¬ i < k + 1 by omega)]; omega
/-- What the rows span are the messages' words. -/
theorem spn_wordf {l : List Nat} {P k : Nat} {v : Nat → Nat} (h : Spn FM (RowsOf k (mrow l P)) v) : ∃ g : Nat → Nat, (∀ i, g i < 2) ∧ v = wordf l P g k := by
  refine spn_ind (Q := fun v => ∃ g : Nat → Nat, (∀ i, g i < 2) ∧ v = wordf l P g k) ?_ ?_ ?_ ?_ h
  · refine ⟨fun _ => 0, fun _ => by show 0 < 2; omega, funext fun x => ?_⟩
    unfold wordf pnil
    rw [mwv_none]; split <;> rfl
  · rintro u v ⟨g, hg, rfl⟩ ⟨g', hg', rfl⟩
    refine ⟨fun i => (g i + g' i) % 2, fun i => by show (g i + g' i) % 2 < 2; omega, funext fun x => ?_⟩
    show FM.ad (wordf l P g k x) (wordf l P g' k x) = _
    rw [FM_ad (wordf_lt _ _ _ _ _) (wordf_lt _ _ _ _ _)]
    unfold wordf
    split
    · exact (mwv_sum l g g' x hg hg' k).symm
    · rfl
  · rintro s v ⟨g, hg, rfl⟩
    have hc : FM.mul s 1 < 2 := (fld FM_in).mul_lt s 1
    have hv : ∀ x, pscale FM s (wordf l P g k) x = FM.mul s 1 * wordf l P g k x := fun x => by
      show FM.mul s (wordf l P g k x) = _
      have : wordf l P g k x = 0 ∨ wordf l P g k x = 1 := by have := wordf_lt l P g k x; omega
      rcases this with e | e <;> rw [e]
      · rw [mul0 (fld FM_in)]; rfl
      · rw [Nat.mul_one]
    have : FM.mul s 1 = 0 ∨ FM.mul s 1 = 1 := by omega
    rcases this with e | e
    · refine ⟨fun _ => 0, fun _ => by show 0 < 2; omega, funext fun x => ?_⟩
      rw [hv, e, Nat.zero_mul]
      unfold wordf
      rw [mwv_none]; split <;> rfl
    · exact ⟨g, hg, funext fun x => by rw [hv, e, Nat.one_mul]⟩
  · rintro v ⟨i, hi, rfl⟩
    refine ⟨fun j => if j = i then 1 else 0, fun j => by dsimp only; split <;> omega, funext fun x => ?_⟩
    unfold wordf mrow
    rw [mwv_unit, if_pos hi]
theorem mrow_free {m : Nat} (h1 : 1 ≤ m) (h : m ≤ 5) {l : List Nat} (hl : MOrd m l) {j : Nat} (hj : j < l.length) : ¬ Spn FM (RowsOf j (mrow l (2 ^ m))) (mrow l (2 ^ m) j) := fun hs => by
  obtain ⟨g, hg, e⟩ := spn_wordf hs
  have hP : 0 < 2 ^ m := Nat.pow_pos (by omega)
  have a : csm (l.getD j 0) 0 (mof (l.getD j 0)) (2 ^ m) = 1 := csm_self h1 h (hl.1 j hj) hP (Nat.zero_and _)
  have b : csm (l.getD j 0) 0 (fun x => mwv l g x j) (2 ^ m) = 0 := csm_word h1 h hl g hj hP (Nat.zero_and _) j (Nat.le_refl _)
  have c : csm (l.getD j 0) 0 (mof (l.getD j 0)) (2 ^ m) = csm (l.getD j 0) 0 (fun x => mwv l g x j) (2 ^ m) := csm_congr _ _ _ (fun x hx => by
    have := congrFun e x
    unfold mrow wordf at this
    rw [if_pos hx, if_pos hx] at this
    exact this)
  omega
end Go.Proofs.Ytmklnjkallhphaa
