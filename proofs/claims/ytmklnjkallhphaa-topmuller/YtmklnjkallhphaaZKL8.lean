/- Texts of ours, one behind the other: KL8 W18 S47 S49 S50 S52 S53 KN1 S54 S55 S56 KN2 KO1 KO2. -/
import Derived.Test.YtmklnjkallhphaaZKL5
import Derived.Test.YtmklnjkallhphaaZW9
import Derived.Test.YtmklnjkallhphaaZV7
import Derived.Test.YtmklnjkallhphaaZT10
import Derived.Test.YtmklnjkallhphaaZS28
import Derived.Test.YtmklnjkallhphaaZI10
import Derived.Test.YtmklnjkallhphaaZK7
import Derived.Test.YtmklnjkallhphaaZI28
import Derived.Test.YtmklnjkallhphaaZKL3
import Derived.Test.YtmklnjkallhphaaZR5
import Derived.Test.YtmklnjkallhphaaZL10
import Derived.Test.YtmklnjkallhphaaZA1
/- code.Weights where there is none; code.Distance. -/
namespace Go.Proofs.Ytmklnjkallhphaa
open Go.RowKit Go.Sort Go.Shelf

/-- The least place above 0 at which there is something; 0: there is none. -/
def Lwt (c : Nat → Nat) (N d : Nat) : Prop := (d = 0 ∧ ∀ i, 0 < i → i < N → c i = 0) ∨ (0 < d ∧ d < N ∧ 0 < c d ∧ ∀ i, 0 < i → i < d → c i = 0)
theorem Lwt.uniq {c : Nat → Nat} {N d e : Nat} (h : Lwt c N d) (h' : Lwt c N e) : d = e := by
  rcases h with ⟨h1, h2⟩ | ⟨h1, h2, h3, h4⟩
  · rcases h' with ⟨k1, k2⟩ | ⟨k1, k2, k3, k4⟩
    · omega
    · have := h2 e k1 k2; omega
  · rcases h' with ⟨k1, k2⟩ | ⟨k1, k2, k3, k4⟩
    · have := k2 d h1 h2; omega
    · rcases Nat.lt_trichotomy d e with h5 | h5 | h5
      · have := k4 d h1 h5; omega
      · exact h5
      · have := h4 e k1 h5; omega
/-- What Distance tells of a code that may be. -/
def DsP (D : FD) (n m : Nat) (M : Nat → Nat → Nat) (w : World) (x : Ending) (w' : World) : Prop :=
  ∃ k R, Red D n m M k R ∧ Below w.heap.size w w' ∧ ((D.q ^ k ≤ 4096 ∧ ∃ d, Lwt (wcn D R n k (D.q ^ k)) (n + 1) d ∧ x = .returned (.tuple #[.int .i64 (d : Nat), .int .i64 0])) ∨
    (¬ D.q ^ k ≤ 4096 ∧ x = .returned (.tuple #[.int .i64 0, .int .i64 4])))

set_option maxHeartbeats 8000000 in
set_option maxRecDepth 100000 in
theorem distance_ok {D : FD} {ao : Option Addr} {m n ca : Nat} {M : Nat → Nat → Nat} {w : World} (hn : n ≤ 64)
    (hS : ∀ wx, Below w.heap.size w wx → Calls Try.prog 48 #[.agg #[.int .i64 D.q, .int .i64 (n : Nat), .slice ao m ca]] wx (WsP D n m M wx)) :
    Calls Try.prog 28 #[.agg #[.int .i64 D.q, .int .i64 (n : Nat), .slice ao m ca]] w (DsP D n m M w) := by
  obtain ⟨w0, hw0⟩ : ∃ w0, w0 = w.alloc (.cells #[.int .i64 D.q, .int .i64 (n : Nat), .slice ao m ca] 27) := ⟨_, rfl⟩
  have hb0 : Below w.heap.size w w0 := by rw [hw0]; exact (Below.refl _ _).alloc (Nat.le_refl _) _
  have HS : Hid (Calls Try.prog 48 #[.agg #[.int .i64 D.q, .int .i64 (n : Nat), .slice ao m ca]] w0 (WsP D n m M w0)) := hS w0 hb0
  have HB : Hid (Below w.heap.size w w0) := hb0
  clear hS hb0
  go_enter Try.func28, Try.ntmps28
  go_wp2_with fail
  rw [← hw0]
  clear hw0
  refine HS.out.mono ?_
  rintro x w1 ⟨k, R, hred, hb1, hx⟩
  have HB1 : Hid (Below w.heap.size w w1 ∧ Red D n m M k R) := ⟨below_two' HB.out hb1, hred⟩
  clear hb1 hred
  rcases hx with ⟨hfew, g, hg, hrow, rfl⟩ | ⟨hmany, rfl⟩
  · obtain ⟨c, hce⟩ : ∃ c, c = wcn D R n k (D.q ^ k) := ⟨_, rfl⟩
    rw [← hce] at hrow
    obtain ⟨n1, hn1⟩ : ∃ n1, n1 = n + 1 := ⟨_, rfl⟩
    rw [← hn1] at hrow ⊢
    have HF : Hid (D.q ^ k ≤ 4096 ∧ Row g n1 c w1 ∧ c = wcn D R n k (D.q ^ k) ∧ n1 = n + 1 ∧ ∀ i, c i ≤ 4096) := ⟨hfew, hrow, hce, hn1, fun i => by rw [hce]; exact Nat.le_trans (wcn_le _ _ _ _ _ _) hfew⟩
    have hn65 : n1 ≤ 65 := by omega
    clear hfew hrow hce hn1 hg
    go_wp2
    go_loopw [15] (fun vi wr => ∃ (i : Nat), i ≤ n1 ∧ vi = .int .i64 (i : Nat) ∧ Hid ((∀ j, 0 < j → j < i → c j = 0) ∧ wr = w1)) (fun vi _ => n1 - (intOf vi).toNat)
    case atStart => exact ⟨0, by omega, rfl, fun j h1 h2 => absurd h2 (by omega), rfl⟩
    case round =>
      obtain ⟨i, hi, rfl, HG⟩ := hrel
      rename World => wr
      have hw : wr = w1 := HG.out.2
      subst hw
      by_cases hlt : i < n1
      · have hib : (i : Int) < (n1 : Int) := by omega
        have hib0 : (0 : Int) ≤ (i : Int) := by omega
        have hcell := HF.out.2.1.cell i hlt
        obtain ⟨y, hy⟩ : ∃ y, y = c i := ⟨_, rfl⟩
        rw [← hy] at hcell
        by_cases h0 : 0 < i
        · have z0 : (0 : Int) < (i : Int) := by omega
          by_cases h1 : 0 < y
          · have z1 : (0 : Int) < (y : Int) := by omega
            have HL : Hid (Lwt (wcn D R n k (D.q ^ k)) (n + 1) i) := by
              show Lwt _ _ _
              rw [← HF.out.2.2.1, ← HF.out.2.2.2.1]; exact Or.inr ⟨h0, hlt, by rw [← hy]; exact h1, HG.out.1⟩
            clear hy h0 h1
            go_wp2
            go_ret2
            exact ⟨k, R, HB1.out.2, HB1.out.1, Or.inl ⟨HF.out.1, i, HL.out, rfl⟩⟩
          · have z1 : ¬ (0 : Int) < (y : Int) := by omega
            have HN : Hid (∀ j, 0 < j → j < i + 1 → c j = 0) := fun j h2 h3 => by
              by_cases e : j = i
              · rw [e]; omega
              · exact HG.out.1 j h2 (by omega)
            clear hy h0 h1
            go_wp2
            go_roundw
            case rel => exact ⟨i + 1, by omega, by go_num, HN.out, by first | rfl | trivial⟩
            case measure => simp [intOf]; omega
        · have z0 : ¬ (0 : Int) < (i : Int) := by omega
          have HN : Hid (∀ j, 0 < j → j < i + 1 → c j = 0) := fun j h2 h3 => absurd h2 (by omega)
          clear hy h0
          go_wp2
          go_roundw
          case rel => exact ⟨i + 1, by omega, by go_num, HN.out, by first | rfl | trivial⟩
          case measure => simp [intOf]; omega
      · have hib : ¬ (i : Int) < (n1 : Int) := by omega
        have hie : i = n1 := by omega
        have HL : Hid (Lwt (wcn D R n k (D.q ^ k)) (n + 1) 0) := by
          show Lwt _ _ _
          rw [← HF.out.2.2.1, ← HF.out.2.2.2.1]; exact Or.inl ⟨rfl, fun j h1 h2 => HG.out.1 j h1 (by omega)⟩
        clear hie
        go_wp2
        go_ret2
        exact ⟨k, R, HB1.out.2, HB1.out.1, Or.inl ⟨HF.out.1, 0, HL.out, rfl⟩⟩
  · have HM : Hid (¬ D.q ^ k ≤ 4096) := hmany
    clear hmany
    go_wp2
    go_loopw [15] (fun vi wr => vi = .int .i64 0 ∧ Hid (wr = w1)) (fun _ _ => 0)
    case atStart => exact ⟨rfl, rfl⟩
    case round =>
      obtain ⟨rfl, HG⟩ := hrel
      rename World => wr
      have hw : wr = w1 := HG.out
      subst hw
      go_wp2
      go_ret2
      exact ⟨k, R, HB1.out.2, HB1.out.1, Or.inr ⟨HM.out, rfl⟩⟩
end Go.Proofs.Ytmklnjkallhphaa

/- Lists of lists that the call made itself, to be handed in. -/
namespace Go.Proofs.Ytmklnjkallhphaa
open Go.RowKit Go.Sort

theorem LLs.atE {base n cap : Nat} {ao : Option Addr} {L : List (Nat × (Nat → Nat))} {w : World} (h : LLs base (.slice ao n cap) L w) {j : Nat} {p : Nat × (Nat → Nat)} (hj : L[j]? = some p) : ∃ g b cp, ao = some ⟨g, 0, none⟩ ∧ w.cell? ⟨g, j, none⟩ = some (.slice (some ⟨b, 0, none⟩) (p.1 + 1) cp) ∧ Elm (.slice (some ⟨b, 0, none⟩) (p.1 + 1) cp) p w := by
  obtain ⟨l, h1, h2⟩ := h
  obtain ⟨ao', cap', e, _, _, _, hc⟩ := h1.open
  cases e
  have hjl : j < l.length := by rw [h2.1]; exact (List.getElem?_eq_some_iff.1 hj).1
  obtain ⟨g, e1, e2, _⟩ := hc j l[j] (List.getElem?_eq_getElem hjl)
  have e3 := h2.2 j l[j] p (List.getElem?_eq_getElem hjl) hj
  obtain ⟨b, cp, e4, e5⟩ := e3
  rw [e4] at e2
  exact ⟨g, b, cp, e1, e2, b, cp, rfl, e5⟩
theorem LLs.matZN {base k n : Nat} {v : Value} {R : Nat → Nat → Nat} {w : World} (h : LLs base v (Go.Proofs.Ytmklnjkallhphaa.rl k n R) w) (hn : n + 1 ≤ 1000000) : ∃ ao cap A C, v = .slice ao k cap ∧ MatZ ao k A (fun _ => n + 1) C (fun i j => ((R i j : Nat) : Int)) w := by
  classical
  obtain ⟨ao, cap, hv⟩ := h.slice
  rw [rl_len] at hv
  subst hv
  have key : ∀ i, ∃ p : Nat × Nat, i < k → ∃ g, ao = some ⟨g, 0, none⟩ ∧ w.cell? ⟨g, i, none⟩ = some (.slice (some ⟨p.1, 0, none⟩) (n + 1) p.2) ∧ Elm (.slice (some ⟨p.1, 0, none⟩) (n + 1) p.2) (n, R i) w := fun i => by
    by_cases e : i < k
    · obtain ⟨g, b, cp, h1, h2, h3⟩ := h.atE (rl_get k n R i e)
      exact ⟨(b, cp), fun _ => ⟨g, h1, h2, h3⟩⟩
    · exact ⟨(0, 0), fun x => absurd x e⟩
  obtain ⟨P, hP⟩ : ∃ P : Nat → Nat × Nat, ∀ i, i < k → ∃ g, ao = some ⟨g, 0, none⟩ ∧ w.cell? ⟨g, i, none⟩ = some (.slice (some ⟨(P i).1, 0, none⟩) (n + 1) (P i).2) ∧ Elm (.slice (some ⟨(P i).1, 0, none⟩) (n + 1) (P i).2) (n, R i) w := ⟨fun i => Classical.choose (key i), fun i hi => Classical.choose_spec (key i) hi⟩
  have hE : ∀ i, i < k → n + 1 ≤ (P i).2 ∧ (P i).2 ≤ 9223372036854775807 ∧ Row (P i).1 (n + 1) (R i) w := fun i hi => by
    obtain ⟨g, _, _, g2, c2, e, h1, h2, h3⟩ := hP i hi
    cases e
    exact ⟨h1, h2, h3⟩
  refine ⟨ao, cap, fun i => some ⟨(P i).1, 0, none⟩, fun i => (P i).2, rfl, fun i hi => ?_, fun i hi => ?_, fun i hi => (hE i hi).1, fun i hi => (hE i hi).2.1, fun i hi e => (by cases e), fun i hi => hn⟩
  · obtain ⟨g, h1, h2, _⟩ := hP i hi
    exact ⟨g, 0, h1, by rw [Nat.zero_add]; exact h2⟩
  · exact ((hE i hi).2.2.sl (Nat.le_refl _)).z
end Go.Proofs.Ytmklnjkallhphaa

/- Plain mathematics: through values at different places goes just one short polynomial, and equations of powers are met by it alone. No Go text here. -/
namespace Go.Proofs.Ytmklnjkallhphaa
open Go.RowKit Go.Sort

end Go.Proofs.Ytmklnjkallhphaa

/- Plain mathematics: sums over a field's elements, and over all words. No Go text here. -/
namespace Go.Proofs.Ytmklnjkallhphaa
open Go.RowKit Go.Sort

/-- The sum of the first n numbers. -/
def zsum (f : Nat → Int) : Nat → Int
  | 0 => 0
  | n + 1 => zsum f n + f n
theorem zsum_congr {f g : Nat → Int} : ∀ n, (∀ a, a < n → f a = g a) → zsum f n = zsum g n
  | 0, _ => rfl
  | n + 1, h => by
    show zsum f n + f n = zsum g n + g n
    rw [zsum_congr n (fun a ha => h a (by omega)), h n (by omega)]
theorem zsum_nil : ∀ n, zsum (fun _ => 0) n = 0
  | 0 => rfl
  | n + 1 => by show zsum (fun _ => 0) n + 0 = 0; rw [zsum_nil n]; rfl
theorem zsum_zero {f : Nat → Int} (n : Nat) (h : ∀ a, a < n → f a = 0) : zsum f n = 0 := (zsum_congr n h).trans (zsum_nil n)
theorem zsum_add (f g : Nat → Int) : ∀ n, zsum (fun a => f a + g a) n = zsum f n + zsum g n
  | 0 => rfl
  | n + 1 => by
    show zsum (fun a => f a + g a) n + (f n + g n) = zsum f n + f n + (zsum g n + g n)
    rw [zsum_add f g n]; omega
theorem zsum_swap (f : Nat → Nat → Int) (m : Nat) : ∀ n, zsum (fun a => zsum (fun b => f a b) m) n = zsum (fun b => zsum (fun a => f a b) n) m
  | 0 => (zsum_nil m).symm
  | n + 1 => by
    show zsum (fun a => zsum (fun b => f a b) m) n + zsum (fun b => f n b) m = zsum (fun b => zsum (fun a => f a b) n + f n b) m
    rw [zsum_swap f m n, zsum_add]
theorem zsum_one (f : Nat → Int) {b : Nat} : ∀ n, b < n → zsum (fun a => if a = b then f a else 0) n = f b
  | 0, h => absurd h (by omega)
  | n + 1, h => by
    show zsum (fun a => if a = b then f a else 0) n + (if n = b then f n else 0) = f b
    by_cases e : n = b
    · rw [zsum_zero n (fun a ha => if_neg (by omega)), if_pos e, e]; omega
    · rw [zsum_one f n (by omega), if_neg e]; omega
theorem zsum_le {f g : Nat → Int} : ∀ n, (∀ a, a < n → f a ≤ g a) → zsum f n ≤ zsum g n
  | 0, _ => Int.le_refl _
  | n + 1, h => by
    have h1 := zsum_le n (fun a ha => h a (by omega))
    have h2 := h n (by omega)
    show zsum f n + f n ≤ zsum g n + g n
    omega
/-- One sign of a word told otherwise. -/
def pt (v : Nat → Nat) (n a : Nat) : Nat → Nat := fun j => if j = n then a else v j
theorem pt_lo (v : Nat → Nat) {n a j : Nat} (h : j < n) : pt v n a j = v j := if_neg (by omega)
theorem pt_at (v : Nat → Nat) (n a : Nat) : pt v n a n = a := if_pos rfl
theorem pt_el {D : FD} {v : Nat → Nat} {n a : Nat} (hv : El D v) (ha : a < D.q) : El D (pt v n a) := fun j => by unfold pt; split; exact ha; exact hv j
theorem pt_bd {v : Nat → Nat} {n a : Nat} (hv : Bd n v) : Bd (n + 1) (pt v n a) := fun j hj => by unfold pt; rw [if_neg (by omega)]; exact hv j (by omega)
theorem pt_cut {v : Nat → Nat} {n : Nat} (hv : Bd (n + 1) v) : v = pt (fun j => if j < n then v j else 0) n (v n) := by
  funext j
  unfold pt
  by_cases e : j = n
  · rw [if_pos e, e]
  · rw [if_neg e]
    show v j = if j < n then v j else 0
    by_cases h : j < n
    · rw [if_pos h]
    · rw [if_neg h]; exact hv j (by omega)
/-- The sum over all words of n signs. -/
def wsum (q : Nat) : Nat → ((Nat → Nat) → Int) → Int
  | 0, f => f pnil
  | n + 1, f => zsum (fun a => wsum q n (fun v => f (pt v n a))) q
theorem wsum_congr {D : FD} (F : Fld D) : ∀ n {f g : (Nat → Nat) → Int}, (∀ v, El D v → Bd n v → f v = g v) → wsum D.q n f = wsum D.q n g
  | 0, _, _, h => h pnil (el_nil F) (fun _ _ => rfl)
  | n + 1, _, _, h => zsum_congr D.q (fun _ ha => wsum_congr F n (fun _ hv hb => h _ (pt_el hv ha) (pt_bd hb)))
theorem wsum_nil (q : Nat) : ∀ n, wsum q n (fun _ => 0) = 0
  | 0 => rfl
  | n + 1 => by
    show zsum (fun _ => wsum q n (fun _ => 0)) q = 0
    rw [zsum_congr q (fun _ _ => wsum_nil q n), zsum_nil]
/-- Do two words agree at the first signs? -/
def agB (n : Nat) (u v : Nat → Nat) : Bool := decide (∀ j, j < n → u j = v j)
theorem agB_iff {n : Nat} {u v : Nat → Nat} : agB n u v = true ↔ ∀ j, j < n → u j = v j := decide_eq_true_iff
def bi (b : Bool) : Int := if b = true then 1 else 0
theorem bi_t : bi true = 1 := rfl
theorem bi_f : bi false = 0 := rfl
theorem bi_nn (b : Bool) : 0 ≤ bi b := by cases b <;> decide
theorem wsum_at {D : FD} (F : Fld D) : ∀ n {v : Nat → Nat} (g : (Nat → Nat) → Int), El D v → Bd n v → wsum D.q n (fun u => bi (agB n u v) * g u) = g v
  | 0, v, g, _, hb => by
    have e : v = pnil := by funext j; exact hb j (by omega)
    show bi (agB 0 pnil v) * g pnil = g v
    rw [show agB 0 pnil v = true from agB_iff.2 (fun j hj => absurd hj (by omega)), e, bi_t, Int.one_mul]
  | n + 1, v, g, hv, hb => by
    obtain ⟨v', hv'⟩ : ∃ v' : Nat → Nat, v' = fun j => if j < n then v j else 0 := ⟨_, rfl⟩
    have hp : v = pt v' n (v n) := by rw [hv']; exact pt_cut hb
    have he : El D v' := fun j => by
      rw [hv']
      show (if j < n then v j else 0) < D.q
      split
      · exact hv j
      · exact zero_lt' F
    have hbd : Bd n v' := fun j hj => by rw [hv']; exact if_neg (by omega)
    show zsum (fun a => wsum D.q n (fun u => bi (agB (n + 1) (pt u n a) v) * g (pt u n a))) D.q = g v
    have h1 : ∀ a, a < D.q → wsum D.q n (fun u => bi (agB (n + 1) (pt u n a) v) * g (pt u n a)) = if a = v n then g (pt v' n a) else 0 := fun a _ => by
      by_cases e : a = v n
      · rw [if_pos e, ← wsum_at F n (fun u => g (pt u n a)) he hbd]
        refine wsum_congr F n (fun u _ _ => ?_)
        have e2 : agB (n + 1) (pt u n a) v = agB n u v' := by
          rw [Bool.eq_iff_iff, agB_iff, agB_iff]
          constructor
          · intro h j hj
            have := h j (by omega)
            rw [pt_lo u hj] at this
            rw [this, hv']
            exact (if_pos hj).symm
          · intro h j hj
            by_cases c : j = n
            · rw [c, pt_at, e]
            · rw [pt_lo u (by omega), h j (by omega), hv']
              exact if_pos (by omega)
        rw [e2]
      · rw [if_neg e, ← wsum_nil D.q n]
        refine wsum_congr F n (fun u _ _ => ?_)
        have e2 : agB (n + 1) (pt u n a) v = false := by
          rw [Bool.eq_false_iff]
          intro h
          have := agB_iff.1 h n (by omega)
          rw [pt_at] at this
          exact e this
        rw [e2, bi_f, Int.zero_mul]
    rw [zsum_congr D.q h1, zsum_one (fun a => g (pt v' n a)) D.q (hv n), ← hp]
end Go.Proofs.Ytmklnjkallhphaa

/- Plain mathematics: MacWilliams' identity, by sums over all words. No Go text here. -/
namespace Go.Proofs.Ytmklnjkallhphaa
open Go.RowKit Go.Sort

/-- A word's weight. -/
def wtn (u : Nat → Nat) (n : Nat) : Nat := ct (fun i => !decide (((u i : Nat) : Int) = 0)) n
theorem enw_lc {D : FD} (R : Nat → Nat → Nat) (p v : Nat → Nat) : ∀ k, enw D R (fun i => if i < k then v (p i) else 0) k = lcR D R p v k := fun k => by
  have h : ∀ t, t ≤ k → enw D R (fun i => if i < k then v (p i) else 0) t = lcR D R p v t := fun t => by
    induction t with
    | zero => intro _; rfl
    | succ t ih =>
      intro ht
      show padd D (enw D R (fun i => if i < k then v (p i) else 0) t) (pscale D (if t < k then v (p t) else 0) (R t)) = padd D (lcR D R p v t) (pscale D (v (p t)) (R t))
      rw [ih (by omega), if_pos (show t < k by omega)]
  exact h k (Nat.le_refl _)
theorem enw_in {D : FD} (F : Fld D) {n k : Nat} {R : Nat → Nat → Nat} {p : Nat → Nat} (h : RRE D n k R p) (m : Nat → Nat) : Spn D (RowsOf k R) (enw D R m k) ∧ Bd n (enw D R m k) := by
  have hh : ∀ t, t ≤ k → Spn D (RowsOf k R) (enw D R m t) ∧ Bd n (enw D R m t) := fun t => by
    induction t with
    | zero => intro _; exact ⟨spn_nil D _, fun _ _ => rfl⟩
    | succ t ih =>
      intro ht
      obtain ⟨h1, h2⟩ := ih (by omega)
      refine ⟨spn_add F h1 (spn_scale F _ ⟨[(1, R t)], fun x hx => by simp at hx; rw [hx]; exact ⟨t, by omega, rfl⟩, by
        show R t = padd D (pscale D 1 (R t)) pnil
        rw [pscale_one F (h.el t (by omega)), padd_nil F (h.el t (by omega))]⟩), fun j hj => ?_⟩
      show D.ad (enw D R m t j) (D.mul (m t) (R t j)) = 0
      rw [h2 j hj, h.bd t (by omega) j hj, mul0 F, ad_zero F (zero_lt' F)]
  exact hh k (Nat.le_refl _)
end Go.Proofs.Ytmklnjkallhphaa

/- Plain mathematics: the weights of a code, gone through by its messages, and MacWilliams' identity for them. No Go text here. -/
namespace Go.Proofs.Ytmklnjkallhphaa
open Go.RowKit Go.Sort

theorem zsum_addn (g : Nat → Int) (n : Nat) : ∀ m, zsum g (n + m) = zsum g n + zsum (fun b => g (n + b)) m
  | 0 => by show zsum g n = zsum g n + 0; omega
  | m + 1 => by
    show zsum g (n + m) + g (n + m) = zsum g n + (zsum (fun b => g (n + b)) m + g (n + m))
    rw [zsum_addn g n m]; omega
theorem zsum_prod (g : Nat → Int) (q : Nat) : ∀ m, zsum g (m * q) = zsum (fun a => zsum (fun b => g (a * q + b)) q) m
  | 0 => by rw [Nat.zero_mul]; rfl
  | m + 1 => by
    rw [Nat.succ_mul, zsum_addn, zsum_prod g q m]; rfl
theorem dgs_pt {q k a b : Nat} (hq : 2 ≤ q) (hb : b < q) : dgs q (k + 1) (a * q + b) = pt (dgs q k a) k b := by
  funext j
  unfold pt dgs
  by_cases e : j = k
  · rw [if_pos e, if_pos (by omega), e, show k + 1 - 1 - k = 0 by omega, Nat.pow_zero, Nat.div_one, Nat.mul_comm, Nat.mul_add_mod, Nat.mod_eq_of_lt hb]
  · rw [if_neg e]
    by_cases c : j < k
    · rw [if_pos c, if_pos (by omega), show k + 1 - 1 - j = (k - 1 - j) + 1 by omega, Nat.pow_succ', ← Nat.div_div_eq_div_mul, Nat.mul_comm a q, Nat.mul_add_div (by omega), Nat.div_eq_of_lt hb, Nat.add_zero]
    · rw [if_neg c, if_neg (by omega)]
/-- A sum over all messages by their numbers. -/
theorem wsum_dgs {q : Nat} (hq : 2 ≤ q) : ∀ k (f : (Nat → Nat) → Int), zsum (fun r => f (dgs q k r)) (q ^ k) = wsum q k f
  | 0, f => by
    rw [Nat.pow_zero]
    show 0 + f (dgs q 0 0) = f pnil
    have e : dgs q 0 0 = pnil := by funext j; unfold dgs; rw [if_neg (by omega)]; rfl
    rw [e]; omega
  | k + 1, f => by
    rw [Nat.pow_succ, zsum_prod]
    have h1 : zsum (fun a => zsum (fun b => f (dgs q (k + 1) (a * q + b))) q) (q ^ k) = zsum (fun a => zsum (fun b => f (pt (dgs q k a) k b)) q) (q ^ k) := zsum_congr _ (fun a _ => zsum_congr _ (fun b hb => by rw [dgs_pt hq hb]))
    rw [h1, zsum_swap (fun a b => f (pt (dgs q k a) k b))]
    show _ = zsum (fun b => wsum q k (fun v => f (pt v k b))) q
    exact zsum_congr _ (fun b _ => wsum_dgs hq k (fun v => f (pt v k b)))
theorem wcn_zsum (D : FD) (R : Nat → Nat → Nat) (n K x : Nat) : ∀ N, ((wcn D R n K N x : Nat) : Int) = zsum (fun r => bi (decide (wtn (enw D R (dgs D.q K r) K) n = x))) N
  | 0 => rfl
  | N + 1 => by
    show ((wcn D R n K N x + if x = wgr D R n K N then 1 else 0 : Nat) : Int) = zsum _ N + bi (decide (wtn (enw D R (dgs D.q K N) K) n = x))
    rw [← wcn_zsum D R n K x N]
    have e : wgr D R n K N = wtn (enw D R (dgs D.q K N) K) n := rfl
    by_cases c : x = wgr D R n K N
    · rw [if_pos c, decide_eq_true (by rw [← e]; exact c.symm), bi_t]; omega
    · rw [if_neg c, decide_eq_false (by rw [← e]; exact fun h => c h.symm), bi_f]; omega
/-- How many words have a weight: a sum over all messages. -/
theorem wcn_wsum {D : FD} (F : Fld D) (R : Nat → Nat → Nat) (n K x : Nat) : ((wcn D R n K (D.q ^ K) x : Nat) : Int) = wsum D.q K (fun m => bi (decide (wtn (enw D R m K) n = x))) := by
  rw [wcn_zsum, wsum_dgs F.q2 K (fun m => bi (decide (wtn (enw D R m K) n = x)))]
end Go.Proofs.Ytmklnjkallhphaa

/- A code's weights and those of its dual: what weights.Dual makes of them. -/
namespace Go.Proofs.Ytmklnjkallhphaa
open Go.RowKit Go.Sort

theorem wtn_pnil : ∀ n, wtn pnil n = 0
  | 0 => rfl
  | n + 1 => by
    show wtn pnil n + (if (!decide (((pnil n : Nat) : Int) = 0)) = true then 1 else 0) = 0
    rw [wtn_pnil n, if_neg (by simp [pnil])]
/-- No more rows than there were. -/
theorem Red.few {D : FD} (hD : D ∈ fieldsL) {n m k : Nat} {M R : Nat → Nat → Nat} (h : Red D n m M k R) (he : ∀ i, i < m → El D (M i) ∧ Bd n (M i)) : k ≤ m := by
  obtain ⟨k', R', p', hk, hr, hs⟩ := rre_ex hD (fun i hi => (he i hi).1) (fun i hi => (he i hi).2)
  have := (Red.uniq (fld hD) h ⟨p', hr, hs⟩ (fun _ => Iff.rfl)).1
  omega
end Go.Proofs.Ytmklnjkallhphaa

/- TopMacWilliams: the walk of the statement, whatever raw numbers it is given. -/
namespace Go.Proofs.Ytmklnjkallhphaa
open Go.RowKit Go.Sort

theorem Cod.wts {D : FD} (hD : D ∈ fieldsL) {n m : Nat} (ca : Nat) {ao : Option Addr} {M : Nat → Nat → Nat} {w : World} (h : Cod D n ao m M w) :
    Calls Try.prog 48 #[.agg #[.int .i64 D.q, .int .i64 (n : Nat), .slice ao m ca]] w (WsP D n m M w) := by
  have hr := h.rows (fld hD)
  have hc := h.chk hD ca
  obtain ⟨A, N, C, Z, h1, h2⟩ := h
  refine (weights_ok hD hr.2.1.1 hr.2.1.2 (M := mzc N Z) (fun wx hx => small_ok hD (h1.below hx) (fun wy hy => hc wy (bel_up' hx hy)))).mono ?_
  rintro x w' ⟨k, R, hred, hrest⟩
  exact ⟨k, R, hred.of_eq h2, hrest⟩
end Go.Proofs.Ytmklnjkallhphaa

/- Plain mathematics: the bounds of Singleton, Delsarte and Plotkin for a code whose words lie apart. No Go text here. -/
namespace Go.Proofs.Ytmklnjkallhphaa
open Go.RowKit Go.Sort

theorem wsum_le {D : FD} (F : Fld D) : ∀ n {f g : (Nat → Nat) → Int}, (∀ v, El D v → Bd n v → f v ≤ g v) → wsum D.q n f ≤ wsum D.q n g
  | 0, _, _, h => h pnil (el_nil F) (fun _ _ => rfl)
  | n + 1, _, _, h => zsum_le D.q (fun _ ha => wsum_le F n (fun _ hv hb => h _ (pt_el hv ha) (pt_bd hb)))
theorem wsum_point {D : FD} (F : Fld D) (n : Nat) {g : (Nat → Nat) → Int} (h : ∀ v, El D v → Bd n v → 0 ≤ g v) {v : Nat → Nat} (hv : El D v) (hb : Bd n v) : g v ≤ wsum D.q n g := by
  have e := wsum_at F n g hv hb
  rw [← e]
  refine wsum_le F n (fun u hu hub => ?_)
  have := h u hu hub
  cases agB n u v
  · rw [bi_f]; omega
  · rw [bi_t]; omega
theorem wcn_has {D : FD} (F : Fld D) {R : Nat → Nat → Nat} {n k x : Nat} {m : Nat → Nat} (hm : El D m) (hb : Bd k m) (hx : wtn (enw D R m k) n = x) : 0 < wcn D R n k (D.q ^ k) x := by
  have h : bi (decide (wtn (enw D R m k) n = x)) ≤ wsum D.q k (fun m => bi (decide (wtn (enw D R m k) n = x))) := wsum_point F k (g := fun m => bi (decide (wtn (enw D R m k) n = x))) (fun _ _ _ => bi_nn _) hm hb
  rw [← wcn_wsum F, decide_eq_true hx, bi_t] at h
  omega
end Go.Proofs.Ytmklnjkallhphaa

/- Plain mathematics: Griesmer's bound (words of a code where others are nought). No Go text here. -/
namespace Go.Proofs.Ytmklnjkallhphaa
open Go.RowKit Go.Sort

end Go.Proofs.Ytmklnjkallhphaa

/- Plain mathematics: Hamming's bound (balls around a code's words), and Varshamov's number against it. No Go text here. -/
namespace Go.Proofs.Ytmklnjkallhphaa
open Go.RowKit Go.Sort

end Go.Proofs.Ytmklnjkallhphaa

/- TopBounds: the walk of the statement, whatever raw numbers it is given (printed by make/kn2.py). -/
namespace Go.Proofs.Ytmklnjkallhphaa
open Go.RowKit Go.Sort

theorem Cod.dist {D : FD} (hD : D ∈ fieldsL) {n m : Nat} (ca : Nat) {ao : Option Addr} {M : Nat → Nat → Nat} {w : World} (h : Cod D n ao m M w) :
    Calls Try.prog 28 #[.agg #[.int .i64 D.q, .int .i64 (n : Nat), .slice ao m ca]] w (DsP D n m M w) :=
  distance_ok (h.rows (fld hD)).2.1.2 (fun _ hx => Cod.wts hD ca (h.below hx))
/-- All that TopBounds asks of a code's numbers. -/
structure Bnd (D : FD) (n k d H S P V G : Nat) : Prop where
  k1 : 1 ≤ k
  dn : d ≤ n
  ham : D.q ^ k ≤ H
  sgl : D.q ^ k ≤ S
  plk : 0 < P → D.q ^ k ≤ P
  gri : G ≤ n
  vh : V ≤ H
  v1 : 1 ≤ V
end Go.Proofs.Ytmklnjkallhphaa

/- Muller: what is said of a code's numbers, both sides; how many ones a number has. -/
namespace Go.Proofs.Ytmklnjkallhphaa
open Go.RowKit Go.Sort

/-- What is wrong with a code's numbers. -/
def mck (r m : Int) : Int := if m < 1 ∨ 5 < m then 4 else if r < 0 ∨ m < r then 6 else 0
set_option maxHeartbeats 2000000 in
set_option maxRecDepth 100000 in
theorem mullCheck_any (r m : Int) (w : World) : Calls Try.prog 10 #[.int .i64 r, .int .i64 m] w fun e w' => e = .returned (.int .i64 (mck r m)) ∧ w' = w := by
  by_cases h1 : m < 1
  · have HE : Hid (mck r m = 4) := by show mck r m = 4; unfold mck; rw [if_pos (Or.inl h1)]
    go_enter Try.func10, Try.ntmps10
    go_wp2
    go_ret
    exact ⟨by rw [HE.out]; rfl, rfl⟩
  by_cases h2 : 5 < m
  · have HE : Hid (mck r m = 4) := by show mck r m = 4; unfold mck; rw [if_pos (Or.inr h2)]
    go_enter Try.func10, Try.ntmps10
    go_wp2
    go_ret
    exact ⟨by rw [HE.out]; rfl, rfl⟩
  by_cases h3 : r < 0
  · have HE : Hid (mck r m = 6) := by show mck r m = 6; unfold mck; rw [if_neg (by omega), if_pos (Or.inl h3)]
    go_enter Try.func10, Try.ntmps10
    go_wp2
    go_ret
    exact ⟨by rw [HE.out]; rfl, rfl⟩
  by_cases h4 : m < r
  · have HE : Hid (mck r m = 6) := by show mck r m = 6; unfold mck; rw [if_neg (by omega), if_pos (Or.inr h4)]
    go_enter Try.func10, Try.ntmps10
    go_wp2
    go_ret
    exact ⟨by rw [HE.out]; rfl, rfl⟩
  · have HE : Hid (mck r m = 0) := by show mck r m = 0; unfold mck; rw [if_neg (by omega), if_neg (by omega)]
    go_enter Try.func10, Try.ntmps10
    go_wp2
    go_ret
    exact ⟨by rw [HE.out]; rfl, rfl⟩

/-- How many ones a number has, of so many places. -/
def pcn : Nat → Nat → Nat
  | 0, _ => 0
  | f + 1, s => s % 2 + pcn f (s / 2)
/-- How many ones a number below 64 has. -/
def pc (s : Nat) : Nat := pcn 6 s
end Go.Proofs.Ytmklnjkallhphaa

/- Muller: the reference's list of monomials. -/
namespace Go.Proofs.Ytmklnjkallhphaa
open Go.RowKit Go.Sort

/-- The numbers below c with j ones. -/
def mrw (j : Nat) : Nat → List Nat
  | 0 => []
  | c + 1 => mrw j c ++ if pc c = j then [c] else []
/-- The numbers of m places with less than so many ones, by how many they have. -/
def mnl (m : Nat) : Nat → List Nat
  | 0 => []
  | j + 1 => mnl m j ++ mrw j (2 ^ m)
/-- A list of numbers as the program has it. -/
def nli (l : List Nat) : List Int := l.map (fun x => ((x : Nat) : Int))
theorem nli_len (l : List Nat) : (nli l).length = l.length := List.length_map _
theorem nli_app (a b : List Nat) : nli (a ++ b) = nli a ++ nli b := List.map_append
theorem mrw_len (j : Nat) : ∀ c, (mrw j c).length ≤ c
  | 0 => Nat.le_refl _
  | c + 1 => by
    have := mrw_len j c
    show (mrw j c ++ if pc c = j then [c] else []).length ≤ c + 1
    rw [List.length_append]
    split <;> simp <;> omega
theorem mnl_len {m : Nat} (hm : m ≤ 5) : ∀ j, (mnl m j).length ≤ j * 32
  | 0 => by show 0 ≤ _; omega
  | j + 1 => by
    have h1 := mnl_len hm j
    have h2 := mrw_len j (2 ^ m)
    have h3 : 2 ^ m ≤ 2 ^ 5 := Nat.pow_le_pow_right (by omega) hm
    show (mnl m j ++ mrw j (2 ^ m)).length ≤ _
    rw [List.length_append]
    omega

end Go.Proofs.Ytmklnjkallhphaa
