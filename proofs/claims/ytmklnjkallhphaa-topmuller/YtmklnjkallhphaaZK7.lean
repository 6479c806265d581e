/- Texts of ours, one behind the other: K7 K8 W12 K9 E7 S19 I40 S20 KA1 KA2 KA3 KA4 KA5 KA6 KA7 KA8 KA9 KA10 KA11 KB1 S21 KB2 S22 KB3 KB5 KB6 KB7 S23 S24 S25 S27. -/
import Derived.Test.YtmklnjkallhphaaZI10
import Derived.Test.YtmklnjkallhphaaZI28
import Derived.Test.YtmklnjkallhphaaZX11
import Derived.Test.YtmklnjkallhphaaZZ10
import Derived.Test.YtmklnjkallhphaaZV7
import Derived.Test.YtmklnjkallhphaaZA1
import Derived.Test.YtmklnjkallhphaaZB3
import Derived.Test.YtmklnjkallhphaaZM3
import Derived.Test.YtmklnjkallhphaaZN2
import Derived.Deep.CutBlock
import Derived.Deep.DeepCutAuto
import Derived.Test.YtmklnjkallhphaaZR5
import Derived.Test.YtmklnjkallhphaaZT10
import Derived.Laws.EntriesVeiled
import Derived.Test.YtmklnjkallhphaaZL1
import Derived.Test.YtmklnjkallhphaaZU5
/- Codes in hand: what was told is handed in again (Sum, Meet, Make, Dual). -/
namespace Go.Proofs.Ytmklnjkallhphaa
open Go.RowKit Go.Sort

/-- A code that can be handed in, of the rows M. -/
def Cod (D : FD) (n : Nat) (ao : Option Addr) (m : Nat) (M : Nat → Nat → Nat) (w : World) : Prop := ∃ A N C Z, CdZ D ao m n A N C Z w ∧ ∀ i, i < m → mzc N Z i = M i
theorem Cod.below {D : FD} {n m : Nat} {ao : Option Addr} {M : Nat → Nat → Nat} {w w' : World} (h : Cod D n ao m M w) (hb : Below w.heap.size w w') : Cod D n ao m M w' := by
  obtain ⟨A, N, C, Z, h1, h2⟩ := h
  exact ⟨A, N, C, Z, h1.below hb, h2⟩
theorem Cod.rows {D : FD} (F : Fld D) {n m : Nat} {ao : Option Addr} {M : Nat → Nat → Nat} {w : World} (h : Cod D n ao m M w) : m ≤ 64 ∧ (1 ≤ n ∧ n ≤ 64) ∧ ∀ i, i < m → El D (M i) ∧ Bd n (M i) := by
  obtain ⟨A, N, C, Z, h1, h2⟩ := h
  obtain ⟨g1, g2, g3, _⟩ := h1.rows F
  exact ⟨g1, ⟨h1.n1, h1.n64⟩, fun i hi => by rw [← h2 i hi]; exact ⟨g2 i hi, g3 i hi⟩⟩
theorem MV.cod {D : FD} {B n k : Nat} {ro : Option Addr} {rc : Nat} {R : Nat → Nat → Nat} {w : World} (h : MV B (.slice ro k rc) k n R w) (hn1 : 1 ≤ n) (hn : n ≤ 64) (hk : k ≤ 64) (he : ∀ i, i < k → El D (R i)) (hb : ∀ i, i < k → Bd n (R i)) : Cod D n ro k R w := by
  obtain ⟨A, C, hc⟩ := (h.rlz (by omega)).cdz (D := D) hn1 hn hk he
  exact ⟨A, _, C, _, hc, fun i hi => mzc_rows hb i hi⟩
theorem Cod.chk {D : FD} (hD : D ∈ fieldsL) {n m : Nat} (ca : Nat) {ao : Option Addr} {M : Nat → Nat → Nat} {w : World} (h : Cod D n ao m M w) (wx : World) (hx : Below w.heap.size w wx) :
    Calls Try.prog 43 #[.agg #[.int .i64 D.q, .int .i64 (n : Nat), .slice ao m ca]] wx fun x w' => x = .returned (.int .i64 0) ∧ Below wx.heap.size wx w' := by
  obtain ⟨A, N, C, Z, h1, _⟩ := h.below hx
  have e : D.cchk (n : Nat) m N Z = 0 := by
    have a1 := h1.n1
    have a2 := h1.n64
    unfold FD.cchk
    rw [if_neg (by omega), h1.chk, if_neg (fun h => h rfl), if_neg]
    rintro ⟨b1, b2⟩
    exact b2 (by rw [h1.wd b1])
  have := ccheck_any hD (ca := ca) (n : Nat) h1.mat (h1.few (fld hD))
  rw [e] at this
  exact this
theorem Red.of_eq {D : FD} {n m k : Nat} {M M' R : Nat → Nat → Nat} (h : Red D n m M k R) (e : ∀ i, i < m → M i = M' i) : Red D n m M' k R := by
  obtain ⟨p, h1, h2⟩ := h
  exact ⟨p, h1, fun v => (h2 v).trans (rows_congr e v)⟩
theorem Cod.make {D : FD} (hD : D ∈ fieldsL) {n m : Nat} (ca : Nat) {ao : Option Addr} {M : Nat → Nat → Nat} {w : World} (h : Cod D n ao m M w) :
    Calls Try.prog 34 #[.agg #[.int .i64 D.q, .int .i64 (n : Nat), .slice ao m ca]] w fun x w' => ∃ k R ro rc, x = .returned (.tuple #[.agg #[.int .i64 D.q, .int .i64 (n : Nat), .slice ro k rc], .int .i64 0]) ∧ (Cod D n ro k R w' ∧ RL (.slice ro k rc) k n R w') ∧ Red D n m M k R ∧ Below w.heap.size w w' := by
  have hr := h.rows (fld hD)
  have hc := h.chk hD ca
  obtain ⟨A, N, C, Z, h1, h2⟩ := h
  refine (cMake_ok hD h1 hc).mono ?_
  rintro x w' ⟨k, R, ro, rc, rfl, hmv, hred, hb⟩
  have hkn := hred.le
  exact ⟨k, R, ro, rc, rfl, ⟨hmv.cod hr.2.1.1 hr.2.1.2 (by omega) hred.rows.1 hred.rows.2, hmv.rl⟩, hred.of_eq h2, hb⟩
theorem Cod.dual {D : FD} (hD : D ∈ fieldsL) {n m : Nat} (ca : Nat) {ao : Option Addr} {M : Nat → Nat → Nat} {w : World} (h : Cod D n ao m M w) :
    Calls Try.prog 24 #[.agg #[.int .i64 D.q, .int .i64 (n : Nat), .slice ao m ca]] w fun x w' => ∃ k R ro rc, x = .returned (.tuple #[.agg #[.int .i64 D.q, .int .i64 (n : Nat), .slice ro k rc], .int .i64 0]) ∧ (Cod D n ro k R w' ∧ RL (.slice ro k rc) k n R w') ∧ Dul D n m M k R ∧ Below w.heap.size w w' := by
  have hr := h.rows (fld hD)
  have hc := h.chk hD ca
  obtain ⟨A, N, C, Z, h1, h2⟩ := h
  refine (cDual_ok hD h1 hc).mono ?_
  rintro x w' ⟨k, R, ro, rc, rfl, hmv, hdu, hb⟩
  have hkn := hdu.le
  exact ⟨k, R, ro, rc, rfl, ⟨hmv.cod hr.2.1.1 hr.2.1.2 (by omega) hdu.rows.1 hdu.rows.2, hmv.rl⟩, hdu.of_spn (fun v => rows_congr h2 v), hb⟩
theorem Cod.chkBoth {D : FD} (hD : D ∈ fieldsL) {n m m' : Nat} (ca cb : Nat) {ao bo : Option Addr} {M M' : Nat → Nat → Nat} {w : World} (h : Cod D n ao m M w) (h' : Cod D n bo m' M' w) (wx : World) (hx : Below w.heap.size w wx) :
    Calls Try.prog 46 #[.agg #[.int .i64 D.q, .int .i64 (n : Nat), .slice ao m ca], .agg #[.int .i64 D.q, .int .i64 (n : Nat), .slice bo m' cb]] wx fun x w' => x = .returned (.int .i64 0) ∧ Below wx.heap.size wx w' := by
  refine (checkBoth_any 0 0 D.q D.q (n : Nat) (n : Nat) (fun wy hy => h.chk hD ca wy (bel_up' hx hy)) (fun wy hy => h'.chk hD cb wy (bel_up' hx hy))).mono ?_
  rintro x w' ⟨rfl, hb⟩
  exact ⟨by rw [cboth, if_neg (fun h => h rfl), if_neg (fun h => h rfl), if_neg (by simp)], hb⟩
theorem apr_congr {m m' : Nat} {A A' B B' : Nat → Nat → Nat} (ha : ∀ i, i < m → A i = A' i) (hb : ∀ i, i < m' → B i = B' i) : ∀ i, i < m + m' → apr m A B i = apr m A' B' i := fun i hi => by
  unfold apr
  by_cases e : i < m
  · rw [if_pos e, if_pos e, ha i e]
  · rw [if_neg e, if_neg e, hb (i - m) (by omega)]
theorem Cod.sum {D : FD} (hD : D ∈ fieldsL) {n m m' : Nat} (ca cb : Nat) {ao bo : Option Addr} {M M' : Nat → Nat → Nat} {w : World} (h : Cod D n ao m M w) (h' : Cod D n bo m' M' w) :
    Calls Try.prog 26 #[.agg #[.int .i64 D.q, .int .i64 (n : Nat), .slice ao m ca], .agg #[.int .i64 D.q, .int .i64 (n : Nat), .slice bo m' cb]] w fun x w' => ∃ k R ro rc, x = .returned (.tuple #[.agg #[.int .i64 D.q, .int .i64 (n : Nat), .slice ro k rc], .int .i64 0]) ∧ (Cod D n ro k R w' ∧ RL (.slice ro k rc) k n R w') ∧ Red D n (m + m') (apr m M M') k R ∧ Below w.heap.size w w' := by
  have hr := h.rows (fld hD)
  have hc := h.chkBoth hD ca cb h'
  obtain ⟨A, N, C, Z, h1, h2⟩ := h
  obtain ⟨A', N', C', Z', h1', h2'⟩ := h'
  refine (cSum_ok hD h1 h1' hc).mono ?_
  rintro x w' ⟨k, R, ro, rc, rfl, hmv, hred, hb⟩
  have hkn := hred.le
  exact ⟨k, R, ro, rc, rfl, ⟨hmv.cod hr.2.1.1 hr.2.1.2 (by omega) hred.rows.1 hred.rows.2, hmv.rl⟩, hred.of_eq (apr_congr h2 h2'), hb⟩
/-- A code's variable, newly made. -/
theorem box_at (q n : Int) (v : Value) (w : World) : Below w.heap.size w (w.alloc (.cells #[.int .i64 q, .int .i64 n, v] 27)) ∧ CB w.heap.size q n v (w.alloc (.cells #[.int .i64 q, .int .i64 n, v] 27)) ∧ (w.alloc (.cells #[.int .i64 q, .int .i64 n, v] 27)).heap.size = w.heap.size + 1 :=
  ⟨(Below.refl _ _).alloc (Nat.le_refl _) _, CB.new _ _ _ _, by simp⟩
end Go.Proofs.Ytmklnjkallhphaa

/- Codes out of raw numbers (CodeOf). -/
namespace Go.Proofs.Ytmklnjkallhphaa
open Go.RowKit Go.Sort

theorem MkS.laid {base q c i b : Nat} {v : Value} {vs : Nat → Value} {Z : Nat → Nat → Int} {w : World} (h : MkS base q c i v vs Z w) (hb : b < base) (x y : Int) (u : Value) : MkS base q c i v vs Z (laid w b x y u) :=
  ⟨h.own.same (fun g hg => laid_heap w b x y u (by have := h.own.open_ge g hg; omega)), fun j hj => (h.row j hj).same (fun g hg => laid_heap w b x y u (by have := ((h.row j hj).lt g hg).1; omega)), h.blw⟩

end Go.Proofs.Ytmklnjkallhphaa

/- A region that draws its order: one of two operations comes next. No Go text here. -/
namespace Go.Proofs.Ytmklnjkallhphaa
open Go

end Go.Proofs.Ytmklnjkallhphaa

/- Codes in hand: Encode, Has; words of a code and of its dual. -/
namespace Go.Proofs.Ytmklnjkallhphaa
open Go.RowKit Go.Sort

/-- A word that was told: it can be handed in again. -/
def Wrd (n : Nat) (v : Nat → Nat) (gr c : Nat) (w : World) : Prop := Row gr n v w ∧ n ≤ c ∧ c ≤ 9223372036854775807
theorem Wrd.below {n gr c : Nat} {v : Nat → Nat} {w w' : World} (h : Wrd n v gr c w) (hb : Below w.heap.size w w') : Wrd n v gr c w' := ⟨h.1.below hb h.1.lt, h.2⟩
theorem Wrd.arg {n gr c : Nat} {v : Nat → Nat} {w : World} (h : Wrd n v gr c w) (hn : n ≤ 1000) : Arg (some ⟨gr, 0, none⟩) n c (fun i => ((v i : Nat) : Int)) w :=
  ⟨slz_of (h.1.sl (Nat.le_refl _)), fun x hx => by cases hx; exact h.1.lt, by omega, (fun e => by cases e), h.2.1, h.2.2⟩
end Go.Proofs.Ytmklnjkallhphaa

/- TopDual: the walk of the statement, whatever raw numbers it is given. -/
namespace Go.Proofs.Ytmklnjkallhphaa
open Go.RowKit Go.Sort

theorem Dul.red {D : FD} {n m k : Nat} {M R : Nat → Nat → Nat} (h : Dul D n m M k R) {m' : Nat} {M' : Nat → Nat → Nat} (hs : ∀ v, Spn D (RowsOf k R) v ↔ Spn D (RowsOf m' M') v) : Red D n m' M' k R := by
  obtain ⟨_, _, _, p, _, _, q1, _⟩ := h
  exact ⟨p, q1, hs⟩
/-- The dual's own one form. -/
theorem Dul.own {D : FD} {n m k : Nat} {M R : Nat → Nat → Nat} (h : Dul D n m M k R) : Red D n k R k R := h.red (fun _ => Iff.rfl)

end Go.Proofs.Ytmklnjkallhphaa

/- Plain mathematics: words with one number more, so that all together are 0. No Go text here. -/
namespace Go.Proofs.Ytmklnjkallhphaa

end Go.Proofs.Ytmklnjkallhphaa

/- Extend (the program's). -/
namespace Go.Proofs.Ytmklnjkallhphaa
open Go.RowKit Go.Sort

set_option maxHeartbeats 1000000 in
set_option maxRecDepth 100000 in
theorem cloneI_any {b off n cap : Nat} {z : Nat → Int} {w : World} (h : SlZ (some ⟨b, off, none⟩) n z w) (hn : n ≤ 1000000) (hl : b < w.heap.size) :
    Calls Try.prog 38 #[.slice (some ⟨b, off, none⟩) n cap] w fun e w' => ∃ v, e = .returned v ∧ OwnI w.heap.size v (zl n z) w' ∧ Below w.heap.size w w' := by
  have HS : Hid (SlZ (some ⟨b, off, none⟩) n z w ∧ LtB (some ⟨b, off, none⟩) w.heap.size) := ⟨h, fun x hx => by cases hx; exact hl⟩
  clear h hl
  have hrn : ∀ w1 : World, Sem.run Try.prog (binOp BinOp.eql 22 (Value.slice (some ⟨b, off, none⟩) n cap) (Value.slice none 0 0)) w1 = .ok (.bool false) w1 := fun w1 => Lib.run_eql_slice_nil w1 _ 3 (some ⟨b, off, none⟩) n cap 0 0 Try.underlying22
  go_enter Try.func38, Try.ntmps38
  go_wp2_with (at_builtin; refine append_ints rfl _ _ rfl w.heap.size _ [] rfl (own_empty (two_new _) (Nat.le_refl _)) (some ⟨b, off, none⟩) n cap z rfl (HS.out.1.below ((Below.refl _ _).alloc (Nat.le_refl _) _) HS.out.2) (fun e => by cases e) (by simpa using hn) (by simp) ?_; intro v' w' hown hgrow)
  go_ret
  exact ⟨_, rfl, hown, ((Below.refl _ _).alloc (Nat.le_refl _) _).grown hgrow (by simp) (by intro k hk; have hk : some w.heap.size = some k := hk; cases hk; exact Nat.le_refl _)⟩

end Go.Proofs.Ytmklnjkallhphaa

/- Plain mathematics: how many sets there are; Krawtchouk's numbers. No Go text here. -/
namespace Go.Proofs.Ytmklnjkallhphaa

/-- Of a product of two, the first j terms. -/
def cv (A B : Nat → Int) (k : Nat) : Nat → Int
  | 0 => 0
  | j + 1 => cv A B k j + A j * B (k - j)
end Go.Proofs.Ytmklnjkallhphaa

/- Weights: powers and numbers of sets (the program's power, over). -/
namespace Go.Proofs.Ytmklnjkallhphaa
open Go.RowKit

end Go.Proofs.Ytmklnjkallhphaa

/- Weights: Krawtchouk's numbers (the program's krawtchouk). -/
namespace Go.Proofs.Ytmklnjkallhphaa
open Go.RowKit

end Go.Proofs.Ytmklnjkallhphaa

/- Weights: Krawtchouk's numbers (the reference's Kraw). -/
namespace Go.Proofs.Ytmklnjkallhphaa
open Go.RowKit

/-- Whole numbers, below 0 too, in a row of the call's own. -/
def RowZ (g N : Nat) (z : Nat → Int) (w : World) : Prop := ∃ cap f, RowF g cap 3 f w ∧ N ≤ cap ∧ ∀ k, k < N → f k = .int .i64 (z k)
theorem RowZ.of {g N : Nat} {c : Nat → Nat} {w : World} (h : Row g N c w) : RowZ g N (fun k => ((c k : Nat) : Int)) w := by
  obtain ⟨cap, f, h1, h2, h3⟩ := h
  exact ⟨cap, f, h1, h2, h3⟩
theorem RowZ.cell {g N : Nat} {z : Nat → Int} {w : World} (h : RowZ g N z w) (k : Nat) (hk : k < N) : w.cell? ⟨g, k, none⟩ = some (.int .i64 (z k)) := by
  obtain ⟨cap, f, h1, h2, h3⟩ := h
  rw [h1.cell k (by omega), h3 k hk]
theorem RowZ.free {g N : Nat} {z : Nat → Int} {w : World} (h : RowZ g N z w) (k : Nat) : w.frozen? ⟨g, k, none⟩ = false := by
  obtain ⟨cap, f, h1, h2, h3⟩ := h
  exact h1.free k
theorem RowZ.store {g N : Nat} {z y : Nat → Int} {w : World} (h : RowZ g N z w) (k : Nat) (v : Int) (hd : ∀ j, j < N → y j = if j = k then v else z j) : RowZ g N y (w.setCell ⟨g, k, none⟩ (.int .i64 v)) := by
  obtain ⟨cap, f, h1, h2, h3⟩ := h
  refine ⟨cap, _, h1.store k _, h2, fun j hj => ?_⟩
  unfold upd
  rw [hd j hj]
  by_cases e : j = k
  · rw [if_pos e, if_pos e]
  · rw [if_neg e, if_neg e, h3 j hj]
theorem RowZ.congr {g N : Nat} {z y : Nat → Int} {w : World} (h : RowZ g N z w) (e : ∀ k, k < N → z k = y k) : RowZ g N y w := by
  obtain ⟨cap, f, h1, h2, h3⟩ := h
  exact ⟨cap, f, h1, h2, fun k hk => by rw [h3 k hk, e k hk]⟩
theorem RowZ.below {g N B : Nat} {z : Nat → Int} {w w' : World} (h : RowZ g N z w) (hb : Below B w w') (hB : g < B) : RowZ g N z w' := by
  obtain ⟨cap, f, h1, h2, h3⟩ := h
  exact ⟨cap, f, h1.below hb hB, h2, h3⟩
end Go.Proofs.Ytmklnjkallhphaa

/- Weights: what is said of a size and a length, on both sides (Check, CountMay). -/
namespace Go.Proofs.Ytmklnjkallhphaa
open Go.RowKit

end Go.Proofs.Ytmklnjkallhphaa

/- Weights: sums and looks by closures (the program's times, found, outside; Shows' closures). -/
namespace Go.Proofs.Ytmklnjkallhphaa
open Go.RowKit Go.Sort

/-- The sum of the first products. -/
def vsm (f K : Nat → Int) : Nat → Int
  | 0 => 0
  | r + 1 => vsm f K r + f r * K r
end Go.Proofs.Ytmklnjkallhphaa

/- Weights: what Shows asks of its closures (outside, found, Shows$1, Shows$1$1, Shows$2, checkDistance). -/
namespace Go.Proofs.Ytmklnjkallhphaa
open Go.RowKit Go.Sort

/-- The boxes of Shows that its closures read. -/
structure ShB (Bf Bq Bn q n : Nat) (ao : Option Addr) (cap : Nat) (f : Nat → Int) (w : World) : Prop where
  cf : w.cell? ⟨Bf, 0, none⟩ = some (.slice ao (n + 1) cap)
  cq : w.cell? ⟨Bq, 0, none⟩ = some (.int .i64 (q : Nat))
  cn : w.cell? ⟨Bn, 0, none⟩ = some (.int .i64 (n : Nat))
  sl : SlZ ao (n + 1) f w
  lf : Bf < w.heap.size
  lq : Bq < w.heap.size
  ln : Bn < w.heap.size
  la : LtB ao w.heap.size
theorem ShB.below {Bf Bq Bn q n : Nat} {ao : Option Addr} {cap : Nat} {f : Nat → Int} {w w' : World} (h : ShB Bf Bq Bn q n ao cap f w) (hb : Below w.heap.size w w') : ShB Bf Bq Bn q n ao cap f w' :=
  ⟨((bcell hb).1 Bf 0 h.lf).trans h.cf, ((bcell hb).1 Bq 0 h.lq).trans h.cq, ((bcell hb).1 Bn 0 h.ln).trans h.cn, h.sl.below hb h.la, Nat.lt_of_lt_of_le h.lf hb.size, Nat.lt_of_lt_of_le h.lq hb.size, Nat.lt_of_lt_of_le h.ln hb.size, h.la.mono hb.size⟩

end Go.Proofs.Ytmklnjkallhphaa

/- Weights: Shows of the program. -/
namespace Go.Proofs.Ytmklnjkallhphaa
open Go.RowKit Go.Sort

end Go.Proofs.Ytmklnjkallhphaa

/- Weights: Shows of the program where the lengths may be. -/
namespace Go.Proofs.Ytmklnjkallhphaa
open Go.RowKit Go.Sort

end Go.Proofs.Ytmklnjkallhphaa

/- Weights: the reference's CountMay. -/
namespace Go.Proofs.Ytmklnjkallhphaa
open Go.RowKit Go.Sort

end Go.Proofs.Ytmklnjkallhphaa

/- WeightsShow's walk where something is wrong (printed by make/ka10.py). -/
namespace Go.Proofs.Ytmklnjkallhphaa
open Go.RowKit Go.Sort

end Go.Proofs.Ytmklnjkallhphaa

/- WeightsShow's walk where the lengths may be (printed by make/ka11.py). -/
namespace Go.Proofs.Ytmklnjkallhphaa
open Go.RowKit Go.Sort
theorem SlZ.cell {b off n : Nat} {z : Nat → Int} {w : World} (h : SlZ (some ⟨b, off, none⟩) n z w) {j : Nat} (hj : j < n) : w.cell? ⟨b, off + j, none⟩ = some (.int .i64 (z j)) := by
  obtain ⟨b', off', e, hc⟩ := h j hj
  cases e
  exact hc

end Go.Proofs.Ytmklnjkallhphaa

/- Weights: Griesmer's bound, both sides (printed by make/kb1.py). -/
namespace Go.Proofs.Ytmklnjkallhphaa
open Go.RowKit Go.Sort

def gd (q d : Nat) : Nat → Nat
  | 0 => d
  | i + 1 => (gd q d i + q - 1) / q
def gs (q d : Nat) : Nat → Nat
  | 0 => 0
  | i + 1 => gs q d i + gd q d i
end Go.Proofs.Ytmklnjkallhphaa

/- Plain mathematics: balls; a sum split into high and low parts, and divided. No Go text here. -/
namespace Go.Proofs.Ytmklnjkallhphaa

end Go.Proofs.Ytmklnjkallhphaa

/- Weights: balls, and numbers of sets of the reference (printed by make/kb2.py). -/
namespace Go.Proofs.Ytmklnjkallhphaa
open Go.RowKit

end Go.Proofs.Ytmklnjkallhphaa

/- Plain mathematics: sums of products, bounded by the sum of the numbers; split into two parts. No Go text here. -/
namespace Go.Proofs.Ytmklnjkallhphaa

/-- The sum of numbers. -/
def tsm (f : Nat → Int) (r : Nat) : Int := vsm f (fun _ => 1) r
theorem tsm_succ (f : Nat → Int) (r : Nat) : tsm f (r + 1) = tsm f r + f r := by
  show vsm f (fun _ => 1) r + f r * 1 = _
  rw [Int.mul_one]; rfl
theorem tsm_nn {f : Nat → Int} {N : Nat} (hf : ∀ j, j < N → 0 ≤ f j) : ∀ r, r ≤ N → 0 ≤ tsm f r
  | 0, _ => Int.le_refl _
  | r + 1, h => by
    have h1 := tsm_nn hf r (by omega)
    have h2 := hf r (by omega)
    rw [tsm_succ]
    omega
theorem tsm_mono {f : Nat → Int} {N : Nat} (hf : ∀ j, j < N → 0 ≤ f j) : ∀ d r, r + d ≤ N → tsm f r ≤ tsm f (r + d)
  | 0, r, _ => Int.le_refl _
  | d + 1, r, h => by
    have h1 := tsm_mono hf d r (by omega)
    have h2 := hf (r + d) (by omega)
    rw [show r + (d + 1) = r + d + 1 from rfl, tsm_succ]
    omega
theorem tsm_le {f : Nat → Int} {N : Nat} (hf : ∀ j, j < N → 0 ≤ f j) {r : Nat} (hr : r ≤ N) : tsm f r ≤ tsm f N := by
  have h := tsm_mono hf (N - r) r (by omega)
  rw [show r + (N - r) = N by omega] at h
  exact h
theorem tsm_below {f g : Nat → Int} {N : Nat} (hg : ∀ j, j < N → g j ≤ f j) : ∀ r, r ≤ N → tsm g r ≤ tsm f r
  | 0, _ => Int.le_refl _
  | r + 1, h => by
    have h1 := tsm_below hg r (by omega)
    have h2 := hg r (by omega)
    rw [tsm_succ, tsm_succ]
    omega
theorem vsm_bound {f K : Nat → Int} {B N : Nat} (hf : ∀ j, j < N → 0 ≤ f j) (hK : ∀ j, j < N → (K j).natAbs ≤ B) : ∀ r, r ≤ N → (vsm f K r).natAbs ≤ B * (tsm f r).toNat
  | 0, _ => by show (0 : Int).natAbs ≤ _; simp
  | r + 1, h => by
    have h1 := vsm_bound hf hK r (by omega)
    have h2 := hf r (by omega)
    have h3 := tsm_nn hf r (by omega)
    have h4 : (f r * K r).natAbs ≤ B * (f r).toNat := by
      rw [Int.natAbs_mul, Nat.mul_comm]
      exact Nat.mul_le_mul (hK r (by omega)) (by omega)
    have h5 := Int.natAbs_add_le (vsm f K r) (f r * K r)
    rw [tsm_succ, show (tsm f r + f r).toNat = (tsm f r).toNat + (f r).toNat by omega, Nat.mul_add]
    show (vsm f K r + f r * K r).natAbs ≤ _
    omega
theorem tsm_part {f : Nat → Int} : ∀ r, 32768 * tsm (fun j => f j / 32768) r ≤ tsm f r
  | 0 => Int.le_refl _
  | r + 1 => by
    have h1 := tsm_part (f := f) r
    rw [tsm_succ, tsm_succ]
    omega
/-- What both sides hold of a sum, for numbers that may be. -/
structure Trn (f K : Nat → Int) (N : Nat) (A : Int) : Prop where
  nn : ∀ j, j < N → 0 ≤ f j
  kb : ∀ j, j < N → (K j).natAbs ≤ 1073741824
  sum : tsm f N = A
  pos : 0 < A
  le : A ≤ 1073741824
theorem Trn.any {f K g : Nat → Int} {N : Nat} {A : Int} (h : Trn f K N A) (hg : ∀ j, j < N → 0 ≤ g j ∧ g j ≤ f j) : ∀ r, r ≤ N → (vsm g K r).natAbs ≤ 1152921504606846976 := fun r hr => by
  have h1 := vsm_bound (fun j hj => (hg j hj).1) h.kb r hr
  have h2 := tsm_below (fun j hj => (hg j hj).2) r hr
  have h3 := tsm_le h.nn hr
  have h4 := h.sum
  have h5 := h.le
  have h6 : 1073741824 * (tsm g r).toNat ≤ 1073741824 * 1073741824 := Nat.mul_le_mul_left _ (by omega)
  omega
/-- The high part, divided, is small. -/
theorem Trn.high {f K : Nat → Int} {N : Nat} {A : Int} (h : Trn f K N A) : ((vsm (fun j => f j / 32768) K N).tdiv A * 32768).natAbs ≤ 1073741824 := by
  have hf2 : ∀ j, j < N → 0 ≤ f j / 32768 := fun j hj => by have := h.nn j hj; omega
  have h1 := vsm_bound hf2 h.kb N (Nat.le_refl _)
  have h2 := tsm_part (f := f) N
  have h3 := tsm_nn hf2 N (Nat.le_refl _)
  have h4 := h.sum
  have h5 := h.pos
  obtain ⟨H, hH⟩ : ∃ H, H = vsm (fun j => f j / 32768) K N := ⟨_, rfl⟩
  obtain ⟨T, hT⟩ : ∃ T, T = (tsm (fun j => f j / 32768) N).toNat := ⟨_, rfl⟩
  rw [← hH, ← hT] at h1
  rw [← hH]
  have h6 : 32768 * T ≤ A.natAbs := by omega
  have h7 : H.natAbs * 32768 ≤ 1073741824 * A.natAbs := by
    have : H.natAbs * 32768 ≤ 1073741824 * T * 32768 := Nat.mul_le_mul_right _ h1
    rw [Nat.mul_assoc, Nat.mul_comm T] at this
    exact Nat.le_trans this (Nat.mul_le_mul_left _ h6)
  rw [Int.natAbs_mul, Int.natAbs_tdiv]
  have h8 : H.natAbs / A.natAbs * A.natAbs ≤ H.natAbs := Nat.div_mul_le_self _ _
  have h9 : H.natAbs / A.natAbs * 32768 * A.natAbs ≤ 1073741824 * A.natAbs := by
    have := Nat.mul_le_mul_right 32768 h8
    rw [Nat.mul_right_comm]
    exact Nat.le_trans this h7
  exact Nat.le_of_mul_le_mul_right h9 (by omega)
end Go.Proofs.Ytmklnjkallhphaa

/- Weights: Krawtchouk and the bounds of the program (printed by make/kb3.py). -/
namespace Go.Proofs.Ytmklnjkallhphaa
open Go.RowKit Go.Sort

/-- What Plotkin's bound tells. -/
def plk (q n d : Nat) : Nat := if n * (q - 1) < q * d then q * d / (q * d - n * (q - 1)) else 0

end Go.Proofs.Ytmklnjkallhphaa

/- Weights: the program's together and Dual (printed by make/kb5.py). -/
namespace Go.Proofs.Ytmklnjkallhphaa
open Go.RowKit Go.Sort

theorem RowZ.lt {g N : Nat} {z : Nat → Int} {w : World} (h : RowZ g N z w) : g < w.heap.size := by
  obtain ⟨cap, f, h1, h2, h3⟩ := h
  exact h1.lt

theorem RowZ.drewN {g N : Nat} {z : Nat → Int} {w : World} (h : RowZ g N z w) (k : Nat) : RowZ g N z (w.drewN k) := by
  obtain ⟨cap, f, h1, h2, h3⟩ := h
  exact ⟨cap, f, h1.drewN k, h2, h3⟩
end Go.Proofs.Ytmklnjkallhphaa

/- Weights: the reference's Turned (printed by make/kb6.py). -/
namespace Go.Proofs.Ytmklnjkallhphaa
open Go.RowKit Go.Sort

end Go.Proofs.Ytmklnjkallhphaa

/- Weights: the law's walk of MacWilliams' transform (printed by make/kb7.py). -/
namespace Go.Proofs.Ytmklnjkallhphaa
open Go.RowKit Go.Sort

end Go.Proofs.Ytmklnjkallhphaa

/- Plain mathematics: sets that are great and meet little are few (Johnson). No Go text here. -/
namespace Go.Proofs.Ytmklnjkallhphaa

theorem ct_mono {p p' : Nat → Bool} : ∀ n, (∀ i, i < n → p i = true → p' i = true) → ct p n ≤ ct p' n
  | 0, _ => Nat.le_refl _
  | n + 1, h => by
    have h1 := ct_mono n (fun i hi => h i (by omega))
    have h2 := h n (by omega)
    show ct p n + (if p n = true then 1 else 0) ≤ ct p' n + if p' n = true then 1 else 0
    by_cases e : p n = true
    · rw [if_pos e, if_pos (h2 e)]; omega
    · rw [if_neg e]; omega
end Go.Proofs.Ytmklnjkallhphaa

/- Plain mathematics of Sudan's sum: a message that agrees at many places makes it nought. No Go text here. -/
namespace Go.Proofs.Ytmklnjkallhphaa
open Go.RowKit Go.Sort

/-- Horner's way. -/
def hrn (D : FD) (A : Nat → Nat) (y m : Nat) : Nat → Nat
  | 0 => 0
  | r + 1 => D.ad (D.mul (hrn D A y m r) y) (A (m - 1 - r))
end Go.Proofs.Ytmklnjkallhphaa

/- Plain mathematics of Sudan's sum, second part: the curve of a message that agrees at t places is nought. No Go text here. -/
namespace Go.Proofs.Ytmklnjkallhphaa
open Go.RowKit Go.Sort

end Go.Proofs.Ytmklnjkallhphaa

/- Plain mathematics of words that are mended: one near message; what meets the equations; the error locator. No Go text here. -/
namespace Go.Proofs.Ytmklnjkallhphaa
open Go.RowKit Go.Sort

theorem ct_or (p q : Nat → Bool) : ∀ n, ct (fun i => p i || q i) n ≤ ct p n + ct q n
  | 0 => Nat.le_refl _
  | n + 1 => by
    have := ct_or p q n
    show ct (fun i => p i || q i) n + (if (p n || q n) = true then 1 else 0) ≤ ct p n + (if p n = true then 1 else 0) + (ct q n + if q n = true then 1 else 0)
    cases p n <;> cases q n <;> simp <;> omega
/-- At how many places a message's word differs. -/
def ofs (D : FD) (k n : Nat) (xs y a : Nat → Nat) : Nat := ct (fun i => !decide (D.ev a (xs i) k = y i)) n
/-- Two near messages are one. -/
theorem near_one {D : FD} (F : Fld D) {xs y a b : Nat → Nat} {n k : Nat} (hk : k ≤ n) (hx : ∀ i, i < n → xs i < D.q) (hne : ∀ i j, i < n → j < n → i ≠ j → xs i ≠ xs j) (ha : El D a) (hb : El D b) (hba : Bd k a) (hbb : Bd k b) (h1 : 2 * ofs D k n xs y a ≤ n - k) (h2 : 2 * ofs D k n xs y b ≤ n - k) : a = b := by
  refine Classical.byContradiction fun h => ?_
  have h3 := far_apart F hx hne ha hb hba hbb h
  have h4 : ct (fun i => !decide (D.ev a (xs i) k = D.ev b (xs i) k)) n ≤ ct (fun i => !decide (D.ev a (xs i) k = y i) || !decide (D.ev b (xs i) k = y i)) n := ct_mono n fun i _ he => by
    by_cases e1 : D.ev a (xs i) k = y i
    · by_cases e2 : D.ev b (xs i) k = y i
      · rw [e1, e2] at he
        simp at he
      · simp [e2]
    · simp [e1]
  have h5 := ct_or (fun i => !decide (D.ev a (xs i) k = y i)) (fun i => !decide (D.ev b (xs i) k = y i)) n
  unfold ofs at h1 h2
  omega
/-- Whatever meets the equations is the message times its second part. -/
theorem key_eq {D : FD} (F : Fld D) {xs y a N E : Nat → Nat} {n k wr M : Nat} (hM1 : k + wr ≤ M) (hM2 : M + wr ≤ n) (hx : ∀ i, i < n → xs i < D.q) (hne : ∀ i j, i < n → j < n → i ≠ j → xs i ≠ xs j) (hN : El D N) (hbN : Bd M N) (hE : El D E) (hbE : Bd (wr + 1) E) (ho : ofs D k n xs y a ≤ wr) (he : ∀ i, i < n → D.ev N (xs i) M = D.mul (y i) (D.ev E (xs i) (wr + 1))) : N = pmul D k a E := by
  have hd : El D (psub D N (pmul D k a E)) := el_sub F hN (el_mul F _ _ _)
  have hpb : Bd (k + wr) (pmul D k a E) := by
    have := pmul_bd F (a := a) hbE k
    rw [show k + (wr + 1) - 1 = k + wr by omega] at this
    exact this
  have hbd : Bd M (psub D N (pmul D k a E)) := fun j hj => by
    show D.sb (N j) (pmul D k a E j) = 0
    rw [hbN j hj, hpb j (by omega), sb_self F (zero_lt' F)]
  refine psub_eq_nil F hN (el_mul F _ _ _) (Classical.byContradiction fun h0 => ?_)
  have h1 := few_roots F hx hne M hd hbd h0
  have h2 : ct (fun i => decide (D.ev a (xs i) k = y i)) n ≤ ct (fun i => decide (D.ev (psub D N (pmul D k a E)) (xs i) M = 0)) n := ct_mono n fun i hi hc => by
    have hc : D.ev a (xs i) k = y i := of_decide_eq_true hc
    refine decide_eq_true ?_
    have e1 : D.ev (pmul D k a E) (xs i) M = D.mul (y i) (D.ev E (xs i) (wr + 1)) := by
      rw [ev_from F (xs i) hpb hM1, ← ev_from F (xs i) hpb (show k + wr ≤ k + (wr + 1) by omega), ev_mul F (xs i) hbE hE k (k + (wr + 1)) (Nat.le_refl _), hc]
    rw [ev_sub F (xs i) hN (el_mul F _ _ _), he i hi, e1, sb_self F (F.mul_lt _ _)]
  have h3 := ct_not (fun i => decide (D.ev a (xs i) k = y i)) n
  unfold ofs at ho
  omega

end Go.Proofs.Ytmklnjkallhphaa
