/- The reference: products by polynomials (Mul). -/
import Derived.Test.YtjkncdmbcckcdaaZR3
import Derived.Test.YtjkncdmbcckcdaaZM5
import Derived.StillTailTactics
namespace Go.Proofs.Ytjkncdmbcckcdaa
open Go.RowKit

theorem horner_hornerN (p N n : Nat) : ∀ k, horner p (fun j => getN N j) n k = hornerN p N n k
  | 0 => rfl
  | k + 1 => by rw [horner, hornerN, horner_hornerN p N n k]

/-- A block whose first n cells are the digits of a number to the base 64. -/
def Poly (g n : Nat) (N : Nat) (w : World) : Prop := ∃ f, RowF g n 3 f w ∧ ∀ j, j < n → f j = .int .i64 (getN N j : Nat)
theorem Poly.cell {g n N : Nat} {w : World} (h : Poly g n N w) (j : Nat) (hj : j < n) : w.cell? ⟨g, j, none⟩ = some (.int .i64 (getN N j : Nat)) := by
  obtain ⟨f, hr, hf⟩ := h
  rw [hr.cell j hj, hf j hj]
theorem Poly.free {g n N : Nat} {w : World} (h : Poly g n N w) (j : Nat) : w.frozen? ⟨g, j, none⟩ = false := by
  obtain ⟨f, hr, hf⟩ := h
  exact hr.free j
theorem Poly.store {g n N : Nat} {w : World} (h : Poly g n N w) (t v : Nat) (hv : v < 64) : Poly g n (setN N t v) (w.setCell ⟨g, t, none⟩ (.int .i64 (v : Nat))) := by
  obtain ⟨f, hr, hf⟩ := h
  refine ⟨_, hr.store t _, fun j hj => ?_⟩
  rw [getN_setN N t v j hv]
  by_cases e : j = t
  · subst e; rw [upd_at, if_pos rfl]
  · rw [upd_ne _ _ _ e, if_neg e]; exact hf j hj
theorem Poly.drew {g n N : Nat} {w : World} (h : Poly g n N w) : Poly g n N w.drew := by
  obtain ⟨f, hr, hf⟩ := h
  exact ⟨f, hr.drew, hf⟩
/-- Numbers in a block's first n cells, given by a function. -/
def Nums (g n : Nat) (d : Nat → Nat) (w : World) : Prop := ∀ j, j < n → w.cell? ⟨g, j, none⟩ = some (.int .i64 (d j : Nat))
theorem Nums.other {g n : Nat} {d : Nat → Nat} {w w' : World} (h : Nums g n d w) (e : w'.heap[g]? = w.heap[g]?) : Nums g n d w' :=
  fun j hj => (World.cell?_of_block (a := ⟨g, j, none⟩) e).trans (h j hj)
theorem Nums.below {g n B : Nat} {d : Nat → Nat} {w w' : World} (h : Nums g n d w) (hb : Below B w w') (hB : g < B) : Nums g n d w' :=
  h.other (hb.block g hB)

/-- What holds in the midst of a product. -/
structure MulSt (D : FD) (gen : Nat) (v : Value) (gm : Nat) (md : Nat → Nat) (a b gx gy gl B : Nat) (w : World) (N : Nat) (wr : World) : Prop where
  poly : Poly gl (2 * D.m) N wr
  nx : Nums gx D.m (dgt D.p a) wr
  ny : Nums gy D.m (dgt D.p b) wr
  nm : Nums gm D.m md wr
  box : Box B D gen v wr
  bel : Below B w wr
theorem MulSt.step {D : FD} {gen : Nat} {v : Value} {gm : Nat} {md : Nat → Nat} {a b gx gy gl B : Nat} {w : World} {N : Nat} {wr : World} (h : MulSt D gen v gm md a b gx gy gl B w N wr)
    (h1 : gx < gl) (h2 : gy < gl) (h3 : gm < gl) (h4 : B < gl) (t x : Nat) (hx : x < 64) : MulSt D gen v gm md a b gx gy gl B w (setN N t x) (wr.setCell ⟨gl, t, none⟩ (.int .i64 (x : Nat))) :=
  have e : ∀ k, k < gl → (wr.setCell ⟨gl, t, none⟩ (.int .i64 (x : Nat))).heap[k]? = wr.heap[k]? := fun k hk => Below.heap_setCell wr ⟨gl, t, none⟩ _ k (by show k ≠ gl; omega)
  ⟨h.poly.store t x hx, h.nx.other (e _ h1), h.ny.other (e _ h2), h.nm.other (e _ h3), h.box.other (e _ h4), h.bel.setCell (by show B ≤ gl; omega) _⟩
theorem MulSt.drew {D : FD} {gen : Nat} {v : Value} {gm : Nat} {md : Nat → Nat} {a b gx gy gl B : Nat} {w : World} {N : Nat} {wr : World} (h : MulSt D gen v gm md a b gx gy gl B w N wr) : MulSt D gen v gm md a b gx gy gl B w N wr.drew :=
  ⟨h.poly.drew, h.nx.other rfl, h.ny.other rfl, h.nm.other rfl, h.box.other rfl, h.bel.drew⟩

theorem below_drewN2 {B : Nat} {w w' : World} (h : Below B w w') (n : Nat) : Below B w (w'.drewN n) := ⟨h.os, h.tape, h.output, h.size, h.block⟩
theorem wrap_to {a : Int} {n : Nat} (h : a = (n : Int)) (hn : n ≤ 9223372036854775807) : IntKind.i64.wrap a = (n : Int) := by
  rw [IntWalk.i64_left, h]; exact w_nat n hn

set_option maxHeartbeats 8000000 in
set_option maxRecDepth 100000 in
theorem rmul_poly {D : FD} (hm : 2 ≤ D.m) (hm6 : D.m ≤ 6) (hp : 2 ≤ D.p) (hp2 : D.p ≤ 64) (gen gm lm cm : Nat) (md : Nat → Nat) (a b : Nat) (w : World) (ha : a < 64) (hb : b < 64) (h1 : D.has a = true) (h2 : D.has b = true)
    (hlm : D.m < lm) (hgm : gm < w.heap.size) (hmd : ∀ j, md j < D.p) (hN : Nums gm D.m md w) :
    Calls Try.prog 55 #[rf D.q D.p D.m gen (.slice (some ⟨gm, 0, none⟩) lm cm), .int .i64 a, .int .i64 b] w fun e w' => e = .returned (.int .i64 (hornerN D.p (redOut D.p D.m md (convOut D.p D.m a b D.m) D.m) D.m D.m : Nat)) ∧ Below w.heap.size w w' := by
  have hm' : ((D.m : Int) == 1) = false := by rw [beq_eq_false_iff_ne]; omega
  have HMD : Hid (∀ j, md j < D.p) := hmd
  have HN : Hid (Nums gm D.m md w) := hN
  clear hmd hN
  unfold rf
  go_enter Try.func55, Try.ntmps55
  obtain ⟨v, hv⟩ : ∃ v : Value, v = .slice (some ⟨gm, 0, none⟩) lm cm := ⟨_, rfl⟩
  rw [← hv]
  have HVV : Hid (v = .slice (some ⟨gm, 0, none⟩) lm cm) := hv
  clear hv
  go_wp2_with fail
  refine (rhas_any D gen v a _).mono ?_
  rintro e w1 ⟨rfl, hb1⟩
  have HX1 : Hid (Box w.heap.size D gen v w1 ∧ Below w.heap.size w w1) := ⟨(box_new D gen v w).below hb1 (by simp), ((Below.refl _ _).alloc (Nat.le_refl _) _).trans (hb1.mono (by simp))⟩
  have hs1 : w.heap.size < w1.heap.size := by have := hb1.size; simp at this; omega
  obtain ⟨c0, c1, c2, c3, c4⟩ := HX1.out.1
  clear hb1
  go_wp2_with fail
  refine (rhas_any D gen v b _).mono ?_
  rintro e w2 ⟨rfl, hb2⟩
  have HX2 : Hid (Box w.heap.size D gen v w2 ∧ Below w.heap.size w w2) := ⟨HX1.out.1.below hb2 hs1, HX1.out.2.trans (hb2.mono (by omega))⟩
  have hs2 : w.heap.size < w2.heap.size := by have := hb2.size; omega
  clear c0 c1 c2 c3 c4 hb2
  obtain ⟨c0, c1, c2, c3, c4⟩ := HX2.out.1
  go_wp2_with fail
  refine (digits_any a D.p D.m _ (by omega) (by omega) hp2 (by omega)).mono ?_
  rintro e w3 ⟨vx, rfl, hox, hb3⟩
  have HX3 : Hid (Box w.heap.size D gen v w3 ∧ Below w.heap.size w w3) := ⟨HX2.out.1.below hb3 hs2, HX2.out.2.trans (hb3.mono (by omega))⟩
  have hs3 : w.heap.size < w3.heap.size := by have := hb3.size; omega
  obtain ⟨gx, cx, fx, rfl, hgx, hgx', hlx, hcx, hrx, hvx⟩ := hox.row D.m (digL_len _ _ _) (by omega)
  have HNX : Hid (Nums gx D.m (dgt D.p a) w3) := fun j hj => by rw [hrx.cell j (by omega), hvx j hj, digL_get _ _ _ _ hj]; rfl
  clear c0 c1 c2 c3 c4 hb3 hox hrx hvx
  obtain ⟨c0, c1, c2, c3, c4⟩ := HX3.out.1
  go_wp2_with fail
  refine (digits_any b D.p D.m _ (by omega) (by omega) hp2 (by omega)).mono ?_
  rintro e w4 ⟨vy, rfl, hoy, hb4⟩
  have HX4 : Hid (Box w.heap.size D gen v w4 ∧ Below w.heap.size w w4) := ⟨HX3.out.1.below hb4 hs3, HX3.out.2.trans (hb4.mono (by omega))⟩
  have hs4 : w3.heap.size ≤ w4.heap.size := hb4.size
  obtain ⟨gy, cy, fy, rfl, hgy, hgy', hly, hcy, hry, hvy⟩ := hoy.row D.m (digL_len _ _ _) (by omega)
  have HN4 : Hid (Nums gx D.m (dgt D.p a) w4 ∧ Nums gy D.m (dgt D.p b) w4 ∧ Nums gm D.m md w4) := ⟨HNX.out.below hb4 hgx', fun j hj => by rw [hry.cell j (by omega), hvy j hj, digL_get _ _ _ _ hj]; rfl, HN.out.below HX4.out.2 hgm⟩
  clear c0 c1 c2 c3 c4 hb4 hoy hry hvy
  obtain ⟨c0, c1, c2, c3, c4⟩ := HX4.out.1
  go_wp2_with (at_make; refine make_int rfl _ _ rfl _ (2 * D.m) rfl rfl (by omega) (by omega) ?_; intro w5 hown5 hgrow5)
  obtain ⟨gl, cl, fl, hvl, hgl, hgl', hll, hcl, hrl, hfl⟩ := hown5.row (2 * D.m) (by simp) (by omega)
  simp only [Value.slice.injEq, Option.some.injEq, Addr.mk.injEq, and_true, true_and] at hvl
  obtain ⟨rfl, rfl⟩ := hvl
  have hb5 : Below w4.heap.size w4 w5 := below_grown hgrow5 (Nat.le_refl _) (fun k hk => by simp at hk)
  have HS : Hid (MulSt D gen v gm md a b gx gy w4.heap.size w.heap.size w 0 w5) :=
    ⟨⟨fl, hrl, fun j hj => by rw [hfl j hj, list_getD_replicate, getN_zero]; rfl⟩, HN4.out.1.below hb5 (by omega), HN4.out.2.1.below hb5 hgy', HN4.out.2.2.below hb5 (by omega), HX4.out.1.below hb5 (by omega), HX4.out.2.trans (hb5.mono (by omega))⟩
  obtain ⟨gl, hgl4⟩ : ∃ gl, gl = w4.heap.size := ⟨_, rfl⟩
  rw [← hgl4] at HS ⊢ hgl' hgy'
  have hl1 : gx < gl := by omega
  have hl2 : gm < gl := by omega
  have hl3 : w.heap.size < gl := by omega
  clear c0 c1 c2 c3 c4 hb5 hown5 hgrow5 hrl hfl hgl hgl4 hs4 hll hcl
  go_loopw [10] (fun i wr => ∃ k N : Nat, k ≤ D.m ∧ i = .int .i64 k ∧ Hid (N = convOut D.p D.m a b k) ∧ MulSt D gen v gm md a b gx gy gl w.heap.size w N wr) (fun i _ => D.m - (intOf i).toNat)
  case atStart => exact ⟨0, 0, by omega, rfl, rfl, HS.out⟩
  case round =>
    obtain ⟨i, N, hi, rfl, HI, hS⟩ := hrel
    have HM : Hid (MulSt D gen v gm md a b gx gy gl w.heap.size w N wr) := hS
    clear hS
    obtain ⟨c0, c1, c2, c3, c4⟩ := HM.out.box
    by_cases hlt : i < D.m
    · go_wp2
      go_loopw [11] (fun k wr => ∃ j N' : Nat, j ≤ D.m ∧ k = .int .i64 j ∧ Hid (N' = convIn D.p a b i N j) ∧ MulSt D gen v gm md a b gx gy gl w.heap.size w N' wr) (fun k _ => D.m - (intOf k).toNat)
      case atStart => exact ⟨0, N, by omega, rfl, rfl, HM.out⟩
      case round =>
        clear c0 c1 c2 c3 c4
        obtain ⟨k, N', hk, rfl, HK, hS⟩ := hrel
        have HM : Hid (MulSt D gen v gm md a b gx gy gl w.heap.size w N' wr) := hS
        clear hS
        obtain ⟨c0, c1, c2, c3, c4⟩ := HM.out.box
        by_cases hlk : k < D.m
        · have x1 := HM.out.nx i hlt
          have x2 := HM.out.ny k hlk
          have x3 := HM.out.poly.cell (i + k) (by omega)
          have x4 := HM.out.poly.free (i + k)
          have y1 : dgt D.p a i < D.p := Nat.mod_lt _ (by omega)
          have y2 : dgt D.p b k < D.p := Nat.mod_lt _ (by omega)
          have y3 := getN_lt N' (i + k)
          have y4 : dgt D.p a i * dgt D.p b k ≤ 64 * 64 := Nat.mul_le_mul (by omega) (by omega)
          have y5 : ((dgt D.p a i : Nat) : Int) * ((dgt D.p b k : Nat) : Int) ≤ 4096 := by rw [← Int.natCast_mul]; omega
          have y6 : 0 ≤ ((dgt D.p a i : Nat) : Int) * ((dgt D.p b k : Nat) : Int) := by rw [← Int.natCast_mul]; omega
          go_wp2
          obtain ⟨s, hs⟩ : ∃ s : Nat, s = i + k := ⟨_, rfl⟩
          obtain ⟨pr, hpr⟩ : ∃ pr : Nat, pr = dgt D.p a i * dgt D.p b k := ⟨_, rfl⟩
          obtain ⟨sm, hsm⟩ : ∃ sm : Nat, sm = getN N' s + pr := ⟨_, rfl⟩
          obtain ⟨rr, hrr⟩ : ∃ rr : Nat, rr = sm % D.p := ⟨_, rfl⟩
          rw [← hs] at x3 x4 y3
          have w1' : IntKind.i64.wrap ((i : Int) + (k : Int)) = (s : Int) := wrap_to (by omega) (by omega)
          have w2' : IntKind.i64.wrap (((dgt D.p a i : Nat) : Int) * ((dgt D.p b k : Nat) : Int)) = (pr : Int) := wrap_to (by rw [hpr, Int.natCast_mul]) (by omega)
          have w3' : IntKind.i64.wrap (((getN N' s : Nat) : Int) + (pr : Int)) = (sm : Int) := wrap_to (by omega) (by omega)
          have w4' : ((sm : Nat) : Int).tmod (D.p : Int) = (rr : Int) := by rw [hrr]; rfl
          have hsb : (s : Int) < 2 * (D.m : Int) := by omega
          have hib : (i : Int) < (D.m : Int) := by omega
          have hkb : (k : Int) < (D.m : Int) := by omega
          have hrb : rr < 64 := by rw [hrr]; exact Nat.lt_of_lt_of_le (Nat.mod_lt _ (by omega)) hp2
          have hp0 : ¬ D.p = 0 := by omega
          have HE : Hid (s = i + k ∧ rr = (getN N' (i + k) + dgt D.p a i * dgt D.p b k) % D.p) := ⟨hs, by rw [hrr, hsm, hpr, hs]⟩
          clear hs hpr hsm hrr y4 y5 y6
          go_still_tail 24, (by kernel_rfl)
          go_wp2
          go_roundw
          case rel => exact ⟨k + 1, setN N' s rr, by omega, by go_num, by rw [HK.out, HE.out.2, HE.out.1, HK.out]; rfl, (HM.out.step hl1 hgy' hl2 hl3 s rr hrb).drew⟩
          case measure => simp [intOf]; omega
        · have e : k = D.m := by omega
          have HO : Hid (N' = convOut D.p D.m a b (i + 1)) := by show _ = _; rw [HK.out, e, HI.out]; rfl
          clear e
          go_wp2
          go_roundw
          case rel => exact ⟨i + 1, N', by omega, by go_num, HO.out, HM.out⟩
          case measure => simp [intOf]; omega
    · have e : i = D.m := by omega
      have HO : Hid (N = convOut D.p D.m a b D.m) := by show _ = _; rw [HI.out, e]
      clear e HI
      go_wp2
      go_loopw [12] (fun i wr => ∃ j N' : Nat, j ≤ D.m ∧ i = .int .i64 ((2 * D.m - 1 - j : Nat) : Int) ∧ Hid (N' = redOut D.p D.m md N j) ∧ MulSt D gen v gm md a b gx gy gl w.heap.size w N' wr) (fun i _ => (intOf i).toNat)
      case atStart => exact ⟨0, N, by omega, by go_num, rfl, HM.out⟩
      case round =>
        clear c0 c1 c2 c3 c4 HM
        obtain ⟨j, N', hj, rfl, HJ, hS⟩ := hrel
        have HM : Hid (MulSt D gen v gm md a b gx gy gl w.heap.size w N' wr) := hS
        clear hS
        obtain ⟨c0, c1, c2, c3, c4⟩ := HM.out.box
        obtain ⟨t, ht⟩ : ∃ t : Nat, t = 2 * D.m - 1 - j := ⟨_, rfl⟩
        rw [← ht]
        by_cases hlj : j < D.m
        · have htm : D.m ≤ t := by omega
          have htm2 : t < 2 * D.m := by omega
          have HT : Hid (t = 2 * D.m - 1 - j) := ht
          clear ht
          go_wp2
          go_loopw [13] (fun k wr => ∃ l N2 : Nat, l ≤ D.m ∧ k = .int .i64 l ∧ Hid (N2 = redIn D.p D.m md t N' l) ∧ MulSt D gen v gm md a b gx gy gl w.heap.size w N2 wr) (fun k _ => D.m - (intOf k).toNat)
          case atStart => exact ⟨0, N', by omega, rfl, rfl, HM.out⟩
          case round =>
            clear c0 c1 c2 c3 c4 HM
            obtain ⟨k, N2, hk, rfl, HK, hS⟩ := hrel
            have HM : Hid (MulSt D gen v gm md a b gx gy gl w.heap.size w N2 wr) := hS
            clear hS
            obtain ⟨c0, c1, c2, c3, c4⟩ := HM.out.box
            by_cases hlk : k < D.m
            · have x1 := HM.out.nm k hlk
              have x2 := HM.out.poly.cell t htm2
              have x3 := HM.out.poly.cell (t - D.m + k) (by omega)
              have x4 := HM.out.poly.free (t - D.m + k)
              have y1 := HMD.out k
              have y2 := getN_lt N2 t
              have y3 := getN_lt N2 (t - D.m + k)
              have c4' := c4
              rw [HVV.out] at c4'
              clear c4
              go_wp2
              obtain ⟨d1, hd1⟩ : ∃ d1 : Nat, d1 = t - D.m := ⟨_, rfl⟩
              obtain ⟨s, hs⟩ : ∃ s : Nat, s = t - D.m + k := ⟨_, rfl⟩
              obtain ⟨pm, hpm⟩ : ∃ pm : Nat, pm = D.p - md k := ⟨_, rfl⟩
              obtain ⟨pr, hpr⟩ : ∃ pr : Nat, pr = getN N2 t * pm := ⟨_, rfl⟩
              obtain ⟨sm, hsm⟩ : ∃ sm : Nat, sm = getN N2 s + pr := ⟨_, rfl⟩
              obtain ⟨rr, hrr⟩ : ∃ rr : Nat, rr = sm % D.p := ⟨_, rfl⟩
              rw [← hs] at x3 x4 y3
              have hprb : pr ≤ 64 * 64 := by rw [hpr]; exact Nat.mul_le_mul (by omega) (by omega)
              have hrb : rr < 64 := by rw [hrr]; exact Nat.lt_of_lt_of_le (Nat.mod_lt _ (by omega)) hp2
              have w0' : IntKind.i64.wrap ((t : Int) - (D.m : Int)) = (d1 : Int) := wrap_to (by omega) (by omega)
              have w1' : IntKind.i64.wrap ((d1 : Int) + (k : Int)) = (s : Int) := wrap_to (by omega) (by omega)
              have w5' : IntKind.i64.wrap ((D.p : Int) - ((md k : Nat) : Int)) = (pm : Int) := wrap_to (by omega) (by omega)
              have w2' : IntKind.i64.wrap (((getN N2 t : Nat) : Int) * (pm : Int)) = (pr : Int) := wrap_to (by rw [hpr, Int.natCast_mul]) (by omega)
              have w3' : IntKind.i64.wrap (((getN N2 s : Nat) : Int) + (pr : Int)) = (sm : Int) := wrap_to (by omega) (by omega)
              have w4' : ((sm : Nat) : Int).tmod (D.p : Int) = (rr : Int) := by rw [hrr]; rfl
              have hsb : (s : Int) < 2 * (D.m : Int) := by omega
              have htb : (t : Int) < 2 * (D.m : Int) := by omega
              have hkb : (k : Int) < (lm : Int) := by omega
              have hp0 : ¬ D.p = 0 := by omega
              have HE : Hid (s = t - D.m + k ∧ rr = (getN N2 (t - D.m + k) + getN N2 t * (D.p - md k)) % D.p) := ⟨hs, by rw [hrr, hsm, hpr, hpm, hs]⟩
              clear hs hpr hsm hrr hpm hd1 hprb
              go_still_tail 34, (by kernel_rfl)
              go_wp2
              go_roundw
              case rel => exact ⟨k + 1, setN N2 s rr, by omega, by go_num, by rw [HK.out, HE.out.2, HE.out.1, HK.out]; rfl, (HM.out.step hl1 hgy' hl2 hl3 s rr hrb).drew⟩
              case measure => simp [intOf]; omega
            · have e : k = D.m := by omega
              have HO : Hid (setN N2 t 0 = redOut D.p D.m md N (j + 1)) := by show _ = _; rw [HK.out, e, HJ.out, HT.out]; rfl
              have x2 := HM.out.poly.cell t htm2
              have x4 := HM.out.poly.free t
              clear e
              go_wp2
              go_roundw
              case rel => exact ⟨j + 1, setN N2 t 0, by omega, by rw [HT.out]; go_num, HO.out, HM.out.step hl1 hgy' hl2 hl3 t 0 (by omega)⟩
              case measure => simp [intOf]; omega
        · have e : j = D.m := by omega
          have htl : t < D.m := by omega
          have HO : Hid (N' = redOut D.p D.m md (convOut D.p D.m a b D.m) D.m) := by show _ = _; rw [HJ.out, e, HO.out]
          have HC : Hid (∀ n, Calls Try.prog 91 #[.slice (some ⟨gl, 0, none⟩) D.m (2 * D.m), .int .i64 D.p] (wr.drewN n) fun e w' => e = .returned (.int .i64 (hornerN D.p N' D.m D.m : Nat)) ∧ w' = wr.drewN n) := by
            intro n
            rw [← horner_hornerN]
            exact number_gen gl (2 * D.m) D.p D.m (fun j => getN N' j) (wr.drewN n) hp2 hm6 (fun j => getN_lt _ _) (fun j hj => HM.out.poly.cell j (by omega))
          clear ht e
          go_wp2
          go_quiet ((go_at_call 91; exact Calls.quiet_of_same (HC.out _)))
          go_wp2
          go_ret
          exact ⟨ret_int (by rw [HO.out]), below_drewN2 HM.out.bel _⟩
end Go.Proofs.Ytjkncdmbcckcdaa
