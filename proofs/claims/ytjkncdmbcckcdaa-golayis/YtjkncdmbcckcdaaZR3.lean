/- Texts of ours, one behind the other: R3 W3. -/
import Derived.Test.YtjkncdmbcckcdaaZR2
import Derived.Laws.MakeOwn
/- The reference: sums and opposites by digits. -/
namespace Go.Proofs.Ytjkncdmbcckcdaa
open Go.RowKit

/-- A list of the call's own that has numbers: its block, cell by cell. -/
theorem OwnI.row {base : Nat} {v : Value} {l : List Int} {w : World} (h : OwnI base v l w) (n : Nat) (hn : l.length = n) (h0 : 0 < n) : ∃ g cap f, v = .slice (some ⟨g, 0, none⟩) n cap ∧ base ≤ g ∧ g < w.heap.size ∧ n ≤ cap ∧ cap ≤ maxLen ∧
    RowF g cap 3 f w ∧ (∀ j, j < n → f j = .int .i64 (l.getD j 0)) := by
  have h' := h
  rcases h'.2 with ⟨_, h2⟩ | ⟨g, cap, cur, hv, hg, hh, hle, hcm, hsz, htake⟩
  · omega
  · refine ⟨g, cap, fun o => (cur[o]?).getD (.int .i64 0), by rw [hv, hn], hg, lt_of_block hh, by omega, hcm, ⟨cur, hh, by omega, fun o ho => ?_⟩, fun j hj => ?_⟩
    · show _ = some (Option.getD _ _)
      rw [Array.getElem?_eq_getElem (by omega)]; rfl
    · have hj' : j < l.length := by omega
      have h3 : (cur.toList.take (l.length * 1))[j]? = (l.map (Value.int .i64))[j]? := by rw [htake]
      rw [List.getElem?_take, if_pos (by omega), List.getElem?_map, List.getElem?_eq_getElem hj'] at h3
      show (cur[j]?).getD _ = _
      rw [← Array.getElem?_toList, h3, List.getD_eq_getElem?_getD, List.getElem?_eq_getElem hj']; rfl

/-- The five cells of a reference field that lies in memory. -/
structure Box (b : Nat) (D : FD) (gen : Nat) (v : Value) (w : World) : Prop where
  c0 : w.cell? ⟨b, 0, none⟩ = some (.int .i64 D.q)
  c1 : w.cell? ⟨b, 1, none⟩ = some (.int .i64 D.p)
  c2 : w.cell? ⟨b, 2, none⟩ = some (.int .i64 D.m)
  c3 : w.cell? ⟨b, 3, none⟩ = some (.int .i64 gen)
  c4 : w.cell? ⟨b, 4, none⟩ = some v
theorem Box.below {b B : Nat} {D : FD} {gen : Nat} {v : Value} {w w' : World} (h : Box b D gen v w) (hb : Below B w w') (hB : b < B) : Box b D gen v w' :=
  have e := (bcell hb).1
  ⟨(e b 0 hB).trans h.c0, (e b 1 hB).trans h.c1, (e b 2 hB).trans h.c2, (e b 3 hB).trans h.c3, (e b 4 hB).trans h.c4⟩
theorem Box.other {b : Nat} {D : FD} {gen : Nat} {v : Value} {w w' : World} (h : Box b D gen v w) (e : w'.heap[b]? = w.heap[b]?) : Box b D gen v w' :=
  have e' : ∀ o, w'.cell? ⟨b, o, none⟩ = w.cell? ⟨b, o, none⟩ := fun o => World.cell?_of_block (a := ⟨b, o, none⟩) e
  ⟨(e' 0).trans h.c0, (e' 1).trans h.c1, (e' 2).trans h.c2, (e' 3).trans h.c3, (e' 4).trans h.c4⟩
theorem box_new (D : FD) (gen : Nat) (v : Value) (w : World) : Box w.heap.size D gen v (w.alloc (.cells #[.int .i64 D.q, .int .i64 D.p, .int .i64 D.m, .int .i64 gen, v] 27)) :=
  ⟨by simp, by simp, by simp, by simp, by simp⟩

theorem dg_lt (p a j : Nat) (hp : 1 ≤ p) : dg p a j < p := Nat.mod_lt _ hp

set_option maxHeartbeats 4000000 in
set_option maxRecDepth 100000 in
theorem radd_dig {D : FD} (hm : 2 ≤ D.m) (hm6 : D.m ≤ 6) (hp : 3 ≤ D.p) (hp2 : D.p ≤ 64) (hpn : D.p ^ D.m ≤ 4096) (gen : Nat) (v : Value) (a b : Nat) (w : World) (ha : a < 64) (hb : b < 64) (h1 : D.has a = true) (h2 : D.has b = true) :
    Calls Try.prog 107 #[rf D.q D.p D.m gen v, .int .i64 a, .int .i64 b] w fun e w' => e = .returned (.int .i64 (horner D.p (fun j => (dg D.p a j + dg D.p b j) % D.p) D.m D.m : Nat)) ∧ Below w.heap.size w w' := by
  have hm' : ((D.m : Int) == 1) = false := by rw [beq_eq_false_iff_ne]; omega
  have hp' : ((D.p : Int) == 2) = false := by rw [beq_eq_false_iff_ne]; omega
  have HPN : Hid (D.p ^ D.m ≤ 4096) := hpn
  clear hpn
  unfold rf
  go_enter Try.func107, Try.ntmps107
  go_wp2_with fail
  refine (rhas_any D gen v a _).mono ?_
  rintro e w1 ⟨rfl, hb1⟩
  have HX1 : Hid (Box w.heap.size D gen v w1 ∧ Below w.heap.size w w1) := ⟨(box_new D gen v w).below hb1 (by simp), ((Below.refl _ _).alloc (Nat.le_refl _) _).trans (hb1.mono (by simp))⟩
  have hs1 : w.heap.size < w1.heap.size := by have := hb1.size; simp at this; omega
  obtain ⟨c0, c1, c2, c3, c4⟩ := HX1.out.1
  clear hb1
  go_wp2_with fail
  refine (rhas_any D gen v b _).mono ?_
  rintro e w2 ⟨rfl, hb2⟩
  have HX2 : Hid (Box w.heap.size D gen v w2 ∧ Below w.heap.size w w2) := ⟨HX1.out.1.below hb2 hs1, HX1.out.2.trans (hb2.mono (by omega))⟩
  have hs2 : w.heap.size < w2.heap.size := by have := hb2.size; omega
  clear c0 c1 c2 c3 c4 hb2
  obtain ⟨c0, c1, c2, c3, c4⟩ := HX2.out.1
  go_wp2_with fail
  refine (digits_any a D.p D.m _ (by omega) (by omega) hp2 (by omega)).mono ?_
  rintro e w3 ⟨vx, rfl, hox, hb3⟩
  have HX3 : Hid (Box w.heap.size D gen v w3 ∧ Below w.heap.size w w3) := ⟨HX2.out.1.below hb3 hs2, HX2.out.2.trans (hb3.mono (by omega))⟩
  have hs3 : w.heap.size < w3.heap.size := by have := hb3.size; omega
  clear c0 c1 c2 c3 c4
  obtain ⟨c0, c1, c2, c3, c4⟩ := HX3.out.1
  have HOX : Hid (OwnI w2.heap.size vx (digL D.p a D.m) w3) := hox
  clear hb3 hox
  go_wp2_with fail
  refine (digits_any b D.p D.m _ (by omega) (by omega) hp2 (by omega)).mono ?_
  rintro e w4 ⟨vy, rfl, hoy, hb4⟩
  have HX4 : Hid (Box w.heap.size D gen v w4 ∧ Below w.heap.size w w4) := ⟨HX3.out.1.below hb4 hs3, HX3.out.2.trans (hb4.mono (by omega))⟩
  have hs4 : w3.heap.size ≤ w4.heap.size := hb4.size
  obtain ⟨gx, cx, fx, rfl, hgx, hgx', hlx, hcx, hrx, hvx⟩ := (HOX.out.below hb4 (fun k hk => (HOX.out.lt k hk).2)).row D.m (digL_len _ _ _) (by omega)
  obtain ⟨gy, cy, fy, rfl, hgy, hgy', hly, hcy, hry, hvy⟩ := hoy.row D.m (digL_len _ _ _) (by omega)
  have hxy : gx < gy := by
    have := (HOX.out.lt gx rfl).2
    omega
  have HV : Hid ((∀ j, j < D.m → fx j = .int .i64 (dg D.p a j : Nat)) ∧ (∀ j, j < D.m → fy j = .int .i64 (dg D.p b j : Nat)) ∧ RowF gx cx 3 fx w4 ∧ RowF gy cy 3 fy w4) :=
    ⟨fun j hj => by rw [hvx j hj, digL_get _ _ _ _ hj], fun j hj => by rw [hvy j hj, digL_get _ _ _ _ hj], hrx, hry⟩
  clear c0 c1 c2 c3 c4 hb4 hoy hvx hvy hrx hry
  obtain ⟨c0, c1, c2, c3, c4⟩ := HX4.out.1
  go_wp2
  go_loopw [9] (fun i wr => ∃ (k : Nat) (f : Nat → Value), k ≤ D.m ∧ i = .int .i64 k ∧ RowF gx cx 3 f wr ∧ (∀ j, j < k → f j = .int .i64 ((dg D.p a j + dg D.p b j) % D.p : Nat)) ∧ (∀ j, k ≤ j → j < D.m → f j = .int .i64 (dg D.p a j : Nat)) ∧
      RowF gy cy 3 fy wr ∧ Box w.heap.size D gen v wr ∧ Below w.heap.size w wr) (fun i _ => D.m - (intOf i).toNat)
  case atStart => exact ⟨0, fx, by omega, rfl, HV.out.2.2.1, fun j hj => by omega, fun j _ hj => HV.out.1 j hj, HV.out.2.2.2, HX4.out.1, HX4.out.2⟩
  case round =>
    clear c0 c1 c2 c3 c4
    obtain ⟨k, f, hk, rfl, hrow, hlo, hhi, hry, hbox, hbel⟩ := hrel
    obtain ⟨c0, c1, c2, c3, c4⟩ := hbox
    have HG : Hid (RowF gx cx 3 f wr ∧ (∀ j, j < k → f j = .int .i64 ((dg D.p a j + dg D.p b j) % D.p : Nat)) ∧ (∀ j, k ≤ j → j < D.m → f j = .int .i64 (dg D.p a j : Nat)) ∧
      RowF gy cy 3 fy wr ∧ Box w.heap.size D gen v wr ∧ Below w.heap.size w wr) := ⟨hrow, hlo, hhi, hry, ⟨c0, c1, c2, c3, c4⟩, hbel⟩
    clear hrow hlo hhi hry hbel
    by_cases hlt : k < D.m
    · have hcx' : wr.cell? ⟨gx, k, none⟩ = some (.int .i64 (dg D.p a k : Nat)) := by rw [HG.out.1.cell k (by omega), HG.out.2.2.1 k (by omega) hlt]
      have hcy' : wr.cell? ⟨gy, k, none⟩ = some (.int .i64 (dg D.p b k : Nat)) := by rw [HG.out.2.2.2.1.cell k (by omega), HV.out.2.1 k hlt]
      have hfx : wr.frozen? ⟨gx, k, none⟩ = false := HG.out.1.free k
      have hd1 := dg_lt D.p a k (by omega)
      have hd2 := dg_lt D.p b k (by omega)
      go_wp2
      go_region
      go_wp2
      go_roundw
      case rel => exact ⟨k + 1, _, by omega, by go_num, (HG.out.1.store _ _).drew, fun j hj => if e : j = k then by rw [e, upd_at]; rfl else (upd_ne _ _ _ e).trans (HG.out.2.1 j (by omega)), fun j h3 h4 => (upd_ne _ _ _ (by omega)).trans (HG.out.2.2.1 j (by omega) h4), (HG.out.2.2.2.1.setOther ⟨gx, k, none⟩ (by show gy ≠ gx; omega) _).drew, HG.out.2.2.2.2.1.other (Below.heap_setCell wr ⟨gx, k, none⟩ _ _ (by show w.heap.size ≠ gx; omega)), (HG.out.2.2.2.2.2.setCell (by show w.heap.size ≤ gx; omega) _).drew⟩
      case measure => simp [intOf]; omega
    · have HC : Hid (∀ j, j < D.m → wr.cell? ⟨gx, j, none⟩ = some (.int .i64 ((dg D.p a j + dg D.p b j) % D.p : Nat))) := fun j hj => by rw [HG.out.1.cell j (by omega), HG.out.2.1 j (by omega)]
      go_wp2_with fail
      refine (number_any gx cx D.p D.m (fun j => (dg D.p a j + dg D.p b j) % D.p) wr (by omega) hp2 hm6 HPN.out (fun j => Nat.mod_lt _ (by omega)) HC.out).mono ?_
      rintro e w' ⟨rfl, rfl⟩
      go_wp2
      go_ret
      exact ⟨rfl, HG.out.2.2.2.2.2⟩

/-- The reference's sum. -/
theorem radd_any {D : FD} (hD : D ∈ fieldsL) (gen : Nat) (v : Value) (a b : Int) (w : World) :
    Calls Try.prog 107 #[rf D.q D.p D.m gen v, .int .i64 a, .int .i64 b] w fun e w' => e = .returned (.int .i64 (D.addZ a b)) ∧ Below w.heap.size w w' := by
  have F := fld hD
  by_cases ha : D.has a = true
  · by_cases hb : D.has b = true
    · obtain ⟨x, rfl, hx⟩ := has_nat ha
      obtain ⟨y, rfl, hy⟩ := has_nat hb
      have h64 := F.q64
      have hv : D.addZ x y = (raddN D x y : Nat) := by rw [radd_is hD x y hx hy, FD.addZ, if_pos ⟨ha, hb⟩]; rfl
      rw [hv]
      unfold raddN
      by_cases hm : D.m = 1
      · rw [if_pos hm]; exact radd_one hm (by have := F.p2; omega) F.p64 gen v x y w (by omega) (by omega) ha hb
      · rw [if_neg hm]
        by_cases hp : D.p = 2
        · rw [if_pos hp]; exact radd_two hm hp gen v x y w (by omega) (by omega) ha hb
        · rw [if_neg hp]; exact radd_dig (by have := F.m1; omega) F.m6 (by have := F.p2; omega) F.p64 (by rw [← F.qp]; omega) gen v x y w (by omega) (by omega) ha hb
    · have hv : D.addZ a b = -1 := by rw [FD.addZ, if_neg (by simp [hb])]
      rw [hv]; exact radd_no gen v a b w (Or.inr (by simpa using hb))
  · have hv : D.addZ a b = -1 := by rw [FD.addZ, if_neg (by simp [ha])]
    rw [hv]; exact radd_no gen v a b w (Or.inl (by simpa using ha))

theorem neg_mod (d p : Nat) (h : d < p) : (-(d : Int)) % (p : Int) = (((p - d) % p : Nat) : Int) := by
  have e : (-(d : Int)) = ((p - d : Nat) : Int) + (-1) * (p : Int) := by omega
  rw [e, Int.add_mul_emod_self_right, Int.natCast_emod]

set_option maxHeartbeats 4000000 in
set_option maxRecDepth 100000 in
theorem rneg_dig {D : FD} (hm : 1 ≤ D.m) (hm6 : D.m ≤ 6) (hp : 2 ≤ D.p) (hp2 : D.p ≤ 64) (hpn : D.p ^ D.m ≤ 4096) (gen : Nat) (v : Value) (a : Nat) (w : World) (ha : a < 64) (h1 : D.has a = true) :
    Calls Try.prog 93 #[rf D.q D.p D.m gen v, .int .i64 a] w fun e w' => e = .returned (.int .i64 (rnegN D a : Nat)) ∧ Below w.heap.size w w' := by
  have HPN : Hid (D.p ^ D.m ≤ 4096) := hpn
  have HN : Hid (rnegN D a = horner D.p (fun j => (D.p - dg D.p a j) % D.p) D.m D.m) := rfl
  clear hpn
  unfold rf
  go_enter Try.func93, Try.ntmps93
  go_wp2_with fail
  refine (rhas_any D gen v a _).mono ?_
  rintro e w1 ⟨rfl, hb1⟩
  have HX1 : Hid (Box w.heap.size D gen v w1 ∧ Below w.heap.size w w1) := ⟨(box_new D gen v w).below hb1 (by simp), ((Below.refl _ _).alloc (Nat.le_refl _) _).trans (hb1.mono (by simp))⟩
  have hs1 : w.heap.size < w1.heap.size := by have := hb1.size; simp at this; omega
  obtain ⟨c0, c1, c2, c3, c4⟩ := HX1.out.1
  clear hb1
  go_wp2_with fail
  refine (digits_any a D.p D.m _ (by omega) (by omega) hp2 (by omega)).mono ?_
  rintro e w3 ⟨vx, rfl, hox, hb3⟩
  have HX3 : Hid (Box w.heap.size D gen v w3 ∧ Below w.heap.size w w3) := ⟨HX1.out.1.below hb3 hs1, HX1.out.2.trans (hb3.mono (by omega))⟩
  have hs3 : w.heap.size < w3.heap.size := by have := hb3.size; omega
  obtain ⟨gx, cx, fx, rfl, hgx, hgx', hlx, hcx, hrx, hvx⟩ := hox.row D.m (digL_len _ _ _) (by omega)
  have HV : Hid ((∀ j, j < D.m → fx j = .int .i64 (dg D.p a j : Nat)) ∧ RowF gx cx 3 fx w3) :=
    ⟨fun j hj => by rw [hvx j hj, digL_get _ _ _ _ hj], hrx⟩
  clear c0 c1 c2 c3 c4 hb3 hox hvx hrx
  obtain ⟨c0, c1, c2, c3, c4⟩ := HX3.out.1
  go_wp2
  go_loopw [6] (fun i wr => ∃ (k : Nat) (f : Nat → Value), k ≤ D.m ∧ i = .int .i64 k ∧ RowF gx cx 3 f wr ∧ (∀ j, j < k → f j = .int .i64 ((D.p - dg D.p a j) % D.p : Nat)) ∧ (∀ j, k ≤ j → j < D.m → f j = .int .i64 (dg D.p a j : Nat)) ∧
      Box w.heap.size D gen v wr ∧ Below w.heap.size w wr) (fun i _ => D.m - (intOf i).toNat)
  case atStart => exact ⟨0, fx, by omega, rfl, HV.out.2, fun j hj => by omega, fun j _ hj => HV.out.1 j hj, HX3.out.1, HX3.out.2⟩
  case round =>
    clear c0 c1 c2 c3 c4
    obtain ⟨k, f, hk, rfl, hrow, hlo, hhi, hbox, hbel⟩ := hrel
    obtain ⟨c0, c1, c2, c3, c4⟩ := hbox
    have HG : Hid (RowF gx cx 3 f wr ∧ (∀ j, j < k → f j = .int .i64 ((D.p - dg D.p a j) % D.p : Nat)) ∧ (∀ j, k ≤ j → j < D.m → f j = .int .i64 (dg D.p a j : Nat)) ∧
      Box w.heap.size D gen v wr ∧ Below w.heap.size w wr) := ⟨hrow, hlo, hhi, ⟨c0, c1, c2, c3, c4⟩, hbel⟩
    clear hrow hlo hhi hbel
    by_cases hlt : k < D.m
    · have hcx' : wr.cell? ⟨gx, k, none⟩ = some (.int .i64 (dg D.p a k : Nat)) := by rw [HG.out.1.cell k (by omega), HG.out.2.2.1 k (by omega) hlt]
      have hfx : wr.frozen? ⟨gx, k, none⟩ = false := HG.out.1.free k
      have hd1 := dg_lt D.p a k (by omega)
      go_wp2
      go_region
      go_wp2
      go_roundw
      case rel => exact ⟨k + 1, _, by omega, by go_num, (HG.out.1.store _ _).drew, fun j hj => if e : j = k then by rw [e, upd_at, neg_mod _ _ hd1] else (upd_ne _ _ _ e).trans (HG.out.2.1 j (by omega)), fun j h3 h4 => (upd_ne _ _ _ (by omega)).trans (HG.out.2.2.1 j (by omega) h4), HG.out.2.2.2.1.other (Below.heap_setCell wr ⟨gx, k, none⟩ _ _ (by show w.heap.size ≠ gx; omega)), (HG.out.2.2.2.2.setCell (by show w.heap.size ≤ gx; omega) _).drew⟩
      case measure => simp [intOf]; omega
    · have HC : Hid (∀ j, j < D.m → wr.cell? ⟨gx, j, none⟩ = some (.int .i64 ((D.p - dg D.p a j) % D.p : Nat))) := fun j hj => by rw [HG.out.1.cell j (by omega), HG.out.2.1 j (by omega)]
      go_wp2_with fail
      refine (number_any gx cx D.p D.m (fun j => (D.p - dg D.p a j) % D.p) wr (by omega) hp2 hm6 HPN.out (fun j => Nat.mod_lt _ (by omega)) HC.out).mono ?_
      rintro e w' ⟨rfl, rfl⟩
      go_wp2
      go_ret
      exact ⟨ret_int (by rw [HN.out]), HG.out.2.2.2.2⟩

set_option maxHeartbeats 1000000 in
theorem rneg_any {D : FD} (hD : D ∈ fieldsL) (gen : Nat) (v : Value) (a : Int) (w : World) :
    Calls Try.prog 93 #[rf D.q D.p D.m gen v, .int .i64 a] w fun e w' => e = .returned (.int .i64 (D.negZ a)) ∧ Below w.heap.size w w' := by
  have F := fld hD
  by_cases ha : D.has a = true
  · obtain ⟨x, rfl, hx⟩ := has_nat ha
    have h64 := F.q64
    have hv : D.negZ x = (rnegN D x : Nat) := by rw [rneg_is hD x hx, FD.negZ, if_pos ha]; rfl
    rw [hv]
    exact rneg_dig F.m1 F.m6 F.p2 F.p64 (by rw [← F.qp]; omega) gen v x w (by omega) ha
  · have hv : D.negZ a = -1 := by rw [FD.negZ, if_neg ha]
    have ha' : D.has a = false := by simpa using ha
    rw [hv]
    clear hv ha hD F
    unfold rf
    go_enter Try.func93, Try.ntmps93
    go_wp2_with fail
    refine (rhas_any D gen v a _).mono ?_
    rintro e w1 ⟨rfl, hb1⟩
    have HB1 : Hid (Below w.heap.size w w1) := ((Below.refl _ _).alloc (Nat.le_refl _) _).trans (hb1.mono (by simp))
    clear hb1
    go_wp2
    go_ret
    exact ⟨rfl, HB1.out⟩

set_option maxHeartbeats 1000000 in
theorem rsub_any {D : FD} (hD : D ∈ fieldsL) (gen : Nat) (v : Value) (a b : Int) (w : World) :
    Calls Try.prog 110 #[rf D.q D.p D.m gen v, .int .i64 a, .int .i64 b] w fun e w' => e = .returned (.int .i64 (D.subZ a b)) ∧ Below w.heap.size w w' := by
  have HD : Hid (D ∈ fieldsL) := hD
  clear hD
  unfold rf
  go_enter Try.func110, Try.ntmps110
  go_wp2_with fail
  refine (rneg_any HD.out gen v b _).mono ?_
  rintro e w1 ⟨rfl, hb1⟩
  have HX1 : Hid (Box w.heap.size D gen v w1 ∧ Below w.heap.size w w1) := ⟨(box_new D gen v w).below hb1 (by simp), ((Below.refl _ _).alloc (Nat.le_refl _) _).trans (hb1.mono (by simp))⟩
  obtain ⟨c0, c1, c2, c3, c4⟩ := HX1.out.1
  clear hb1
  go_wp2_with fail
  refine (radd_any HD.out gen v a _ _).mono ?_
  rintro e w2 ⟨rfl, hb2⟩
  have HB2 : Hid (Below w.heap.size w w2) := HX1.out.2.trans (hb2.mono HX1.out.2.size)
  clear hb2 c0 c1 c2 c3 c4
  go_wp2
  go_ret
  exact ⟨rfl, HB2.out⟩
end Go.Proofs.Ytjkncdmbcckcdaa

/- Lists of numbers that a call makes for itself: so many noughts (make). -/
namespace Go.Proofs.Ytjkncdmbcckcdaa
open Go.RowKit

theorem list_getD_replicate (n j : Nat) : (List.replicate n (0 : Int)).getD j 0 = 0 := by
  rw [List.getD_eq_getElem?_getD, List.getElem?_replicate]; split <;> rfl

/-- 'make([]int, n)'. -/
theorem make_int {ops : Array Oper} {rest : List Oper} {o : Oper} {a : Act} {w : World} {Q : Exit → Act → World → Prop}
    (hg : o.guard = none) (l c : Operand) (hop : o.op = Op.makeSlice 22 l c) (C : Int) (n : Nat) (hl : a.eval l = .int .i64 C) (hc : a.eval c = .int .i64 C) (hC : C = (n : Int)) (hn : n ≤ 1000000)
    (hK : ∀ w', OwnI w.heap.size (.slice (some ⟨w.heap.size, 0, none⟩) n n) (List.replicate n 0) w' → w.grownBy w' none → wpList Try.prog ops Q rest (a.put o.dst (.slice (some ⟨w.heap.size, 0, none⟩) n n)) w') :
    wpList Try.prog ops Q (o :: rest) a w := by
  obtain ⟨i0, hi, hz0, hz1, hz2⟩ := info_parts Try.infoInt
  refine wpList_make_full w hg l c 22 hop w.heap.size 3 i0 (.int .i64 0) 1 Try.underlying22 hi hz0 hz1 .i64 .i64 C C n hl hc hC hC (by rw [hz2]; omega) (by unfold maxLen; omega) (Nat.le_refl _) ?_
  intro w' hown hgrow
  refine hK w' ?_ hgrow
  unfold OwnI
  rw [List.length_replicate, List.map_replicate]
  have e : (madeCells (Value.int .i64 0).cells (n * 1)).toList = List.replicate n (.int .i64 0) := by
    rw [Nat.mul_one]; exact toList_madeCells_one _ _
  rw [e] at hown
  exact hown
end Go.Proofs.Ytjkncdmbcckcdaa
