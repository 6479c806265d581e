/- The reference: the file of what nodes have: FileOf. -/
import Derived.Test.YtbofcldmgjeklaaZKM22
import Derived.Test.YtbofcldmgjeklaaZL1
import Derived.Test.YtbofcldmgjeklaaZO3
namespace Go.Proofs.Ytbofcldmgjeklaa
open Go.RowKit Go.Sort

/-- What FileOf tells. -/
def FoP (D : FD) (k d : Nat) (xs : Nat → Nat) (H : Nat → Nat → Nat) (w : World) (e : Ending) (w' : World) : Prop :=
  Below w.heap.size w w' ∧ ∃ Q, Fnd D k d xs H Q ∧ ((¬ Smt Q d ∧ e = .returned (.tuple #[.slice none 0 0, .bool false])) ∨
    (Smt Q d ∧ ∃ v, ∃ c : Nat → Nat, e = .returned (.tuple #[v, .bool true]) ∧ OwnI w.heap.size v (zl (fsz k d) fun r => ((c r : Nat) : Int)) w' ∧ ∀ i j, i < k → i ≤ j → j < d → c (plr k d i j) = Q j i))
theorem zl_plus (a b : Nat) (z : Nat → Int) : zl (a + b) z = zl a z ++ zl b fun c => z (a + c) := by
  induction b with
  | zero => simp [zl]
  | succ b ih => rw [← Nat.add_assoc, zl_succ, ih, zl_succ, List.append_assoc]
theorem zl_ext {n : Nat} {z y : Nat → Int} (h : zl n z = zl n y) (j : Nat) (hj : j < n) : z j = y j := by
  have h1 := zl_getD n z j hj
  rw [h, zl_getD n y j hj] at h1
  exact h1.symm
/-- As file_ex; all are elements. -/
theorem file_ex2 {q : Nat} (hq : 0 < q) (k d : Nat) (Q : Nat → Nat → Nat) (hQ : ∀ i j, Q i j < q) : ∃ c : Nat → Nat, (∀ i j, i < k → i ≤ j → j < d → c (plr k d i j) = Q i j) ∧ ∀ r, c r < q := by
  classical
  refine ⟨fun r => if h : ∃ p : Nat × Nat, p.1 < k ∧ p.1 ≤ p.2 ∧ p.2 < d ∧ plr k d p.1 p.2 = r then Q (Classical.choose h).1 (Classical.choose h).2 else 0, fun i j hi hij hj => ?_, fun r => ?_⟩
  · have h : ∃ p : Nat × Nat, p.1 < k ∧ p.1 ≤ p.2 ∧ p.2 < d ∧ plr k d p.1 p.2 = plr k d i j := ⟨(i, j), hi, hij, hj, rfl⟩
    have e := Classical.choose_spec h
    have e2 := plr_inj e.1 e.2.1 e.2.2.1 hi hij hj e.2.2.2
    show (if h : ∃ p : Nat × Nat, p.1 < k ∧ p.1 ≤ p.2 ∧ p.2 < d ∧ plr k d p.1 p.2 = plr k d i j then Q (Classical.choose h).1 (Classical.choose h).2 else 0) = Q i j
    rw [dif_pos h, e2.1, e2.2]
  · show (if h : ∃ p : Nat × Nat, p.1 < k ∧ p.1 ≤ p.2 ∧ p.2 < d ∧ plr k d p.1 p.2 = r then Q (Classical.choose h).1 (Classical.choose h).2 else 0) < q
    split
    · exact hQ _ _
    · exact hq
/-- What a region reads that raises a number to its powers. -/
def PwS (B : Nat) (D : FD) (gen gm cm b o x : Nat) (w : World) : Prop :=
  w.cell? ⟨B, 0, none⟩ = some (.int .i64 D.q) ∧ w.cell? ⟨B, 1, none⟩ = some (.int .i64 D.p) ∧ w.cell? ⟨B, 2, none⟩ = some (.int .i64 D.m) ∧ w.cell? ⟨B, 3, none⟩ = some (.int .i64 gen) ∧ w.cell? ⟨B, 4, none⟩ = some (.slice (some ⟨gm, 0, none⟩) (D.m + 1) cm) ∧ w.cell? ⟨b, o, none⟩ = some (.int .i64 (x : Nat))
/-- What a region reads that lengthens a row. -/
def RwS (G i gx y : Nat) (u : Value) (w : World) : Prop := w.cell? ⟨G, i, none⟩ = some u ∧ w.cell? ⟨gx, i, none⟩ = some (.int .i64 (y : Nat))
/-- Equations of powers, solved. -/
theorem pow_solve {D : FD} (hD : D ∈ fieldsL) (gen gm cm : Nat) {ro bo : Option Addr} {k k1 rc bc : Nat} {xs b q : Nat → Nat} {w : World} (hk1 : k = k1 + 1) (hk : k ≤ 900) (hA : MatR ro k k1 (fun i => pwr D k (xs i)) w) (hb : Sl bo k b w) (hbq : ∀ i, i < k → b i < D.q) (hM : ModAt D (.slice (some ⟨gm, 0, none⟩) (D.m + 1) cm) D.md w)
    (hs : ∀ (kr : Nat) (R : Nat → Nat → Nat) (p : Nat → Nat), RRE D (k + 1) kr R p → (∀ v, Spn D (RowsOf kr R) v ↔ Spn D (RowsOf k (aug k (fun i => pwr D k (xs i)) b)) v) → (∀ i, i < kr → p i ≠ k) ∧ ∀ i, i < k → slx R p k kr i = q i) :
    Calls Try.prog 55 #[.agg #[.int .i64 D.q, .int .i64 D.p, .int .i64 D.m, .int .i64 gen, .slice (some ⟨gm, 0, none⟩) (D.m + 1) cm], .slice ro k rc, .slice bo k bc] w fun e w' => ∃ g, e = .returned (.tuple #[.slice (some ⟨g, 0, none⟩) k k, .bool true]) ∧ w.heap.size ≤ g ∧ Row g k q w' ∧ Below w.heap.size w w' := by
  have F := fld hD
  refine (rsolve_row hD gen gm cm (L := k) (n := k1) hk1 (by omega) (by omega) (by omega) (fun i _ => ⟨pwr_el F _ _, by rw [← hk1]; exact pwr_bd D k (xs i)⟩) hA hb hbq hM).mono ?_
  rintro e w' ⟨h1, kr, R, p, h2, h3, h4, h5⟩
  have h6 := hs kr R p h3 h4
  rcases h5 with ⟨⟨i, hi, e⟩, _⟩ | ⟨_, g, rfl, h7, h8⟩
  · exact absurd e (h6.1 i hi)
  · exact ⟨g, rfl, h7, h8.congr (fun i hi => h6.2 i hi), h1⟩

set_option maxHeartbeats 16000000 in
set_option maxRecDepth 100000 in
theorem rfileOf_any {D : FD} (hD : D ∈ fieldsL) (gen gm cm : Nat) {n k k1 d d1 nc hc : Nat} {no ho : Option Addr} {xs : Nat → Nat} {H : Nat → Nat → Nat} {w : World} (hd1 : d = d1 + 1) (hk1 : k = k1 + 1) (hk : k ≤ d) (hd : d ≤ 15) (hn : n ≤ D.q) (hn64 : n ≤ 64) (hx : ∀ i, i < k → xs i < n) (hne : ∀ i j, i < k → j < k → i ≠ j → xs i ≠ xs j) (hHe : ∀ i, i < k → El D (H i))
    (hX : Arg no k nc (fun j => ((xs j : Nat) : Int)) w) (hH : MatR ho k d1 H w) (hM : ModAt D (.slice (some ⟨gm, 0, none⟩) (D.m + 1) cm) D.md w) :
    Calls Try.prog 50 #[.agg #[.int .i64 D.q, .int .i64 D.p, .int .i64 D.m, .int .i64 gen, .slice (some ⟨gm, 0, none⟩) (D.m + 1) cm], .int .i64 (n : Nat), .int .i64 (k : Nat), .int .i64 (d : Nat), .slice no k nc, .slice ho k hc] w (FoP D k d xs H w) := by
  obtain ⟨Q, hQ⟩ := fnd_ex hD hk (fun i hi => by have := hx i hi; omega) hne hHe
  obtain ⟨cf, hcf1, hcf2⟩ := file_ex2 (zero_lt' (fld hD)) k d (fun i j => Q j i) (fun i j => hQ.el j i)
  have HCf : Hid ((∀ i j, i < k → i ≤ j → j < d → cf (plr k d i j) = Q j i) ∧ El D cf) := ⟨hcf1, hcf2⟩
  obtain ⟨nf, hnf⟩ : ∃ nf, nf = fsz k d := ⟨_, rfl⟩
  have HNF : Hid (nf = fsz k d ∧ nf ≤ 1000) := ⟨hnf, by have h := fsz_le hk hd; rw [hnf]; unfold fsz; omega⟩
  clear hcf1 hcf2 hnf
  obtain ⟨wa, hwa⟩ : ∃ wa, wa = w.alloc (.cells #[.int .i64 D.q, .int .i64 D.p, .int .i64 D.m, .int .i64 gen, .slice (some ⟨gm, 0, none⟩) (D.m + 1) cm] 31) := ⟨_, rfl⟩
  have hba : Below w.heap.size w wa := by rw [hwa]; exact (Below.refl _ _).alloc (Nat.le_refl _) _
  have hsa : wa.heap.size = w.heap.size + 1 := by rw [hwa]; simp
  have HX : Hid (Box w.heap.size D gen (.slice (some ⟨gm, 0, none⟩) (D.m + 1) cm) wa ∧ wa.heap.size = w.heap.size + 1 ∧ Below w.heap.size w wa ∧ ModAt D (.slice (some ⟨gm, 0, none⟩) (D.m + 1) cm) D.md wa ∧ D ∈ fieldsL ∧ Arg no k nc (fun j => ((xs j : Nat) : Int)) wa ∧ MatR ho k d1 H wa) := ⟨by rw [hwa]; exact box_new D gen _ w, hsa, hba, hM.below hba, hD, hX.below hba, hH.below hba⟩
  have HBx : Hid (∀ wx, Below wa.heap.size wa wx → Box w.heap.size D gen (.slice (some ⟨gm, 0, none⟩) (D.m + 1) cm) wx) := fun wx hb => HX.out.1.below (B := wa.heap.size) hb (by omega)
  have HQ : Hid (Fnd D k d xs H Q ∧ (∀ i, i < k → xs i < D.q) ∧ (∀ i j, i < k → j < k → i ≠ j → xs i ≠ xs j) ∧ (∀ i, i < k → El D (H i)) ∧ ∀ i, i < k → xs i < n) := ⟨hQ, fun i hi => by have := hx i hi; omega, hne, hHe, hx⟩
  have HN1 : Hid (d = d1 + 1 ∧ k = k1 + 1) := ⟨hd1, hk1⟩
  clear hD hba hsa hM hX hH hQ hne hHe hx hd1 hk1
  go_enter Try.func50, Try.ntmps50
  go_wp2
  rw [← hwa]
  clear hwa
  go_loopw [14, 15] (fun vp vi wr => ∃ i : Nat, i ≤ k ∧ vi = .int .i64 (i : Nat) ∧ Hid (LLs wa.heap.size vp (rl i k1 fun a => pwr D k (xs a)) wr ∧ Below wa.heap.size wa wr)) (fun _ vi _ => k - (intOf vi).toNat)
  case atStart => exact ⟨0, by omega, rfl, LLs.nil _ _, Below.refl _ _⟩
  case round =>
    obtain ⟨i, hi, rfl, HG⟩ := hrel
    rename World => wr
    by_cases hlt : i < k
    · have hib : (i : Int) < (k : Int) := by omega
      obtain ⟨k0, k1', k2, k3, k4⟩ := HBx.out _ HG.out.2
      obtain ⟨bx, ox, rfl, hcx⟩ := (HX.out.2.2.2.2.2.1.below HG.out.2).sl i hlt
      replace hcx : wr.cell? ⟨bx, ox + i, none⟩ = some (.int .i64 (xs i : Nat)) := hcx
      obtain ⟨x, hx⟩ : ∃ x, x = xs i := ⟨_, rfl⟩
      rw [← hx] at hcx
      have hxq : x < D.q := by rw [hx]; exact HQ.out.2.1 i hlt
      have HP : Hid (∀ q, Calls Try.prog 23 #[.agg #[.int .i64 D.q, .int .i64 D.p, .int .i64 D.m, .int .i64 gen, .slice (some ⟨gm, 0, none⟩) (D.m + 1) cm], .int .i64 (x : Nat), .int .i64 (k : Nat)] (wr.drewN q) fun e w' => ∃ v, e = .returned v ∧ OwnI wr.heap.size v (zl k fun j => ((D.xp x j : Nat) : Int)) w' ∧ Below wr.heap.size (wr.drewN q) w') := fun q => rpowers_any HX.out.2.2.2.2.1 gen gm cm hxq (by omega) ((HX.out.2.2.2.1.below HG.out.2).below (below_drewN2 (Below.refl _ _) q))
      have HXe : Hid (x = xs i) := hx
      have hi0 : (0 : Int) ≤ (i : Int) := by omega
      have hS0 : PwS w.heap.size D gen gm cm bx (ox + i) x wr.drew := ⟨k0, k1', k2, k3, k4, hcx⟩
      have HSk : Hid (∀ wx, Below wr.heap.size wr wx → PwS w.heap.size D gen gm cm bx (ox + i) x wx) := fun wx hb => by
        obtain ⟨c0, c1, c2, c3, c4⟩ := HBx.out wx (bel_up' HG.out.2 hb)
        exact ⟨c0, c1, c2, c3, c4, ((bcell hb).1 _ _ (cell_lt hcx)).trans hcx⟩
      have HSa : Hid (∀ wx, Below wa.heap.size wa wx → PwS w.heap.size D gen gm cm bx (ox + i) x wx) := fun wx hb => by
        obtain ⟨c0, c1, c2, c3, c4⟩ := HBx.out wx hb
        obtain ⟨b', o', e', hc'⟩ := (HX.out.2.2.2.2.2.1.below hb).sl i hlt
        cases e'
        rw [HXe.out]
        exact ⟨c0, c1, c2, c3, c4, hc'⟩
      clear hx
      go_wp2
      refine wp_region_noPanic ?_
      refine wp_region_L (S := PwS w.heap.size D gen gm cm bx (ox + i) x) [] (by kernel_rfl) ?_
      refine wpAnyL_take (i := 0) (v := ?_) (by rw [List.getElem?_toArray]; rfl) (by decide +kernel) (by decide +kernel) (by decide +kernel) (by decide +kernel) (by decide +kernel) (fun _ _ _ h => h) hS0 (Or.inl ⟨by rfl, ?_⟩) ?_
      rotate_left
      · intro wz hSz; obtain ⟨z0, z1, z2, z3, z4, z5⟩ := hSz; go_simp; first | done | with_reducible rfl | (simp only [hi0, hib, and_self, if_true, Int.toNat_natCast]; first | done | with_reducible rfl) | (simp [hi0, hib]; first | done | with_reducible rfl)
      try simp only [Act.put, List.setIfInBounds_toArray, List.set_cons_zero, List.set_cons_succ]
      refine wpAnyL_take (i := 1) (v := ?_) (by rw [List.getElem?_toArray]; rfl) (by decide +kernel) (by decide +kernel) (by decide +kernel) (by decide +kernel) (by decide +kernel) (fun _ _ _ h => h) hS0 (Or.inl ⟨by rfl, ?_⟩) ?_
      rotate_left
      · intro wz hSz; obtain ⟨z0, z1, z2, z3, z4, z5⟩ := hSz; go_simp; first | done | with_reducible rfl | (simp only [hi0, hib, and_self, if_true, Int.toNat_natCast]; first | done | with_reducible rfl) | (simp [hi0, hib]; first | done | with_reducible rfl)
      try simp only [Act.put, List.setIfInBounds_toArray, List.set_cons_zero, List.set_cons_succ]
      refine wpAnyL_take (i := 2) (v := ?_) (by rw [List.getElem?_toArray]; rfl) (by decide +kernel) (by decide +kernel) (by decide +kernel) (by decide +kernel) (by decide +kernel) (fun _ _ _ h => h) hS0 (Or.inl ⟨by rfl, ?_⟩) ?_
      rotate_left
      · intro wz hSz; obtain ⟨z0, z1, z2, z3, z4, z5⟩ := hSz; go_simp; first | done | with_reducible rfl | (simp only [hi0, hib, and_self, if_true, Int.toNat_natCast]; first | done | with_reducible rfl) | (simp [hi0, hib]; first | done | with_reducible rfl)
      try simp only [Act.put, List.setIfInBounds_toArray, List.set_cons_zero, List.set_cons_succ]
      refine wpAnyL_take (i := 3) (v := ?_) (by rw [List.getElem?_toArray]; rfl) (by decide +kernel) (by decide +kernel) (by decide +kernel) (by decide +kernel) (by decide +kernel) (fun _ _ _ h => h) hS0 (Or.inl ⟨by rfl, ?_⟩) ?_
      rotate_left
      · intro wz hSz; obtain ⟨z0, z1, z2, z3, z4, z5⟩ := hSz; go_simp; first | done | with_reducible rfl | (simp only [hi0, hib, and_self, if_true, Int.toNat_natCast]; first | done | with_reducible rfl) | (simp [hi0, hib]; first | done | with_reducible rfl)
      try simp only [Act.put, List.setIfInBounds_toArray, List.set_cons_zero, List.set_cons_succ]
      refine wpAnyL_take (i := 4) (v := ?_) (by rw [List.getElem?_toArray]; rfl) (by decide +kernel) (by decide +kernel) (by decide +kernel) (by decide +kernel) (by decide +kernel) (fun _ _ _ h => h) hS0 (Or.inl ⟨by rfl, ?_⟩) ?_
      rotate_left
      · intro wz hSz; obtain ⟨z0, z1, z2, z3, z4, z5⟩ := hSz; go_simp; first | done | with_reducible rfl | (simp only [hi0, hib, and_self, if_true, Int.toNat_natCast]; first | done | with_reducible rfl) | (simp [hi0, hib]; first | done | with_reducible rfl)
      try simp only [Act.put, List.setIfInBounds_toArray, List.set_cons_zero, List.set_cons_succ]
      refine wpAnyL_take (i := 5) (v := ?_) (by rw [List.getElem?_toArray]; rfl) (by decide +kernel) (by decide +kernel) (by decide +kernel) (by decide +kernel) (by decide +kernel) (fun _ _ _ h => h) hS0 (Or.inl ⟨by rfl, ?_⟩) ?_
      rotate_left
      · intro wz hSz; obtain ⟨z0, z1, z2, z3, z4, z5⟩ := hSz; go_simp; first | done | with_reducible rfl | (simp only [hi0, hib, and_self, if_true, Int.toNat_natCast]; first | done | with_reducible rfl) | (simp [hi0, hib]; first | done | with_reducible rfl)
      try simp only [Act.put, List.setIfInBounds_toArray, List.set_cons_zero, List.set_cons_succ]
      refine wpAnyL_take (i := 6) (v := ?_) (by rw [List.getElem?_toArray]; rfl) (by decide +kernel) (by decide +kernel) (by decide +kernel) (by decide +kernel) (by decide +kernel) (fun _ _ _ h => h) hS0 (Or.inl ⟨by rfl, ?_⟩) ?_
      rotate_left
      · intro wz hSz; obtain ⟨z0, z1, z2, z3, z4, z5⟩ := hSz; go_simp; first | done | with_reducible rfl | (simp only [hi0, hib, and_self, if_true, Int.toNat_natCast]; first | done | with_reducible rfl) | (simp [hi0, hib]; first | done | with_reducible rfl)
      try simp only [Act.put, List.setIfInBounds_toArray, List.set_cons_zero, List.set_cons_succ]
      refine wpAnyL_one (i := 7) (by kernel_rfl) (by rw [List.getElem?_toArray]; rfl) (fun K hK => ?_)
      have HK : Hid _ := hK
      clear hK
      go_simp
      refine (HP.out 1).mono ?_
      rintro e w2 ⟨v2, rfl, hown2, hb2⟩
      replace hb2 : Below wr.heap.size wr w2 := ⟨hb2.os, hb2.tape, hb2.output, hb2.size, hb2.block⟩
      have hel : Elm v2 (k1, pwr D k (xs i)) w2 := by
        have e1 : (zl k fun j => ((D.xp x j : Nat) : Int)) = zl (k1 + 1) fun j => ((pwr D k (xs i) j : Nat) : Int) := by
          rw [← HN1.out.2, HXe.out]
          exact zl_congr (fun j hj => by unfold pwr; rw [if_pos hj])
        rw [e1] at hown2
        exact (elm_of_own hown2).1
      have HE : Hid (Elm v2 (k1, pwr D k (xs i)) w2 ∧ Below wr.heap.size wr w2) := ⟨hel, hb2⟩
      obtain ⟨l, hl1, hl2⟩ := HG.out.1
      have HL : Hid (OwnV wa.heap.size u14 l w2 ∧ Elms l (rl i k1 fun a => pwr D k (xs a)) w2) := ⟨hl1.below hb2 (Nat.le_refl _), hl2.below hb2 (Nat.le_refl _)⟩
      have hll : l.length + 1 ≤ 1000000 := by rw [hl2.1, rl_len]; omega
      have hs2 := HG.out.2.size
      have hs3 := hb2.size
      obtain ⟨g2, cap2, rfl, _⟩ := hel
      have hS2 := HSk.out w2 hb2
      clear hown2 hb2 hl1 hl2
      refine HK.out _ _ (fun _ => hS2) ?_
      clear HK K
      refine wpAnyL_one (i := 8) (by kernel_rfl) (by rw [List.getElem?_toArray]; rfl) (fun K hK => ?_)
      have HK : Hid _ := hK
      clear hK
      go_simp
      obtain ⟨w3, hw3⟩ : ∃ w3, w3 = w2.alloc (.cells #[.slice (some ⟨g2, 0, none⟩) (k1 + 1) cap2] 22) := ⟨_, rfl⟩
      have G3 : Hid (Below w2.heap.size w2 w3 ∧ w3.cell? ⟨w2.heap.size, 0, none⟩ = some (.slice (some ⟨g2, 0, none⟩) (k1 + 1) cap2)) := by
        rw [hw3]; exact ⟨(Below.refl _ _).alloc (Nat.le_refl _) _, by simp⟩
      have hS3 := HSk.out w3 (bel_up' HE.out.2 G3.out.1)
      first | rw [← hw3] | skip
      clear hw3
      refine HK.out _ _ (fun _ => hS3) ?_
      clear HK K
      try simp only [Act.put, List.setIfInBounds_toArray, List.set_cons_zero, List.set_cons_succ]
      refine wpAnyL_one (i := 9) (by kernel_rfl) (by rw [List.getElem?_toArray]; rfl) (fun K hK => ?_)
      refine step_append_sls (by rfl) _ _ (by rfl) wa.heap.size u14 l (by rfl) (HL.out.1.below G3.out.1 (Nat.le_refl _)) (some ⟨w2.heap.size, 0, none⟩) 1 1 (fun _ => .slice (some ⟨g2, 0, none⟩) (k1 + 1) cap2) (by rfl) (SlV.one G3.out.2) (fun _ _ => rfl) (fun e => by cases e) hll (by have := G3.out.1.size; omega) wa (bel_up' (bel_up' HG.out.2 HE.out.2) G3.out.1) (Nat.le_refl _) ?_
      intro v' w4 hown4 hgrow4 hb4
      have H4 : Hid (LLs wa.heap.size v' (rl (i + 1) k1 fun a => pwr D k (xs a)) w4 ∧ Below wa.heap.size wa w4) := by
        refine ⟨?_, hb4⟩
        rw [rl_succ]
        exact LLs.push (HL.out.1.below G3.out.1 (Nat.le_refl _)) (HL.out.2.below G3.out.1 (Nat.le_refl _)) (HE.out.1.below G3.out.1 (Nat.le_refl _)) hown4 hgrow4
      have hS4 := HSa.out w4 hb4
      refine hK _ _ (fun _ => hS4) ?_
      clear hK K
      clear hown4 hgrow4 hb4
      refine wpAnyL_one (i := 10) (by kernel_rfl) (by rw [List.getElem?_toArray]; rfl) (fun K hK => ?_)
      have HK : Hid _ := hK
      clear hK
      go_simp
      refine HK.out _ _ (fun _ => hS4) ?_
      clear HK K
      refine wpAnyL_done (by kernel_rfl) (NoPanic.normal ?_)
      go_wp2
      go_roundw
      case rel => exact ⟨i + 1, by omega, by go_num, H4.out⟩
      case measure => simp [intOf]; omega
    · have e : k = i := by omega
      subst e
      obtain ⟨ro, rc, vs, rfl, hro⟩ := HG.out.1.rws
      have H1 : Hid (MatR ro k k1 (fun a => pwr D k (xs a)) wr ∧ Below wa.heap.size wa wr) := ⟨hro.matR, HG.out.2⟩
      clear hro HG
      go_wp2_with (at_make; refine make_sls rfl _ _ rfl _ k rfl rfl rfl (by omega) ?_; intro w1 hrow1 hgrow1)
      have HF0 : Hid (FrS w1.heap.size wr.heap.size k (fun _ => []) (fun _ => .slice none 0 0) w1 ∧ Below wr.heap.size wr w1) := ⟨FrS.new hrow1, below_grown hgrow1 (Nat.le_refl _) (fun k hk => by simp at hk)⟩
      clear hrow1 hgrow1
      obtain ⟨b1, hb1e⟩ : ∃ b1, b1 = w1.heap.size := ⟨_, rfl⟩
      obtain ⟨G1, hG1e⟩ : ∃ G1, G1 = wr.heap.size := ⟨_, rfl⟩
      have HF : Hid (FrS b1 G1 k (fun i => zl (k - k) fun c => ((Q (k + c) i : Nat) : Int)) (fun _ => .slice none 0 0) w1 ∧ Below wr.heap.size wr w1 ∧ G1 = wr.heap.size) := by
        rw [hb1e, hG1e, Nat.sub_self]; exact ⟨HF0.out.1, HF0.out.2, rfl⟩
      rw [← hG1e]
      clear HF0 hb1e hG1e
      have HG1 : Hid (wr.heap.size ≤ G1 ∧ G1 < b1) := ⟨by have := HF.out.2.2; show wr.heap.size ≤ G1; omega, HF.out.1.lt⟩
      go_wp2
      go_loopw [17] (fun vj wq => ∃ (j : Nat) (us : Nat → Value), k ≤ j ∧ j ≤ d ∧ vj = .int .i64 (j : Nat) ∧ Hid (FrS b1 G1 k (fun i => zl (j - k) fun c => ((Q (k + c) i : Nat) : Int)) us wq ∧ Below wr.heap.size wr wq)) (fun vj _ => d - (intOf vj).toNat)
      case atStart => exact ⟨k, _, by omega, by omega, rfl, HF.out.1, HF.out.2.1⟩
      case round =>
        clear HF
        obtain ⟨j, us, hj1, hj2, rfl, HJ⟩ := hrel
        rename World => wq
        by_cases hjd : j < d
        · have hjb : (j : Int) < (d : Int) := by omega
          go_wp2
          go_loopw [18, 19] (fun vb vi wz => ∃ i : Nat, i ≤ k ∧ vi = .int .i64 (i : Nat) ∧ Hid (OwnI wq.heap.size vb (zl i fun t => ((H t j : Nat) : Int)) wz ∧ Below wq.heap.size wq wz)) (fun _ vi _ => k - (intOf vi).toNat)
          case atStart => exact ⟨0, by omega, rfl, OwnI.nil _ _, Below.refl _ _⟩
          case round =>
            obtain ⟨i, hi, rfl, HI⟩ := hrel
            rename World => wz
            have hbz : Below wa.heap.size wa wz := bel_up' (bel_up' H1.out.2 HJ.out.2) HI.out.2
            by_cases hlt : i < k
            · have hib : (i : Int) < (k : Int) := by omega
              obtain ⟨bh, oh, uh, rfl, hch, Ah, cah, rfl, hslh, _⟩ := (HX.out.2.2.2.2.2.2.below hbz) i hlt
              obtain ⟨by', oy, rfl, hcy⟩ := hslh j (by have := HN1.out.1; omega)
              rw [← HN1.out.1] at hch
              obtain ⟨y, hy⟩ : ∃ y, y = H i j := ⟨_, rfl⟩
              rw [← hy] at hcy
              have HYe : Hid (y = H i j) := hy
              have hsz := HI.out.2.size
              clear hy hslh hbz
              go_wp2_with (at_builtin; refine append_int rfl _ _ rfl wq.heap.size _ (zl i fun t => ((H t j : Nat) : Int)) rfl (HI.out.1.alloc _) ⟨_, 0, none⟩ 1 (y : Nat) rfl (by simp) (by rw [zl_len]; omega) (by simp; omega) ?_; intro v5 w5 hown5 hgrow5)
              go_roundw
              case rel => exact ⟨i + 1, by omega, by go_num, by rw [zl_succ, ← HYe.out]; exact hown5, (HI.out.2.alloc hsz _).grown hgrow5 (by simp; omega) (fun x hx => (HI.out.1.lt x hx).1)⟩
              case measure => simp [intOf]; omega
            · have hib : ¬ (i : Int) < (k : Int) := by omega
              have e : k = i := by omega
              subst e
              obtain ⟨bo, bc, rfl, hArg⟩ := HI.out.1.argN (by omega)
              obtain ⟨k0, k1', k2, k3, k4⟩ := HBx.out _ hbz
              have HSv : Hid (Calls Try.prog 55 #[.agg #[.int .i64 D.q, .int .i64 D.p, .int .i64 D.m, .int .i64 gen, .slice (some ⟨gm, 0, none⟩) (D.m + 1) cm], .slice ro k rc, .slice bo k bc] wz fun e w' => ∃ g, e = .returned (.tuple #[.slice (some ⟨g, 0, none⟩) k k, .bool true]) ∧ wz.heap.size ≤ g ∧ Row g k (Q j) w' ∧ Below wz.heap.size wz w') :=
                pow_solve HX.out.2.2.2.2.1 gen gm cm HN1.out.2 (by omega) ((H1.out.1.below HJ.out.2).below HI.out.2) (b := fun t => H t j) hArg.sl (fun i hi => HQ.out.2.2.2.1 i hi j) (HX.out.2.2.2.1.below hbz) (fun kr R p h1 h2 => HQ.out.1.solve_far HX.out.2.2.2.2.1 HQ.out.2.1 HQ.out.2.2.1 HQ.out.2.2.2.1 hj1 hjd h1 h2)
              clear hArg hbz
              go_wp2_with fail
              refine HSv.out.mono ?_
              rintro e wy ⟨gx, rfl, hge, hrow, hby⟩
              have HY0 : Hid (FrS b1 G1 k (fun a => if a < 0 then zl (j - k + 1) fun c => ((Q (k + c) a : Nat) : Int) else zl (j - k) fun c => ((Q (k + c) a : Nat) : Int)) us wy ∧ Below wr.heap.size wr wy ∧ Row gx k (Q j) wy ∧ ∀ a, a < k → (us a).ownBlock ≠ some gx) := by
                refine ⟨((HJ.out.1.below HI.out.2).below hby).congr (fun a _ => by rw [if_neg (by omega)]), bel_up' (bel_up' HJ.out.2 HI.out.2) hby, hrow, fun a ha e => ?_⟩
                have := ((HJ.out.1.row a ha).lt gx e).2
                have := HI.out.2.size
                omega
              have HGl : Hid (G1 < gx) := by have h1 := HJ.out.1.outer.lt; have := HI.out.2.size; show G1 < gx; omega
              clear hrow hby k0 k1' k2 k3 k4
              go_wp2
              go_loopw [22] (fun vi wz2 => ∃ (i : Nat) (us2 : Nat → Value), i ≤ k ∧ vi = .int .i64 (i : Nat) ∧ Hid (FrS b1 G1 k (fun a => if a < i then zl (j - k + 1) fun c => ((Q (k + c) a : Nat) : Int) else zl (j - k) fun c => ((Q (k + c) a : Nat) : Int)) us2 wz2 ∧ Below wr.heap.size wr wz2 ∧ Row gx k (Q j) wz2 ∧ ∀ a, a < k → (us2 a).ownBlock ≠ some gx)) (fun vi _ => k - (intOf vi).toNat)
              case atStart => exact ⟨0, us, by omega, rfl, HY0.out⟩
              case round =>
                clear HY0
                obtain ⟨i, us, hi, rfl, HZ⟩ := hrel
                rename World => wz
                by_cases hlt : i < k
                · have hib : (i : Int) < (k : Int) := by omega
                  have hi0 : (0 : Int) ≤ (i : Int) := by omega
                  obtain ⟨Lz, hLz⟩ : ∃ Lz : Nat → List Int, Lz = fun a => if a < i then zl (j - k + 1) fun c => ((Q (k + c) a : Nat) : Int) else zl (j - k) fun c => ((Q (k + c) a : Nat) : Int) := ⟨_, rfl⟩
                  obtain ⟨y, hy⟩ : ∃ y, y = Q j i := ⟨_, rfl⟩
                  have HLz : Hid (Lz i ++ [((y : Nat) : Int)] = zl (j - k + 1) fun c => ((Q (k + c) i : Nat) : Int)) := by
                    show _ = _
                    rw [hLz]
                    simp only [if_neg (Nat.lt_irrefl i)]
                    rw [zl_succ, hy, show k + (j - k) = j by omega]
                  have HLl : Hid ((Lz i).length ≤ 1000000) := by
                    show (Lz i).length ≤ 1000000
                    rw [hLz]
                    simp only [if_neg (Nat.lt_irrefl i)]
                    rw [zl_len]; omega
                  have HLe : Hid (∀ a, a ≠ i → (if a < i + 1 then zl (j - k + 1) fun c => ((Q (k + c) a : Nat) : Int) else zl (j - k) fun c => ((Q (k + c) a : Nat) : Int)) = Lz a) := fun a ha => by
                    rw [hLz]
                    by_cases c : a < i
                    · simp only [if_pos c, if_pos (show a < i + 1 by omega)]
                    · simp only [if_neg c, if_neg (show ¬ a < i + 1 by omega)]
                  have HFz : Hid (FrS b1 G1 k Lz us wz) := by rw [hLz]; exact HZ.out.1
                  have HGx : Hid ((us i).ownBlock ≠ some gx) := HZ.out.2.2.2 i hlt
                  have HRx : Hid (Row gx k (Q j) wz) := HZ.out.2.2.1
                  have HBz : Hid (Below wr.heap.size wr wz) := HZ.out.2.1
                  have hcu := HFz.out.outer.cell i hlt
                  have hcx := HRx.out.cell i hlt
                  rw [← hy] at hcx
                  have hS0 : RwS G1 i gx y (us i) wz.drew := ⟨hcu, hcx⟩
                  have HSk : Hid (∀ wx, Below wz.heap.size wz wx → RwS G1 i gx y (us i) wx) := fun wx hb => ⟨((bcell hb).1 _ _ (cell_lt hcu)).trans hcu, ((bcell hb).1 _ _ (cell_lt hcx)).trans hcx⟩
                  have HYe : Hid (y = Q j i) := hy
                  clear hLz hy
                  go_wp2
                  refine wp_region_noPanic ?_
                  refine wp_region_L (S := RwS G1 i gx y (us i)) [13] (by kernel_rfl) ?_
                  refine wpAnyL_take (i := 0) (v := ?_) (by rw [List.getElem?_toArray]; rfl) (by decide +kernel) (by decide +kernel) (by decide +kernel) (by decide +kernel) (by decide +kernel) (fun _ _ _ h => h) hS0 (Or.inl ⟨by rfl, ?_⟩) ?_
                  rotate_left
                  · intro wz hSz; obtain ⟨z0, z1⟩ := hSz; go_simp; first | done | with_reducible rfl | (simp only [hi0, hib, and_self, if_true, Int.toNat_natCast]; first | done | with_reducible rfl) | (simp [hi0, hib]; first | done | with_reducible rfl)
                  try simp only [Act.put, List.setIfInBounds_toArray, List.set_cons_zero, List.set_cons_succ]
                  refine wpAnyL_take (i := 1) (v := ?_) (by rw [List.getElem?_toArray]; rfl) (by decide +kernel) (by decide +kernel) (by decide +kernel) (by decide +kernel) (by decide +kernel) (fun _ _ _ h => h) hS0 (Or.inl ⟨by rfl, ?_⟩) ?_
                  rotate_left
                  · intro wz hSz; obtain ⟨z0, z1⟩ := hSz; go_simp; first | done | with_reducible rfl | (simp only [hi0, hib, and_self, if_true, Int.toNat_natCast]; first | done | with_reducible rfl) | (simp [hi0, hib]; first | done | with_reducible rfl)
                  try simp only [Act.put, List.setIfInBounds_toArray, List.set_cons_zero, List.set_cons_succ]
                  refine wpAnyL_take (i := 2) (v := ?_) (by rw [List.getElem?_toArray]; rfl) (by decide +kernel) (by decide +kernel) (by decide +kernel) (by decide +kernel) (by decide +kernel) (fun _ _ _ h => h) hS0 (Or.inl ⟨by rfl, ?_⟩) ?_
                  rotate_left
                  · intro wz hSz; obtain ⟨z0, z1⟩ := hSz; go_simp; first | done | with_reducible rfl | (simp only [hi0, hib, and_self, if_true, Int.toNat_natCast]; first | done | with_reducible rfl) | (simp [hi0, hib]; first | done | with_reducible rfl)
                  try simp only [Act.put, List.setIfInBounds_toArray, List.set_cons_zero, List.set_cons_succ]
                  refine wpAnyL_take (i := 3) (v := ?_) (by rw [List.getElem?_toArray]; rfl) (by decide +kernel) (by decide +kernel) (by decide +kernel) (by decide +kernel) (by decide +kernel) (fun _ _ _ h => h) hS0 (Or.inl ⟨by rfl, ?_⟩) ?_
                  rotate_left
                  · intro wz hSz; obtain ⟨z0, z1⟩ := hSz; go_simp; first | done | with_reducible rfl | (simp only [hi0, hib, and_self, if_true, Int.toNat_natCast]; first | done | with_reducible rfl) | (simp [hi0, hib]; first | done | with_reducible rfl)
                  try simp only [Act.put, List.setIfInBounds_toArray, List.set_cons_zero, List.set_cons_succ]
                  refine wpAnyL_take (i := 4) (v := ?_) (by rw [List.getElem?_toArray]; rfl) (by decide +kernel) (by decide +kernel) (by decide +kernel) (by decide +kernel) (by decide +kernel) (fun _ _ _ h => h) hS0 (Or.inl ⟨by rfl, ?_⟩) ?_
                  rotate_left
                  · intro wz hSz; obtain ⟨z0, z1⟩ := hSz; go_simp; first | done | with_reducible rfl | (simp only [hi0, hib, and_self, if_true, Int.toNat_natCast]; first | done | with_reducible rfl) | (simp [hi0, hib]; first | done | with_reducible rfl)
                  try simp only [Act.put, List.setIfInBounds_toArray, List.set_cons_zero, List.set_cons_succ]
                  refine wpAnyL_take (i := 5) (v := ?_) (by rw [List.getElem?_toArray]; rfl) (by decide +kernel) (by decide +kernel) (by decide +kernel) (by decide +kernel) (by decide +kernel) (fun _ _ _ h => h) hS0 (Or.inl ⟨by rfl, ?_⟩) ?_
                  rotate_left
                  · intro wz hSz; obtain ⟨z0, z1⟩ := hSz; go_simp; first | done | with_reducible rfl | (simp only [hi0, hib, and_self, if_true, Int.toNat_natCast]; first | done | with_reducible rfl) | (simp [hi0, hib]; first | done | with_reducible rfl)
                  try simp only [Act.put, List.setIfInBounds_toArray, List.set_cons_zero, List.set_cons_succ]
                  refine wpAnyL_take (i := 6) (v := ?_) (by rw [List.getElem?_toArray]; rfl) (by decide +kernel) (by decide +kernel) (by decide +kernel) (by decide +kernel) (by decide +kernel) (fun _ _ _ h => h) hS0 (Or.inl ⟨by rfl, ?_⟩) ?_
                  rotate_left
                  · intro wz hSz; obtain ⟨z0, z1⟩ := hSz; go_simp; first | done | with_reducible rfl | (simp only [hi0, hib, and_self, if_true, Int.toNat_natCast]; first | done | with_reducible rfl) | (simp [hi0, hib]; first | done | with_reducible rfl)
                  try simp only [Act.put, List.setIfInBounds_toArray, List.set_cons_zero, List.set_cons_succ]
                  refine wpAnyL_take (i := 7) (v := ?_) (by rw [List.getElem?_toArray]; rfl) (by decide +kernel) (by decide +kernel) (by decide +kernel) (by decide +kernel) (by decide +kernel) (fun _ _ _ h => h) hS0 (Or.inl ⟨by rfl, ?_⟩) ?_
                  rotate_left
                  · intro wz hSz; obtain ⟨z0, z1⟩ := hSz; go_simp; first | done | with_reducible rfl | (simp only [hi0, hib, and_self, if_true, Int.toNat_natCast]; first | done | with_reducible rfl) | (simp [hi0, hib]; first | done | with_reducible rfl)
                  try simp only [Act.put, List.setIfInBounds_toArray, List.set_cons_zero, List.set_cons_succ]
                  refine wpAnyL_take (i := 8) (v := ?_) (by rw [List.getElem?_toArray]; rfl) (by decide +kernel) (by decide +kernel) (by decide +kernel) (by decide +kernel) (by decide +kernel) (fun _ _ _ h => h) hS0 (Or.inl ⟨by rfl, ?_⟩) ?_
                  rotate_left
                  · intro wz hSz; obtain ⟨z0, z1⟩ := hSz; go_simp; first | done | with_reducible rfl | (simp only [hi0, hib, and_self, if_true, Int.toNat_natCast]; first | done | with_reducible rfl) | (simp [hi0, hib]; first | done | with_reducible rfl)
                  try simp only [Act.put, List.setIfInBounds_toArray, List.set_cons_zero, List.set_cons_succ]
                  refine wpAnyL_take (i := 9) (v := ?_) (by rw [List.getElem?_toArray]; rfl) (by decide +kernel) (by decide +kernel) (by decide +kernel) (by decide +kernel) (by decide +kernel) (fun _ _ _ h => h) hS0 (Or.inl ⟨by rfl, ?_⟩) ?_
                  rotate_left
                  · intro wz hSz; obtain ⟨z0, z1⟩ := hSz; go_simp; first | done | with_reducible rfl | (simp only [hi0, hib, and_self, if_true, Int.toNat_natCast]; first | done | with_reducible rfl) | (simp [hi0, hib]; first | done | with_reducible rfl)
                  try simp only [Act.put, List.setIfInBounds_toArray, List.set_cons_zero, List.set_cons_succ]
                  refine wpAnyL_one (i := 10) (by kernel_rfl) (by rw [List.getElem?_toArray]; rfl) (fun K hK => ?_)
                  have HK : Hid _ := hK
                  clear hK
                  go_simp
                  obtain ⟨W1, hW1⟩ : ∃ W1, W1 = wz.drew.alloc (.cells #[.int .i64 (y : Nat)] 3) := ⟨_, rfl⟩
                  have hW1' : (wz.alloc (.cells #[.int .i64 (y : Nat)] 3)).drew = W1 := by rw [hW1]; rfl
                  have G1w : Hid (Below wz.heap.size wz W1 ∧ W1.cell? ⟨wz.heap.size, 0, none⟩ = some (.int .i64 ((y : Nat) : Int))) := by
                    rw [hW1]; exact ⟨(Below.refl _ _).drew.alloc (Nat.le_refl _) _, two_cell wz.drew (.int .i64 (y : Nat))⟩
                  have hS1 := HSk.out W1 G1w.out.1
                  first | rw [hW1'] | rw [← hW1]
                  clear hW1 hW1'
                  refine HK.out _ _ (fun _ => hS1) ?_
                  clear HK K
                  try simp only [Act.put, List.setIfInBounds_toArray, List.set_cons_zero, List.set_cons_succ]
                  refine wpAnyL_one (i := 11) (by kernel_rfl) (by rw [List.getElem?_toArray]; rfl) (fun K hK => ?_)
                  refine step_append_int_at (by rfl) _ _ (by rfl) b1 (us i) (Lz i) (by rfl) ((HFz.out.below G1w.out.1).row i hlt) ⟨wz.heap.size, 0, none⟩ 1 ((y : Nat) : Int) (by rfl) G1w.out.2 HLl.out (HFz.out.below G1w.out.1).le ?_
                  intro ga ca W2 hown2 hgrow2 hat2
                  have hS2 : RwS G1 i gx y (us i) W2 := by
                    have hlt2 := HGx.out
                    exact ⟨hgrow2.cell hS1.1 (fun e => by have e2 := ((HFz.out.row i hlt).lt G1 e.symm).1; have := HFz.out.lt; omega), hgrow2.cell hS1.2 (fun e => hlt2 e.symm)⟩
                  have HP2 : Hid (FrS b1 G1 k (fun a => if a = i then Lz i ++ [((y : Nat) : Int)] else Lz a) (fun a => if a = i then .slice (some ⟨ga, 0, none⟩) ((Lz i).length + 1) ca else us a) (W2.setCell ⟨G1, i, none⟩ (.slice (some ⟨ga, 0, none⟩) ((Lz i).length + 1) ca)) ∧ Below wr.heap.size wr (W2.setCell ⟨G1, i, none⟩ (.slice (some ⟨ga, 0, none⟩) ((Lz i).length + 1) ca)) ∧ Row gx k (Q j) (W2.setCell ⟨G1, i, none⟩ (.slice (some ⟨ga, 0, none⟩) ((Lz i).length + 1) ca)) ∧ some ga ≠ some gx) := by
                    have hf1 := HFz.out.below G1w.out.1
                    have hg := HGx.out
                    have hr1 := HRx.out.below G1w.out.1 HRx.out.lt
                    refine ⟨hf1.put hlt hown2 hgrow2 hat2, hf1.put_below hlt hgrow2 (bel_up' HBz.out G1w.out.1) HG1.out.1, ?_, ?_⟩
                    · refine (hr1.other (hgrow2.block gx hr1.lt (fun e => hg e.symm))).other (Below.heap_setCell _ _ _ _ ?_)
                      show gx ≠ G1
                      have := HGl.out
                      omega
                    · rcases hat2 with e | e
                      · intro e2; exact hg (by rw [← e]; exact e2)
                      · intro e2
                        have e3 : some gx = some W1.heap.size := e2.symm.trans e
                        have e4 : gx = W1.heap.size := Option.some.inj e3
                        have := HRx.out.lt
                        have := G1w.out.1.size
                        omega
                  have hc3 := hS2.1
                  have hfr3 : W2.frozen? ⟨G1, i, none⟩ = false := by
                    have hf1 := HFz.out.below G1w.out.1
                    exact (hf1.outer.grown hgrow2 (fun e => by have := ((hf1.row i hlt).lt G1 e.symm).1; have := hf1.lt; omega)).free i
                  refine hK _ _ (fun _ => hS2) ?_
                  clear hK K
                  try simp only [Act.put, List.setIfInBounds_toArray, List.set_cons_zero, List.set_cons_succ]
                  clear hown2 hgrow2 hat2
                  refine wpAnyL_take (i := 12) (v := ?_) (by rw [List.getElem?_toArray]; rfl) (by decide +kernel) (by decide +kernel) (by decide +kernel) (by decide +kernel) (by decide +kernel) (fun _ _ _ h => h) hS2 (Or.inl ⟨by rfl, ?_⟩) ?_
                  rotate_left
                  · intro wz hSz; obtain ⟨z0, z1⟩ := hSz; go_simp; first | done | with_reducible rfl | (simp only [hi0, hib, and_self, if_true, Int.toNat_natCast]; first | done | with_reducible rfl) | (simp [hi0, hib]; first | done | with_reducible rfl)
                  try simp only [Act.put, List.setIfInBounds_toArray, List.set_cons_zero, List.set_cons_succ]
                  refine wpAnyL_one (i := 13) (by kernel_rfl) (by rw [List.getElem?_toArray]; rfl) (fun K hK => ?_)
                  have HK : Hid _ := hK
                  clear hK
                  go_simp
                  refine HK.out _ _ (fun h => absurd (by simp) h) ?_
                  clear HK K
                  refine wpAnyL_done (by kernel_rfl) (NoPanic.normal ?_)
                  clear hc3 hfr3
                  go_wp2
                  go_roundw
                  case rel =>
                    refine ⟨i + 1, _, by omega, by go_num, HP2.out.1.congr (fun a _ => ?_), HP2.out.2.1, HP2.out.2.2.1, fun a ha => ?_⟩
                    · by_cases e : a = i
                      · rw [if_pos e, HLz.out, e, if_pos (by omega)]
                      · rw [if_neg e, HLe.out a e]
                    · by_cases e : a = i
                      · simp only [if_pos e]; exact HP2.out.2.2.2
                      · simp only [if_neg e]; exact HZ.out.2.2.2 a ha
                  case measure => simp [intOf]; omega
                · have hib : ¬ (i : Int) < (k : Int) := by omega
                  have HE : Hid (FrS b1 G1 k (fun i => zl (j + 1 - k) fun c => ((Q (k + c) i : Nat) : Int)) us wz) := HZ.out.1.congr (fun a ha => by rw [if_pos (by omega), show j + 1 - k = j - k + 1 by omega])
                  go_wp2
                  go_roundw
                  case rel => exact ⟨j + 1, us, by omega, by omega, by go_num, HE.out, HZ.out.2.1⟩
                  case measure => simp [intOf]; omega
        · have hjb : ¬ (j : Int) < (d : Int) := by omega
          have e : d = j := by omega
          subst e
          have HFar : Hid (FrS b1 G1 k (fun i => zl (d - k) fun c => ((Q (k + c) i : Nat) : Int)) us wq ∧ Below wa.heap.size wa wq ∧ Below wr.heap.size wr wq) := ⟨HJ.out.1, bel_up' H1.out.2 HJ.out.2, HJ.out.2⟩
          clear HJ
          go_wp2_with (at_make; refine make_sls rfl _ _ rfl _ k rfl rfl rfl (by omega) ?_; intro w5 hrow5 hgrow5)
          have HF0 : Hid (FrS w5.heap.size wq.heap.size k (fun _ => []) (fun _ => .slice none 0 0) w5 ∧ Below wq.heap.size wq w5) := ⟨FrS.new hrow5, below_grown hgrow5 (Nat.le_refl _) (fun k hk => by simp at hk)⟩
          clear hrow5 hgrow5
          obtain ⟨b2, hb2e⟩ : ∃ b2, b2 = w5.heap.size := ⟨_, rfl⟩
          obtain ⟨G2, hG2e⟩ : ∃ G2, G2 = wq.heap.size := ⟨_, rfl⟩
          have HF : Hid (FrS b2 G2 k (fun i => zl 0 fun c => ((Q c i : Nat) : Int)) (fun _ => .slice none 0 0) w5 ∧ Below wq.heap.size wq w5 ∧ G2 = wq.heap.size) := by
            rw [hb2e, hG2e]; exact ⟨HF0.out.1, HF0.out.2, rfl⟩
          rw [← hG2e]
          clear HF0 hb2e hG2e HG1
          have HG2 : Hid (wq.heap.size ≤ G2 ∧ G2 < b2) := ⟨by have := HF.out.2.2; show wq.heap.size ≤ G2; omega, HF.out.1.lt⟩
          go_wp2
          go_loopw [24] (fun vj wt => ∃ (j : Nat) (us2 : Nat → Value), j ≤ k ∧ vj = .int .i64 (j : Nat) ∧ Hid (FrS b2 G2 k (fun i => zl j fun c => ((Q c i : Nat) : Int)) us2 wt ∧ Below wq.heap.size wq wt)) (fun vj _ => k - (intOf vj).toNat)
          case atStart => exact ⟨0, _, by omega, rfl, HF.out.1, HF.out.2.1⟩
          case round =>
            clear HF
            obtain ⟨j, us2, hj, rfl, HJ⟩ := hrel
            rename World => wt
            by_cases hjk : j < k
            · have hjb : (j : Int) < (k : Int) := by omega
              have hjd : j < d := by omega
              go_wp2
              go_loopw [25, 26] (fun vb vi wz => ∃ i : Nat, i ≤ k ∧ vi = .int .i64 (i : Nat) ∧ Hid (OwnI wt.heap.size vb (zl i fun t => ((lft D k (xs t) (H t j) (Q j) d : Nat) : Int)) wz ∧ Below wt.heap.size wt wz)) (fun _ vi _ => k - (intOf vi).toNat)
              case atStart => exact ⟨0, by omega, rfl, OwnI.nil _ _, Below.refl _ _⟩
              case round =>
                obtain ⟨i, hi, rfl, HI⟩ := hrel
                rename World => wz
                have hbz : Below wa.heap.size wa wz := bel_up' (bel_up' HFar.out.2.1 HJ.out.2) HI.out.2
                by_cases hlt : i < k
                · have hib : (i : Int) < (k : Int) := by omega
                  obtain ⟨bx, ox, rfl, hcx⟩ := (HX.out.2.2.2.2.2.1.below hbz).sl i hlt
                  replace hcx : wz.cell? ⟨bx, ox + i, none⟩ = some (.int .i64 (xs i : Nat)) := hcx
                  obtain ⟨x, hx⟩ : ∃ x, x = xs i := ⟨_, rfl⟩
                  rw [← hx] at hcx
                  have hxq : x < D.q := by rw [hx]; exact HQ.out.2.1 i hlt
                  obtain ⟨k0, k1', k2, k3, k4⟩ := HBx.out _ hbz
                  have HP : Hid (∀ q, Calls Try.prog 23 #[.agg #[.int .i64 D.q, .int .i64 D.p, .int .i64 D.m, .int .i64 gen, .slice (some ⟨gm, 0, none⟩) (D.m + 1) cm], .int .i64 (x : Nat), .int .i64 (d : Nat)] (wz.drewN q) fun e w' => ∃ v, e = .returned v ∧ OwnI wz.heap.size v (zl d fun j => ((D.xp x j : Nat) : Int)) w' ∧ Below wz.heap.size (wz.drewN q) w') := fun q => rpowers_any HX.out.2.2.2.2.1 gen gm cm hxq (by omega) ((HX.out.2.2.2.1.below hbz).below (below_drewN2 (Below.refl _ _) q))
                  have HXe : Hid (x = xs i) := hx
                  clear hx hbz
                  go_wp2
                  refine quiet_tail 6 (by kernel_rfl) (by decide +kernel) ?_
                  simp only [List.take_succ_cons, List.take_zero, List.drop_succ_cons, List.drop_zero]
                  repeat (go_big_quiet_step (fail))
                  refine wpQuiet_nil ?_
                  intro _ hw'
                  obtain ⟨nq, hw''⟩ := hw'
                  subst hw''
                  go_wp2_with fail
                  refine (HP.out nq).mono ?_
                  rintro e w6 ⟨v6, rfl, hown6, hb6⟩
                  replace hb6 : Below wz.heap.size wz w6 := ⟨hb6.os, hb6.tape, hb6.output, hb6.size, hb6.block⟩
                  obtain ⟨po, pc, rfl, hArg6⟩ := hown6.argN (by omega)
                  have H6 : Hid (Arg po d pc (fun j => ((D.xp x j : Nat) : Int)) w6 ∧ Below wz.heap.size wz w6) := ⟨hArg6, hb6⟩
                  have hbz : Below wa.heap.size wa w6 := bel_up' (bel_up' (bel_up' HFar.out.2.1 HJ.out.2) HI.out.2) hb6
                  obtain ⟨bh, oh, uh, rfl, hch, Ah, cah, rfl, hslh, _⟩ := (HX.out.2.2.2.2.2.2.below hbz) i hlt
                  obtain ⟨by', oy, rfl, hcy⟩ := hslh j (by have := HN1.out.1; omega)
                  rw [← HN1.out.1] at hch
                  obtain ⟨y, hy⟩ : ∃ y, y = H i j := ⟨_, rfl⟩
                  rw [← hy] at hcy
                  have HYe : Hid (y = H i j ∧ y < D.q) := ⟨hy, by rw [hy]; exact HQ.out.2.2.2.1 i hlt j⟩
                  clear hy hslh hbz hArg6 hb6 hown6 k0 k1' k2 k3 k4 hcx
                  have hjdb : (j : Int) < (d : Int) := by omega
                  go_wp2
                  go_loopw [28, 29] (fun vv vc wl => ∃ c v : Nat, k ≤ c ∧ c ≤ d ∧ vc = .int .i64 (c : Nat) ∧ vv = .int .i64 (v : Nat) ∧ v < D.q ∧ Hid (v = lft D k x y (Q j) c ∧ Below w6.heap.size w6 wl)) (fun _ vc _ => d - (intOf vc).toNat)
                  case atStart => exact ⟨k, y, by omega, by omega, rfl, rfl, HYe.out.2, (lft_start (fld HX.out.2.2.2.2.1) HYe.out.2 (Q j)).symm, Below.refl _ _⟩
                  case round =>
                    obtain ⟨c, v, hc1, hc2, rfl, rfl, hvq, HC⟩ := hrel
                    rename World => wl
                    by_cases hcd : c < d
                    · have hcb : (c : Int) < (d : Int) := by omega
                      have hbl : Below wa.heap.size wa wl := bel_up' (bel_up' (bel_up' (bel_up' HFar.out.2.1 HJ.out.2) HI.out.2) H6.out.2) HC.out.2
                      have hbq : Below wq.heap.size wq wl := bel_up' (bel_up' (bel_up' HJ.out.2 HI.out.2) H6.out.2) HC.out.2
                      obtain ⟨hcu, fo, fc, hus, hfA⟩ := (HFar.out.1.below hbq).at hjk rfl
                      rw [hus] at hcu
                      obtain ⟨bf, of, rfl, hcf⟩ := hfA.sl (c - k) (by omega)
                      obtain ⟨q, hq⟩ : ∃ q, q = Q j c := ⟨_, rfl⟩
                      replace hcf : wl.cell? ⟨bf, of + (c - k), none⟩ = some (.int .i64 (q : Nat)) := by
                        rw [hcf, hq, HQ.out.1.turn j c hjk hc1 hcd]
                        show some (Value.int .i64 ((Q (k + (c - k)) j : Nat) : Int)) = _
                        rw [show k + (c - k) = c by omega]
                      have hqq : q < D.q := by rw [hq]; exact HQ.out.1.el j c
                      obtain ⟨bp, op, rfl, hcp⟩ := (H6.out.1.below HC.out.2).sl c hcd
                      obtain ⟨pw, hpw⟩ : ∃ pw, pw = D.xp x c := ⟨_, rfl⟩
                      replace hcp : wl.cell? ⟨bp, op + c, none⟩ = some (.int .i64 (pw : Nat)) := by rw [hcp, hpw]
                      have hpq : pw < D.q := by rw [hpw]; exact xp_lt (fld HX.out.2.2.2.2.1) _ _
                      obtain ⟨m, hm⟩ : ∃ m, m = D.mul pw q := ⟨_, rfl⟩
                      have hmq : m < D.q := by rw [hm]; exact (fld HX.out.2.2.2.2.1).mul_lt _ _
                      obtain ⟨u, hu⟩ : ∃ u, u = D.sb v m := ⟨_, rfl⟩
                      have HU : Hid (u = lft D k x y (Q j) (c + 1) ∧ u < D.q) := ⟨by rw [hu, HC.out.1, hm, hpw, hq, lft_next (fld HX.out.2.2.2.2.1) HYe.out.2 (Q j) hc1], by rw [hu]; exact sb_lt (fld HX.out.2.2.2.2.1) hvq hmq⟩
                      have bx5 := HBx.out _ hbl
                      have k0 := cell_regrown bx5.c0
                      have k1' := cell_regrown bx5.c1
                      have k2 := cell_regrown bx5.c2
                      have k3 := cell_regrown bx5.c3
                      have k4 := cell_regrown bx5.c4
                      have k5 := cell_regrown hcu
                      have k6 := cell_regrown hcf
                      have k7 := cell_regrown hcp
                      have HC1 : Hid (∀ d os, Calls Try.prog 59 #[.agg #[.int .i64 D.q, .int .i64 D.p, .int .i64 D.m, .int .i64 gen, .slice (some ⟨gm, 0, none⟩) (D.m + 1) cm], .int .i64 (pw : Nat), .int .i64 (q : Nat)] (grow (redrawn wl d) os) fun e w'' => e = .returned (.int .i64 (m : Nat)) ∧ ∃ p : Regrown, w'' = grow (redrawn wl p.d) p.os) := fun d os => by
                        rw [hm]
                        exact Calls.regrown_of (rmul_nat HX.out.2.2.2.2.1 gen HX.out.2.2.2.1 pw q hpq hqq _ (bel_up' hbl (below_regrown wl d os)))
                      have HC2 : Hid (∀ d os, Calls Try.prog 82 #[.agg #[.int .i64 D.q, .int .i64 D.p, .int .i64 D.m, .int .i64 gen, .slice (some ⟨gm, 0, none⟩) (D.m + 1) cm], .int .i64 (v : Nat), .int .i64 (m : Nat)] (grow (redrawn wl d) os) fun e w'' => e = .returned (.int .i64 (u : Nat)) ∧ ∃ p : Regrown, w'' = grow (redrawn wl p.d) p.os) := fun d os => by
                        have h := rsub_any HX.out.2.2.2.2.1 gen (.slice (some ⟨gm, 0, none⟩) (D.m + 1) cm) (v : Nat) (m : Nat) (grow (redrawn wl d) os)
                        rw [subZ_nat (fld HX.out.2.2.2.2.1) hvq hmq, ← hu] at h
                        exact Calls.regrown_of h
                      obtain ⟨ck, hck⟩ : ∃ ck, ck = c - k := ⟨_, rfl⟩
                      have hcke : IntKind.i64.wrap ((c : Int) - (k : Int)) = (ck : Int) := wrap_to (by omega) (by omega)
                      have hckb : (ck : Int) < ((d - k : Nat) : Int) := by omega
                      rw [← hck] at k6
                      clear hm hu hpw hq hcf hcp hcu hus hfA hbl hbq bx5 hck
                      go_wp2
                      refine wp_region_quiet_below (by kernel_rfl) (by kernel_rfl) ?_
                      repeat (go_big_quiet_step (first | (go_at_call 59; exact HC1.out _ _) | (go_at_call 82; exact HC2.out _ _)))
                      refine wpQuiet_nil ?_
                      intro _ hw'
                      obtain ⟨⟨dq, osq⟩, hw''⟩ := hw'
                      subst hw''
                      have HBQ : Hid (Below w6.heap.size w6 (grow (redrawn wl dq) osq)) := bel_up' HC.out.2 (below_regrown wl dq osq)
                      clear k0 k1' k2 k3 k4 k5 k6 k7 HC1 HC2
                      go_wp2
                      go_roundw
                      case rel => exact ⟨c + 1, u, by omega, by omega, by go_num, rfl, HU.out.2, HU.out.1, HBQ.out⟩
                      case measure => simp [intOf]; omega
                    · have hcb : ¬ (c : Int) < (d : Int) := by omega
                      have HV : Hid (v = lft D k (xs i) (H i j) (Q j) d) := by show v = _; rw [HC.out.1, HXe.out, HYe.out.1, show c = d by omega]
                      have HOb : Hid (OwnI wt.heap.size u25 (zl i fun t => ((lft D k (xs t) (H t j) (Q j) d : Nat) : Int)) wl ∧ Below wt.heap.size wt wl) := by
                        have hb := bel_up' H6.out.2 HC.out.2
                        exact ⟨HI.out.1.below hb (fun x hx => (HI.out.1.lt x hx).2), bel_up' HI.out.2 hb⟩
                      have hsz := HOb.out.2.size
                      go_wp2_with (at_builtin; refine append_int rfl _ _ rfl wt.heap.size _ (zl i fun t => ((lft D k (xs t) (H t j) (Q j) d : Nat) : Int)) rfl (HOb.out.1.alloc _) ⟨_, 0, none⟩ 1 (v : Nat) rfl (by simp) (by rw [zl_len]; omega) (by simp; omega) ?_; intro v7 w7 hown7 hgrow7)
                      go_roundw
                      case rel => exact ⟨i + 1, by omega, by go_num, by rw [zl_succ, ← HV.out]; exact hown7, (HOb.out.2.alloc hsz _).grown hgrow7 (by simp; omega) (fun x hx => (HOb.out.1.lt x hx).1)⟩
                      case measure => simp [intOf]; omega
                · have hib : ¬ (i : Int) < (k : Int) := by omega
                  have e : k = i := by omega
                  subst e
                  obtain ⟨bo, bc, rfl, hArg⟩ := HI.out.1.argN (by omega)
                  obtain ⟨k0, k1', k2, k3, k4⟩ := HBx.out _ hbz
                  have hbr : Below wr.heap.size wr wz := bel_up' (bel_up' HFar.out.2.2 HJ.out.2) HI.out.2
                  have HSv : Hid (Calls Try.prog 55 #[.agg #[.int .i64 D.q, .int .i64 D.p, .int .i64 D.m, .int .i64 gen, .slice (some ⟨gm, 0, none⟩) (D.m + 1) cm], .slice ro k rc, .slice bo k bc] wz fun e w' => ∃ g, e = .returned (.tuple #[.slice (some ⟨g, 0, none⟩) k k, .bool true]) ∧ wz.heap.size ≤ g ∧ Row g k (Q j) w' ∧ Below wz.heap.size wz w') :=
                    pow_solve HX.out.2.2.2.2.1 gen gm cm HN1.out.2 (by omega) (H1.out.1.below hbr) (b := fun t => lft D k (xs t) (H t j) (Q j) d) hArg.sl (fun i hi => sb_lt (fld HX.out.2.2.2.2.1) (HQ.out.2.2.2.1 i hi j) (ev_lt (fld HX.out.2.2.2.2.1) _ _ _)) (HX.out.2.2.2.1.below hbz) (fun kr R p h1 h2 => HQ.out.1.solve_mid HX.out.2.2.2.2.1 hk HQ.out.2.1 HQ.out.2.2.1 hjk h1 h2)
                  clear hArg hbz hbr
                  go_wp2_with fail
                  refine HSv.out.mono ?_
                  rintro e wy ⟨gx, rfl, hge, hrow, hby⟩
                  have HY0 : Hid (FrS b2 G2 k (fun a => if a < 0 then zl (j + 1) fun c => ((Q c a : Nat) : Int) else zl j fun c => ((Q c a : Nat) : Int)) us2 wy ∧ Below wq.heap.size wq wy ∧ Row gx k (Q j) wy ∧ ∀ a, a < k → (us2 a).ownBlock ≠ some gx) := by
                    refine ⟨((HJ.out.1.below HI.out.2).below hby).congr (fun a _ => by rw [if_neg (by omega)]), bel_up' (bel_up' HJ.out.2 HI.out.2) hby, hrow, fun a ha e => ?_⟩
                    have := ((HJ.out.1.row a ha).lt gx e).2
                    have := HI.out.2.size
                    omega
                  have HGl : Hid (G2 < gx) := by have h1 := HJ.out.1.outer.lt; have := HI.out.2.size; show G2 < gx; omega
                  clear hrow hby k0 k1' k2 k3 k4
                  go_wp2
                  go_loopw [32] (fun vi wz2 => ∃ (i : Nat) (us2 : Nat → Value), i ≤ k ∧ vi = .int .i64 (i : Nat) ∧ Hid (FrS b2 G2 k (fun a => if a < i then zl (j + 1) fun c => ((Q c a : Nat) : Int) else zl j fun c => ((Q c a : Nat) : Int)) us2 wz2 ∧ Below wq.heap.size wq wz2 ∧ Row gx k (Q j) wz2 ∧ ∀ a, a < k → (us2 a).ownBlock ≠ some gx)) (fun vi _ => k - (intOf vi).toNat)
                  case atStart => exact ⟨0, us2, by omega, rfl, HY0.out⟩
                  case round =>
                    clear HY0
                    obtain ⟨i, us, hi, rfl, HZ⟩ := hrel
                    rename World => wz
                    by_cases hlt : i < k
                    · have hib : (i : Int) < (k : Int) := by omega
                      have hi0 : (0 : Int) ≤ (i : Int) := by omega
                      obtain ⟨Lz, hLz⟩ : ∃ Lz : Nat → List Int, Lz = fun a => if a < i then zl (j + 1) fun c => ((Q c a : Nat) : Int) else zl j fun c => ((Q c a : Nat) : Int) := ⟨_, rfl⟩
                      obtain ⟨y, hy⟩ : ∃ y, y = Q j i := ⟨_, rfl⟩
                      have HLz : Hid (Lz i ++ [((y : Nat) : Int)] = zl (j + 1) fun c => ((Q c i : Nat) : Int)) := by
                        show _ = _
                        rw [hLz]
                        simp only [if_neg (Nat.lt_irrefl i)]
                        rw [zl_succ, hy]
                      have HLl : Hid ((Lz i).length ≤ 1000000) := by
                        show (Lz i).length ≤ 1000000
                        rw [hLz]
                        simp only [if_neg (Nat.lt_irrefl i)]
                        rw [zl_len]; omega
                      have HLe : Hid (∀ a, a ≠ i → (if a < i + 1 then zl (j + 1) fun c => ((Q c a : Nat) : Int) else zl j fun c => ((Q c a : Nat) : Int)) = Lz a) := fun a ha => by
                        rw [hLz]
                        by_cases c : a < i
                        · simp only [if_pos c, if_pos (show a < i + 1 by omega)]
                        · simp only [if_neg c, if_neg (show ¬ a < i + 1 by omega)]
                      have HFz : Hid (FrS b2 G2 k Lz us wz) := by rw [hLz]; exact HZ.out.1
                      have HGx : Hid ((us i).ownBlock ≠ some gx) := HZ.out.2.2.2 i hlt
                      have HRx : Hid (Row gx k (Q j) wz) := HZ.out.2.2.1
                      have HBz : Hid (Below wq.heap.size wq wz) := HZ.out.2.1
                      have hcu := HFz.out.outer.cell i hlt
                      have hcx := HRx.out.cell i hlt
                      rw [← hy] at hcx
                      have hS0 : RwS G2 i gx y (us i) wz.drew := ⟨hcu, hcx⟩
                      have HSk : Hid (∀ wx, Below wz.heap.size wz wx → RwS G2 i gx y (us i) wx) := fun wx hb => ⟨((bcell hb).1 _ _ (cell_lt hcu)).trans hcu, ((bcell hb).1 _ _ (cell_lt hcx)).trans hcx⟩
                      have HYe : Hid (y = Q j i) := hy
                      clear hLz hy
                      go_wp2
                      refine wp_region_noPanic ?_
                      refine wp_region_L (S := RwS G2 i gx y (us i)) [13] (by kernel_rfl) ?_
                      refine wpAnyL_take (i := 0) (v := ?_) (by rw [List.getElem?_toArray]; rfl) (by decide +kernel) (by decide +kernel) (by decide +kernel) (by decide +kernel) (by decide +kernel) (fun _ _ _ h => h) hS0 (Or.inl ⟨by rfl, ?_⟩) ?_
                      rotate_left
                      · intro wz hSz; obtain ⟨z0, z1⟩ := hSz; go_simp; first | done | with_reducible rfl | (simp only [hi0, hib, and_self, if_true, Int.toNat_natCast]; first | done | with_reducible rfl) | (simp [hi0, hib]; first | done | with_reducible rfl)
                      try simp only [Act.put, List.setIfInBounds_toArray, List.set_cons_zero, List.set_cons_succ]
                      refine wpAnyL_take (i := 1) (v := ?_) (by rw [List.getElem?_toArray]; rfl) (by decide +kernel) (by decide +kernel) (by decide +kernel) (by decide +kernel) (by decide +kernel) (fun _ _ _ h => h) hS0 (Or.inl ⟨by rfl, ?_⟩) ?_
                      rotate_left
                      · intro wz hSz; obtain ⟨z0, z1⟩ := hSz; go_simp; first | done | with_reducible rfl | (simp only [hi0, hib, and_self, if_true, Int.toNat_natCast]; first | done | with_reducible rfl) | (simp [hi0, hib]; first | done | with_reducible rfl)
                      try simp only [Act.put, List.setIfInBounds_toArray, List.set_cons_zero, List.set_cons_succ]
                      refine wpAnyL_take (i := 2) (v := ?_) (by rw [List.getElem?_toArray]; rfl) (by decide +kernel) (by decide +kernel) (by decide +kernel) (by decide +kernel) (by decide +kernel) (fun _ _ _ h => h) hS0 (Or.inl ⟨by rfl, ?_⟩) ?_
                      rotate_left
                      · intro wz hSz; obtain ⟨z0, z1⟩ := hSz; go_simp; first | done | with_reducible rfl | (simp only [hi0, hib, and_self, if_true, Int.toNat_natCast]; first | done | with_reducible rfl) | (simp [hi0, hib]; first | done | with_reducible rfl)
                      try simp only [Act.put, List.setIfInBounds_toArray, List.set_cons_zero, List.set_cons_succ]
                      refine wpAnyL_take (i := 3) (v := ?_) (by rw [List.getElem?_toArray]; rfl) (by decide +kernel) (by decide +kernel) (by decide +kernel) (by decide +kernel) (by decide +kernel) (fun _ _ _ h => h) hS0 (Or.inl ⟨by rfl, ?_⟩) ?_
                      rotate_left
                      · intro wz hSz; obtain ⟨z0, z1⟩ := hSz; go_simp; first | done | with_reducible rfl | (simp only [hi0, hib, and_self, if_true, Int.toNat_natCast]; first | done | with_reducible rfl) | (simp [hi0, hib]; first | done | with_reducible rfl)
                      try simp only [Act.put, List.setIfInBounds_toArray, List.set_cons_zero, List.set_cons_succ]
                      refine wpAnyL_take (i := 4) (v := ?_) (by rw [List.getElem?_toArray]; rfl) (by decide +kernel) (by decide +kernel) (by decide +kernel) (by decide +kernel) (by decide +kernel) (fun _ _ _ h => h) hS0 (Or.inl ⟨by rfl, ?_⟩) ?_
                      rotate_left
                      · intro wz hSz; obtain ⟨z0, z1⟩ := hSz; go_simp; first | done | with_reducible rfl | (simp only [hi0, hib, and_self, if_true, Int.toNat_natCast]; first | done | with_reducible rfl) | (simp [hi0, hib]; first | done | with_reducible rfl)
                      try simp only [Act.put, List.setIfInBounds_toArray, List.set_cons_zero, List.set_cons_succ]
                      refine wpAnyL_take (i := 5) (v := ?_) (by rw [List.getElem?_toArray]; rfl) (by decide +kernel) (by decide +kernel) (by decide +kernel) (by decide +kernel) (by decide +kernel) (fun _ _ _ h => h) hS0 (Or.inl ⟨by rfl, ?_⟩) ?_
                      rotate_left
                      · intro wz hSz; obtain ⟨z0, z1⟩ := hSz; go_simp; first | done | with_reducible rfl | (simp only [hi0, hib, and_self, if_true, Int.toNat_natCast]; first | done | with_reducible rfl) | (simp [hi0, hib]; first | done | with_reducible rfl)
                      try simp only [Act.put, List.setIfInBounds_toArray, List.set_cons_zero, List.set_cons_succ]
                      refine wpAnyL_take (i := 6) (v := ?_) (by rw [List.getElem?_toArray]; rfl) (by decide +kernel) (by decide +kernel) (by decide +kernel) (by decide +kernel) (by decide +kernel) (fun _ _ _ h => h) hS0 (Or.inl ⟨by rfl, ?_⟩) ?_
                      rotate_left
                      · intro wz hSz; obtain ⟨z0, z1⟩ := hSz; go_simp; first | done | with_reducible rfl | (simp only [hi0, hib, and_self, if_true, Int.toNat_natCast]; first | done | with_reducible rfl) | (simp [hi0, hib]; first | done | with_reducible rfl)
                      try simp only [Act.put, List.setIfInBounds_toArray, List.set_cons_zero, List.set_cons_succ]
                      refine wpAnyL_take (i := 7) (v := ?_) (by rw [List.getElem?_toArray]; rfl) (by decide +kernel) (by decide +kernel) (by decide +kernel) (by decide +kernel) (by decide +kernel) (fun _ _ _ h => h) hS0 (Or.inl ⟨by rfl, ?_⟩) ?_
                      rotate_left
                      · intro wz hSz; obtain ⟨z0, z1⟩ := hSz; go_simp; first | done | with_reducible rfl | (simp only [hi0, hib, and_self, if_true, Int.toNat_natCast]; first | done | with_reducible rfl) | (simp [hi0, hib]; first | done | with_reducible rfl)
                      try simp only [Act.put, List.setIfInBounds_toArray, List.set_cons_zero, List.set_cons_succ]
                      refine wpAnyL_take (i := 8) (v := ?_) (by rw [List.getElem?_toArray]; rfl) (by decide +kernel) (by decide +kernel) (by decide +kernel) (by decide +kernel) (by decide +kernel) (fun _ _ _ h => h) hS0 (Or.inl ⟨by rfl, ?_⟩) ?_
                      rotate_left
                      · intro wz hSz; obtain ⟨z0, z1⟩ := hSz; go_simp; first | done | with_reducible rfl | (simp only [hi0, hib, and_self, if_true, Int.toNat_natCast]; first | done | with_reducible rfl) | (simp [hi0, hib]; first | done | with_reducible rfl)
                      try simp only [Act.put, List.setIfInBounds_toArray, List.set_cons_zero, List.set_cons_succ]
                      refine wpAnyL_take (i := 9) (v := ?_) (by rw [List.getElem?_toArray]; rfl) (by decide +kernel) (by decide +kernel) (by decide +kernel) (by decide +kernel) (by decide +kernel) (fun _ _ _ h => h) hS0 (Or.inl ⟨by rfl, ?_⟩) ?_
                      rotate_left
                      · intro wz hSz; obtain ⟨z0, z1⟩ := hSz; go_simp; first | done | with_reducible rfl | (simp only [hi0, hib, and_self, if_true, Int.toNat_natCast]; first | done | with_reducible rfl) | (simp [hi0, hib]; first | done | with_reducible rfl)
                      try simp only [Act.put, List.setIfInBounds_toArray, List.set_cons_zero, List.set_cons_succ]
                      refine wpAnyL_one (i := 10) (by kernel_rfl) (by rw [List.getElem?_toArray]; rfl) (fun K hK => ?_)
                      have HK : Hid _ := hK
                      clear hK
                      go_simp
                      obtain ⟨W1, hW1⟩ : ∃ W1, W1 = wz.drew.alloc (.cells #[.int .i64 (y : Nat)] 3) := ⟨_, rfl⟩
                      have hW1' : (wz.alloc (.cells #[.int .i64 (y : Nat)] 3)).drew = W1 := by rw [hW1]; rfl
                      have G1w : Hid (Below wz.heap.size wz W1 ∧ W1.cell? ⟨wz.heap.size, 0, none⟩ = some (.int .i64 ((y : Nat) : Int))) := by
                        rw [hW1]; exact ⟨(Below.refl _ _).drew.alloc (Nat.le_refl _) _, two_cell wz.drew (.int .i64 (y : Nat))⟩
                      have hS1 := HSk.out W1 G1w.out.1
                      first | rw [hW1'] | rw [← hW1]
                      clear hW1 hW1'
                      refine HK.out _ _ (fun _ => hS1) ?_
                      clear HK K
                      try simp only [Act.put, List.setIfInBounds_toArray, List.set_cons_zero, List.set_cons_succ]
                      refine wpAnyL_one (i := 11) (by kernel_rfl) (by rw [List.getElem?_toArray]; rfl) (fun K hK => ?_)
                      refine step_append_int_at (by rfl) _ _ (by rfl) b2 (us i) (Lz i) (by rfl) ((HFz.out.below G1w.out.1).row i hlt) ⟨wz.heap.size, 0, none⟩ 1 ((y : Nat) : Int) (by rfl) G1w.out.2 HLl.out (HFz.out.below G1w.out.1).le ?_
                      intro ga ca W2 hown2 hgrow2 hat2
                      have hS2 : RwS G2 i gx y (us i) W2 := by
                        have hlt2 := HGx.out
                        exact ⟨hgrow2.cell hS1.1 (fun e => by have e2 := ((HFz.out.row i hlt).lt G2 e.symm).1; have := HFz.out.lt; omega), hgrow2.cell hS1.2 (fun e => hlt2 e.symm)⟩
                      have HP2 : Hid (FrS b2 G2 k (fun a => if a = i then Lz i ++ [((y : Nat) : Int)] else Lz a) (fun a => if a = i then .slice (some ⟨ga, 0, none⟩) ((Lz i).length + 1) ca else us a) (W2.setCell ⟨G2, i, none⟩ (.slice (some ⟨ga, 0, none⟩) ((Lz i).length + 1) ca)) ∧ Below wq.heap.size wq (W2.setCell ⟨G2, i, none⟩ (.slice (some ⟨ga, 0, none⟩) ((Lz i).length + 1) ca)) ∧ Row gx k (Q j) (W2.setCell ⟨G2, i, none⟩ (.slice (some ⟨ga, 0, none⟩) ((Lz i).length + 1) ca)) ∧ some ga ≠ some gx) := by
                        have hf1 := HFz.out.below G1w.out.1
                        have hg := HGx.out
                        have hr1 := HRx.out.below G1w.out.1 HRx.out.lt
                        refine ⟨hf1.put hlt hown2 hgrow2 hat2, hf1.put_below hlt hgrow2 (bel_up' HBz.out G1w.out.1) HG2.out.1, ?_, ?_⟩
                        · refine (hr1.other (hgrow2.block gx hr1.lt (fun e => hg e.symm))).other (Below.heap_setCell _ _ _ _ ?_)
                          show gx ≠ G2
                          have := HGl.out
                          omega
                        · rcases hat2 with e | e
                          · intro e2; exact hg (by rw [← e]; exact e2)
                          · intro e2
                            have e3 : some gx = some W1.heap.size := e2.symm.trans e
                            have e4 : gx = W1.heap.size := Option.some.inj e3
                            have := HRx.out.lt
                            have := G1w.out.1.size
                            omega
                      have hc3 := hS2.1
                      have hfr3 : W2.frozen? ⟨G2, i, none⟩ = false := by
                        have hf1 := HFz.out.below G1w.out.1
                        exact (hf1.outer.grown hgrow2 (fun e => by have := ((hf1.row i hlt).lt G2 e.symm).1; have := hf1.lt; omega)).free i
                      refine hK _ _ (fun _ => hS2) ?_
                      clear hK K
                      try simp only [Act.put, List.setIfInBounds_toArray, List.set_cons_zero, List.set_cons_succ]
                      clear hown2 hgrow2 hat2
                      refine wpAnyL_take (i := 12) (v := ?_) (by rw [List.getElem?_toArray]; rfl) (by decide +kernel) (by decide +kernel) (by decide +kernel) (by decide +kernel) (by decide +kernel) (fun _ _ _ h => h) hS2 (Or.inl ⟨by rfl, ?_⟩) ?_
                      rotate_left
                      · intro wz hSz; obtain ⟨z0, z1⟩ := hSz; go_simp; first | done | with_reducible rfl | (simp only [hi0, hib, and_self, if_true, Int.toNat_natCast]; first | done | with_reducible rfl) | (simp [hi0, hib]; first | done | with_reducible rfl)
                      try simp only [Act.put, List.setIfInBounds_toArray, List.set_cons_zero, List.set_cons_succ]
                      refine wpAnyL_one (i := 13) (by kernel_rfl) (by rw [List.getElem?_toArray]; rfl) (fun K hK => ?_)
                      have HK : Hid _ := hK
                      clear hK
                      go_simp
                      refine HK.out _ _ (fun h => absurd (by simp) h) ?_
                      clear HK K
                      refine wpAnyL_done (by kernel_rfl) (NoPanic.normal ?_)
                      clear hc3 hfr3
                      go_wp2
                      go_roundw
                      case rel =>
                        refine ⟨i + 1, _, by omega, by go_num, HP2.out.1.congr (fun a _ => ?_), HP2.out.2.1, HP2.out.2.2.1, fun a ha => ?_⟩
                        · by_cases e : a = i
                          · rw [if_pos e, HLz.out, e, if_pos (by omega)]
                          · rw [if_neg e, HLe.out a e]
                        · by_cases e : a = i
                          · simp only [if_pos e]; exact HP2.out.2.2.2
                          · simp only [if_neg e]; exact HZ.out.2.2.2 a ha
                      case measure => simp [intOf]; omega
                    · have hib : ¬ (i : Int) < (k : Int) := by omega
                      have HE : Hid (FrS b2 G2 k (fun i => zl (j + 1) fun c => ((Q c i : Nat) : Int)) us wz) := HZ.out.1.congr (fun a ha => by rw [if_pos (by omega)])
                      go_wp2
                      go_roundw
                      case rel => exact ⟨j + 1, us, by omega, by go_num, HE.out, HZ.out.2.1⟩
                      case measure => simp [intOf]; omega
            · have hjb : ¬ (j : Int) < (k : Int) := by omega
              have HMid : Hid (FrS b2 G2 k (fun i => zl k fun c => ((Q c i : Nat) : Int)) us2 wt ∧ Below wq.heap.size wq wt) := by
                rw [show k = j by omega]; rw [show k = j by omega] at HJ; exact HJ.out
              clear HJ
              go_wp2
              go_loopw [33, 34] (fun vf vi wf => ∃ i : Nat, i ≤ k ∧ vi = .int .i64 (i : Nat) ∧ Hid (OwnI wt.heap.size vf (zl (pls k i) fun r => ((cf r : Nat) : Int)) wf ∧ Below wt.heap.size wt wf)) (fun _ vi _ => k - (intOf vi).toNat)
              case atStart => exact ⟨0, by omega, rfl, OwnI.nil _ _, Below.refl _ _⟩
              case round =>
                obtain ⟨i, hi, rfl, HI⟩ := hrel
                rename World => wf
                by_cases hlt : i < k
                · have hib : (i : Int) < (k : Int) := by omega
                  go_wp2
                  go_loopw [33, 35] (fun vf vj wg => ∃ j : Nat, i ≤ j ∧ j ≤ k ∧ vj = .int .i64 (j : Nat) ∧ Hid (OwnI wt.heap.size vf (zl (pls k i + (j - i)) fun r => ((cf r : Nat) : Int)) wg ∧ Below wt.heap.size wt wg)) (fun _ vj _ => k - (intOf vj).toNat)
                  case atStart => exact ⟨i, by omega, by omega, rfl, by rw [Nat.sub_self]; exact HI.out⟩
                  case round =>
                    obtain ⟨j, hj1, hj2, rfl, HJ2⟩ := hrel
                    rename World => wg
                    by_cases hjk2 : j < k
                    · have hjb2 : (j : Int) < (k : Int) := by omega
                      obtain ⟨hcu, fo, fc, hus, hfA⟩ := (HMid.out.1.below HJ2.out.2).at hlt rfl
                      rw [hus] at hcu
                      obtain ⟨bf, of, rfl, hcf⟩ := hfA.sl j hjk2
                      obtain ⟨y, hy⟩ : ∃ y, y = Q j i := ⟨_, rfl⟩
                      replace hcf : wg.cell? ⟨bf, of + j, none⟩ = some (.int .i64 (y : Nat)) := by rw [hcf, hy]
                      have hpl : plr k d i j = pls k i + (j - i) := by unfold plr; rw [if_pos hjk2]
                      have HYe : Hid (y = cf (pls k i + (j - i))) := by show y = _; rw [hy, ← HCf.out.1 i j hlt hj1 (by omega), hpl]
                      have HLn : Hid (pls k i + (j - i) ≤ 1000) := by
                        have h1 := plr_lt hlt hj1 (show j < d by omega)
                        have h2 := HNF.out.2
                        have h3 := HNF.out.1.trans (fsz_is k d)
                        show pls k i + (j - i) ≤ 1000
                        omega
                      have hsz := HJ2.out.2.size
                      clear hy hus hfA hpl
                      go_wp2_with (at_builtin; refine append_int rfl _ _ rfl wt.heap.size _ (zl (pls k i + (j - i)) fun r => ((cf r : Nat) : Int)) rfl (HJ2.out.1.alloc _) ⟨_, 0, none⟩ 1 (y : Nat) rfl (by simp) (by rw [zl_len]; have := HLn.out; omega) (by simp; omega) ?_; intro v7 w7 hown7 hgrow7)
                      go_roundw
                      case rel => exact ⟨j + 1, by omega, by omega, by go_num, by rw [show pls k i + (j + 1 - i) = pls k i + (j - i) + 1 by omega, zl_succ, ← HYe.out]; exact hown7, (HJ2.out.2.alloc hsz _).grown hgrow7 (by simp; omega) (fun x hx => (HJ2.out.1.lt x hx).1)⟩
                      case measure => simp [intOf]; omega
                    · have hjb2 : ¬ (j : Int) < (k : Int) := by omega
                      have HE : Hid (OwnI wt.heap.size u33 (zl (pls k (i + 1)) fun r => ((cf r : Nat) : Int)) wg ∧ Below wt.heap.size wt wg) := by
                        rw [pls_next, show pls k i + (k - i) = pls k i + (j - i) by omega]; exact HJ2.out
                      go_wp2
                      go_roundw
                      case rel => exact ⟨i + 1, by omega, by go_num, HE.out⟩
                      case measure => simp [intOf]; omega
                · have hib : ¬ (i : Int) < (k : Int) := by omega
                  have HI2 : Hid (OwnI wt.heap.size u33 (zl (pls k k) fun r => ((cf r : Nat) : Int)) wf ∧ Below wt.heap.size wt wf) := by
                    have h := HI.out
                    rw [show i = k by omega] at h
                    exact h
                  clear HI
                  go_wp2
                  go_loopw [33, 36] (fun vf vi wg => ∃ i : Nat, i ≤ k ∧ vi = .int .i64 (i : Nat) ∧ Hid (OwnI wt.heap.size vf (zl (pls k k + i * (d - k)) fun r => ((cf r : Nat) : Int)) wg ∧ Below wt.heap.size wt wg)) (fun _ vi _ => k - (intOf vi).toNat)
                  case atStart => exact ⟨0, by omega, rfl, by rw [Nat.zero_mul]; exact HI2.out⟩
                  case round =>
                    clear HI2
                    obtain ⟨i, hi, rfl, HI⟩ := hrel
                    rename World => wg
                    by_cases hlt : i < k
                    · have hib : (i : Int) < (k : Int) := by omega
                      have hbq : Below wq.heap.size wq wg := bel_up' HMid.out.2 HI.out.2
                      obtain ⟨hcu, fo, fc, hus, hfA⟩ := (HFar.out.1.below hbq).at hlt rfl
                      rw [hus] at hcu
                      have HFA : Hid (ArgL fo (d - k) fc (fun c => ((Q (k + c) i : Nat) : Int)) wg) := hfA
                      have HLn : Hid (pls k k + i * (d - k) + (d - k) ≤ 1000 ∧ pls k k + (i + 1) * (d - k) = pls k k + i * (d - k) + (d - k)) := by
                        have h1 : (i + 1) * (d - k) ≤ k * (d - k) := Nat.mul_le_mul_right _ (by omega)
                        rw [Nat.succ_mul] at h1
                        have h2 := HNF.out.2
                        have h3 := HNF.out.1.trans (fsz_is k d)
                        refine ⟨by omega, ?_⟩
                        rw [Nat.succ_mul, Nat.add_assoc]
                      have hsz := HI.out.2.size
                      clear hus hfA hbq
                      go_wp2_with (at_builtin; refine append_ints rfl _ _ rfl wt.heap.size _ (zl (pls k k + i * (d - k)) fun r => ((cf r : Nat) : Int)) rfl HI.out.1 fo (d - k) fc (fun c => ((Q (k + c) i : Nat) : Int)) rfl HFA.out.sl HFA.out.nil (by rw [zl_len]; have := HLn.out.1; omega) hsz ?_; intro v7 w7 hown7 hgrow7)
                      go_roundw
                      case rel =>
                        refine ⟨i + 1, by omega, by go_num, ?_, HI.out.2.grown hgrow7 hsz (fun x hx => (HI.out.1.lt x hx).1)⟩
                        rw [HLn.out.2, zl_plus]
                        have e : (zl (d - k) fun c => ((cf (pls k k + i * (d - k) + c) : Nat) : Int)) = zl (d - k) fun c => ((Q (k + c) i : Nat) : Int) := zl_congr (fun c hc => by
                          rw [← HCf.out.1 i (k + c) hlt (by omega) (by omega)]
                          unfold plr
                          rw [if_neg (by omega), show k + c - k = c by omega])
                        rw [e]
                        exact hown7
                      case measure => simp [intOf]; omega
                    · have hib : ¬ (i : Int) < (k : Int) := by omega
                      have HI3 : Hid (OwnI wt.heap.size u33 (zl nf fun r => ((cf r : Nat) : Int)) wg ∧ Below wt.heap.size wt wg) := by
                        have h := HI.out
                        rw [show i = k by omega, ← fsz_is, ← HNF.out.1] at h
                        exact h
                      clear HI
                      obtain ⟨fo, fc, rfl, hfa⟩ := HI3.out.1.argN (by have := HNF.out.2; omega)
                      have hba : Below wa.heap.size wa wg := bel_up' (bel_up' HFar.out.2.1 HMid.out.2) HI3.out.2
                      obtain ⟨k0, k1', k2, k3, k4⟩ := HBx.out _ hba
                      have HWr : Hid (Calls Try.prog 14 #[.agg #[.int .i64 D.q, .int .i64 D.p, .int .i64 D.m, .int .i64 gen, .slice (some ⟨gm, 0, none⟩) (D.m + 1) cm], .int .i64 (n : Nat), .int .i64 (k : Nat), .int .i64 (d : Nat), .slice fo nf fc] wg fun e w' => ∃ v, e = .returned v ∧ LLs wg.heap.size v (rl n d1 (wrt D k d cf)) w' ∧ Below wg.heap.size wg w') := by
                        show Calls _ _ _ _ _
                        have hsl := hfa.sl
                        rw [HNF.out.1] at hsl ⊢
                        exact rwritten_any HX.out.2.2.2.2.1 gen gm cm HN1.out.1 (by have := HN1.out.2; omega) hk hd hn hn64 HCf.out.2 hsl hfa.lt (HX.out.2.2.2.1.below hba)
                      clear hfa hba
                      go_wp2_with fail
                      refine HWr.out.mono ?_
                      rintro e w8 ⟨v8, rfl, hl8, hb8⟩
                      obtain ⟨ao8, c8, hv8⟩ := hl8.slice
                      rw [rl_len] at hv8
                      subst hv8
                      have H8 : Hid (LLs wg.heap.size (.slice ao8 n c8) (rl n d1 (wrt D k d cf)) w8 ∧ Below wa.heap.size wa w8 ∧ OwnI wt.heap.size (.slice fo nf fc) (zl nf fun r => ((cf r : Nat) : Int)) w8 ∧ wa.heap.size ≤ wt.heap.size) := by
                        have h1 := bel_up' (bel_up' HFar.out.2.1 HMid.out.2) HI3.out.2
                        exact ⟨hl8, bel_up' h1 hb8, HI3.out.1.below hb8 (fun x hx => (HI3.out.1.lt x hx).2), (bel_up' HFar.out.2.1 HMid.out.2).size⟩
                      clear hl8 hb8 k0 k1' k2 k3 k4
                      go_wp2
                      go_loopw [38] (fun vi wl => ∃ i : Nat, i ≤ k ∧ vi = .int .i64 (i : Nat) ∧ Hid ((∀ t j, t < i → j < d → wrt D k d cf (xs t) j = H t j) ∧ ∃ dd, wl = w8.drewN dd)) (fun vi _ => k - (intOf vi).toNat)
                      case atStart => exact ⟨0, by omega, rfl, fun t j ht => absurd ht (by omega), 0, rfl⟩
                      case round =>
                        obtain ⟨i, hi, rfl, HL⟩ := hrel
                        rename World => wl
                        obtain ⟨dd, hdd⟩ := HL.out.2
                        have hbl : Below wa.heap.size wa wl := by rw [hdd]; exact below_drewN2 H8.out.2.1 dd
                        have hl8 : LLs wg.heap.size (.slice ao8 n c8) (rl n d1 (wrt D k d cf)) wl := by
                          rw [hdd]; exact H8.out.1.below (below_drewN2 (Below.refl _ _) dd) (Nat.le_refl _)
                        by_cases hlt : i < k
                        · have hib : (i : Int) < (k : Int) := by omega
                          obtain ⟨bx, ox, rfl, hcx⟩ := (HX.out.2.2.2.2.2.1.below hbl).sl i hlt
                          replace hcx : wl.cell? ⟨bx, ox + i, none⟩ = some (.int .i64 (xs i : Nat)) := hcx
                          obtain ⟨x, hx⟩ : ∃ x, x = xs i := ⟨_, rfl⟩
                          rw [← hx] at hcx
                          have hxn : x < n := by rw [hx]; exact HQ.out.2.2.2.2 i hlt
                          have hxb : (x : Int) < (n : Int) := by omega
                          obtain ⟨g8, b8, cp8, rfl, hc8, hr8⟩ := hl8.at (rl_get n d1 (wrt D k d cf) x hxn)
                          obtain ⟨bh, oh, uh, rfl, hch, Ah, cah, rfl, hslh, _⟩ := (HX.out.2.2.2.2.2.2.below hbl) i hlt
                          obtain ⟨t, ht⟩ : ∃ t, t = decide ((zl (d1 + 1) fun j => ((wrt D k d cf x j : Nat) : Int)) = zl (d1 + 1) fun j => ((H i j : Nat) : Int)) := ⟨_, rfl⟩
                          have HSm : Hid (∀ q, Calls Try.prog 68 #[.slice (some ⟨b8, 0, none⟩) (d1 + 1) cp8, .slice Ah (d1 + 1) cah] (wl.drewN q) fun e w' => e = .returned (.bool t) ∧ ∃ m, w' = (wl.drewN q).drewN m) := fun q => by
                            rw [ht]
                            exact same_any (sl_sliceI ((hr8.drewN q).sl (Nat.le_refl _)) (by have := HN1.out.1; omega)) (sl_sliceI (show Sl Ah (d1 + 1) (H i) (wl.drewN q) from hslh) (by have := HN1.out.1; omega))
                          have HT : Hid (t = true ↔ ∀ j, j < d → wrt D k d cf (xs i) j = H i j) := by
                            show t = true ↔ _
                            rw [ht, decide_eq_true_iff, hx, HN1.out.1]
                            constructor
                            · intro e j hj
                              have := zl_ext e j hj
                              omega
                            · intro e
                              exact zl_congr (fun j hj => by rw [e j hj])
                          have HD2 : Hid (wl = w8.drewN dd) := hdd
                          clear ht hx hr8 hslh hl8 hbl hdd
                          go_wp2
                          go_big_quiet (first | (go_at_call 68; exact Calls.quiet_of (HSm.out _)))
                          cases t with
                          | true =>
                            have HE : Hid (∀ t j, t < i + 1 → j < d → wrt D k d cf (xs t) j = H t j) := fun t j ht hj => by
                              by_cases e : t = i
                              · rw [e]; exact HT.out.1 rfl j hj
                              · exact HL.out.1 t j (by omega) hj
                            go_wp2
                            go_roundw
                            case rel => exact ⟨i + 1, by omega, by go_num, HE.out, _, by rw [HD2.out, World.drewN_drewN]⟩
                            case measure => simp [intOf]; omega
                          | false =>
                            have HNs : Hid (¬ Smt Q d) := fun hs => by
                              have h := (HQ.out.1.back (fld HX.out.2.2.2.2.1) hk HQ.out.2.1 HQ.out.2.2.1 HCf.out.2 HCf.out.1).2 hs
                              exact absurd (HT.out.2 (fun j hj => h i j hlt hj)) (by decide)
                            have HB : Hid (∀ q, Below w.heap.size w (wl.drewN q)) := fun q => below_drewN2 (bel_up' HX.out.2.2.1 (by rw [HD2.out]; exact below_drewN2 H8.out.2.1 dd)) q
                            go_wp2
                            go_ret2
                            exact ⟨HB.out _, Q, HQ.out.1, Or.inl ⟨HNs.out, rfl⟩⟩
                        · have hib : ¬ (i : Int) < (k : Int) := by omega
                          have HYs : Hid (Smt Q d) := (HQ.out.1.back (fld HX.out.2.2.2.2.1) hk HQ.out.2.1 HQ.out.2.2.1 HCf.out.2 HCf.out.1).1 (fun t j ht hj => HL.out.1 t j (by omega) hj)
                          have HR : Hid (Below w.heap.size w wl ∧ OwnI w.heap.size (.slice fo nf fc) (zl nf fun r => ((cf r : Nat) : Int)) wl) := ⟨bel_up' HX.out.2.2.1 hbl, by
                            rw [hdd]
                            exact (H8.out.2.2.1.drewN dd).mono (by have := H8.out.2.2.2; have := HX.out.2.1; omega)⟩
                          clear hl8 hbl hdd
                          go_wp2
                          go_ret2
                          exact ⟨HR.out.1, Q, HQ.out.1, Or.inr ⟨HYs.out, _, cf, rfl, by rw [← HNF.out.1]; exact HR.out.2, HCf.out.1⟩⟩
end Go.Proofs.Ytbofcldmgjeklaa
