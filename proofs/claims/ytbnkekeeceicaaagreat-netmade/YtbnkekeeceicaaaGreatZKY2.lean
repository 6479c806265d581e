/- Texts of ours, one behind the other: KY2 KY3 KY4. -/
import Derived.Test.YtbnkekeeceicaaaGreatZKX6
import Derived.Test.YtbnkekeeceicaaaGreatZS5
import Derived.Test.YtbnkekeeceicaaaGreatZS12
import Derived.Test.YtbnkekeeceicaaaGreatZS47
import Derived.Test.YtbnkekeeceicaaaGreatZKF1
import Derived.Test.YtbnkekeeceicaaaGreatZH1
/- Nets: the vector whose product with one of some is 1, with all others 0 (beside). -/
namespace Go.Proofs.YtbnkekeeceicaaaGreat
open Go.RowKit Go.Sort

theorem zc_cast {h : Nat} {c : Nat → Nat} (hb : Bd h c) : zc h (fun j => ((c j : Nat) : Int)) = c := by
  funext j
  unfold zc
  by_cases q : j < h
  · rw [if_pos q, Int.toNat_natCast]
  · rw [if_neg q, hb j (by omega)]
theorem vmchk {D : FD} {m h : Nat} {L : Nat → Nat → Nat} (hm : m ≤ 64) (h0 : 0 < h) (hh : h ≤ 64) (he : ∀ i, i < m → El D (L i)) : D.mchk m (fun _ => h) (fun i c => ((L i c : Nat) : Int)) = 0 := by
  refine mchk_of hm (fun i hi => ?_)
  unfold FD.mrow
  rw [if_neg (by omega), if_neg (by omega), if_pos]
  exact allHas_iff.2 (fun j _ => has_of_lt (he i hi j))
theorem uniV_bd {j h : Nat} (hj : j < h) : Bd h (uniV j) := fun k hk => by unfold uniV; rw [if_neg (by omega)]
theorem dsolve_any {D : FD} (hD : D ∈ fieldsL) {mo bo : Option Addr} {h one ca cb : Nat} {A : Nat → Option Addr} {C : Nat → Nat} {L : Nat → Nat → Nat} {w : World} (h1 : 1 ≤ h) (h64 : h ≤ 64) (hB : Bas D h L) (hBd : ∀ i, i < h → Bd h (L i)) (hA : MatZ mo h A (fun _ => h) C (fun i j => ((L i j : Nat) : Int)) w) (hy : SlZ bo h (fun j => ((uniV one j : Nat) : Int)) w) (ho : one < h) :
    Calls Tryz.prog 67 #[.int .i64 D.q, .slice mo h ca, .slice bo h cb] w fun e w' => ∃ gx s, e = .returned (.tuple #[.slice (some ⟨gx, 0, none⟩) h h, .bool true, .int .i64 0]) ∧ w.heap.size ≤ gx ∧ Row gx h s w' ∧ El D s ∧ (∀ i, i < h → dot D (L i) s h = if i = one then 1 else 0) ∧ Below w.heap.size w w' := by
  have F := fld hD
  have hck := vmchk (D := D) h64 h1 h64 hB.el
  have hall : D.allHas (fun j => ((uniV one j : Nat) : Int)) h = true := allHas_iff.2 (fun j _ => has_of_lt (uniV_el F one j))
  have hMz : ∀ i, i < h → mzc (fun _ => h) (fun i j => ((L i j : Nat) : Int)) i = L i := fun i hi => zc_cast (hBd i hi)
  have hbz : zc h (fun j => ((uniV one j : Nat) : Int)) = uniV one := zc_cast (uniV_bd ho)
  refine (msolve_row hD hA (by omega) hy).mono ?_
  rintro e w' ⟨hb, hr⟩
  rcases hr with ⟨h9, _⟩ | ⟨_, h9, _⟩ | ⟨_, _, k, R, p, W, _, hW, hR, hS, hc⟩
  · exact absurd hck h9
  · rw [hall] at h9; cases h9
  · have hW : W = h := hW (by omega)
    rw [hW] at hR hS hc
    clear hW
    have hel : ∀ i, i < h → El D (mzc (fun _ => h) (fun i j => ((L i j : Nat) : Int)) i) := fun i hi => by rw [hMz i hi]; exact hB.el i hi
    have hbq : ∀ i, i < h → zc h (fun j => ((uniV one j : Nat) : Int)) i < D.q := fun i _ => by rw [hbz]; exact uniV_el F one i
    obtain ⟨kr, Rr, pr, _, hRr, hSr⟩ := rre_ex hD (m := h) (n := h + 1) (R := aug h (mzc (fun _ => h) (fun i j => ((L i j : Nat) : Int))) (zc h (fun j => ((uniV one j : Nat) : Int)))) (fun i hi => aug_el (hel i hi) (hbq i hi)) (fun i hi => aug_bd (by rw [hMz i hi]; exact hBd i hi))
    obtain ⟨Y, hYe, hYd⟩ := hB.du
    have hno := met_no F hRr hel hbq hSr (u := Y one) (fun i hi => by
      rw [dt_dot, hMz i hi, hbz, hYd i one hi ho]
      rfl)
    rcases hc with ⟨hbad, _⟩ | ⟨hgood, gx, he, hgx, hrow, _⟩
    · obtain ⟨i, hi, e9⟩ := solve_no F hR hbad hRr (fun v => (hS v).trans (hSr v).symm)
      exact absurd e9 (hno i hi)
    · obtain ⟨hk, heq, _⟩ := solve_yes F hR hgood hRr (fun v => (hS v).trans (hSr v).symm)
      have hsx : slx R p h k = slx Rr pr h kr := by rw [hk]; exact slx_congr h k heq
      rw [hsx] at hrow
      have hsol := slx_solves F hRr hno hel hbq hSr
      refine ⟨gx, slx Rr pr h kr, he, hgx, hrow, slx_el F kr hRr.el, fun i hi => ?_, hb⟩
      have := hsol i hi
      rw [dt_dot, hMz i hi, hbz] at this
      rw [this]
      rfl
set_option maxHeartbeats 4000000 in
set_option maxRecDepth 100000 in
theorem beside_any {D : FD} (hD : D ∈ fieldsL) {Fb T : Nat} {g : Nat → Value} {mo : Option Addr} {h one ca : Nat} {A : Nat → Option Addr} {C : Nat → Nat} {L : Nat → Nat → Nat} {w : World} (hF : FAt Fb T D g w) (h1 : 1 ≤ h) (h64 : h ≤ 64) (hB : Bas D h L) (hBd : ∀ i, i < h → Bd h (L i)) (hA : MatZ mo h A (fun _ => h) C (fun i j => ((L i j : Nat) : Int)) w) (ho : one < h) :
    Calls Tryz.prog 52 #[.pointer (some ⟨Fb, 0, none⟩), .slice mo h ca, .int .i64 (one : Nat)] w fun e w' => ∃ gx s, e = .returned (.slice (some ⟨gx, 0, none⟩) h h) ∧ w.heap.size ≤ gx ∧ Row gx h s w' ∧ El D s ∧ (∀ i, i < h → dot D (L i) s h = if i = one then 1 else 0) ∧ Below w.heap.size w w' := by
  have HF : Hid (FAt Fb T D g w ∧ D ∈ fieldsL) := ⟨hF, hD⟩
  have HU : Hid (Calls Tryz.prog 31 #[.int .i64 (h : Nat)] w fun e w' => e = .returned (.slice (some ⟨w.heap.size, 0, none⟩) h h) ∧ (∃ hh, Mx w.heap.size w.heap.size h h h (fun i => uniV i) hh w') ∧ Below w.heap.size w w') := units_any (by omega)
  have HSo : Hid (∀ (bo : Option Addr) (cb : Nat) (wx : World), Below w.heap.size w wx → SlZ bo h (fun j => ((uniV one j : Nat) : Int)) wx → Calls Tryz.prog 67 #[.int .i64 D.q, .slice mo h ca, .slice bo h cb] wx fun e w' => ∃ gx s, e = .returned (.tuple #[.slice (some ⟨gx, 0, none⟩) h h, .bool true, .int .i64 0]) ∧ wx.heap.size ≤ gx ∧ Row gx h s w' ∧ El D s ∧ (∀ i, i < h → dot D (L i) s h = if i = one then 1 else 0) ∧ Below wx.heap.size wx w') := fun bo cb wx hb hy => dsolve_any hD h1 h64 hB hBd (hA.below hb) hy ho
  obtain ⟨G, hG⟩ : ∃ G, G = w.heap.size := ⟨_, rfl⟩
  rw [← hG] at HU
  have HGe : Hid (G = w.heap.size) := hG
  have hob : (one : Int) < (h : Int) := by omega
  have hob0 : (0 : Int) ≤ (one : Int) := by omega
  clear hD hF hB hBd hA hG
  go_enter Tryz.func52, Tryz.ntmps52
  go_wp2_with fail
  refine (size_any HF.out.1).mono ?_
  rintro e w' ⟨rfl, hw⟩
  have hw := hw.symm
  subst hw
  go_wp2_with fail
  refine HU.out.mono ?_
  rintro e w1 ⟨rfl, ⟨hh, hmx⟩, hb1⟩
  have hc := hmx.cell one ho
  have H1 : Hid (SlZ (some ⟨hh one, 0, none⟩) h (fun j => ((uniV one j : Nat) : Int)) w1 ∧ Below w.heap.size w w1) := ⟨(hmx.row one ho).sl (Nat.le_refl _), by rw [← HGe.out]; exact hb1⟩
  clear hmx hb1
  go_wp2_with fail
  refine (HSo.out (some ⟨hh one, 0, none⟩) h w1 H1.out.2 H1.out.1).mono ?_
  rintro e w2 ⟨gx, sv, rfl, hgx, hrow, hse, hsd, hb2⟩
  have H2 : Hid (w.heap.size ≤ gx ∧ Row gx h sv w2 ∧ El D sv ∧ (∀ i, i < h → dot D (L i) sv h = if i = one then 1 else 0) ∧ Below w.heap.size w w2) := ⟨Nat.le_trans H1.out.2.size hgx, hrow, hse, hsd, bel_up' H1.out.2 hb2⟩
  clear hgx hrow hse hsd hb2 hc
  go_wp2
  go_ret
  exact ⟨gx, sv, rfl, H2.out⟩
end Go.Proofs.YtbnkekeeceicaaaGreat

/- Nets: whether one of some rows is one whose product with a vector is 0 (joined's function, slices.ContainsFunc of rows). -/
namespace Go.Proofs.YtbnkekeeceicaaaGreat
open Go.RowKit Go.Sort

theorem anyB_ex {p : Nat → Bool} : ∀ n, anyB p n = true → ∃ j, j < n ∧ p j = true := fun n h => Classical.byContradiction fun c => by
  have := anyB_no (p := p) n (fun j hj => by
    cases q : p j with
    | false => rfl
    | true => exact absurd ⟨j, hj, q⟩ c)
  rw [this] at h; cases h
theorem anyB_none {p : Nat → Bool} {n : Nat} (h : anyB p n = false) : ∀ j, j < n → p j = false := fun j hj => by
  cases q : p j with
  | false => rfl
  | true => rw [anyB_yes q n hj] at h; cases h
set_option maxHeartbeats 2000000 in
set_option maxRecDepth 100000 in
theorem indexDr_any {gf : Nat} {lb : Array Value} (eg : ∀ args w, (callFunc gf args).run Tryz.prog w = .ok (.enter gf args) w) {ao : Option Addr} {n cap : Nat} {A : Nat → Option Addr} {N C : Nat → Nat} {p : Nat → Bool} {w : World}
    (hs : ∀ j, j < n → ∃ b off, ao = some ⟨b, off, none⟩ ∧ w.cell? ⟨b, off + j, none⟩ = some (.slice (A j) (N j) (C j))) (hn : n ≤ 1000000) (hp : ∀ j k, j < n → Calls Tryz.prog gf (#[.slice (A j) (N j) (C j)] ++ lb) (w.drewN k) fun e w' => e = .returned (.bool (p j)) ∧ ∃ d, w' = (w.drewN k).drewN d) :
    Calls Tryz.prog 111 #[.slice ao n cap, .func (.func gf) #[] lb] w fun e w' => (∃ d, w' = w.drewN d) ∧ ∃ i : Int, e = .returned (.int .i64 i) ∧ decide (0 ≤ i) = anyB p n := by
  have HS : Hid ((∀ j, j < n → ∃ b off, ao = some ⟨b, off, none⟩ ∧ w.cell? ⟨b, off + j, none⟩ = some (.slice (A j) (N j) (C j))) ∧ ∀ j k, j < n → Calls Tryz.prog gf (#[.slice (A j) (N j) (C j)] ++ lb) (w.drewN k) fun e w' => e = .returned (.bool (p j)) ∧ ∃ d, w' = (w.drewN k).drewN d) := ⟨hs, hp⟩
  clear hs hp
  go_enter Tryz.func111, Tryz.ntmps111
  go_wp2
  go_loopw [5, 8] (fun _ i wr => ∃ r : Nat, ∃ d : Nat, r ≤ n ∧ i = .int .i64 r ∧ Hid (∀ j, j < r → p j = false) ∧ wr = w.drewN d) (fun _ i _ => n - (RowKit.intOf i).toNat)
  case atStart => exact ⟨0, 0, by omega, rfl, (show Hid _ from fun j hj => by omega), rfl⟩
  case round =>
    obtain ⟨r, d, hr, rfl, HH, hwr⟩ := hrel
    subst hwr
    by_cases hlt : r < n
    · obtain ⟨b, off, rfl, hcz⟩ := HS.out.1 r hlt
      have hib : (r : Int) < (n : Int) := by omega
      have hcall := HS.out.2 r d hlt
      by_cases hh : p r = true
      · have HV : Hid (p r = true) := hh
        rw [hh] at hcall
        clear hh
        go_wp2_with (go_at_fn gf; refine hcall.mono ?_; rintro e w' ⟨rfl, d2, hw⟩; rw [World.drewN_drewN] at hw; subst hw)
        go_ret
        exact ⟨⟨_, rfl⟩, _, rfl, by rw [anyB_yes HV.out n hlt]; simp⟩
      · have hh' : p r = false := by simpa using hh
        have HV : Hid (∀ j, j < r + 1 → p j = false) := fun j hj => by
          by_cases e : j = r
          · rw [e]; exact hh'
          · exact HH.out j (by omega)
        rw [hh'] at hcall
        clear hh hh'
        go_wp2_with (go_at_fn gf; refine hcall.mono ?_; rintro e w' ⟨rfl, d2, hw⟩; rw [World.drewN_drewN] at hw; subst hw)
        go_roundw
        case rel => exact ⟨r + 1, _, by omega, by go_num, HV.out, rfl⟩
        case measure => simp [RowKit.intOf]; omega
    · have HV : Hid (∀ j, j < n → p j = false) := fun j hj => HH.out j (by omega)
      go_wp2
      go_ret
      exact ⟨⟨_, rfl⟩, _, rfl, by rw [anyB_no n HV.out]; rfl⟩
set_option maxHeartbeats 2000000 in
set_option maxRecDepth 100000 in
theorem containsDr_any {gf : Nat} {lb : Array Value} (eg : ∀ args w, (callFunc gf args).run Tryz.prog w = .ok (.enter gf args) w) {ao : Option Addr} {n cap : Nat} {A : Nat → Option Addr} {N C : Nat → Nat} {p : Nat → Bool} {w : World}
    (hs : ∀ j, j < n → ∃ b off, ao = some ⟨b, off, none⟩ ∧ w.cell? ⟨b, off + j, none⟩ = some (.slice (A j) (N j) (C j))) (hn : n ≤ 1000000) (hp : ∀ j k, j < n → Calls Tryz.prog gf (#[.slice (A j) (N j) (C j)] ++ lb) (w.drewN k) fun e w' => e = .returned (.bool (p j)) ∧ ∃ d, w' = (w.drewN k).drewN d) :
    Calls Tryz.prog 97 #[.slice ao n cap, .func (.func gf) #[] lb] w fun e w' => e = .returned (.bool (anyB p n)) ∧ ∃ d, w' = w.drewN d := by
  have HS : Hid (∀ cap, Calls Tryz.prog 111 #[.slice ao n cap, .func (.func gf) #[] lb] w fun e w' => (∃ d, w' = w.drewN d) ∧ ∃ i : Int, e = .returned (.int .i64 i) ∧ decide (0 ≤ i) = anyB p n) := fun cap => indexDr_any eg hs hn hp
  clear hs hp eg
  obtain ⟨y, hy⟩ : ∃ y, y = anyB p n := ⟨_, rfl⟩
  rw [← hy]
  have HY : Hid (y = anyB p n) := hy
  clear hy
  go_enter Tryz.func97, Tryz.ntmps97
  go_wp2_with (go_at_call 111; refine (HS.out _).mono ?_; rintro e w' ⟨⟨d, hw⟩, i, rfl, hi⟩; rw [← HY.out] at hi; subst hw)
  go_ret
  exact ⟨by first | rfl | simp_all, _, rfl⟩
theorem enters_joined : ∀ args w, (callFunc 98 args).run Tryz.prog w = .ok (.enter 98 args) w :=
  enters_of Tryz.func98 (by kernel_rfl) rfl
set_option maxHeartbeats 2000000 in
set_option maxRecDepth 100000 in
theorem joined1_any {D : FD} (hD : D ∈ fieldsL) {Fb T : Nat} {g : Nat → Value} {oo yo : Option Addr} {h co cy B1 B2 : Nat} {o y : Nat → Nat} {w : World} (hF : FAt Fb T D g w) (hc1 : w.cell? ⟨B1, 0, none⟩ = some (.pointer (some ⟨Fb, 0, none⟩))) (hc2 : w.cell? ⟨B2, 0, none⟩ = some (.slice oo h co)) (hO : Sl oo h o w) (hY : Sl yo h y w) (hh : h ≤ 1000) (eo : ∀ i, i < h → o i < D.q) (ey : ∀ i, i < h → y i < D.q) :
    Calls Tryz.prog 98 #[.slice yo h cy, .pointer (some ⟨B1, 0, none⟩), .pointer (some ⟨B2, 0, none⟩)] w fun e w' => e = .returned (.bool (decide (dot D o y h = 0))) ∧ ∃ d, w' = w.drewN d := by
  have HC : Hid (∀ ca cb, Calls Tryz.prog 69 #[.pointer (some ⟨Fb, 0, none⟩), .slice oo h ca, .slice yo h cb] w fun e w' => e = .returned (.int .i64 (dot D o y h : Nat)) ∧ ∃ d, w' = w.drewN d) := fun ca cb => nproduct_any hD hF hO hY hh eo ey
  obtain ⟨x, hx⟩ : ∃ x, x = dot D o y h := ⟨_, rfl⟩
  rw [← hx] at HC ⊢
  clear hD hF hO hY eo ey hx
  go_enter Tryz.func98, Tryz.ntmps98
  go_wp2_with (go_at_call 69; refine (HC.out _ _).mono ?_; rintro e w' ⟨rfl, d, hw⟩; subst hw)
  go_ret
  refine ⟨?_, _, rfl⟩
  congr 2
  first
    | (by_cases c : x = 0
       · subst c; rfl
       · simp [c])
    | skip
end Go.Proofs.YtbnkekeeceicaaaGreat

/- Nets: a vector and a multiple of a sum, whose product with none of some is 0 (joined). -/
namespace Go.Proofs.YtbnkekeeceicaaaGreat
open Go.RowKit Go.Sort

/-- z times a and b, the first r of them. -/
def jnV (D : FD) (z : Nat) (a b : Nat → Nat) (r : Nat) : Nat → Nat := fun c => if c < r then D.ad (D.mul z (a c)) (b c) else 0
theorem jnV_el {D : FD} (F : Fld D) (z : Nat) (a : Nat → Nat) {b : Nat → Nat} (hb : El D b) (r : Nat) : El D (jnV D z a b r) := fun c => by
  unfold jnV
  have := F.q2
  split
  · exact ad_lt F (F.mul_lt _ _) (hb c)
  · omega
theorem jnV_dot {D : FD} (F : Fld D) {z h : Nat} {a b y : Nat → Nat} (hb : El D b) : dot D (jnV D z a b h) y h = D.ad (D.mul z (dot D a y h)) (dot D b y h) := by
  rw [dot_congr (a' := padd D (pscale D z a) b) (b' := y) h (fun j hj => ⟨by unfold jnV; rw [if_pos hj]; rfl, rfl⟩), dot_add F (el_scale F _ _) hb, dot_scale F]
/-- What joined tells. -/
def JnP (D : FD) (h i base : Nat) (sv xv : Nat → Nat) (Y : Nat → Nat → Nat) (W : World) (e : Ending) (w' : World) : Prop := ∃ gx z, e = .returned (.slice (some ⟨gx, 0, none⟩) h h) ∧ base ≤ gx ∧ Row gx h (jnV D z sv xv h) w' ∧ z < D.q ∧ (∀ j, j < i → dot D (jnV D z sv xv h) (Y j) h ≠ 0) ∧ Below base W w'
set_option maxHeartbeats 4000000 in
set_option maxRecDepth 100000 in
theorem joined_any {D : FD} (hD : D ∈ fieldsL) {Fb T : Nat} {g : Nat → Value} {so xo yo : Option Addr} {h i cs cx cy : Nat} {sv xv : Nat → Nat} {A : Nat → Option Addr} {C : Nat → Nat} {Y : Nat → Nat → Nat} {w : World} (hF : FAt Fb T D g w) (h1 : 1 ≤ h) (h64 : h ≤ 64) (hi : i < D.q) (hi6 : i ≤ 1000) (hs : Sl so h sv w) (hx : Sl xo h xv w) (es : El D sv) (ex : El D xv) (hY : MatZ yo i A (fun _ => h) C (fun r c => ((Y r c : Nat) : Int)) w) (eY : ∀ j, j < i → El D (Y j)) (hne : ∀ j, j < i → dot D sv (Y j) h ≠ 0) :
    Calls Tryz.prog 70 #[.pointer (some ⟨Fb, 0, none⟩), .slice so h cs, .slice xo h cx, .slice yo i cy] w (JnP D h i w.heap.size sv xv Y w) := by
  have hq := (fld hD).q2
  have hqm := (fld hD).q64
  have HF : Hid (FAt Fb T D g w ∧ D ∈ fieldsL ∧ Sl so h sv w ∧ Sl xo h xv w ∧ El D sv ∧ El D xv ∧ MatZ yo i A (fun _ => h) C (fun r c => ((Y r c : Nat) : Int)) w ∧ (∀ j, j < i → El D (Y j)) ∧ ∀ j, j < i → dot D sv (Y j) h ≠ 0) := ⟨hF, hD, hs, hx, es, ex, hY, eY, hne⟩
  have HPK : Hid (∃ z, z < D.q ∧ ∀ j, j < i → D.ad (D.mul z (dot D sv (Y j) h)) (dot D xv (Y j) h) ≠ 0) := pick_mul hD (s := fun j => dot D sv (Y j) h) (x := fun j => dot D xv (Y j) h) (fun j hj => ⟨dot_lt (fld hD) _ _ _, hne j hj⟩) (fun j _ => dot_lt (fld hD) _ _ _) hi
  obtain ⟨base, hbase⟩ : ∃ base, base = w.heap.size := ⟨_, rfl⟩
  have hal : Below base w (w.alloc (.cells #[.pointer (some ⟨Fb, 0, none⟩)] 67)) := by rw [hbase]; exact (Below.refl _ _).alloc (Nat.le_refl _) _
  obtain ⟨q, hqe⟩ : ∃ q, q = D.q := ⟨_, rfl⟩
  have HQ : Hid (q = D.q) := hqe
  rw [← hqe] at hqm hq
  have HJ : Hid (∀ e w', JnP D h i base sv xv Y w e w' → JnP D h i w.heap.size sv xv Y w e w') := fun e w' hh => by rw [← hbase]; exact hh
  refine Calls.mono ?_ HJ.out
  have hcB : (w.alloc (.cells #[.pointer (some ⟨Fb, 0, none⟩)] 67)).cell? ⟨base, 0, none⟩ = some (.pointer (some ⟨Fb, 0, none⟩)) := by rw [hbase]; simp
  have HA : Hid (Below base w (w.alloc (.cells #[.pointer (some ⟨Fb, 0, none⟩)] 67)) ∧ FAt Fb T D g (w.alloc (.cells #[.pointer (some ⟨Fb, 0, none⟩)] 67)) ∧ base < (w.alloc (.cells #[.pointer (some ⟨Fb, 0, none⟩)] 67)).heap.size) := ⟨hal, hF.below hal (by rw [hbase]; exact hF.ltF) (by rw [hbase]; exact hF.ltT), cell_lt hcB⟩
  clear hal hD hF hs hx es ex hY eY hne hqe hi
  go_enter Tryz.func70, Tryz.ntmps70
  go_wp2_with fail
  refine (size_any HA.out.2.1).mono ?_
  rintro e w' ⟨rfl, hw⟩
  have hw := hw.symm
  subst hw
  rw [← hbase, ← HQ.out]
  have HB1 : Hid (Below base w (w.alloc (.cells #[.pointer (some ⟨Fb, 0, none⟩)] 67)) ∧ (w.alloc (.cells #[.pointer (some ⟨Fb, 0, none⟩)] 67)).cell? ⟨base, 0, none⟩ = some (.pointer (some ⟨Fb, 0, none⟩))) := ⟨HA.out.1, hcB⟩
  have HBA : Hid (base = w.heap.size) := hbase
  clear hcB HA hbase
  go_wp2
  go_loopw [14] (fun vi wr => ∃ r : Nat, r ≤ q ∧ vi = .int .i64 r ∧ Hid (Below base w wr ∧ wr.cell? ⟨base, 0, none⟩ = some (.pointer (some ⟨Fb, 0, none⟩)) ∧ ∀ z, z < r → ∃ j, j < i ∧ D.ad (D.mul z (dot D sv (Y j) h)) (dot D xv (Y j) h) = 0)) (fun vi _ => q - (RowKit.intOf vi).toNat)
  case atStart => exact ⟨0, by omega, rfl, HB1.out.1, HB1.out.2, fun z hz => absurd hz (by omega)⟩
  case round =>
    obtain ⟨r, hr, rfl, HG⟩ := hrel
    rename World => wr
    by_cases hlt : r < q
    · have hib : (r : Int) < (q : Int) := by omega
      go_wp2_with (at_make; refine make_int rfl _ _ rfl _ h rfl rfl (by omega) (by omega) ?_; intro w2 hown2 hgrow2)
      obtain ⟨gr, hgr⟩ : ∃ gr, gr = wr.heap.size := ⟨_, rfl⟩
      obtain ⟨bo, hbo⟩ : ∃ bo, bo = w2.heap.size := ⟨_, rfl⟩
      obtain ⟨wi, hwi⟩ : ∃ wi, wi = w2.alloc (.cells #[.slice (some ⟨wr.heap.size, 0, none⟩) h h] 25) := ⟨_, rfl⟩
      have hb2 : Below wr.heap.size wr w2 := below_grown hgrow2 (Nat.le_refl _) (fun k hk => by simp at hk)
      have hal : Below w2.heap.size w2 wi := by rw [hwi]; exact (Below.refl _ _).alloc (Nat.le_refl _) _
      have hrw := row_zeros hown2
      have hgl : gr < bo := by rw [hgr, hbo]; exact hrw.lt
      have hbg : base < gr := by rw [hgr]; exact cell_lt HG.out.2.1
      have hba : base ≤ wr.heap.size := by omega
      have H3 : Hid (Row gr h (jnV D r sv xv 0) wi ∧ Below base w wi ∧ wi.cell? ⟨base, 0, none⟩ = some (.pointer (some ⟨Fb, 0, none⟩)) ∧ wi.cell? ⟨bo, 0, none⟩ = some (.slice (some ⟨gr, 0, none⟩) h h)) := by
        refine ⟨?_, ?_, ?_, ?_⟩
        · rw [hgr]
          exact (hrw.below hal hrw.lt).congr (fun j _ => by unfold jnV; rw [if_neg (by omega)]; rfl)
        · exact bel_up' (bel_up' HG.out.1 hb2 (by rw [HBA.out]; exact Nat.le_refl _)) hal (by rw [HBA.out]; exact Nat.le_refl _)
        · rw [(bcell hal).1 base 0 (by omega), (bcell hb2).1 base 0 (by omega)]
          exact HG.out.2.1
        · rw [hbo, hwi, hgr]; simp
      rw [← hwi, ← hbo, ← hgr]
      clear hown2 hgrow2 hb2 hal hrw hwi hgr hbo hba
      go_loopw [22] (fun vi wx => ∃ c : Nat, c ≤ h ∧ vi = .int .i64 c ∧ Hid (Row gr h (jnV D r sv xv c) wx ∧ Below base w wx ∧ wx.cell? ⟨base, 0, none⟩ = some (.pointer (some ⟨Fb, 0, none⟩)) ∧ wx.cell? ⟨bo, 0, none⟩ = some (.slice (some ⟨gr, 0, none⟩) h h))) (fun vi _ => h - (RowKit.intOf vi).toNat)
      case atStart => exact ⟨0, by omega, rfl, H3.out⟩
      case round =>
        obtain ⟨c, hc, rfl, HI⟩ := hrel
        rename World => wx
        by_cases hlc : c < h
        · have hic : (c : Int) < (h : Int) := by omega
          have hic0 : (0 : Int) ≤ (c : Int) := by omega
          have hLs := HF.out.2.2.1.ltb h1
          have hLx := HF.out.2.2.2.1.ltb h1
          obtain ⟨b1, o1, hso, hcs⟩ := (HF.out.2.2.1.below HI.out.2.1 (by rw [HBA.out]; exact hLs)) c hlc
          obtain ⟨b2, o2, hxo, hcx⟩ := (HF.out.2.2.2.1.below HI.out.2.1 (by rw [HBA.out]; exact hLx)) c hlc
          clear hLs hLx
          subst hso hxo
          obtain ⟨x, hx⟩ : ∃ x, x = sv c := ⟨_, rfl⟩
          obtain ⟨y, hy⟩ : ∃ y, y = xv c := ⟨_, rfl⟩
          rw [← hx] at hcs
          rw [← hy] at hcx
          have hcg := HI.out.1.cell c hlc
          have hfg := HI.out.1.free c
          have hcB := HI.out.2.2.1
          have hcO := HI.out.2.2.2
          obtain ⟨p, hp⟩ : ∃ p, p = D.mul r x := ⟨_, rfl⟩
          obtain ⟨z, hz⟩ : ∃ z, z = D.ad p y := ⟨_, rfl⟩
          have hatA := HF.out.1.below HI.out.2.1 (by rw [HBA.out]; exact HF.out.1.ltF) (by rw [HBA.out]; exact HF.out.1.ltT)
          have HC1 : Hid (∀ d, Calls Tryz.prog 96 #[.pointer (some ⟨Fb, 0, none⟩), .int .i64 (r : Nat), .int .i64 (x : Nat)] (wx.drewN d) fun e w' => e = .returned (.int .i64 (p : Nat)) ∧ ∃ k, w' = (wx.drewN d).drewN k) := fun d => by
            rw [hp]
            exact mul_nat HF.out.2.1 (hatA.drewN d) (by rw [← HQ.out]; exact hlt) (by rw [hx]; exact HF.out.2.2.2.2.1 c)
          have HC2 : Hid (∀ d, Calls Tryz.prog 95 #[.pointer (some ⟨Fb, 0, none⟩), .int .i64 (p : Nat), .int .i64 (y : Nat)] (wx.drewN d) fun e w' => e = .returned (.int .i64 (z : Nat)) ∧ ∃ k, w' = (wx.drewN d).drewN k) := fun d => by
            rw [hz]
            exact add_nat HF.out.2.1 (hatA.drewN d) (by rw [hp]; exact (fld HF.out.2.1).mul_lt _ _) (by rw [hy]; exact HF.out.2.2.2.2.2.1 c)
          have HV : Hid (z = D.ad (D.mul r (sv c)) (xv c)) := by show _ = _; rw [hz, hp, hx, hy]
          clear hy hx hp hz hatA
          go_wp2
          refine quiet_tail 16 (by kernel_rfl) (by kernel_rfl) ?_
          simp only [List.take_succ_cons, List.take_zero, List.drop_succ_cons, List.drop_zero]
          repeat (go_big_quiet_step (first | (go_at_call 96; exact Calls.quiet_of (HC1.out _)) | (go_at_call 95; exact Calls.quiet_of (HC2.out _))))
          refine wpQuiet_nil ?_
          intro _ hw'
          obtain ⟨nq, hw''⟩ := hw'
          subst hw''
          go_wp2
          go_roundw
          case rel =>
            refine ⟨c + 1, by omega, by go_num, (HI.out.1.drewN nq).store c z (fun k _ => ?_), (below_drewN2 HI.out.2.1 nq).setCell (show base ≤ gr by omega) _, ?_, ?_⟩
            · unfold jnV
              by_cases e : k = c
              · rw [if_pos (by omega), if_pos e, e]; exact HV.out.symm
              · rw [if_neg e]
                by_cases e2 : k < c
                · rw [if_pos (by omega), if_pos e2]
                · rw [if_neg (by omega), if_neg e2]
            · rw [World.cell?_setCell_far _ _ _ _ (show gr ≠ base by omega)]
              exact HI.out.2.2.1
            · rw [World.cell?_setCell_far _ _ _ _ (show gr ≠ bo by omega)]
              exact HI.out.2.2.2
          case measure => simp [RowKit.intOf]; omega
        · have e : c = h := by omega
          subst e
          obtain ⟨ab, hab⟩ : ∃ ab, ab = anyB (fun j => decide (dot D (jnV D r sv xv c) (Y j) c = 0)) i := ⟨_, rfl⟩
          have HAB : Hid (ab = anyB (fun j => decide (dot D (jnV D r sv xv c) (Y j) c = 0)) i) := hab
          have hbw : Below w.heap.size w wx := by rw [← HBA.out]; exact HI.out.2.1
          have HK : Hid (∀ cap, Calls Tryz.prog 97 #[.slice yo i cap, .func (.func 98) #[] #[.pointer (some ⟨base, 0, none⟩), .pointer (some ⟨bo, 0, none⟩)]] wx fun e w' => e = .returned (.bool ab) ∧ ∃ d, w' = wx.drewN d) := fun cap => by
            rw [hab]
            have hM := HF.out.2.2.2.2.2.2.1.below hbw
            have hat := HF.out.1.below hbw HF.out.1.ltF HF.out.1.ltT
            refine containsDr_any enters_joined hM.cell (by omega) (fun j k hj => ?_)
            exact joined1_any (cy := C j) HF.out.2.1 (hat.drewN k) HI.out.2.2.1 HI.out.2.2.2 ((HI.out.1.drewN k).sl (Nat.le_refl _)) ((show Sl (A j) c (Y j) wx from hM.sl j hj).drewN k) (by omega) (fun t _ => jnV_el (fld HF.out.2.1) r sv HF.out.2.2.2.2.2.1 c t) (fun t _ => HF.out.2.2.2.2.2.2.2.1 j hj t)
          have hcO := HI.out.2.2.2
          clear hab hbw
          cases ab with
          | true =>
            go_wp2_with (go_at_call 97; refine (HK.out _).mono ?_; rintro e w' ⟨rfl, d, hw⟩; subst hw)
            go_roundw
            case rel =>
              refine ⟨r + 1, by omega, by go_num, below_drewN2 HI.out.2.1 _, HI.out.2.2.1, fun z hz => ?_⟩
              by_cases e : z = r
              · obtain ⟨j, hj, hd⟩ := anyB_ex i HAB.out.symm
                have hd := of_decide_eq_true hd
                rw [jnV_dot (fld HF.out.2.1) HF.out.2.2.2.2.2.1] at hd
                exact ⟨j, hj, by rw [e]; exact hd⟩
              · exact HG.out.2.2 z (by omega)
            case measure => simp [RowKit.intOf]; omega
          | false =>
            go_wp2_with (go_at_call 97; refine (HK.out _).mono ?_; rintro e w' ⟨rfl, d, hw⟩; subst hw)
            go_ret
            exact ⟨gr, r, rfl, by omega, HI.out.1.drewN _, by rw [← HQ.out]; exact hlt, fun j hj => of_decide_eq_false (anyB_none HAB.out.symm j hj), below_drewN2 HI.out.2.1 _⟩
    · exfalso
      obtain ⟨z, hz, hh⟩ := HPK.out
      rw [← HQ.out] at hz
      obtain ⟨j, hj, e⟩ := HG.out.2.2 z (by omega)
      exact hh j hj e
end Go.Proofs.YtbnkekeeceicaaaGreat
