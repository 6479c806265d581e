/- Texts of ours, one behind the other: X17 X18 S5. -/
import Derived.Test.YtbpeahhhkcljeaaZX12
import Derived.Test.YtbpeahhhkcljeaaZS4
import Derived.Test.YtbpeahhhkcljeaaZX8
/- The program's matrices: is a number in a list (slices.Contains); the rows that make a reduced form 0 (madeNought). -/
namespace Go.Proofs.Ytbpeahhhkcljeaa
open Go.RowKit

set_option maxHeartbeats 2000000 in
set_option maxRecDepth 100000 in
theorem indexI_any {ao : Option Addr} {n ca : Nat} {z : Nat → Int} {w : World} (x : Int) (hs : SlZ ao n z w) (hn : n ≤ 1000000) :
    Calls Try.prog 122 #[.slice ao n ca, .int .i64 x] w fun e w' => w' = w ∧ ((∃ i : Nat, i < n ∧ z i = x ∧ e = .returned (.int .i64 i)) ∨ ((∀ j, j < n → z j ≠ x) ∧ e = .returned (.int .i64 (-1)))) := by
  have HS : Hid (SlZ ao n z w) := hs
  clear hs
  go_enter Try.func122, Try.ntmps122
  go_wp2
  go_loopw [5, 8] (fun _ i wr => ∃ r : Nat, r ≤ n ∧ i = .int .i64 r ∧ Hid (∀ j, j < r → z j ≠ x) ∧ wr = w) (fun _ i _ => n - (intOf i).toNat)
  case atStart => exact ⟨0, by omega, rfl, (show Hid _ from fun j hj => by omega), rfl⟩
  case round =>
    obtain ⟨r, hr, rfl, HH, rfl⟩ := hrel
    by_cases hlt : r < n
    · obtain ⟨b, off, rfl, hcz⟩ := HS.out r hlt
      have hib : (r : Int) < (n : Int) := by omega
      obtain ⟨y, hy⟩ : ∃ y, y = z r := ⟨_, rfl⟩
      rw [← hy] at hcz
      by_cases he : x = y
      · have hb : (x == y) = true := beq_iff_eq.2 he
        have HV : Hid (z r = x) := by rw [← hy, he]; rfl
        clear he hy
        go_wp2
        go_ret
        exact ⟨rfl, Or.inl ⟨r, hlt, HV.out, rfl⟩⟩
      · have hb : (x == y) = false := beq_eq_false_iff_ne.2 he
        have HV : Hid (∀ j, j < r + 1 → z j ≠ x) := fun j hj => by
          by_cases e : j = r
          · rw [e, ← hy]; exact fun e => he e.symm
          · exact HH.out j (by omega)
        clear he hy
        go_wp2
        go_roundw
        case rel => exact ⟨r + 1, by omega, by go_num, HV.out, by first | rfl | trivial⟩
        case measure => simp [intOf]; omega
    · have HV : Hid (∀ j, j < n → z j ≠ x) := fun j hj => HH.out j (by omega)
      go_wp2
      go_ret
      exact ⟨rfl, Or.inr ⟨HV.out, rfl⟩⟩

set_option maxHeartbeats 2000000 in
set_option maxRecDepth 100000 in
theorem contains_any {ao : Option Addr} {n ca : Nat} {z : Nat → Int} {w : World} (x : Int) (hs : SlZ ao n z w) (hn : n ≤ 1000000) :
    Calls Try.prog 110 #[.slice ao n ca, .int .i64 x] w fun e w' => e = .returned (.bool (decide (x ∈ zl n z))) ∧ w' = w := by
  have HS : Hid (SlZ ao n z w) := hs
  clear hs
  go_enter Try.func110, Try.ntmps110
  go_wp2_with fail
  refine (indexI_any x HS.out hn).mono ?_
  rintro e w' ⟨hw, ⟨i, hi, hz, rfl⟩ | ⟨hz, rfl⟩⟩
  · have hw := hw.symm
    subst hw
    have hge : (0 : Int) ≤ (i : Int) := by omega
    have HV : Hid (decide (x ∈ zl n z) = true) := by
      show _ = _
      rw [decide_eq_true_eq]; exact zl_mem.2 ⟨i, hi, hz⟩
    clear hz
    go_wp2
    go_ret
    exact ⟨by rw [HV.out]; rfl, rfl⟩
  · have hw := hw.symm
    subst hw
    have HV : Hid (decide (x ∈ zl n z) = false) := by
      show _ = _
      rw [decide_eq_false_iff_not]
      intro h
      obtain ⟨j, hj, e⟩ := zl_mem.1 h
      exact hz j hj e
    clear hz
    go_wp2
    go_ret
    exact ⟨by rw [HV.out]; rfl, rfl⟩

/-- c rows of n numbers, each made by the call itself and appended to a list of its own. -/
structure NSt (base n c : Nat) (NR : Nat → Nat → Nat) (v : Value) (h : Nat → Nat) (wr : World) : Prop where
  own : OwnV base v (vl c fun i => .slice (some ⟨h i, 0, none⟩) n n) wr
  row : ∀ i, i < c → Row (h i) n (NR i) wr
  ge : ∀ i, i < c → base ≤ h i
  inj : ∀ i, i < c → ∀ j, j < c → h i = h j → i = j
theorem NSt.below {base n c : Nat} {NR : Nat → Nat → Nat} {v : Value} {h : Nat → Nat} {w w' : World} (H : NSt base n c NR v h w) (hb : Below w.heap.size w w') : NSt base n c NR v h w' :=
  ⟨H.own.below hb (Nat.le_refl _), fun i hi => (H.row i hi).below hb (H.row i hi).lt, H.ge, H.inj⟩
theorem NSt.congr {base n c : Nat} {NR NR' : Nat → Nat → Nat} {v : Value} {h : Nat → Nat} {w : World} (H : NSt base n c NR v h w) (e : ∀ i, i < c → NR i = NR' i) : NSt base n c NR' v h w :=
  ⟨H.own, fun i hi => by rw [← e i hi]; exact H.row i hi, H.ge, H.inj⟩
theorem NSt.push {base n c g : Nat} {NR : Nat → Nat → Nat} {d : Nat → Nat} {v v' : Value} {h : Nat → Nat} {w w' : World} (H : NSt base n c NR v h w) (hr : Row g n d w) (hg : base ≤ g) (hlt : ∀ i, i < c → h i < g) (ho : OwnV base v' (vl c (fun i => .slice (some ⟨h i, 0, none⟩) n n) ++ [.slice (some ⟨g, 0, none⟩) n n]) w') (hgr : w.grownBy w' v.ownBlock) :
    NSt base n (c + 1) (fun i => if i = c then d else NR i) v' (fun i => if i = c then g else h i) w' := by
  have hkeep : ∀ {b : Nat} {e : Nat → Nat}, Row b n e w → Row b n e w' := fun {b e} hb => hb.other (hgr.block b hb.lt (fun e' => hb.apart H.own e'))
  refine ⟨?_, fun i hi => ?_, fun i hi => ?_, fun i hi j hj e => ?_⟩
  · have e : vl (c + 1) (fun i => Value.slice (some ⟨if i = c then g else h i, 0, none⟩) n n) = vl c (fun i => .slice (some ⟨h i, 0, none⟩) n n) ++ [.slice (some ⟨g, 0, none⟩) n n] := by
      unfold vl
      rw [List.range_succ, List.map_append]
      congr 1
      · exact List.map_congr_left (fun j hj => by rw [if_neg (by have := List.mem_range.1 hj; omega)])
      · simp
    rw [e]; exact ho
  · by_cases e : i = c
    · simp only [if_pos e]; exact hkeep hr
    · simp only [if_neg e]; exact hkeep (H.row i (by omega))
  · by_cases e : i = c
    · simp only [if_pos e]; exact hg
    · simp only [if_neg e]; exact H.ge i (by omega)
  · by_cases e1 : i = c
    · by_cases e2 : j = c
      · omega
      · simp only [if_pos e1, if_neg e2] at e
        have := hlt j (by omega); omega
    · by_cases e2 : j = c
      · simp only [if_neg e1, if_pos e2] at e
        have := hlt i (by omega); omega
      · simp only [if_neg e1, if_neg e2] at e
        exact H.inj i (by omega) j (by omega) e
theorem NSt.mx {base n c : Nat} {NR : Nat → Nat → Nat} {v : Value} {h : Nat → Nat} {w : World} (H : NSt base n c NR v h w) (hc : 0 < c) : ∃ G mc, v = .slice (some ⟨G, 0, none⟩) c mc ∧ Mx base G mc c n NR h w := by
  rcases H.own.2 with ⟨h1, h2⟩ | ⟨g, cap, cur, hv, hb, hh, hle, hcm, hsz, htake⟩
  · rw [vl_len] at h2; omega
  · rw [vl_len] at hv hle htake
    have hsz' : cur.size = cap := by omega
    refine ⟨g, cap, hv, ⟨⟨fun o => (cur[o]?).getD undef, ⟨cur, hh, hsz', fun o ho => ?_⟩, fun i hi => ?_⟩, H.row, hb, H.ge, H.inj, fun i hi e => ?_, by omega⟩⟩
    · show cur[o]? = some ((cur[o]?).getD undef)
      rw [Array.getElem?_eq_getElem (by omega)]; rfl
    · have h3 : (cur.toList.take (c * 1))[i]? = (vl c fun i => Value.slice (some ⟨h i, 0, none⟩) n n)[i]? := by rw [htake]
      rw [List.getElem?_take, if_pos (by omega), vl_get _ _ i hi, Array.getElem?_toList] at h3
      show (cur[i]?).getD undef = _
      rw [h3]; rfl
    · have := (H.row i hi).apart H.own
      rw [hv, e] at this
      exact this rfl
theorem NSt.nil {base n : Nat} {NR : Nat → Nat → Nat} {v : Value} {h : Nat → Nat} {w : World} (H : NSt base n 0 NR v h w) (hv : ∀ k, v.ownBlock = some k → False) : v = .slice none 0 0 := by
  rcases H.own.2 with ⟨h1, h2⟩ | ⟨g, cap, cur, hv', hb, _⟩
  · exact h1
  · exact absurd (by rw [hv']; rfl) (hv g)

set_option maxHeartbeats 8000000 in
set_option maxRecDepth 100000 in
theorem madeNought_any {F T B G mc m n k : Nat} {D : FD} (hD : D ∈ fieldsL) {g : Nat → Value} {w : World} (hat : FAt F T D g w) (hF : F < w.heap.size) (hT : T < w.heap.size) {R : Nat → Nat → Nat} {h : Nat → Nat} (hM : Mx B G mc m n R h w) (hm : m ≤ 1000) (hn : n ≤ 1000) (hkm : k ≤ m) (hE : ∀ i, i < m → El D (R i)) {po : Option Addr} {pc : Nat} {p : Nat → Nat} {base : Nat} (hp : OwnI base (.slice po k pc) (zl k fun j => ((p j : Nat) : Int)) w) (hpn : ∀ i, i < k → p i < n) :
    Calls Try.prog 83 #[.pointer (some ⟨F, 0, none⟩), .slice (some ⟨G, 0, none⟩) m mc, .slice po k pc, .int .i64 n] w fun e w' => ∃ v h2, e = .returned v ∧ NSt w.heap.size n (nct k p n) (nul D R p k n) v h2 w' ∧ (nct k p n = 0 → v = .slice none 0 0) ∧ Below w.heap.size w w' := by
  have HF : Hid (FAt F T D g w ∧ D ∈ fieldsL ∧ F < w.heap.size ∧ T < w.heap.size ∧ Mx B G mc m n R h w ∧ (∀ i, i < m → El D (R i)) ∧ OwnI base (.slice po k pc) (zl k fun j => ((p j : Nat) : Int)) w ∧ (∀ i, i < k → p i < n) ∧ ArgL po k pc (fun j => ((p j : Nat) : Int)) w) := by
    obtain ⟨po', pc', e, hpl⟩ := hp.argL
    cases e
    exact ⟨hat, hD, hF, hT, hM, hE, hp, hpn, hpl⟩
  clear hat hD hF hT hM hE hp hpn
  go_enter Try.func83, Try.ntmps83
  go_wp2
  go_loopw [9, 15] (fun v vc wr => ∃ (c : Nat) (h2 : Nat → Nat), c ≤ n ∧ vc = .int .i64 c ∧ Hid (NSt w.heap.size n (nct k p c) (nul D R p k c) v h2 wr ∧ (nct k p c = 0 → v = .slice none 0 0) ∧ Below w.heap.size w wr)) (fun _ vc _ => n - (intOf vc).toNat)
  case atStart => exact ⟨0, fun _ => 0, by omega, rfl, ⟨⟨OwnV.nil _ _, fun i hi => absurd hi (by simp [nct]), fun i hi => absurd hi (by simp [nct]), fun i hi => absurd hi (by simp [nct])⟩, fun _ => rfl, Below.refl _ _⟩⟩
  case round =>
    obtain ⟨c, h2, hc, rfl, HG⟩ := hrel
    rename World => wA
    by_cases hlt : c < n
    · have hcb : (c : Int) < (n : Int) := by omega
      have HC : Hid (Calls Try.prog 110 #[.slice po k pc, .int .i64 (c : Nat)] wA fun e w' => e = .returned (.bool (decide ((c : Int) ∈ zl k fun j => ((p j : Nat) : Int)))) ∧ w' = wA) :=
        contains_any (c : Int) (HF.out.2.2.2.2.2.2.2.2.sl.below HG.out.2.2 HF.out.2.2.2.2.2.2.2.2.lt) (by omega)
      by_cases hfr : ∀ i, i < k → p i ≠ c
      · rw [decide_eq_false (fun h => free_zl.1 h hfr)] at HC
        have HFr : Hid (∀ i, i < k → p i ≠ c) := hfr
        clear hfr
        go_wp2_with fail
        refine HC.out.mono ?_
        rintro e wD ⟨rfl, hwD⟩
        have hwD := hwD.symm
        subst hwD
        clear HC
        go_wp2_with (at_make; refine make_int rfl _ _ rfl _ n rfl rfl rfl (by omega) ?_; intro w2 hown2 hgrow2; have hu0 := (row_zeros hown2).cell c hlt; have hf0 := (row_zeros hown2).free c)
        have HI2 : Hid (Row wA.heap.size n pnil w2 ∧ Below wA.heap.size wA w2) := ⟨row_zeros hown2, below_grown hgrow2 (Nat.le_refl _) (fun k hk => by simp at hk)⟩
        clear hown2 hgrow2 hu0 hf0
        obtain ⟨gr, hg⟩ : ∃ g, g = wA.heap.size := ⟨_, rfl⟩
        have HI3 : Hid (Row gr n pnil w2 ∧ Below wA.heap.size wA w2 ∧ gr = wA.heap.size) := by rw [hg]; exact ⟨HI2.out.1, HI2.out.2, rfl⟩
        rw [← hg]
        have hgD : wA.heap.size ≤ gr := by omega
        clear HI2 hg
        go_loopw [28] (fun vi wi => ∃ i : Nat, i ≤ k ∧ vi = .int .i64 i ∧ Hid (Row gr n (nrv D R p c i) wi ∧ Below wA.heap.size wA wi)) (fun vi _ => k - (intOf vi).toNat)
        case atStart => exact ⟨0, by omega, rfl, HI3.out.1.store c 1 (fun j _ => by show (if j = c then 1 else 0) = if j = c then 1 else pnil j; rfl), HI3.out.2.1.setCell hgD _⟩
        case round =>
          obtain ⟨i, hi, rfl, HK⟩ := hrel
          rename World => wB
          by_cases hik : i < k
          · have hib : (i : Int) < (k : Int) := by omega
            have him : (i : Int) < (m : Int) := by omega
            have hb1B := bel_up' HG.out.2.2 HK.out.2
            have hMB := HF.out.2.2.2.2.1.below hb1B
            have hcA := hMB.cell i (by omega)
            have hcx := (hMB.row i (by omega)).cell c hlt
            obtain ⟨bp, op, rfl, hcp⟩ := (HF.out.2.2.2.2.2.2.2.2.sl.below hb1B HF.out.2.2.2.2.2.2.2.2.lt) i hik
            obtain ⟨x, hx⟩ : ∃ x, x = R i c := ⟨_, rfl⟩
            obtain ⟨y, hy⟩ : ∃ y, y = p i := ⟨_, rfl⟩
            obtain ⟨u, hu⟩ : ∃ u, u = D.ng x := ⟨_, rfl⟩
            rw [← hx] at hcx
            replace hcp : wB.cell? ⟨bp, op + i, none⟩ = some (.int .i64 ((p i : Nat) : Int)) := hcp
            rw [← hy] at hcp
            have hyn : y < n := by rw [hy]; exact HF.out.2.2.2.2.2.2.2.1 i hik
            have hyb : (y : Int) < (n : Int) := by omega
            have hxq : x < D.q := by rw [hx]; exact HF.out.2.2.2.2.2.1 i (by omega) c
            have hcy := HK.out.1.cell y hyn
            have hfy := HK.out.1.free y
            have hatB := HF.out.1.below hb1B HF.out.2.2.1 HF.out.2.2.2.1
            have HC1 : Hid (Calls Try.prog 106 #[.pointer (some ⟨F, 0, none⟩), .int .i64 (x : Nat)] wB fun e w' => e = .returned (.int .i64 (u : Nat)) ∧ ∃ k, w' = wB.drewN k) := by
              show Calls _ _ _ _ _
              rw [hu]; exact neg_nat HF.out.2.1 hatB hxq
            have HV : Hid (∀ j, j < n → nrv D R p c (i + 1) j = if j = y then u else nrv D R p c i j) := fun j _ => by
              rw [hu, hx, hy]; rfl
            obtain ⟨hrow, hhr⟩ : ∃ b, b = h i := ⟨_, rfl⟩
            rw [← hhr] at hcA hcx
            clear hx hy hu hb1B hMB hatB hhr
            go_wp2_with (go_at_call 106; refine HC1.out.mono ?_; rintro e w' ⟨rfl, nq, rfl⟩; have hcyq : (wB.drewN nq).cell? ⟨gr, y, none⟩ = _ := hcy; have hfyq : (wB.drewN nq).frozen? ⟨gr, y, none⟩ = false := hfy)
            go_roundw
            case rel => exact ⟨i + 1, by omega, by go_num, (HK.out.1.drewN nq).store y u HV.out, (bel_up' HK.out.2 ⟨rfl, rfl, rfl, Nat.le_refl _, fun _ _ => rfl⟩ : Below wA.heap.size wA (wB.drewN nq)).setCell hgD _⟩
            case measure => simp [intOf]; omega
          · have hib : ¬ (i : Int) < (k : Int) := by omega
            have hie : i = k := by omega
            subst hie
            have HV : Hid (NSt w.heap.size n (nct i p c) (nul D R p i c) u9 h2 wB ∧ (∀ j, j < nct i p c → h2 j < gr)) := ⟨HG.out.1.below HK.out.2, fun j hj => by rw [HI3.out.2.2]; exact (HG.out.1.row j hj).lt⟩
            have hll : (vl (nct i p c) fun j => Value.slice (some ⟨h2 j, 0, none⟩) n n).length ≤ 1000000 := by rw [vl_len]; have := nct_le i p c; omega
            have hsB := HK.out.2.size
            have hsD := HG.out.2.2.size
            go_wp2_with (at_builtin; refine append_sl rfl _ _ rfl w.heap.size u9 (vl (nct i p c) fun j => Value.slice (some ⟨h2 j, 0, none⟩) n n) rfl (HV.out.1.own.below ((Below.refl _ _).alloc (Nat.le_refl _) _) (Nat.le_refl _)) ⟨wB.heap.size, 0, none⟩ 1 (.slice (some ⟨gr, 0, none⟩) n n) rfl rfl (by rw [cell_of_row _ _ _ _ _ (0, 0) (two_new _)]; rfl) hll (by simp; omega) ?_; intro v' w6 hown6 hg6)
            have hal : Below wB.heap.size wB (wB.alloc (.cells #[.slice (some ⟨gr, 0, none⟩) n n] 23)) := (Below.refl _ _).alloc (Nat.le_refl _) _
            have ho := HV.out.1.below hal
            have hbw := bel_up' HG.out.2.2 (bel_up' HK.out.2 hal)
            have HR : Hid (∃ h3, NSt w.heap.size n (nct i p (c + 1)) (nul D R p i (c + 1)) v' h3 w6 ∧ (nct i p (c + 1) = 0 → v' = .slice none 0 0) ∧ Below w.heap.size w w6) := by
              refine ⟨fun j => if j = nct i p c then gr else h2 j, ?_, fun h0 => absurd h0 (by rw [nct_yes HFr.out]; omega), hbw.grown hg6 (by simp; omega) (fun q hq => ho.own.open_ge q hq)⟩
              have h := ho.push (HK.out.1.below hal HK.out.1.lt) (by omega) HV.out.2 hown6 hg6
              rw [nct_yes HFr.out]
              refine h.congr (fun j hj => ?_)
              by_cases e : j = nct i p c
              · rw [if_pos e, e, nul_at]
              · rw [if_neg e, nul_lo (by omega)]
            clear hown6 hg6 ho hbw hal
            obtain ⟨h3, hr3⟩ := HR.out
            go_roundw
            case rel => exact ⟨c + 1, h3, by omega, by go_num, hr3⟩
            case measure => simp [intOf]; omega
      · rw [decide_eq_true (free_zl.2 hfr)] at HC
        have HD : Hid (NSt w.heap.size n (nct k p (c + 1)) (nul D R p k (c + 1)) u9 h2 wA ∧ (nct k p (c + 1) = 0 → u9 = .slice none 0 0) ∧ Below w.heap.size w wA) := by
          rw [nct_no hfr]
          exact ⟨HG.out.1.congr (fun j hj => (nul_lo hj).symm), HG.out.2⟩
        clear hfr
        go_wp2_with fail
        refine HC.out.mono ?_
        rintro e wD ⟨rfl, hwD⟩
        have hwD := hwD.symm
        subst hwD
        go_wp2
        go_roundw
        case rel => exact ⟨c + 1, h2, by omega, by go_num, HD.out⟩
        case measure => simp [intOf]; omega
    · have hcb : ¬ (c : Int) < (n : Int) := by omega
      have hce : c = n := by omega
      subst hce
      go_wp2
      go_ret
      exact ⟨_, rfl, ⟨h2, HG.out.1⟩, HG.out.2.1, HG.out.2.2⟩
end Go.Proofs.Ytbpeahhhkcljeaa

/- The program's matrices: what makes all rows 0 (Null); matrices as they are told. -/
namespace Go.Proofs.Ytbpeahhhkcljeaa
open Go.RowKit

/-- The slice v reads as k rows R of n elements. -/
def RL (v : Value) (k n : Nat) (R : Nat → Nat → Nat) (w : World) : Prop := ∃ ao ca, v = .slice ao k ca ∧ ∀ i, i < k → ∃ b off x cx, ao = some ⟨b, off, none⟩ ∧ w.cell? ⟨b, off + i, none⟩ = some (.slice x n cx) ∧ Sl x n (R i) w
theorem RL.below {v : Value} {k n : Nat} {R : Nat → Nat → Nat} {w w' : World} (h : RL v k n R w) (hb : Below w.heap.size w w') : RL v k n R w' := by
  obtain ⟨ao, ca, e, h⟩ := h
  refine ⟨ao, ca, e, fun i hi => ?_⟩
  obtain ⟨b, off, x, cx, e1, hc, hs⟩ := h i hi
  exact ⟨b, off, x, cx, e1, ((bcell hb).1 b (off + i) (cell_lt hc)).trans hc, slz_below hs hb⟩
theorem RL.congr {v : Value} {k n : Nat} {R R' : Nat → Nat → Nat} {w : World} (h : RL v k n R w) (e : ∀ i, i < k → R i = R' i) : RL v k n R' w := by
  obtain ⟨ao, ca, e1, h⟩ := h
  exact ⟨ao, ca, e1, fun i hi => by rw [← e i hi]; exact h i hi⟩
theorem Mx.rl {B G m k j n : Nat} {R : Nat → Nat → Nat} {h : Nat → Nat} {w : World} (H : Mx B G m k n R h w) (hj : j ≤ k) (mc : Nat) : RL (.slice (some ⟨G, 0, none⟩) j mc) j n R w :=
  ⟨_, _, rfl, fun i hi => ⟨G, 0, _, n, rfl, by rw [Nat.zero_add]; exact H.cell i (by omega), (H.row i (by omega)).sl (Nat.le_refl _)⟩⟩
theorem LLs.rl {base : Nat} {v : Value} {k n : Nat} {R : Nat → Nat → Nat} {w : World} (h : LLs base v (rl k n R) w) : RL v k (n + 1) R w := by
  obtain ⟨ro, rc, vs, rfl, hw⟩ := h.rws
  refine ⟨ro, rc, rfl, fun i hi => ?_⟩
  obtain ⟨g, e, hc, _⟩ := hw.cell i hi
  obtain ⟨x, cx, e2, hs, _⟩ := (hw.row i hi).rwv
  exact ⟨g, 0, x, cx, e, by rw [Nat.zero_add, ← e2]; exact hc, hs⟩
/-- The same, with all that a matrix that is handed on has. -/
def RLz (v : Value) (k n : Nat) (R : Nat → Nat → Nat) (w : World) : Prop := ∃ ao ca A C, v = .slice ao k ca ∧ MatZ ao k A (fun _ => n) C (fun i j => ((R i j : Nat) : Int)) w
theorem RLz.rl {v : Value} {k n : Nat} {R : Nat → Nat → Nat} {w : World} (h : RLz v k n R w) : RL v k n R w := by
  obtain ⟨ao, ca, A, C, e, h⟩ := h
  refine ⟨ao, ca, e, fun i hi => ?_⟩
  obtain ⟨b, off, e1, hc⟩ := h.cell i hi
  exact ⟨b, off, A i, C i, e1, hc, h.sl i hi⟩
theorem RLz.nil (n : Nat) (R : Nat → Nat → Nat) (w : World) : RLz (.slice none 0 0) 0 n R w := ⟨none, 0, fun _ => none, fun _ => 0, rfl, ⟨fun i hi => by omega, fun i hi => by omega, fun i hi => by omega, fun i hi => by omega, fun i hi => by omega, fun i hi => by omega⟩⟩
theorem Mx.rlz {B G m k j n : Nat} {R : Nat → Nat → Nat} {h : Nat → Nat} {w : World} (H : Mx B G m k n R h w) (hj : j ≤ k) (hn : n ≤ 1000000) (mc : Nat) : RLz (.slice (some ⟨G, 0, none⟩) j mc) j n R w :=
  ⟨_, _, fun i => some ⟨h i, 0, none⟩, fun _ => n, rfl, ⟨fun i hi => ⟨G, 0, rfl, by rw [Nat.zero_add]; exact H.cell i (by omega)⟩, fun i hi => (H.row i (by omega)).sl (Nat.le_refl _), fun _ _ => Nat.le_refl _, fun _ _ => by omega, fun _ _ e => (by cases e), fun _ _ => hn⟩⟩
theorem LLs.rlz {base : Nat} {v : Value} {k n : Nat} {R : Nat → Nat → Nat} {w : World} (h : LLs base v (Go.Proofs.Ytbpeahhhkcljeaa.rl k n R) w) (hn : n + 1 ≤ 1000000) : RLz v k (n + 1) R w := by
  obtain ⟨ro, rc, vs, rfl, hw⟩ := h.rws
  have key : ∀ i, i < k → ∃ x cx, vs i = .slice x (n + 1) cx ∧ Sl x (n + 1) (R i) w ∧ LtB x w.heap.size ∧ (x = none → cx = 0) ∧ n + 1 ≤ cx ∧ cx ≤ 9223372036854775807 := fun i hi => (hw.row i hi).rwv
  refine ⟨ro, rc, fun i => match vs i with | .slice a _ _ => a | _ => none, fun i => match vs i with | .slice _ _ c => c | _ => 0, rfl, ⟨fun i hi => ?_, fun i hi => ?_, fun i hi => ?_, fun i hi => ?_, fun i hi => ?_, fun _ _ => hn⟩⟩
  · obtain ⟨g, e, hc, _⟩ := hw.cell i hi
    obtain ⟨x, cx, e2, _⟩ := key i hi
    exact ⟨g, 0, e, by rw [Nat.zero_add, hc, e2]⟩
  · obtain ⟨x, cx, e2, hs, _⟩ := key i hi
    simp only [e2]; exact hs
  · obtain ⟨x, cx, e2, _, _, _, h1, _⟩ := key i hi
    simp only [e2]; exact h1
  · obtain ⟨x, cx, e2, _, _, _, _, h1⟩ := key i hi
    simp only [e2]; exact h1
  · obtain ⟨x, cx, e2, _, _, h1, _⟩ := key i hi
    simp only [e2]; exact h1
/-- The slice v has k rows R of n elements, in blocks of their own behind block number B, of numbers; or there is none. -/
def MV (B : Nat) (v : Value) (k n : Nat) (R : Nat → Nat → Nat) (w : World) : Prop := (k = 0 ∧ ∃ ao ca, v = .slice ao 0 ca) ∨ ∃ G mc m h, v = .slice (some ⟨G, 0, none⟩) k mc ∧ Mx B G m k n R h w
theorem MV.rlz {B : Nat} {v : Value} {k n : Nat} {R : Nat → Nat → Nat} {w : World} (h : MV B v k n R w) (hn : n ≤ 1000000) : RLz v k n R w := by
  rcases h with ⟨e, ao, ca, ev⟩ | ⟨G, mc, m, hh, ev, hm⟩
  · rw [e, ev]
    exact ⟨ao, ca, fun _ => none, fun _ => 0, rfl, ⟨fun i hi => by omega, fun i hi => by omega, fun i hi => by omega, fun i hi => by omega, fun i hi => by omega, fun i hi => by omega⟩⟩
  · rw [ev]; exact hm.rlz (Nat.le_refl _) hn mc
theorem MV.rl {B : Nat} {v : Value} {k n : Nat} {R : Nat → Nat → Nat} {w : World} (h : MV B v k n R w) : RL v k n R w := by
  rcases h with ⟨e, ao, ca, ev⟩ | ⟨G, mc, m, hh, ev, hm⟩
  · rw [e, ev]
    exact ⟨ao, ca, rfl, fun i hi => by omega⟩
  · rw [ev]; exact hm.rl (Nat.le_refl _) mc
theorem MV.below {B : Nat} {v : Value} {k n : Nat} {R : Nat → Nat → Nat} {w w' : World} (h : MV B v k n R w) (hb : Below w.heap.size w w') : MV B v k n R w' := by
  rcases h with h | ⟨G, mc, m, hh, ev, hm⟩
  · exact Or.inl h
  · exact Or.inr ⟨G, mc, m, hh, ev, hm.below hb⟩
theorem RL.nil (n : Nat) (R : Nat → Nat → Nat) (w : World) : RL (.slice none 0 0) 0 n R w := ⟨none, 0, rfl, fun i hi => by omega⟩

set_option maxHeartbeats 2000000 in
set_option maxRecDepth 100000 in
theorem indexNil_any {fv : Value} {w : World} :
    Calls Try.prog 107 #[.slice none 0 0, fv] w fun e w' => w' = w ∧ e = .returned (.int .i64 (-1)) := by
  go_enter Try.func107, Try.ntmps107
  go_wp2
  refine wp_loop_rounds 1 ?_
  rw [rounds_succ]
  go_wp2
  go_ret
  exact ⟨rfl, rfl⟩

set_option maxHeartbeats 2000000 in
set_option maxRecDepth 100000 in
theorem reduceNil_any {pf : Value} {cols : Nat} {w : World} (hc : cols ≤ 1000000) :
    Calls Try.prog 82 #[pf, .slice none 0 0, .int .i64 cols] w fun e w' => e = .returned (.slice none 0 0) ∧ Below w.heap.size w w' := by
  go_enter Try.func82, Try.ntmps82
  go_wp2
  go_loopw [7, 12] (fun pv i wr => ∃ c : Nat, c ≤ cols ∧ pv = .slice none 0 0 ∧ i = .int .i64 c ∧ Hid (Below w.heap.size w wr)) (fun _ i _ => cols - (intOf i).toNat)
  case atStart => exact ⟨0, by omega, rfl, rfl, Below.refl _ _⟩
  case round =>
    obtain ⟨c, hc, rfl, rfl, HG⟩ := hrel
    rename World => wA
    by_cases hlt : c < cols
    · have hib : (c : Int) < (cols : Int) := by omega
      have HS : Hid (∀ o, Below w.heap.size w (wA.alloc o)) := fun o => HG.out.alloc HG.out.size _
      go_wp2_with (go_at_call 107; refine indexNil_any.mono ?_; rintro e w2 ⟨hw, rfl⟩; have hw := hw.symm; subst hw)
      go_roundw
      case rel => exact ⟨c + 1, by omega, rfl, by go_num, HS.out _⟩
      case measure => simp [intOf]; omega
    · go_wp2
      go_ret
      exact ⟨rfl, HG.out⟩

theorem Mx.any {B G m n n' : Nat} {R : Nat → Nat → Nat} {h : Nat → Nat} {w : World} (H : Mx B G m 0 n R h w) : Mx B G m 0 n' R h w :=
  ⟨by obtain ⟨f, hf, _⟩ := H.outer; exact ⟨f, hf, fun i hi => by omega⟩, fun i hi => by omega, H.geG, fun i hi => by omega, fun i hi => by omega, fun i hi => by omega, H.le⟩

set_option maxHeartbeats 8000000 in
set_option maxRecDepth 100000 in
theorem mnull_any {D : FD} (hD : D ∈ fieldsL) {ao : Option Addr} {m ca : Nat} {A : Nat → Option Addr} {N C : Nat → Nat} {Z : Nat → Nat → Int} {w : World} (ha : MatZ ao m A N C Z w) (hm : m ≤ 1000000) :
    Calls Try.prog 38 #[.int .i64 D.q, .slice ao m ca] w fun e w' => Below w.heap.size w w' ∧
      ((D.mchk m N Z ≠ 0 ∧ e = .returned (.tuple #[.slice none 0 0, .int .i64 (D.mchk m N Z)])) ∨
       (D.mchk m N Z = 0 ∧ ∃ v k R p k2 R2 p2 W, e = .returned (.tuple #[v, .int .i64 0]) ∧ (m = 0 → W = 0) ∧ (0 < m → W = N 0) ∧ RRE D W k R p ∧ (∀ v, Spn D (RowsOf k R) v ↔ Spn D (RowsOf m (mzc N Z)) v) ∧
         MV w.heap.size v (nct k p W) W R2 w' ∧ k2 ≤ nct k p W ∧ RRE D W k2 R2 p2 ∧ (∀ v, Spn D (RowsOf k2 R2) v ↔ Spn D (RowsOf (nct k p W) (nul D R p k W)) v))) := by
  have HA : Hid (D ∈ fieldsL ∧ MatZ ao m A N C Z w) := ⟨hD, ha⟩
  clear hD ha
  go_enter Try.func38, Try.ntmps38
  go_wp2_with fail
  refine (mover1_any HA.out.1 HA.out.2 hm).mono ?_
  rintro e w1 ⟨hb1, hr⟩
  rcases hr with ⟨h0, F, T, f, rfl, hat, hF, hT⟩ | ⟨h0, rfl⟩
  · have HW : Hid (D.mchk m N Z = 0 ∧ FAt F T D f w1 ∧ Below w.heap.size w w1 ∧ MatZ ao m A N C Z w1) := ⟨h0, hat, hb1, HA.out.2.below hb1⟩
    clear h0 hat hF hT hb1
    obtain ⟨n, Wd, HN⟩ : ∃ n Wd, Hid (n ≤ 64 ∧ Wd ≤ n + 1 ∧ m ≤ 64 ∧ Wd = (if m = 0 then 0 else N 0) ∧ (0 < m → n + 1 = N 0) ∧ (∀ i, i < m → El D (mzc N Z i) ∧ Bd (n + 1) (mzc N Z i)) ∧ MatR ao m n (mzc N Z) w1) := by
      by_cases hm0 : m = 0
      · exact ⟨0, 0, ⟨by omega, by omega, by omega, by rw [if_pos hm0], fun h => by omega, fun i hi => by omega, fun i hi => by omega⟩⟩
      · obtain ⟨h1, n, h2, h3, h4, h5⟩ := mchk_rows (fld HA.out.1) HW.out.1 HW.out.2.2.2 (by omega)
        exact ⟨n, n + 1, ⟨by omega, by omega, h1, by rw [if_neg hm0, h2], fun _ => h2.symm, fun i hi => (h4 i hi).2, h5⟩⟩
    have hn64 := HN.out.1
    have hWd := HN.out.2.1
    have hm64 := HN.out.2.2.1
    go_wp2_with fail
    refine (wider_any (more := 0) HN.out.2.2.2.2.2.2 (fun i hi => (HN.out.2.2.2.2.2.1 i hi).2) (by omega) (by omega) (by omega)).mono ?_
    rintro e w2 ⟨rfl, ⟨h, hmx⟩, hb2⟩
    have H2 : Hid (Mx w1.heap.size w1.heap.size m m (n + 1) (mzc N Z) h w2 ∧ Below w1.heap.size w1 w2) := ⟨hmx, hb2⟩
    clear hmx hb2
    have HCw : Hid (∀ wX, Below w1.heap.size w1 wX → Calls Try.prog 52 #[.slice ao m ca] wX fun e w' => e = .returned (.int .i64 (Wd : Int)) ∧ w' = wX) := fun wX hX => by
      have h := width_any (ca := ca) (HW.out.2.2.2.below hX)
      rw [← HN.out.2.2.2.1] at h; exact h
    go_wp2_with (go_at_call 52; refine (HCw.out _ H2.out.2).mono ?_; rintro e w' ⟨rfl, hw⟩; have hw := hw.symm; subst hw)
    refine (reduce_any HA.out.1 (HW.out.2.1.below H2.out.2 HW.out.2.1.ltF HW.out.2.1.ltT) HW.out.2.1.ltF HW.out.2.1.ltT H2.out.1 (by omega) (by omega) (fun i hi => (HN.out.2.2.2.2.2.1 i hi).1) (fun i hi => (HN.out.2.2.2.2.2.1 i hi).2) hWd).mono ?_
    rintro e w3 ⟨k, R', p, h', pv, rfl, hst⟩
    obtain ⟨po, pc, rfl, _⟩ := hst.own.argL
    have hs1 := HW.out.2.2.1.size
    have hs2 := H2.out.2.size
    have hb13 : Below w1.heap.size w1 w3 := H2.out.2.trans hst.bel
    have H3 : Hid (Mx w1.heap.size w1.heap.size m m Wd R' h' w3 ∧ OwnI w2.heap.size (.slice po k pc) (zl k fun j => ((p j : Nat) : Int)) w3 ∧ RRE D Wd k R' p ∧ (∀ v, Spn D (RowsOf k R') v ↔ Spn D (RowsOf m (mzc N Z)) v) ∧ Below w1.heap.size w1 w3 ∧ (∀ i, i < m → El D (R' i))) := by
      refine ⟨?_, hst.own, ?_⟩
      · by_cases hm0 : m = 0
        · subst hm0
          exact hst.mx.any
        · have : Wd = n + 1 := by rw [HN.out.2.2.2.1, if_neg hm0, HN.out.2.2.2.2.1 (by omega)]
          rw [this]; exact hst.mx
      · by_cases hm0 : m = 0
        · have hk0 : k = 0 := by have := hst.rdg.le; omega
          refine ⟨⟨fun i hi => by omega, fun i hi => by omega, fun i hi => by omega, fun i j _ hj => by omega, fun i hi => by omega, fun i j hi => by omega, fun i c hi => by omega⟩, fun v => ?_, hb13, hst.rdg.el⟩
          constructor
          · exact fun h => spn_le (fld HA.out.1) (fun u ⟨i, hi, _⟩ => by omega) h
          · exact fun h => spn_le (fld HA.out.1) (fun u ⟨i, hi, _⟩ => by omega) h
        · have hR := hst.rdg
          have hWe : Wd = n + 1 := by rw [HN.out.2.2.2.1, if_neg hm0, HN.out.2.2.2.2.1 (by omega)]
          rw [hWe] at hR
          obtain ⟨h1, _, h2⟩ := rdg_end (fld HA.out.1) hR
          rw [hWe]
          exact ⟨h1, fun v => (h2 v).trans (hst.spn v), hb13, hst.rdg.el⟩
    have hkm : k ≤ m := hst.rdg.le
    clear hst hb13
    go_wp2_with (go_at_call 52; refine (HCw.out _ H3.out.2.2.2.2.1).mono ?_; rintro e w' ⟨rfl, hw⟩; have hw := hw.symm; subst hw)
    have hs3 := H3.out.2.2.2.2.1.size
    have hF1 := HW.out.2.1.ltF
    have hT1 := HW.out.2.1.ltT
    refine (madeNought_any HA.out.1 (HW.out.2.1.below H3.out.2.2.2.2.1 hF1 hT1) (by omega) (by omega) H3.out.1 (by omega) (by omega) hkm H3.out.2.2.2.2.2 H3.out.2.1 H3.out.2.2.1.lt).mono ?_
    rintro e w4 ⟨v, h2, rfl, hns, hnil, hb4⟩
    have H4 : Hid (NSt w3.heap.size Wd (nct k p Wd) (nul D R' p k Wd) v h2 w4 ∧ (nct k p Wd = 0 → v = .slice none 0 0) ∧ Below w3.heap.size w3 w4 ∧ Below w1.heap.size w1 w4) := ⟨hns, hnil, hb4, H3.out.2.2.2.2.1.trans (hb4.mono hs3)⟩
    clear hns hnil hb4
    have hcle := nct_le k p Wd
    by_cases hc0 : nct k p Wd = 0
    · have hv := H4.out.2.1 hc0
      subst hv
      go_wp2_with (go_at_call 52; refine (HCw.out _ H4.out.2.2.2).mono ?_; rintro e w' ⟨rfl, hw⟩; have hw := hw.symm; subst hw)
      refine (reduceNil_any (by omega)).mono ?_
      rintro e w5 ⟨rfl, hb5⟩
      have H5 : Hid (Below w.heap.size w w5) := (HW.out.2.2.1.trans (H4.out.2.2.2.mono hs1)).trans (hb5.mono (by have := H4.out.2.2.2.size; omega))
      clear hb5
      go_wp2
      go_ret2
      refine ⟨H5.out, Or.inr ⟨HW.out.1, _, k, R', p, 0, fun _ => pnil, fun _ => 0, Wd, rfl, fun h => by rw [HN.out.2.2.2.1, if_pos h], fun h => by rw [HN.out.2.2.2.1, if_neg (by omega)], H3.out.2.2.1, H3.out.2.2.2.1, Or.inl ⟨hc0, _, _, rfl⟩, by omega, ⟨fun i hi => by omega, fun i hi => by omega, fun i hi => by omega, fun i j _ hj => by omega, fun i hi => by omega, fun i j hi => by omega, fun i c hi => by omega⟩, fun v => ?_⟩⟩
      rw [hc0]
      exact ⟨fun h => spn_le (fld HA.out.1) (fun u ⟨i, hi, _⟩ => by omega) h, fun h => spn_le (fld HA.out.1) (fun u ⟨i, hi, _⟩ => by omega) h⟩
    · obtain ⟨G2, mc2, rfl, hmx2⟩ := H4.out.1.mx (by omega)
      have H4' : Hid (Mx w3.heap.size G2 mc2 (nct k p Wd) Wd (nul D R' p k Wd) h2 w4) := hmx2
      clear hmx2
      obtain ⟨cnt, hcnt⟩ : ∃ cnt, cnt = nct k p Wd := ⟨_, rfl⟩
      rw [← hcnt] at H4' hcle hc0 ⊢
      have HCt : Hid (cnt = nct k p Wd) := hcnt
      clear hcnt
      go_wp2_with (go_at_call 52; refine (HCw.out _ H4.out.2.2.2).mono ?_; rintro e w' ⟨rfl, hw⟩; have hw := hw.symm; subst hw)
      refine (reduce_any HA.out.1 (HW.out.2.1.below H4.out.2.2.2 hF1 hT1) (by omega) (by omega) H4'.out (by omega) (by omega) (fun i hi => nul_el (fld HA.out.1) H3.out.2.2.1.el _ _) (fun i hi => nul_bd H3.out.2.2.1.lt (by have := HCt.out; omega)) (Nat.le_refl _)).mono ?_
      rintro e w5 ⟨k2, R2, p2, h5, pv5, rfl, hst⟩
      have H5 : Hid (RSt D w3.heap.size G2 mc2 cnt Wd (nul D R' p k Wd) w4 Wd k2 R2 p2 h5 pv5 w5) := hst
      clear hst
      go_wp2
      go_ret2
      obtain ⟨hr1, _, hr2⟩ := rdg_end (fld HA.out.1) H5.out.rdg
      refine ⟨(HW.out.2.2.1.trans (H4.out.2.2.2.mono hs1)).trans (H5.out.bel.mono (by omega)), Or.inr ⟨HW.out.1, _, k, R', p, k2, R2, p2, Wd, rfl, fun h => by rw [HN.out.2.2.2.1, if_pos h], fun h => by rw [HN.out.2.2.2.1, if_neg (by omega)], H3.out.2.2.1, H3.out.2.2.2.1, ?_, ?_, hr1, fun v => ?_⟩⟩
      · rw [← HCt.out]; exact Or.inr ⟨_, _, _, _, rfl, H5.out.mx.mono (by omega)⟩
      · rw [← HCt.out]; exact H5.out.rdg.le
      · rw [← HCt.out]; exact (hr2 v).trans (H5.out.spn v)
  · have HW : Hid (D.mchk m N Z ≠ 0 ∧ Below w.heap.size w w1) := ⟨h0, hb1⟩
    obtain ⟨e, he⟩ : ∃ e, e = D.mchk m N Z := ⟨_, rfl⟩
    rw [← he] at h0 ⊢
    have hz : (e != 0) = true := by rw [bne_iff_ne]; exact h0
    have HE : Hid (e = D.mchk m N Z) := he
    clear h0 hb1 he
    go_wp2
    go_ret2
    exact ⟨HW.out.2, Or.inl ⟨HW.out.1, by rw [← HE.out]; rfl⟩⟩
end Go.Proofs.Ytbpeahhhkcljeaa

/- Plain mathematics: linear equations (Solve): the rows with what they are to be behind them. -/
namespace Go.Proofs.Ytbpeahhhkcljeaa

end Go.Proofs.Ytbpeahhhkcljeaa
