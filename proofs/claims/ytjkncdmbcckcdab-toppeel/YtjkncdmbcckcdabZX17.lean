/- The program's matrices: is a number in a list (slices.Contains); the rows that make a reduced form 0 (madeNought). -/
import Derived.Test.YtjkncdmbcckcdabZX14
import Derived.Test.YtjkncdmbcckcdabZS4
namespace Go.Proofs.Ytjkncdmbcckcdab
open Go.RowKit

set_option maxHeartbeats 2000000 in
set_option maxRecDepth 100000 in
theorem indexI_any {ao : Option Addr} {n ca : Nat} {z : Nat → Int} {w : World} (x : Int) (hs : SlZ ao n z w) (hn : n ≤ 1000000) :
    Calls Try.prog 76 #[.slice ao n ca, .int .i64 x] w fun e w' => w' = w ∧ ((∃ i : Nat, i < n ∧ z i = x ∧ e = .returned (.int .i64 i)) ∨ ((∀ j, j < n → z j ≠ x) ∧ e = .returned (.int .i64 (-1)))) := by
  have HS : Hid (SlZ ao n z w) := hs
  clear hs
  go_enter Try.func76, Try.ntmps76
  go_wp2
  go_loopw [5, 8] (fun _ i wr => ∃ r : Nat, r ≤ n ∧ i = .int .i64 r ∧ Hid (∀ j, j < r → z j ≠ x) ∧ wr = w) (fun _ i _ => n - (intOf i).toNat)
  case atStart => exact ⟨0, by omega, rfl, (show Hid _ from fun j hj => by omega), rfl⟩
  case round =>
    obtain ⟨r, hr, rfl, HH, rfl⟩ := hrel
    by_cases hlt : r < n
    · obtain ⟨b, off, rfl, hcz⟩ := HS.out r hlt
      have hib : (r : Int) < (n : Int) := by omega
      obtain ⟨y, hy⟩ : ∃ y, y = z r := ⟨_, rfl⟩
      rw [← hy] at hcz
      by_cases he : x = y
      · have hb : (x == y) = true := beq_iff_eq.2 he
        have HV : Hid (z r = x) := by rw [← hy, he]; rfl
        clear he hy
        go_wp2
        go_ret
        exact ⟨rfl, Or.inl ⟨r, hlt, HV.out, rfl⟩⟩
      · have hb : (x == y) = false := beq_eq_false_iff_ne.2 he
        have HV : Hid (∀ j, j < r + 1 → z j ≠ x) := fun j hj => by
          by_cases e : j = r
          · rw [e, ← hy]; exact fun e => he e.symm
          · exact HH.out j (by omega)
        clear he hy
        go_wp2
        go_roundw
        case rel => exact ⟨r + 1, by omega, by go_num, HV.out, by first | rfl | trivial⟩
        case measure => simp [intOf]; omega
    · have HV : Hid (∀ j, j < n → z j ≠ x) := fun j hj => HH.out j (by omega)
      go_wp2
      go_ret
      exact ⟨rfl, Or.inr ⟨HV.out, rfl⟩⟩

set_option maxHeartbeats 2000000 in
set_option maxRecDepth 100000 in
theorem contains_any {ao : Option Addr} {n ca : Nat} {z : Nat → Int} {w : World} (x : Int) (hs : SlZ ao n z w) (hn : n ≤ 1000000) :
    Calls Try.prog 67 #[.slice ao n ca, .int .i64 x] w fun e w' => e = .returned (.bool (decide (x ∈ zl n z))) ∧ w' = w := by
  have HS : Hid (SlZ ao n z w) := hs
  clear hs
  go_enter Try.func67, Try.ntmps67
  go_wp2_with fail
  refine (indexI_any x HS.out hn).mono ?_
  rintro e w' ⟨hw, ⟨i, hi, hz, rfl⟩ | ⟨hz, rfl⟩⟩
  · have hw := hw.symm
    subst hw
    have hge : (0 : Int) ≤ (i : Int) := by omega
    have HV : Hid (decide (x ∈ zl n z) = true) := by
      show _ = _
      rw [decide_eq_true_eq]; exact zl_mem.2 ⟨i, hi, hz⟩
    clear hz
    go_wp2
    go_ret
    exact ⟨by rw [HV.out]; rfl, rfl⟩
  · have hw := hw.symm
    subst hw
    have HV : Hid (decide (x ∈ zl n z) = false) := by
      show _ = _
      rw [decide_eq_false_iff_not]
      intro h
      obtain ⟨j, hj, e⟩ := zl_mem.1 h
      exact hz j hj e
    clear hz
    go_wp2
    go_ret
    exact ⟨by rw [HV.out]; rfl, rfl⟩

/-- c rows of n numbers, each made by the call itself and appended to a list of its own. -/
structure NSt (base n c : Nat) (NR : Nat → Nat → Nat) (v : Value) (h : Nat → Nat) (wr : World) : Prop where
  own : OwnV base v (vl c fun i => .slice (some ⟨h i, 0, none⟩) n n) wr
  row : ∀ i, i < c → Row (h i) n (NR i) wr
  ge : ∀ i, i < c → base ≤ h i
  inj : ∀ i, i < c → ∀ j, j < c → h i = h j → i = j
theorem NSt.below {base n c : Nat} {NR : Nat → Nat → Nat} {v : Value} {h : Nat → Nat} {w w' : World} (H : NSt base n c NR v h w) (hb : Below w.heap.size w w') : NSt base n c NR v h w' :=
  ⟨H.own.below hb (Nat.le_refl _), fun i hi => (H.row i hi).below hb (H.row i hi).lt, H.ge, H.inj⟩
theorem NSt.congr {base n c : Nat} {NR NR' : Nat → Nat → Nat} {v : Value} {h : Nat → Nat} {w : World} (H : NSt base n c NR v h w) (e : ∀ i, i < c → NR i = NR' i) : NSt base n c NR' v h w :=
  ⟨H.own, fun i hi => by rw [← e i hi]; exact H.row i hi, H.ge, H.inj⟩
theorem NSt.push {base n c g : Nat} {NR : Nat → Nat → Nat} {d : Nat → Nat} {v v' : Value} {h : Nat → Nat} {w w' : World} (H : NSt base n c NR v h w) (hr : Row g n d w) (hg : base ≤ g) (hlt : ∀ i, i < c → h i < g) (ho : OwnV base v' (vl c (fun i => .slice (some ⟨h i, 0, none⟩) n n) ++ [.slice (some ⟨g, 0, none⟩) n n]) w') (hgr : w.grownBy w' v.ownBlock) :
    NSt base n (c + 1) (fun i => if i = c then d else NR i) v' (fun i => if i = c then g else h i) w' := by
  have hkeep : ∀ {b : Nat} {e : Nat → Nat}, Row b n e w → Row b n e w' := fun {b e} hb => hb.other (hgr.block b hb.lt (fun e' => hb.apart H.own e'))
  refine ⟨?_, fun i hi => ?_, fun i hi => ?_, fun i hi j hj e => ?_⟩
  · have e : vl (c + 1) (fun i => Value.slice (some ⟨if i = c then g else h i, 0, none⟩) n n) = vl c (fun i => .slice (some ⟨h i, 0, none⟩) n n) ++ [.slice (some ⟨g, 0, none⟩) n n] := by
      unfold vl
      rw [List.range_succ, List.map_append]
      congr 1
      · exact List.map_congr_left (fun j hj => by rw [if_neg (by have := List.mem_range.1 hj; omega)])
      · simp
    rw [e]; exact ho
  · by_cases e : i = c
    · simp only [if_pos e]; exact hkeep hr
    · simp only [if_neg e]; exact hkeep (H.row i (by omega))
  · by_cases e : i = c
    · simp only [if_pos e]; exact hg
    · simp only [if_neg e]; exact H.ge i (by omega)
  · by_cases e1 : i = c
    · by_cases e2 : j = c
      · omega
      · simp only [if_pos e1, if_neg e2] at e
        have := hlt j (by omega); omega
    · by_cases e2 : j = c
      · simp only [if_neg e1, if_pos e2] at e
        have := hlt i (by omega); omega
      · simp only [if_neg e1, if_neg e2] at e
        exact H.inj i (by omega) j (by omega) e
theorem NSt.mx {base n c : Nat} {NR : Nat → Nat → Nat} {v : Value} {h : Nat → Nat} {w : World} (H : NSt base n c NR v h w) (hc : 0 < c) : ∃ G mc, v = .slice (some ⟨G, 0, none⟩) c mc ∧ Mx base G mc c n NR h w := by
  rcases H.own.2 with ⟨h1, h2⟩ | ⟨g, cap, cur, hv, hb, hh, hle, hcm, hsz, htake⟩
  · rw [vl_len] at h2; omega
  · rw [vl_len] at hv hle htake
    have hsz' : cur.size = cap := by omega
    refine ⟨g, cap, hv, ⟨⟨fun o => (cur[o]?).getD undef, ⟨cur, hh, hsz', fun o ho => ?_⟩, fun i hi => ?_⟩, H.row, hb, H.ge, H.inj, fun i hi e => ?_, by omega⟩⟩
    · show cur[o]? = some ((cur[o]?).getD undef)
      rw [Array.getElem?_eq_getElem (by omega)]; rfl
    · have h3 : (cur.toList.take (c * 1))[i]? = (vl c fun i => Value.slice (some ⟨h i, 0, none⟩) n n)[i]? := by rw [htake]
      rw [List.getElem?_take, if_pos (by omega), vl_get _ _ i hi, Array.getElem?_toList] at h3
      show (cur[i]?).getD undef = _
      rw [h3]; rfl
    · have := (H.row i hi).apart H.own
      rw [hv, e] at this
      exact this rfl
theorem NSt.nil {base n : Nat} {NR : Nat → Nat → Nat} {v : Value} {h : Nat → Nat} {w : World} (H : NSt base n 0 NR v h w) (hv : ∀ k, v.ownBlock = some k → False) : v = .slice none 0 0 := by
  rcases H.own.2 with ⟨h1, h2⟩ | ⟨g, cap, cur, hv', hb, _⟩
  · exact h1
  · exact absurd (by rw [hv']; rfl) (hv g)

set_option maxHeartbeats 8000000 in
set_option maxRecDepth 100000 in
theorem madeNought_any {F T B G mc m n k : Nat} {D : FD} (hD : D ∈ fieldsL) {g : Nat → Value} {w : World} (hat : FAt F T D g w) (hF : F < w.heap.size) (hT : T < w.heap.size) {R : Nat → Nat → Nat} {h : Nat → Nat} (hM : Mx B G mc m n R h w) (hm : m ≤ 1000) (hn : n ≤ 1000) (hkm : k ≤ m) (hE : ∀ i, i < m → El D (R i)) {po : Option Addr} {pc : Nat} {p : Nat → Nat} {base : Nat} (hp : OwnI base (.slice po k pc) (zl k fun j => ((p j : Nat) : Int)) w) (hpn : ∀ i, i < k → p i < n) :
    Calls Try.prog 53 #[.pointer (some ⟨F, 0, none⟩), .slice (some ⟨G, 0, none⟩) m mc, .slice po k pc, .int .i64 n] w fun e w' => ∃ v h2, e = .returned v ∧ NSt w.heap.size n (nct k p n) (nul D R p k n) v h2 w' ∧ (nct k p n = 0 → v = .slice none 0 0) ∧ Below w.heap.size w w' := by
  have HF : Hid (FAt F T D g w ∧ D ∈ fieldsL ∧ F < w.heap.size ∧ T < w.heap.size ∧ Mx B G mc m n R h w ∧ (∀ i, i < m → El D (R i)) ∧ OwnI base (.slice po k pc) (zl k fun j => ((p j : Nat) : Int)) w ∧ (∀ i, i < k → p i < n) ∧ ArgL po k pc (fun j => ((p j : Nat) : Int)) w) := by
    obtain ⟨po', pc', e, hpl⟩ := hp.argL
    cases e
    exact ⟨hat, hD, hF, hT, hM, hE, hp, hpn, hpl⟩
  clear hat hD hF hT hM hE hp hpn
  go_enter Try.func53, Try.ntmps53
  go_wp2
  go_loopw [9, 15] (fun v vc wr => ∃ (c : Nat) (h2 : Nat → Nat), c ≤ n ∧ vc = .int .i64 c ∧ Hid (NSt w.heap.size n (nct k p c) (nul D R p k c) v h2 wr ∧ (nct k p c = 0 → v = .slice none 0 0) ∧ Below w.heap.size w wr)) (fun _ vc _ => n - (intOf vc).toNat)
  case atStart => exact ⟨0, fun _ => 0, by omega, rfl, ⟨⟨OwnV.nil _ _, fun i hi => absurd hi (by simp [nct]), fun i hi => absurd hi (by simp [nct]), fun i hi => absurd hi (by simp [nct])⟩, fun _ => rfl, Below.refl _ _⟩⟩
  case round =>
    obtain ⟨c, h2, hc, rfl, HG⟩ := hrel
    rename World => wA
    by_cases hlt : c < n
    · have hcb : (c : Int) < (n : Int) := by omega
      have HC : Hid (Calls Try.prog 67 #[.slice po k pc, .int .i64 (c : Nat)] wA fun e w' => e = .returned (.bool (decide ((c : Int) ∈ zl k fun j => ((p j : Nat) : Int)))) ∧ w' = wA) :=
        contains_any (c : Int) (HF.out.2.2.2.2.2.2.2.2.sl.below HG.out.2.2 HF.out.2.2.2.2.2.2.2.2.lt) (by omega)
      by_cases hfr : ∀ i, i < k → p i ≠ c
      · rw [decide_eq_false (fun h => free_zl.1 h hfr)] at HC
        have HFr : Hid (∀ i, i < k → p i ≠ c) := hfr
        clear hfr
        go_wp2_with fail
        refine HC.out.mono ?_
        rintro e wD ⟨rfl, hwD⟩
        have hwD := hwD.symm
        subst hwD
        clear HC
        go_wp2_with (at_make; refine make_int rfl _ _ rfl _ n rfl rfl rfl (by omega) ?_; intro w2 hown2 hgrow2; have hu0 := (row_zeros hown2).cell c hlt; have hf0 := (row_zeros hown2).free c)
        have HI2 : Hid (Row wA.heap.size n pnil w2 ∧ Below wA.heap.size wA w2) := ⟨row_zeros hown2, below_grown hgrow2 (Nat.le_refl _) (fun k hk => by simp at hk)⟩
        clear hown2 hgrow2 hu0 hf0
        obtain ⟨gr, hg⟩ : ∃ g, g = wA.heap.size := ⟨_, rfl⟩
        have HI3 : Hid (Row gr n pnil w2 ∧ Below wA.heap.size wA w2 ∧ gr = wA.heap.size) := by rw [hg]; exact ⟨HI2.out.1, HI2.out.2, rfl⟩
        rw [← hg]
        have hgD : wA.heap.size ≤ gr := by omega
        clear HI2 hg
        go_loopw [28] (fun vi wi => ∃ i : Nat, i ≤ k ∧ vi = .int .i64 i ∧ Hid (Row gr n (nrv D R p c i) wi ∧ Below wA.heap.size wA wi)) (fun vi _ => k - (intOf vi).toNat)
        case atStart => exact ⟨0, by omega, rfl, HI3.out.1.store c 1 (fun j _ => by show (if j = c then 1 else 0) = if j = c then 1 else pnil j; rfl), HI3.out.2.1.setCell hgD _⟩
        case round =>
          obtain ⟨i, hi, rfl, HK⟩ := hrel
          rename World => wB
          by_cases hik : i < k
          · have hib : (i : Int) < (k : Int) := by omega
            have him : (i : Int) < (m : Int) := by omega
            have hb1B := bel_up' HG.out.2.2 HK.out.2
            have hMB := HF.out.2.2.2.2.1.below hb1B
            have hcA := hMB.cell i (by omega)
            have hcx := (hMB.row i (by omega)).cell c hlt
            obtain ⟨bp, op, rfl, hcp⟩ := (HF.out.2.2.2.2.2.2.2.2.sl.below hb1B HF.out.2.2.2.2.2.2.2.2.lt) i hik
            obtain ⟨x, hx⟩ : ∃ x, x = R i c := ⟨_, rfl⟩
            obtain ⟨y, hy⟩ : ∃ y, y = p i := ⟨_, rfl⟩
            obtain ⟨u, hu⟩ : ∃ u, u = D.ng x := ⟨_, rfl⟩
            rw [← hx] at hcx
            replace hcp : wB.cell? ⟨bp, op + i, none⟩ = some (.int .i64 ((p i : Nat) : Int)) := hcp
            rw [← hy] at hcp
            have hyn : y < n := by rw [hy]; exact HF.out.2.2.2.2.2.2.2.1 i hik
            have hyb : (y : Int) < (n : Int) := by omega
            have hxq : x < D.q := by rw [hx]; exact HF.out.2.2.2.2.2.1 i (by omega) c
            have hcy := HK.out.1.cell y hyn
            have hfy := HK.out.1.free y
            have hatB := HF.out.1.below hb1B HF.out.2.2.1 HF.out.2.2.2.1
            have HC1 : Hid (Calls Try.prog 68 #[.pointer (some ⟨F, 0, none⟩), .int .i64 (x : Nat)] wB fun e w' => e = .returned (.int .i64 (u : Nat)) ∧ ∃ k, w' = wB.drewN k) := by
              show Calls _ _ _ _ _
              rw [hu]; exact neg_nat HF.out.2.1 hatB hxq
            have HV : Hid (∀ j, j < n → nrv D R p c (i + 1) j = if j = y then u else nrv D R p c i j) := fun j _ => by
              rw [hu, hx, hy]; rfl
            obtain ⟨hrow, hhr⟩ : ∃ b, b = h i := ⟨_, rfl⟩
            rw [← hhr] at hcA hcx
            clear hx hy hu hb1B hMB hatB hhr
            go_wp2_with (go_at_call 68; refine HC1.out.mono ?_; rintro e w' ⟨rfl, nq, rfl⟩; have hcyq : (wB.drewN nq).cell? ⟨gr, y, none⟩ = _ := hcy; have hfyq : (wB.drewN nq).frozen? ⟨gr, y, none⟩ = false := hfy)
            go_roundw
            case rel => exact ⟨i + 1, by omega, by go_num, (HK.out.1.drewN nq).store y u HV.out, (bel_up' HK.out.2 ⟨rfl, rfl, rfl, Nat.le_refl _, fun _ _ => rfl⟩ : Below wA.heap.size wA (wB.drewN nq)).setCell hgD _⟩
            case measure => simp [intOf]; omega
          · have hib : ¬ (i : Int) < (k : Int) := by omega
            have hie : i = k := by omega
            subst hie
            have HV : Hid (NSt w.heap.size n (nct i p c) (nul D R p i c) u9 h2 wB ∧ (∀ j, j < nct i p c → h2 j < gr)) := ⟨HG.out.1.below HK.out.2, fun j hj => by rw [HI3.out.2.2]; exact (HG.out.1.row j hj).lt⟩
            have hll : (vl (nct i p c) fun j => Value.slice (some ⟨h2 j, 0, none⟩) n n).length ≤ 1000000 := by rw [vl_len]; have := nct_le i p c; omega
            have hsB := HK.out.2.size
            have hsD := HG.out.2.2.size
            go_wp2_with (at_builtin; refine append_sl rfl _ _ rfl w.heap.size u9 (vl (nct i p c) fun j => Value.slice (some ⟨h2 j, 0, none⟩) n n) rfl (HV.out.1.own.below ((Below.refl _ _).alloc (Nat.le_refl _) _) (Nat.le_refl _)) ⟨wB.heap.size, 0, none⟩ 1 (.slice (some ⟨gr, 0, none⟩) n n) rfl rfl (by rw [cell_of_row _ _ _ _ _ (0, 0) (two_new _)]; rfl) hll (by simp; omega) ?_; intro v' w6 hown6 hg6)
            have hal : Below wB.heap.size wB (wB.alloc (.cells #[.slice (some ⟨gr, 0, none⟩) n n] 22)) := (Below.refl _ _).alloc (Nat.le_refl _) _
            have ho := HV.out.1.below hal
            have hbw := bel_up' HG.out.2.2 (bel_up' HK.out.2 hal)
            have HR : Hid (∃ h3, NSt w.heap.size n (nct i p (c + 1)) (nul D R p i (c + 1)) v' h3 w6 ∧ (nct i p (c + 1) = 0 → v' = .slice none 0 0) ∧ Below w.heap.size w w6) := by
              refine ⟨fun j => if j = nct i p c then gr else h2 j, ?_, fun h0 => absurd h0 (by rw [nct_yes HFr.out]; omega), hbw.grown hg6 (by simp; omega) (fun q hq => ho.own.open_ge q hq)⟩
              have h := ho.push (HK.out.1.below hal HK.out.1.lt) (by omega) HV.out.2 hown6 hg6
              rw [nct_yes HFr.out]
              refine h.congr (fun j hj => ?_)
              by_cases e : j = nct i p c
              · rw [if_pos e, e, nul_at]
              · rw [if_neg e, nul_lo (by omega)]
            clear hown6 hg6 ho hbw hal
            obtain ⟨h3, hr3⟩ := HR.out
            go_roundw
            case rel => exact ⟨c + 1, h3, by omega, by go_num, hr3⟩
            case measure => simp [intOf]; omega
      · rw [decide_eq_true (free_zl.2 hfr)] at HC
        have HD : Hid (NSt w.heap.size n (nct k p (c + 1)) (nul D R p k (c + 1)) u9 h2 wA ∧ (nct k p (c + 1) = 0 → u9 = .slice none 0 0) ∧ Below w.heap.size w wA) := by
          rw [nct_no hfr]
          exact ⟨HG.out.1.congr (fun j hj => (nul_lo hj).symm), HG.out.2⟩
        clear hfr
        go_wp2_with fail
        refine HC.out.mono ?_
        rintro e wD ⟨rfl, hwD⟩
        have hwD := hwD.symm
        subst hwD
        go_wp2
        go_roundw
        case rel => exact ⟨c + 1, h2, by omega, by go_num, HD.out⟩
        case measure => simp [intOf]; omega
    · have hcb : ¬ (c : Int) < (n : Int) := by omega
      have hce : c = n := by omega
      subst hce
      go_wp2
      go_ret
      exact ⟨_, rfl, ⟨h2, HG.out.1⟩, HG.out.2.1, HG.out.2.2⟩
end Go.Proofs.Ytjkncdmbcckcdab
