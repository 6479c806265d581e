/- Texts of ours, one behind the other: KW4 KW5 KW6 KW7. -/
import Derived.Test.YtbnkekeeceicaaaZS96
import Derived.Test.YtbnkekeeceicaaaZS47
import Derived.Test.YtbnkekeeceicaaaZR5
import Derived.Deep.OwnRows
import Derived.Test.YtbnkekeeceicaaaZS92
/- Nets: the nodes to which one way more can lead (reached). -/
namespace Go.Proofs.Ytbnkekeeceicaaa
open Go.RowKit Go.Sort Go.Maps

/-- What the map of the reached has. -/
def rcV (bt : Nat → Nat) : Nat → Int := fun v => if v = 0 then -1 else ((bt v : Nat) : Int)
theorem MapN.noQ {B base : Nat} {L : List Nat} {c : Nat → Int} {v : Value} {l : List Int} {w : World} (h : MapN B L c w) (hq : OwnK base v l w) : v.ownBlock ≠ some B := by
  obtain ⟨D, ⟨es, clock, hb, _⟩, _⟩ := h
  obtain ⟨g, off, cap, N, f, rfl, h1, ⟨cs, h2, _⟩, h3⟩ := hq
  intro e
  have e : g = B := by simpa [Value.ownBlock] using e
  rw [e, hb] at h2
  cases h2
theorem MapN.congr {B : Nat} {L : List Nat} {c c' : Nat → Int} {w : World} (h : MapN B L c w) (e : ∀ k, k ∈ L → c k = c' k) : MapN B L c' w := by
  obtain ⟨D, h1, h2⟩ := h
  exact ⟨D, h1, h2.im, fun k hk => by rw [← e k hk]; exact h2.yes k hk, h2.has⟩

theorem OwnK.alloc {base : Nat} {v : Value} {l : List Int} {w : World} (h : OwnK base v l w) (o : Obj) : OwnK base v l (w.alloc o) := h.below ((Below.refl _ _).alloc (Nat.le_refl _) _)
set_option maxHeartbeats 16000000 in
set_option maxRecDepth 100000 in
theorem sreached_any {B ub n t k : Nat} {eo : Option Addr} {m ec : Nat} {us : Nat → Bool} {F T : Nat → Nat} {w : World} (hS : StB B ub n t k eo m ec us w) (hE : EdZ eo m (fun i => ((F i : Nat) : Int)) (fun i => ((T i : Nat) : Int)) w) (hN : Nt n m F T) (hn : 0 < n) (hn10 : n ≤ 10) (hm : m ≤ 100) :
    Calls Try.prog 47 #[.pointer (some ⟨B, 0, none⟩)] w fun r w' => ∃ L bt, r = .returned (.map (some w.heap.size)) ∧ MapN w.heap.size L (rcV bt) w' ∧ Rch m F T us L bt ∧ Below w.heap.size w w' := by
  obtain ⟨G, hG⟩ : ∃ G, G = w.heap.size := ⟨_, rfl⟩
  obtain ⟨w1, hw1⟩ : ∃ w1, w1 = w.alloc (.map #[] 0) := ⟨_, rfl⟩
  have ho1 : w1.ownsMap Try.prog 3 (plainElem Try.prog 3) w.heap.size 0 (.map [] : DataW Value) := by rw [hw1]; exact World.ownsMap_made _ _ _ _
  obtain ⟨w2, hr2, ho2, hg2⟩ := ho1.update ct_law ct_map (by unfold maxLen; omega) (ct_key ((0 : Nat) : Int) (ct_wf (by omega))) (plainElem_int (H := Value) (P := Try.prog) cty_int (q := .i64) (a := -1) (by decide))
  have hb1 : Below w.heap.size w w1 := by rw [hw1]; exact (Below.refl _ _).alloc (Nat.le_refl _) _
  have hb2 : Below w.heap.size w w2 := hb1.grown hg2 (by rw [hw1]; simp) (fun j hj => by cases hj; exact Nat.le_refl _)
  have hs2 : w.heap.size < w2.heap.size := by
    have := hg2.size
    rw [hw1] at this
    simp at this
    omega
  have hal : Below w2.heap.size w2 (w2.alloc (.cells #[.int .i64 0] 3)) := (Below.refl _ _).alloc (Nat.le_refl _) _
  have H2 : Hid (MapN G [0] (rcV fun _ => 0) (w2.alloc (.cells #[.int .i64 0] 3)) ∧ Below w.heap.size w (w2.alloc (.cells #[.int .i64 0] 3)) ∧ G = w.heap.size) := by
    refine ⟨MapN.below (w := w2) ⟨_, by rw [hG]; exact ho2, ?_⟩ hal, bel_up' hb2 hal, hG⟩
    have h := (MnD.nil (fun _ => 0)).put 0 (-1)
    refine ⟨h.im, fun k hk => ?_, h.has⟩
    rw [h.yes k hk]
    have : k = 0 := List.mem_singleton.1 hk
    rw [this]; rfl
  have HQ : Hid (OwnK w.heap.size (.slice (some ⟨w2.heap.size, 0, none⟩) 1 1) (qzl [0] 0) (w2.alloc (.cells #[.int .i64 0] 3))) := by
    have h := OwnK.of (ownI_lit w2 [0] (by simp)) (by simp)
    obtain ⟨g', off', cap', N', f', e, k1, k2⟩ := h
    exact ⟨g', off', cap', N', f', e, by omega, k2⟩
  rw [hw1] at hr2
  replace hr2 : (Instr.mapUpdate 58 (.map (some w.heap.size)) (.int .i64 0) (.int .i64 (-1))).run Try.prog (w.alloc (.map #[] 0)) = .ok () w2 := hr2
  have HS : Hid (StB B ub n t k eo m ec us w ∧ EdZ eo m (fun i => ((F i : Nat) : Int)) (fun i => ((T i : Nat) : Int)) w ∧ Nt n m F T ∧ 0 < n) := ⟨hS, hE, hN, hn⟩
  have hmm := @run_makeMap Try.prog
  clear hS hE hN hg2 ho1 ho2 hb1 hb2 hal hs2
  go_enter Try.func47, Try.ntmps47
  go_wp2
  rw [← hG]
  clear hG hr2 hw1 hmm
  go_loopg [4] n (fun gk v4 wr => ∃ (L : List Nat) (bt : Nat → Nat) (d : Nat), gk = n - d ∧ Hid (OwnK w.heap.size v4 (qzl L d) wr ∧ MapN G L (rcV bt) wr ∧ Bfs n m F T us L bt d ∧ d ≤ L.length ∧ Below w.heap.size w wr))
  case atStart => exact ⟨[0], fun _ => 0, 0, rfl, HQ.out, H2.out.1, Bfs.start HS.out.2.2.2 _, by simp, H2.out.2.1⟩
  case round =>
    obtain ⟨L, bt, d, rfl, HG⟩ := hrel
    rename World => wr
    obtain ⟨g, off, cap, hv4, hcap1, hcap2, hhd⟩ := HG.out.1.form
    rw [qzl_len] at hv4 hcap1 hhd
    have hLn : L.length ≤ n := nd_len HG.out.2.2.1.nd HG.out.2.2.1.lt
    by_cases hlt : d < L.length
    · obtain ⟨x, hx⟩ : ∃ x, x = L.getD d 0 := ⟨_, rfl⟩
      obtain ⟨q, hq⟩ : ∃ q, q = L.length - (d + 1) := ⟨_, rfl⟩
      rw [show L.length - d = q + 1 by omega] at hv4 hcap1 hhd
      subst hv4
      have hc0 : wr.cell? ⟨g, off, none⟩ = some (.int .i64 (x : Nat)) := by
        rw [hhd (by omega), qzl_cons hlt, hx]; rfl
      have hlen0 : (0 : Int) < ((q + 1 : Nat) : Int) := by omega
      have HX : Hid (x = L.getD d 0 ∧ q = (qzl L (d + 1)).length) := ⟨hx, by rw [qzl_len]; exact hq⟩
      have HT : Hid ((cap = 1 → OwnK w.heap.size (.slice (some ⟨g, off, none⟩) q 0) (qzl L (d + 1)) wr) ∧ (cap ≠ 1 → OwnK w.heap.size (.slice (some ⟨g, off + 1, none⟩) q (cap - 1)) (qzl L (d + 1)) wr)) := by
        have h := HG.out.1
        rw [qzl_cons hlt] at h
        rw [HX.out.2] at h ⊢
        exact OwnK.tail h
      have hd10 : d < 10 := by omega
      clear hhd hx hq
      go_upto_region 4 with fail
      go_cut [4] (fun v wx => ∃ v', v = v' ∧ Hid (OwnK w.heap.size v' (qzl L (d + 1)) wr) ∧ wx = wr)
      case first =>
        by_cases hc : cap = 1
        · have HTc : Hid (OwnK w.heap.size (.slice (some ⟨g, off, none⟩) q 0) (qzl L (d + 1)) wr) := HT.out.1 hc
          subst hc
          have hq0 : q = 0 := by omega
          subst hq0
          go_wp2
          go_meet
          case rel => exact ⟨_, rfl, HTc.out, rfl⟩
        · have HTc : Hid (OwnK w.heap.size (.slice (some ⟨g, off + 1, none⟩) q (cap - 1)) (qzl L (d + 1)) wr) := HT.out.2 hc
          go_wp2
          go_meet
          case rel => exact ⟨_, rfl, HTc.out, rfl⟩
      case rest =>
      obtain ⟨v', rfl, HQ', hwx⟩ := hcut
      have hwx := hwx.symm
      subst hwx
      have c1 := (HS.out.1.below HG.out.2.2.2.2).c1
      go_wp2
      clear c1 hc0 hlen0 hcap1 hcap2 HT
      go_loopw [4, 27] (fun v4 vi wx => ∃ (i : Nat) (L' : List Nat) (bt' : Nat → Nat), i ≤ m ∧ vi = .int .i64 (i : Nat) ∧ Hid (OwnK w.heap.size v4 (qzl L' (d + 1)) wx ∧ MapN G L' (rcV bt') wx ∧ Bfs n m F T us L' bt' d ∧ d < L'.length ∧ L'.getD d 0 = x ∧ (∀ e, e < i → frF F T us e = x → frT F T us e ∈ L') ∧ Below w.heap.size w wx)) (fun _ vi _ => m - (RowKit.intOf vi).toNat)
      case atStart => exact ⟨0, L, bt, by omega, rfl, HQ'.out, HG.out.2.1, HG.out.2.2.1, hlt, HX.out.1.symm, fun e he => absurd he (by omega), HG.out.2.2.2.2⟩
      case round =>
        obtain ⟨i, L', bt', hi, rfl, HI⟩ := hrel
        rename World => wx
        have hLn' : L'.length ≤ n := nd_len HI.out.2.2.1.nd HI.out.2.2.1.lt
        by_cases hil : i < m
        · have hib : (i : Int) < (m : Int) := by omega
          have hib0 : (0 : Int) ≤ (i : Int) := by omega
          have HFr : Hid (Calls Try.prog 48 #[.pointer (some ⟨B, 0, none⟩), .int .i64 (i : Nat)] wx fun r w' => r = .returned (.agg #[.int .i64 (frF F T us i : Nat), .int .i64 (frT F T us i : Nat)]) ∧ Below wx.heap.size wx w') := sfree_any (HS.out.1.below HI.out.2.2.2.2.2.2) (HS.out.2.1.below HI.out.2.2.2.2.2.2) hil
          obtain ⟨f, hf⟩ : ∃ f, f = frF F T us i := ⟨_, rfl⟩
          obtain ⟨u, hu⟩ : ∃ u, u = frT F T us i := ⟨_, rfl⟩
          rw [← hf, ← hu] at HFr
          have HFu : Hid (f = frF F T us i ∧ u = frT F T us i) := ⟨hf, hu⟩
          have hun : u < n := by rw [hu]; exact (fr_lt HS.out.2.2.1 hil).2
          clear hf hu
          go_wp2_with fail
          refine HFr.out.mono ?_
          rintro e wy ⟨rfl, hby⟩
          obtain ⟨wz, hwz⟩ : ∃ wz, wz = wy.alloc (.cells #[.int .i64 (f : Nat), .int .i64 (u : Nat)] 45) := ⟨_, rfl⟩
          have hbz : Below wx.heap.size wx wz := by rw [hwz]; exact hby.alloc hby.size _
          have HZ : Hid (OwnK w.heap.size u4 (qzl L' (d + 1)) wz ∧ MapN G L' (rcV bt') wz ∧ Below w.heap.size w wz) := ⟨HI.out.1.below hbz, HI.out.2.1.below hbz, bel_up' HI.out.2.2.2.2.2.2 hbz⟩
          obtain ⟨D, hown, hD⟩ := HZ.out.2.1
          have HOw : Hid (wz.ownsMap Try.prog 3 (plainElem Try.prog 3) G L'.length D ∧ MnD D L' (rcV bt')) := ⟨hown, hD⟩
          rw [hwz] at HOw
          have huw : (Lit.int .i64 (u : Nat)).wf = true := ct_wf (by omega)
          have HBy : Hid (wx.heap.size ≤ wy.heap.size) := hby.size
          clear hby hbz hown hD HFr
          by_cases hfx : f = x
          · subst hfx
            have hfe : (((f : Nat) : Int) == ((f : Nat) : Int)) = true := by simp
            by_cases hmem : u ∈ L'
            · have hhas : Maps.has D (.int .i64 ((u : Nat) : Int)) = true := HOw.out.2.in' hmem
              go_wp2_with (at_lookup; refine wpList_lookup_own_ok_int _ rfl _ _ 58 rfl 3 3 .i64 ct_law ct_map cty_int (ct_zero _) G L'.length _ rfl HOw.out.1 _ _ rfl (ct_key _ huw) ?_; intro c hat hwc; clear hat hwc)
              rw [← hwz]
              go_roundw
              case rel =>
                refine ⟨i + 1, L', bt', by omega, by go_num, HZ.out.1, HZ.out.2.1, HI.out.2.2.1, HI.out.2.2.2.1, HI.out.2.2.2.2.1, fun e he q => ?_, HZ.out.2.2⟩
                by_cases c : e = i
                · rw [c, ← HFu.out.2]; exact hmem
                · exact HI.out.2.2.2.2.2.1 e (by omega) q
              case measure => simp [RowKit.intOf]; omega
            · have hhas : Maps.has D (.int .i64 ((u : Nat) : Int)) = false := HOw.out.2.out' hmem
              have hiw : (Lit.int .i64 (i : Nat)).wf = true := ct_wf (by omega)
              have hGy : G < wy.heap.size := by
                have h1 := HI.out.2.1.lt
                exact Nat.lt_of_lt_of_le h1 HBy.out
              have HCe : Hid (∀ wm, (wy.alloc (.cells #[.int .i64 (f : Nat), .int .i64 (u : Nat)] 45)).grownBy wm (some G) → wm.cell? ⟨wy.heap.size, 1, none⟩ = some (.int .i64 (u : Nat)) ∧ OwnK w.heap.size u4 (qzl L' (d + 1)) wm ∧ Below w.heap.size w wm ∧ w.heap.size ≤ wm.heap.size) := fun wm hg => by
                have hz := HZ.out
                rw [hwz] at hz
                have hnq := hz.2.1.noQ hz.1
                have hb : Below w.heap.size w wm := hz.2.2.grown hg (hz.2.2.size) (fun j hj => by cases hj; have := H2.out.2.2; omega)
                refine ⟨?_, hz.1.same (fun g hgv => hg.block g (hz.1.lt g hgv).2 (by intro c; rw [c] at hgv; exact hnq hgv)), hb, hb.size⟩
                refine hg.cell (a := ⟨wy.heap.size, 1, none⟩) ?_ (by intro c; have c : wy.heap.size = G := Option.some.inj c; omega)
                rw [cell_of_row _ _ _ _ _ (0, 0) (two_new _)]; rfl
              have hql : (qzl L' (d + 1)).length ≤ 1000 := by rw [qzl_len]; omega
              go_wp2_with (first
                | (at_lookup; refine wpList_lookup_own_ok_int _ rfl _ _ 58 rfl 3 3 .i64 ct_law ct_map cty_int (ct_zero _) G L'.length _ rfl HOw.out.1 _ _ rfl (ct_key _ huw) ?_; intro c hat hwc; clear hat hwc)
                | (at_mapUpdate; refine wpList_mapUpdate_own _ rfl _ _ _ 58 rfl 3 3 ct_law ct_map _ G L'.length _ rfl HOw.out.1 (by unfold maxLen; omega) _ _ _ rfl rfl (ct_key _ huw) _ [] (plainElem_int cty_int hiw) ?_; intro wm hown1 hgrow1; have hce := (HCe.out wm hgrow1).1; have HM : Hid (wm.ownsMap Try.prog 3 (plainElem Try.prog 3) G (L'.length + 1) (D.put (.int .i64 (u : Nat)) (.lit (.int .i64 (i : Nat)))) ∧ (wy.alloc (.cells #[.int .i64 (f : Nat), .int .i64 (u : Nat)] 45)).grownBy wm (some G)) := ⟨hown1, hgrow1⟩; clear hown1 hgrow1)
                | (at_builtin; refine append_k rfl _ _ rfl w.heap.size _ (qzl L' (d + 1)) rfl ((HCe.out _ HM.out.2).2.1.alloc _) ⟨_, 0, none⟩ 1 (u : Int) rfl (by simp) (by omega) (by have := (HCe.out _ HM.out.2).2.2.2; simp; omega) ?_; intro v2 w3 hown3 hgrow3))
              have HN : Hid (OwnK w.heap.size v2 (qzl (L' ++ [u]) (d + 1)) w3 ∧ MapN G (L' ++ [u]) (rcV fun y => if y = u then i else bt' y) w3 ∧ Below w.heap.size w w3) := by
                have hM := HCe.out wm HM.out.2
                have hmz : MapN G (L' ++ [u]) (rcV fun y => if y = u then i else bt' y) wm := by
                  refine ⟨_, by rw [List.length_append, List.length_singleton]; exact HM.out.1, ?_⟩
                  have h := HOw.out.2.put u (i : Int)
                  refine ⟨h.im, fun k hk => ?_, h.has⟩
                  rw [h.yes k hk]
                  have hu0 : u ≠ 0 := fun c => hmem (by obtain ⟨L2, e2⟩ := HI.out.2.2.1.hd; rw [c, e2]; exact List.mem_cons_self)
                  unfold rcV
                  by_cases c : k = u
                  · rw [if_pos c, if_neg (by omega)]; dsimp only; rw [if_pos c]
                  · rw [if_neg c]
                    by_cases c0 : k = 0
                    · rw [if_pos c0, if_pos c0]
                    · rw [if_neg c0, if_neg c0]; dsimp only; rw [if_neg c]
                have hma := hmz.below ((Below.refl _ _).alloc (Nat.le_refl _) (.cells #[.int .i64 (u : Nat)] 3))
                have hnq := hma.noQ (hM.2.1.alloc _)
                refine ⟨by rw [qzl_add HI.out.2.2.2.1]; exact hown3, hma.same (hgrow3.block G hma.lt (fun c => hnq c.symm)), (hM.2.2.1.alloc hM.2.2.1.size _).grown hgrow3 (by simp; have := hM.2.2.2; omega) (fun k hk => (hM.2.1.lt k hk).1)⟩
              clear hown3 hgrow3
              go_roundw
              case rel =>
                refine ⟨i + 1, L' ++ [u], fun y => if y = u then i else bt' y, by omega, by go_num, HN.out.1, HN.out.2.1, ?_, by simp; have := HI.out.2.2.2.1; omega, by rw [getD_app HI.out.2.2.2.1]; exact HI.out.2.2.2.2.1, fun e he q => ?_, HN.out.2.2⟩
                · have h := HI.out.2.2.1.add HS.out.2.2.1 (Nat.le_of_lt HI.out.2.2.2.1) hil (by rw [← HFu.out.1, ← HI.out.2.2.2.2.1]; exact getD_inl HI.out.2.2.2.1) (by rw [← HFu.out.2]; exact hmem)
                  rw [← HFu.out.2] at h
                  exact h
                · by_cases c : e = i
                  · rw [c, ← HFu.out.2]; simp
                  · exact List.mem_append.2 (Or.inl (HI.out.2.2.2.2.2.1 e (by omega) q))
              case measure => simp [RowKit.intOf]; omega
          · have hfe : (((f : Nat) : Int) == ((x : Nat) : Int)) = false := beq_eq_false_iff_ne.2 (by omega)
            go_wp2_with (at_lookup; refine wpList_lookup_own_ok_int _ rfl _ _ 58 rfl 3 3 .i64 ct_law ct_map cty_int (ct_zero _) G L'.length _ rfl HOw.out.1 _ _ rfl (ct_key _ huw) ?_; intro c hat hwc; clear hat hwc)
            rw [← hwz]
            go_roundw
            case rel =>
              refine ⟨i + 1, L', bt', by omega, by go_num, HZ.out.1, HZ.out.2.1, HI.out.2.2.1, HI.out.2.2.2.1, HI.out.2.2.2.2.1, fun e he q => ?_, HZ.out.2.2⟩
              by_cases c : e = i
              · rw [c, ← HFu.out.1] at q; exact absurd q hfx
              · exact HI.out.2.2.2.2.2.1 e (by omega) q
            case measure => simp [RowKit.intOf]; omega
        · have hib : ¬ (i : Int) < (m : Int) := by omega
          have him : m = i := by omega
          have HE : Hid (Bfs n m F T us L' bt' (d + 1) ∧ d + 1 ≤ L'.length) := ⟨HI.out.2.2.1.next (fun e he q => HI.out.2.2.2.2.2.1 e (by omega) (by rw [← HI.out.2.2.2.2.1]; exact q)), HI.out.2.2.2.1⟩
          clear him
          go_wp2
          go_roundg (n - (d + 1))
          case rel => exact ⟨L', bt', d + 1, rfl, HI.out.1, HI.out.2.1, HE.out.1, HE.out.2, HI.out.2.2.2.2.2.2⟩
          case measure => omega
    · have hd : d = L.length := by have := HG.out.2.2.2.1; omega
      rw [show L.length - d = 0 by omega] at hv4
      subst hv4
      have HR : Hid (Rch m F T us L bt) := by have h := HG.out.2.2.1; rw [hd] at h; exact h.rch
      clear hd
      go_wp2
      go_ret
      exact ⟨L, bt, by rw [← H2.out.2.2]; rfl, by rw [← H2.out.2.2]; exact HG.out.2.1, HR.out, HG.out.2.2.2.2⟩
end Go.Proofs.Ytbnkekeeceicaaa

/- Nets: one way more (more). -/
namespace Go.Proofs.Ytbnkekeeceicaaa
open Go.RowKit Go.Sort Go.Maps

theorem StB.tgl {B ub n t k : Nat} {eo : Option Addr} {m ec : Nat} {us : Nat → Bool} {w : World} (h : StB B ub n t k eo m ec us w) (e : Nat) : StB B ub n t k eo m ec (Go.Proofs.Ytbnkekeeceicaaa.tgl us e) (w.setCell ⟨ub, e, none⟩ (.bool (!us e))) := by
  refine ⟨(Below.heap_setCell _ _ _ _ h.ne).trans h.blk, ?_, h.ne⟩
  obtain ⟨cs, h1, h2, h3⟩ := RowF.store h.row e (.bool (!us e))
  refine ⟨cs, h1, h2, fun o ho => ?_⟩
  rw [h3 o ho]
  unfold upd Go.Proofs.Ytbnkekeeceicaaa.tgl
  by_cases c : o = e
  · rw [if_pos c]
    show some (Value.bool (!us e)) = some (Value.bool (if o = e then !us o else us o))
    rw [if_pos c, c]
  · rw [if_neg c]
    show some (Value.bool (us o)) = some (Value.bool (if o = e then !us o else us o))
    rw [if_neg c]
theorem run_fromE (a b : Int) (w : World) : (Instr.field 45 (.agg #[.int .i64 a, .int .i64 b]) 0).run Try.prog w = .ok (.int .i64 a) w := by
  simp [Instr.field, go_sem, underlying, part, asAgg]
theorem StB.drewN {B ub n t k : Nat} {eo : Option Addr} {m ec : Nat} {us : Nat → Bool} {w : World} (h : StB B ub n t k eo m ec us w) (d : Nat) : StB B ub n t k eo m ec us (w.drewN d) := ⟨h.blk, h.row.drewN d, h.ne⟩
theorem StB.ubl {B ub n t k : Nat} {eo : Option Addr} {m ec : Nat} {us : Nat → Bool} {w : World} (h : StB B ub n t k eo m ec us w) : ub < w.heap.size := RowF.lt h.row
theorem MapN.setC {B ub : Nat} {L : List Nat} {c : Nat → Int} {w : World} (h : MapN B L c w) (hne : B ≠ ub) (o : Nat) (v : Value) : MapN B L c (w.setCell ⟨ub, o, none⟩ v) := h.same (Below.heap_setCell _ _ _ _ hne)

set_option maxHeartbeats 16000000 in
set_option maxRecDepth 100000 in
theorem smore_any {base B ub n t k : Nat} {eo : Option Addr} {m ec : Nat} {us : Nat → Bool} {F T : Nat → Nat} {w : World} (hS : StB B ub n t k eo m ec us w) (hub : base ≤ ub) (hbw : base ≤ w.heap.size) (hE : ∀ wx, Below base w wx → EdZ eo m (fun i => ((F i : Nat) : Int)) (fun i => ((T i : Nat) : Int)) wx) (hN : Nt n m F T) (hn : 0 < n) (hn10 : n ≤ 10) (hm : m ≤ 100) (ht : t < n) (hF : Flw m F T us t k) :
    Calls Try.prog 31 #[.pointer (some ⟨B, 0, none⟩)] w fun r w' => ∃ b us', r = .returned (.bool b) ∧ StB B ub n t k eo m ec us' w' ∧ (b = false → us' = us ∧ ∃ L bt, Rch m F T us L bt ∧ t ∉ L) ∧ (b = true → Flw m F T us' t (k + 1)) ∧ Below base w w' := by
  have HR : Hid (Calls Try.prog 47 #[.pointer (some ⟨B, 0, none⟩)] w fun r w' => ∃ L bt, r = .returned (.map (some w.heap.size)) ∧ MapN w.heap.size L (rcV bt) w' ∧ Rch m F T us L bt ∧ Below w.heap.size w w') := sreached_any hS (hE w (Below.refl _ _)) hN hn hn10 hm
  have HS : Hid (StB B ub n t k eo m ec us w ∧ (∀ wx, Below base w wx → EdZ eo m (fun i => ((F i : Nat) : Int)) (fun i => ((T i : Nat) : Int)) wx) ∧ Nt n m F T ∧ Flw m F T us t k ∧ base ≤ ub ∧ base ≤ w.heap.size) := ⟨hS, hE, hN, hF, hub, hbw⟩
  obtain ⟨G, hG⟩ : ∃ G, G = w.heap.size := ⟨_, rfl⟩
  rw [← hG] at HR
  clear hS hE hN hF hub hbw
  go_enter Try.func31, Try.ntmps31
  go_wp2_with fail
  refine HR.out.mono ?_
  rintro e w1 ⟨L, bt, rfl, hM, hR, hb1⟩
  rw [hG] at hb1
  have HGu : Hid (G = w.heap.size) := hG
  have H1 : Hid (MapN G L (rcV bt) w1 ∧ Rch m F T us L bt ∧ Below w.heap.size w w1 ∧ StB B ub n t k eo m ec us w1) := ⟨hM, hR, hb1, HS.out.1.below hb1⟩
  have c2 := H1.out.2.2.2.c2
  obtain ⟨D, hown, hD⟩ := hM
  have HOw : Hid (w1.ownsMap Try.prog 3 (plainElem Try.prog 3) G L.length D ∧ MnD D L (rcV bt)) := ⟨hown, hD⟩
  have htw : (Lit.int .i64 (t : Nat)).wf = true := ct_wf (by omega)
  clear hown hD hR hb1 HR hG
  by_cases htL : t ∈ L
  · have hhas : Maps.has D (.int .i64 ((t : Nat) : Int)) = true := HOw.out.2.in' htL
    go_wp2_with (at_lookup; refine wpList_lookup_own_ok_int _ rfl _ _ 58 rfl 3 3 .i64 ct_law ct_map cty_int (ct_zero _) G L.length _ rfl HOw.out.1 _ _ rfl (ct_key _ htw) ?_; intro c hat hwc; clear hat hwc)
    clear c2
    go_loopg [6] (L.idxOf t) (fun gk v6 wr => ∃ (x : Nat) (u1 : Nat → Bool), v6 = .int .i64 (x : Nat) ∧ gk = L.idxOf x ∧ Hid (Pth m F T us L bt u1 x t k ∧ MapN G L (rcV bt) wr ∧ StB B ub n t k eo m ec u1 wr ∧ Below base w wr))
    case atStart => exact ⟨t, us, rfl, rfl, Pth.start HS.out.2.2.2.1 htL, H1.out.1, H1.out.2.2.2, H1.out.2.2.1.mono HS.out.2.2.2.2.2⟩
    case round =>
      obtain ⟨x, u1, rfl, rfl, HI⟩ := hrel
      rename World => wr
      by_cases hx0 : x = 0
      · subst hx0
        have HFl : Hid (Flw m F T u1 t (k + 1)) := HI.out.1.bal.done
        go_wp2
        go_ret
        exact ⟨true, u1, rfl, HI.out.2.2.1, (fun h => by cases h), fun _ => HFl.out, HI.out.2.2.2⟩
      · have hxb : (((x : Nat) : Int) != 0) = true := bne_iff_ne.2 (by omega)
        obtain ⟨p1, p2, p3⟩ := HI.out.1.step H1.out.2.1 hx0
        obtain ⟨ed, hed⟩ : ∃ ed, ed = bt x := ⟨_, rfl⟩
        rw [← hed] at p1 p2 p3
        have HFr : Hid (Calls Try.prog 48 #[.pointer (some ⟨B, 0, none⟩), .int .i64 (ed : Nat)] wr fun r w' => r = .returned (.agg #[.int .i64 (frF F T u1 ed : Nat), .int .i64 (frT F T u1 ed : Nat)]) ∧ Below wr.heap.size wr w') := sfree_any HI.out.2.2.1 (HS.out.2.1 _ HI.out.2.2.2) p1
        obtain ⟨f, hf⟩ : ∃ f, f = frF F T u1 ed := ⟨_, rfl⟩
        obtain ⟨v, hv⟩ : ∃ v, v = frT F T u1 ed := ⟨_, rfl⟩
        rw [← hf, ← hv] at HFr
        rw [← hf] at p2 p3
        have HP : Hid (Pth m F T us L bt (tgl u1 ed) f t k ∧ L.idxOf f < L.idxOf x) := ⟨p2, p3⟩
        obtain ⟨D2, hown2, hD2⟩ := HI.out.2.1
        have hval : rcV bt x = ((ed : Nat) : Int) := by unfold rcV; rw [if_neg hx0, hed]
        have hxw : (Lit.int .i64 (x : Nat)).wf = true := ct_wf (by have := H1.out.2.1.lt HS.out.2.2.1 hn HI.out.1.at'; omega)
        have HO2 : Hid (wr.ownsMap Try.prog 3 (plainElem Try.prog 3) G L.length D2 ∧ D2.atKey (.int .i64 (x : Nat)) (.lit (.int .i64 0)) = .lit (.int .i64 ((ed : Nat) : Int))) := ⟨hown2, by rw [hD2.yes x HI.out.1.at', hval]⟩
        clear hown2 hD2 hval hed hf hv p2 p3
        go_wp2_with (at_lookup; refine wpList_lookup_own_int _ rfl _ _ 58 rfl 3 3 .i64 ct_law ct_map cty_int (ct_zero _) G L.length _ rfl HO2.out.1 _ _ rfl (ct_key _ hxw) ?_; intro c hat hwc; obtain rfl : c = ((ed : Nat) : Int) := lit_inj (hat.symm.trans HO2.out.2); clear hat hwc)
        refine HFr.out.mono ?_
        rintro e wy ⟨rfl, hby⟩
        have HY : Hid (StB B ub n t k eo m ec u1 wy ∧ MapN G L (rcV bt) wy ∧ Below base w wy) := ⟨HI.out.2.2.1.below hby, HI.out.2.1.below hby, HI.out.2.2.2.trans (hby.mono (Nat.le_trans HS.out.2.2.2.2.2 HI.out.2.2.2.size))⟩
        have c3 := HY.out.1.c3
        have cu := RowF.cell HY.out.1.row ed p1
        have cf := RowF.free HY.out.1.row ed
        obtain ⟨bu, hbu⟩ : ∃ bu, bu = u1 ed := ⟨_, rfl⟩
        replace cu : wy.cell? ⟨ub, ed, none⟩ = some (.bool bu) := by rw [hbu]; exact cu
        have heb : (ed : Int) < (m : Int) := by omega
        have heb0 : (0 : Int) ≤ (ed : Int) := by omega
        have hGub : G ≠ ub := by have := HS.out.1.ubl; have := HGu.out; omega
        have HN : Hid (∀ d, StB B ub n t k eo m ec (tgl u1 ed) ((wy.drewN d).setCell ⟨ub, ed, none⟩ (.bool (!bu))) ∧ MapN G L (rcV bt) ((wy.drewN d).setCell ⟨ub, ed, none⟩ (.bool (!bu))) ∧ Below base w ((wy.drewN d).setCell ⟨ub, ed, none⟩ (.bool (!bu)))) := fun d => by
          rw [hbu]
          exact ⟨(HY.out.1.drewN d).tgl ed, (HY.out.2.1.same (w' := wy.drewN d) rfl).setC hGub _ _, (below_drewN2 HY.out.2.2 d).setCell HS.out.2.2.2.2.1 _⟩
        have hff := run_fromE (f : Nat) (v : Nat)
        clear hbu hby
        go_wp2
        refine quiet_tail 14 (by kernel_rfl) (by kernel_rfl) ?_
        simp only [List.take_succ_cons, List.take_zero, List.drop_succ_cons, List.drop_zero]
        repeat (go_big_quiet_step (fail))
        refine wpQuiet_nil ?_
        intro _ hw'
        obtain ⟨nq, hw''⟩ := hw'
        subst hw''
        have HN4 : Hid _ := HN.out nq
        clear HN c3
        go_wp2
        go_roundg (L.idxOf f)
        case rel => exact ⟨f, tgl u1 ed, rfl, rfl, HP.out.1, HN4.out.2.1, HN4.out.1, HN4.out.2.2⟩
        case measure => exact HP.out.2
  · have hhas : Maps.has D (.int .i64 ((t : Nat) : Int)) = false := HOw.out.2.out' htL
    go_wp2_with (at_lookup; refine wpList_lookup_own_ok_int _ rfl _ _ 58 rfl 3 3 .i64 ct_law ct_map cty_int (ct_zero _) G L.length _ rfl HOw.out.1 _ _ rfl (ct_key _ htw) ?_; intro c hat hwc; clear hat hwc)
    go_ret
    exact ⟨false, us, rfl, H1.out.2.2.2, fun _ => ⟨rfl, L, bt, H1.out.2.1, htL⟩, (fun h => by cases h), H1.out.2.2.1.mono HS.out.2.2.2.2.2⟩
end Go.Proofs.Ytbnkekeeceicaaa

/- Nets: a stream of as many ways as there can be (fill). -/
namespace Go.Proofs.Ytbnkekeeceicaaa
open Go.RowKit Go.Sort Go.Maps

theorem StB.many {B ub n t k : Nat} {eo : Option Addr} {m ec : Nat} {us : Nat → Bool} {w : World} (h : StB B ub n t k eo m ec us w) (k' : Nat) : StB B ub n t k' eo m ec us (w.setCell ⟨B, 4, none⟩ (.int .i64 (k' : Nat))) := by
  refine ⟨?_, h.row.other (Below.heap_setCell _ _ _ _ (fun e => h.ne e.symm)), h.ne⟩
  rw [heap_setCell_same w B 4 _ _ _ h.blk]
  rfl
/-- What fill tells. -/
def FilP (n t most : Nat) (eo : Option Addr) (m ec : Nat) (F T : Nat → Nat) (w : World) (r : Ending) (w' : World) : Prop := ∃ B ub us k, r = .returned (.pointer (some ⟨B, 0, none⟩)) ∧ StB B ub n t k eo m ec us w' ∧ Flw m F T us t k ∧ k ≤ most ∧ (k < most → ∃ L bt, Rch m F T us L bt ∧ t ∉ L) ∧ (w.heap.size ≤ B ∧ w.heap.size ≤ ub) ∧ Below w.heap.size w w'
theorem madeB (m : Nat) (w : World) : RowF w.heap.size m 4 (fun _ => .bool false) (w.alloc (.cells (madeCells #[.bool false] m) 4)) := by
  refine ⟨_, two_new _, ?_, fun o ho => ?_⟩
  · simp [madeCells]
  · simp [madeCells, ho, Nat.mod_one]
set_option maxHeartbeats 8000000 in
set_option maxRecDepth 100000 in
theorem sfill_any {n t most : Nat} {eo : Option Addr} {m ec : Nat} {F T : Nat → Nat} {w : World} (hE : EdZ eo m (fun i => ((F i : Nat) : Int)) (fun i => ((T i : Nat) : Int)) w) (hN : Nt n m F T) (hn : 0 < n) (hn10 : n ≤ 10) (hm : m ≤ 100) (ht : t < n) (hmo : most ≤ 100) :
    Calls Try.prog 18 #[.agg #[.int .i64 (n : Nat), .slice eo m ec], .int .i64 (t : Nat), .int .i64 (most : Nat)] w (FilP n t most eo m ec F T w) := by
  obtain ⟨i0, hi, hz0, hz1, hz2⟩ := info_parts Try.infoBool
  have hrun := run_make_row (P := Try.prog) 48 4 i0 (.bool false) Try.underlying48 hi hz0 hz1 rfl .i64 .i64 m (by rw [hz2]; omega) (by omega)
  have HS : Hid (EdZ eo m (fun i => ((F i : Nat) : Int)) (fun i => ((T i : Nat) : Int)) w ∧ Nt n m F T) := ⟨hE, hN⟩
  clear hE hN hi hz0 hz1 hz2
  go_enter Try.func18, Try.ntmps18
  go_upto_region 1 with fail
  go_region
  obtain ⟨w3, hw3⟩ : ∃ w3, w3 = (((w.alloc (.cells #[.int .i64 (n : Nat), .slice eo m ec] 25)).alloc (.cells (madeCells #[.bool false] m) 4)).alloc (.cells #[.int .i64 (n : Nat), .slice eo m ec, .int .i64 (t : Nat), .slice (some ⟨w.heap.size + 1, 0, none⟩) m m, .int .i64 0] 50)).drew := ⟨_, rfl⟩
  rw [← hw3]
  obtain ⟨B0, hB0⟩ : ∃ B0, B0 = w.heap.size := ⟨_, rfl⟩
  have H3 : Hid (StB (B0 + 1 + 1) (B0 + 1) n t 0 eo m ec (fun _ => false) w3 ∧ Below w.heap.size w w3 ∧ B0 = w.heap.size) := by
    refine ⟨⟨?_, ?_, by omega⟩, ?_, hB0⟩
    · rw [hw3, hB0]
      have h := two_new (w := (w.alloc (.cells #[.int .i64 (n : Nat), .slice eo m ec] 25)).alloc (.cells (madeCells #[.bool false] m) 4)) (.cells #[.int .i64 (n : Nat), .slice eo m ec, .int .i64 (t : Nat), .slice (some ⟨w.heap.size + 1, 0, none⟩) m m, .int .i64 0] 50)
      rw [World.size_alloc, World.size_alloc] at h
      exact h
    · have h := madeB m (w.alloc (.cells #[.int .i64 (n : Nat), .slice eo m ec] 25))
      rw [World.size_alloc] at h
      rw [hw3, hB0]
      exact h.other (Below.heap_alloc _ _ _ (by simp))
    · rw [hw3]
      exact ((((Below.refl _ _).alloc (Nat.le_refl _) _).alloc (by simp) _).alloc (by simp; omega) _).drew
  rw [← hB0]
  clear hrun hw3 hB0
  go_wp2
  go_loopg [16] most (fun gk _ wr => ∃ (k : Nat) (us : Nat → Bool), gk = most - k ∧ k ≤ most ∧ Hid (StB (B0 + 1 + 1) (B0 + 1) n t k eo m ec us wr ∧ Flw m F T us t k ∧ Below w.heap.size w wr))
  case atStart => exact ⟨0, fun _ => false, by omega, by omega, H3.out.1, Flw.none m F T t, H3.out.2.1⟩
  case round =>
    obtain ⟨k, us, rfl, hk, HI⟩ := hrel
    rename World => wr
    have c4 := HI.out.1.c4
    by_cases hlt : k < most
    · have hkb : (k : Int) < (most : Int) := by omega
      have HMo : Hid (Calls Try.prog 31 #[.pointer (some ⟨B0 + 1 + 1, 0, none⟩)] wr fun r w' => ∃ b us', r = .returned (.bool b) ∧ StB (B0 + 1 + 1) (B0 + 1) n t k eo m ec us' w' ∧ (b = false → us' = us ∧ ∃ L bt, Rch m F T us L bt ∧ t ∉ L) ∧ (b = true → Flw m F T us' t (k + 1)) ∧ Below w.heap.size wr w') :=
        smore_any (base := w.heap.size) HI.out.1 (by have := H3.out.2.2; omega) HI.out.2.2.size (fun wx hb => HS.out.1.below (HI.out.2.2.trans hb)) HS.out.2 hn hn10 hm ht HI.out.2.1
      go_wp2_with fail
      refine HMo.out.mono ?_
      rintro e wy ⟨b, us', rfl, hst, hno, hyes, hby⟩
      cases b with
      | true =>
        have HY : Hid (StB (B0 + 1 + 1) (B0 + 1) n t k eo m ec us' wy ∧ Flw m F T us' t (k + 1) ∧ Below w.heap.size w wy) := ⟨hst, hyes rfl, HI.out.2.2.trans hby⟩
        have c4' := HY.out.1.c4
        have cf' : wy.frozen? ⟨B0 + 1 + 1, 4, none⟩ = false := frozen_of_row _ _ _ _ _ HY.out.1.blk
        have HN : Hid (StB (B0 + 1 + 1) (B0 + 1) n t (k + 1) eo m ec us' (wy.setCell ⟨B0 + 1 + 1, 4, none⟩ (.int .i64 ((k + 1 : Nat) : Int))) ∧ Below w.heap.size w (wy.setCell ⟨B0 + 1 + 1, 4, none⟩ (.int .i64 ((k + 1 : Nat) : Int)))) := ⟨HY.out.1.many (k + 1), HY.out.2.2.setCell (by have := H3.out.2.2; show w.heap.size ≤ B0 + 1 + 1; omega) _⟩
        clear hst hno hyes hby c4 HMo
        go_wp2
        go_roundg (most - (k + 1))
        case rel => exact ⟨k + 1, us', rfl, by omega, HN.out.1, HY.out.2.1, HN.out.2⟩
        case measure => omega
      | false =>
        obtain ⟨e1, e2⟩ := hno rfl
        have HY : Hid (StB (B0 + 1 + 1) (B0 + 1) n t k eo m ec us wy ∧ (∃ L bt, Rch m F T us L bt ∧ t ∉ L) ∧ Below w.heap.size w wy) := ⟨by rw [← e1]; exact hst, e2, HI.out.2.2.trans hby⟩
        clear hst hno hyes hby c4 e1 e2 HMo
        go_wp2
        go_ret
        exact ⟨_, _, us, k, rfl, HY.out.1, HI.out.2.1, hk, fun _ => HY.out.2.1, ⟨by have := H3.out.2.2; omega, by have := H3.out.2.2; omega⟩, HY.out.2.2⟩
    · have hkb : ¬ (k : Int) < (most : Int) := by omega
      go_wp2
      go_ret
      exact ⟨_, _, us, k, rfl, HI.out.1, HI.out.2.1, hk, fun h => absurd h hlt, ⟨by have := H3.out.2.2; omega, by have := H3.out.2.2; omega⟩, HI.out.2.2⟩
end Go.Proofs.Ytbnkekeeceicaaa

/- Nets: the reference's Cuts. -/
namespace Go.Proofs.Ytbnkekeeceicaaa
open Go.RowKit Go.Sort

theorem shr_tbit (v j : Nat) : ((v : Int) / 2 ^ j).tmod 2 = if v.testBit j = true then 1 else 0 := by
  have e : (v : Int) / 2 ^ j = ((v / 2 ^ j : Nat) : Int) := by rw [Int.natCast_ediv, Int.natCast_pow]; rfl
  rw [e, Nat.testBit_eq_decide_div_mod_eq, Int.tmod_eq_emod_of_nonneg (Int.natCast_nonneg _)]
  by_cases c : v / 2 ^ j % 2 = 1
  · rw [if_pos (decide_eq_true c)]; omega
  · rw [if_neg (by rw [decide_eq_true_eq]; exact c)]; omega
theorem shr_yes {v j : Nat} (h : v.testBit j = true) : ((v : Int) / 2 ^ j).tmod 2 = 1 := by rw [shr_tbit, if_pos h]
theorem shr_no {v j : Nat} (h : v.testBit j = false) : ((v : Int) / 2 ^ j).tmod 2 = 0 := by rw [shr_tbit, h]; rfl
end Go.Proofs.Ytbnkekeeceicaaa
