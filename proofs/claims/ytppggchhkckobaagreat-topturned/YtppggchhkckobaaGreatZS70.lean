/- Texts of ours, one behind the other: S70 KT1. -/
import Derived.Test.YtppggchhkckobaaGreatZS66
import Derived.Test.YtppggchhkckobaaGreatZL10
import Derived.Test.YtppggchhkckobaaGreatZS27
import Derived.Test.YtppggchhkckobaaGreatZX18
import Derived.Test.YtppggchhkckobaaGreatZU8
import Derived.Maps.OwnOps
import Derived.Maps.OwnSet
import Derived.Lib.SlKeysI
import Derived.Deep.LoopGhost
/- Multiples of a divisor of x^n - 1 stay such when they are turned (plain mathematics). -/
namespace Go.Proofs.YtppggchhkckobaaGreat

/-- A word turned: its last is its first. -/
def twd (n : Nat) (v : Nat → Nat) : Nat → Nat := fun j => if j = 0 then v (n - 1) else if j < n then v (j - 1) else 0
theorem twd_add {D : FD} (F : Fld D) (n : Nat) (u v : Nat → Nat) : twd n (padd D u v) = padd D (twd n u) (twd n v) := by
  funext j
  show (if j = 0 then D.ad (u (n - 1)) (v (n - 1)) else if j < n then D.ad (u (j - 1)) (v (j - 1)) else 0) = D.ad (if j = 0 then u (n - 1) else if j < n then u (j - 1) else 0) (if j = 0 then v (n - 1) else if j < n then v (j - 1) else 0)
  by_cases c : j = 0
  · rw [if_pos c, if_pos c, if_pos c]
  · rw [if_neg c, if_neg c, if_neg c]
    by_cases c2 : j < n
    · rw [if_pos c2, if_pos c2, if_pos c2]
    · rw [if_neg c2, if_neg c2, if_neg c2, ad_zero F (zero_lt' F)]
theorem twd_scale {D : FD} (F : Fld D) (n s : Nat) (v : Nat → Nat) : twd n (pscale D s v) = pscale D s (twd n v) := by
  funext j
  show (if j = 0 then D.mul s (v (n - 1)) else if j < n then D.mul s (v (j - 1)) else 0) = D.mul s (if j = 0 then v (n - 1) else if j < n then v (j - 1) else 0)
  by_cases c : j = 0
  · rw [if_pos c, if_pos c]
  · rw [if_neg c, if_neg c]
    by_cases c2 : j < n
    · rw [if_pos c2, if_pos c2]
    · rw [if_neg c2, if_neg c2, mul0 F]
theorem twd_nil (n : Nat) : twd n pnil = pnil := by
  funext j
  unfold twd pnil
  split
  · rfl
  · split <;> rfl
theorem ngg {D : FD} (F : Fld D) {a : Nat} (ha : a < D.q) : D.ng (D.ng a) = a := by
  have h1 := ad_ng F (ng_lt F ha)
  have h2 : D.ad (D.ng a) a = 0 := by rw [ad_comm F]; exact ad_ng F ha
  exact ad_cancel F (ng_lt F ha) (ng_lt F (ng_lt F ha)) ha (h1.trans h2.symm)
theorem ng_mulng {D : FD} (F : Fld D) {a b : Nat} (ha : a < D.q) (hb : b < D.q) : D.mul (D.ng a) (D.ng b) = D.mul a b := by
  rw [mul_ng F hb, F.mul_comm, mul_ng F ha, ngg F (F.mul_lt _ _), F.mul_comm]
theorem spn_pmul {D : FD} (F : Fld D) {g Q : Nat → Nat} {K : Nat} (eg : El D g) : ∀ k, k ≤ K → Spn D (RowsOf K fun i => psh i g) (pmul D k Q g)
  | 0, _ => spn_nil D _
  | k + 1, h => by
    show Spn D _ (padd D (pmul D k Q g) (psh k (pscale D (Q k) g)))
    rw [psh_scale F]
    exact spn_add F (spn_pmul F eg k (by omega)) (spn_scale F _ (spn_mem F (el_sh F k eg) ⟨k, by omega, rfl⟩))
theorem twd_gen {D : FD} (F : Fld D) {g Q : Nat → Nat} {m n K : Nat} (hm : 1 ≤ m) (eg : El D g) (bg : Bd m g) (hK : K + m = n + 1) (hn : 1 ≤ n) (hQ : pmul D (K + 1) Q g = whl D n) (i : Nat) (hi : i < K) :
    Spn D (RowsOf K fun i => psh i g) (twd n (psh i g)) := by
  by_cases c : i + 1 < K
  · have e : twd n (psh i g) = psh (i + 1) g := by
      funext j
      show (if j = 0 then (if i ≤ n - 1 then g (n - 1 - i) else 0) else if j < n then (if i ≤ j - 1 then g (j - 1 - i) else 0) else 0) = if i + 1 ≤ j then g (j - (i + 1)) else 0
      by_cases c1 : j = 0
      · rw [if_pos c1, if_pos (by omega), if_neg (by omega), bg _ (by omega)]
      · rw [if_neg c1]
        by_cases c2 : j < n
        · rw [if_pos c2]
          by_cases c3 : i + 1 ≤ j
          · rw [if_pos c3, if_pos (by omega), show j - 1 - i = j - (i + 1) by omega]
          · rw [if_neg c3, if_neg (by omega)]
        · rw [if_neg c2, if_pos (by omega), bg _ (by omega)]
    rw [e]
    exact spn_mem F (el_sh F _ eg) ⟨i + 1, c, rfl⟩
  · have hiK : i = K - 1 := by omega
    subst hiK
    obtain ⟨t, ht⟩ : ∃ t, t = g (m - 1) := ⟨_, rfl⟩
    have htq : t < D.q := by rw [ht]; exact eg _
    obtain ⟨A, hA⟩ : ∃ A, A = pmul D K Q g := ⟨_, rfl⟩
    have eA : El D A := by rw [hA]; exact el_mul F _ _ _
    have hsum : ∀ j, D.ad (A j) (psh K (pscale D (Q K) g) j) = whl D n j := fun j => by rw [← hQ, hA]; rfl
    have hp : ∀ j, psh K (pscale D (Q K) g) j = D.mul (Q K) (psh K g j) := fun j => by rw [psh_scale F]; rfl
    have hAj : ∀ j, A j = D.sb (whl D n j) (D.mul (Q K) (psh K g j)) := fun j => by
      have h1 := hsum j
      rw [hp j] at h1
      rw [← h1, sb_ad F (eA j) (F.mul_lt _ _)]
    have hpn : psh K g n = t := by
      show (if K ≤ n then g (n - K) else 0) = t
      rw [if_pos (by omega), ht, show n - K = m - 1 by omega]
    have hpb : ∀ j, n < j → psh K g j = 0 := fun j hj => by
      show (if K ≤ j then g (j - K) else 0) = 0
      rw [if_pos (by omega), bg _ (by omega)]
    have hAb : A n = 0 := by
      rw [hA]
      have := pmul_bd F (a := Q) bg K
      exact this n (by omega)
    have hone : D.mul (Q K) t = 1 := by
      have h1 := hsum n
      rw [hp n, hpn, hAb, zero_ad F (F.mul_lt _ _)] at h1
      rw [h1]
      unfold whl
      rw [if_pos rfl]
    have e : twd n (psh (K - 1) g) = pscale D (D.ng t) A := by
      funext j
      show (if j = 0 then (if K - 1 ≤ n - 1 then g (n - 1 - (K - 1)) else 0) else if j < n then (if K - 1 ≤ j - 1 then g (j - 1 - (K - 1)) else 0) else 0) = D.mul (D.ng t) (A j)
      by_cases c1 : j = 0
      · rw [if_pos c1, if_pos (by omega), show n - 1 - (K - 1) = m - 1 by omega, ← ht, c1, hAj 0]
        have e1 : whl D n 0 = D.ng 1 := by unfold whl; rw [if_neg (by omega), if_pos rfl]
        have e2 : psh K g 0 = 0 := by show (if K ≤ 0 then g (0 - K) else 0) = 0; rw [if_neg (by omega)]
        rw [e1, e2, mul0 F, sb_zero F (ng_lt F (one_lt' F)), ng_mulng F htq (one_lt' F), mul1 F htq]
      · rw [if_neg c1]
        by_cases c2 : j < n
        · rw [if_pos c2, hAj j]
          have e1 : whl D n j = 0 := by unfold whl; rw [if_neg (by omega), if_neg c1]
          obtain ⟨p, hpe⟩ : ∃ p, p = psh K g j := ⟨_, rfl⟩
          have hpq : p < D.q := by rw [hpe]; exact el_sh F K eg j
          have e2 : (if K - 1 ≤ j - 1 then g (j - 1 - (K - 1)) else 0) = p := by
            rw [hpe]
            show _ = if K ≤ j then g (j - K) else 0
            by_cases c3 : K ≤ j
            · rw [if_pos c3, if_pos (by omega), show j - 1 - (K - 1) = j - K by omega]
            · rw [if_neg c3, if_neg (by omega)]
          have e3 : D.sb 0 (D.mul (Q K) p) = D.ng (D.mul (Q K) p) := by
            show D.ad 0 (D.ng (D.mul (Q K) p)) = _
            exact zero_ad F (ng_lt F (F.mul_lt _ _))
          rw [e2, e1, ← hpe, e3, ng_mulng F htq (F.mul_lt _ _), ← F.mul_assoc, F.mul_comm t, hone, omul F hpq]
        · rw [if_neg c2]
          by_cases c3 : j = n
          · rw [c3, hAb, mul0 F]
          · rw [hAj j, hpb j (by omega), mul0 F]
            have e1 : whl D n j = 0 := by unfold whl; rw [if_neg c3, if_neg c1]
            rw [e1, sb_self F (zero_lt' F), mul0 F]
    rw [e, hA]
    exact spn_scale F _ (spn_pmul F eg K (Nat.le_refl _))
theorem twd_spn {D : FD} (F : Fld D) {g Q : Nat → Nat} {m n K : Nat} (hm : 1 ≤ m) (eg : El D g) (bg : Bd m g) (hK : K + m = n + 1) (hn : 1 ≤ n) (hQ : pmul D (K + 1) Q g = whl D n) {v : Nat → Nat} (hv : Spn D (RowsOf K fun i => psh i g) v) :
    Spn D (RowsOf K fun i => psh i g) (twd n v) := by
  refine spn_ind (Q := fun v => Spn D (RowsOf K fun i => psh i g) (twd n v)) (by rw [twd_nil]; exact spn_nil D _) (fun u v hu hv => by rw [twd_add F]; exact spn_add F hu hv) (fun s v hv => by rw [twd_scale F]; exact spn_scale F s hv) (fun v hv => ?_) hv
  obtain ⟨i, hi, rfl⟩ := hv
  exact twd_gen F hm eg bg hK hn hQ i hi
end Go.Proofs.YtppggchhkckobaaGreat

/- Cyclic: numbers that come of each other (together): a map that the call makes. -/
namespace Go.Proofs.YtppggchhkckobaaGreat
open Go.RowKit Go.Maps

theorem cty_int : Tryz.prog.underlying 3 = some (.int .i64) := by kernel_rfl
theorem ct_map : Tryz.prog.underlying 55 = some (.map 3 3) := by kernel_rfl
theorem ct_law : Keyed Tryz.prog 3 := int_keyed cty_int
theorem ct_zero (w : World) : (zeroValue 3).run Tryz.prog w = .ok (.int .i64 0) w := by kernel_rfl
theorem ct_key (a : Int) (h : (Lit.int .i64 a).wf = true) : keyOf Tryz.prog 3 (.int .i64 a) = some (.int .i64 a) := keyOf_int_mk cty_int h
theorem ct_wf {k : Nat} (h : k ≤ 1000) : (Lit.int .i64 (k : Nat)).wf = true := WalkArith.wf_i64 (by omega)
/-- A map that has each number of a list, once. -/
structure TgD (D : DataW Value) (L : List Nat) : Prop where
  im : IsMap D
  yes : ∀ k, k ∈ L → D.atKey (.int .i64 (k : Nat)) (.lit (.int .i64 0)) = .lit (.int .i64 1)
  no : ∀ k : Nat, k ∉ L → D.atKey (.int .i64 (k : Nat)) (.lit (.int .i64 0)) = .lit (.int .i64 0)
  has : ∀ x : Int, Maps.has D (.int .i64 x) = true ↔ ∃ k ∈ L, x = ((k : Nat) : Int)
theorem TgD.nil : TgD (.map []) [] := ⟨isMap_empty, fun k h => (by cases h), fun k _ => rfl, fun x => ⟨fun h => (by cases h), fun ⟨_, h, _⟩ => (by cases h)⟩⟩
theorem ct_lit (x : Int) : WideAt.IsKeyLit (.int .i64 x) := by first | trivial | (unfold WideAt.IsKeyLit; trivial) | exact Or.inl ⟨_, _, rfl⟩ | simp [WideAt.IsKeyLit]
theorem TgD.put {D : DataW Value} {L : List Nat} (h : TgD D L) (k : Nat) : TgD (D.put (.int .i64 (k : Nat)) (.lit (.int .i64 1))) (L ++ [k]) := by
  refine ⟨h.im.put _ _, fun j hj => ?_, fun j hj => ?_, fun x => ?_⟩
  · by_cases e : j = k
    · rw [e]; exact atKey_put_same h.im (ct_lit _) _ _
    · rw [atKey_put_other (by intro c; cases c; exact e (by omega))]
      exact h.yes j ((List.mem_append.1 hj).resolve_right (fun c => e (List.mem_singleton.1 c)))
  · have e : j ≠ k := fun e => hj (List.mem_append.2 (Or.inr (List.mem_singleton.2 e)))
    rw [atKey_put_other (by intro c; cases c; exact e (by omega))]
    exact h.no j (fun c => hj (List.mem_append.2 (Or.inl c)))
  · by_cases e : x = ((k : Nat) : Int)
    · subst e
      exact ⟨fun _ => ⟨k, by simp, rfl⟩, fun _ => has_put_same h.im (ct_lit _) _⟩
    · rw [has_put_other (by intro c; cases c; exact e rfl), h.has x]
      constructor
      · rintro ⟨j, hj, rfl⟩; exact ⟨j, by simp [hj], rfl⟩
      · rintro ⟨j, hj, rfl⟩
        rcases List.mem_append.1 hj with c | c
        · exact ⟨j, c, rfl⟩
        · rw [List.mem_singleton.1 c] at e; exact absurd rfl e
theorem lit_inj {c d : Int} (h : (DataW.lit (.int .i64 c) : DataW Value) = .lit (.int .i64 d)) : c = d := by cases h; rfl
/-- A map in memory that has each number of a list, once. -/
def Tg (B : Nat) (L : List Nat) (w : World) : Prop := ∃ D : DataW Value, w.ownsMap Tryz.prog 3 (plainElem Tryz.prog 3) B L.length D ∧ TgD D L
/-- What is known of the list. -/
structure TgL (q n : Nat) (z : Nat → Nat) (m : Nat) (L : List Nat) : Prop where
  nd : L.Nodup
  lt : ∀ k ∈ L, k < n
  cl : Clq q n L
  mem : ∀ k, k ∈ L ↔ Clo q n z m k
theorem TgL.none (q n : Nat) (z : Nat → Nat) : TgL q n z 0 [] := ⟨List.nodup_nil, fun k h => (by cases h), fun k h => (by cases h), fun k => ⟨fun h => (by cases h), fun ⟨i, hi, _⟩ => absurd hi (by omega)⟩⟩
theorem nd_len {n : Nat} {L : List Nat} (h : L.Nodup) (hl : ∀ k ∈ L, k < n) : L.length ≤ n := by
  have hp : ((List.range n).filter fun j => L.contains j).Perm L := by
    refine (List.perm_ext_iff_of_nodup (List.nodup_range.filter _) h).2 (fun a => ?_)
    rw [List.mem_filter, List.contains_iff_mem]
    exact ⟨fun h => h.2, fun h => ⟨List.mem_range.2 (hl a h), h⟩⟩
  rw [← hp.length_eq]
  have := List.length_filter_le (fun j => L.contains j) (List.range n)
  rwa [List.length_range] at this

set_option maxHeartbeats 4000000 in
set_option maxRecDepth 100000 in
theorem cytog_any {q n m zc : Nat} {zo : Option Addr} {z : Nat → Nat} {w : World} (hq : q ≤ 64) (hn1 : 1 ≤ n) (hn : n ≤ 64) (hm : m ≤ 1000) (hz : SlZ zo m (fun i => ((z i : Nat) : Int)) w) (hzl : LtB zo w.heap.size) (hzn : ∀ i, i < m → z i < n) :
    Calls Tryz.prog 32 #[.int .i64 (q : Nat), .int .i64 (n : Nat), .slice zo m zc] w fun e w' => ∃ L, e = .returned (.map (some w.heap.size)) ∧ Tg w.heap.size L w' ∧ TgL q n z m L ∧ Below w.heap.size w w' := by
  have HZ : Hid ((SlZ zo m (fun i => ((z i : Nat) : Int)) w ∧ LtB zo w.heap.size) ∧ ∀ i, i < m → z i < n) := ⟨⟨hz, hzl⟩, hzn⟩
  obtain ⟨B, hB⟩ : ∃ B, B = w.heap.size := ⟨_, rfl⟩
  have H0 : Hid (Tg B [] (w.alloc (.map #[] 0)) ∧ Below w.heap.size w (w.alloc (.map #[] 0)) ∧ B = w.heap.size) := ⟨⟨.map [], by rw [hB]; exact World.ownsMap_made _ _ _ _, TgD.nil⟩, (Below.refl _ _).alloc (Nat.le_refl _) _, hB⟩
  have hmm := @run_makeMap Tryz.prog
  clear hz hzl hzn
  go_enter Tryz.func32, Tryz.ntmps32
  go_wp2
  rw [← hB]
  clear hB
  go_loopw [13] (fun vi wr => ∃ (i : Nat) (L : List Nat), i ≤ m ∧ vi = .int .i64 (i : Nat) ∧ Hid (Tg B L wr ∧ TgL q n z i L ∧ Below w.heap.size w wr)) (fun vi _ => m - (RowKit.intOf vi).toNat)
  case atStart => exact ⟨0, [], by omega, rfl, H0.out.1, TgL.none _ _ _, H0.out.2.1⟩
  case round =>
    obtain ⟨i, L, hi, rfl, HG⟩ := hrel
    rename World => wr
    by_cases hlt : i < m
    · have hib : (i : Int) < (m : Int) := by omega
      have hib0 : (0 : Int) ≤ (i : Int) := by omega
      obtain ⟨b1, o1, e1, q1⟩ := HZ.out.1.1 i hlt
      have l1 := HZ.out.1.2 _ e1
      obtain ⟨zi, hzi⟩ : ∃ zi, zi = z i := ⟨_, rfl⟩
      have k1 : wr.cell? ⟨b1, o1 + i, none⟩ = some (.int .i64 (zi : Nat)) := by rw [hzi]; exact (HG.out.2.2.cell (p := ⟨b1, o1 + i, none⟩) l1).trans q1
      have HZi : Hid (zi = z i ∧ zi < n) := ⟨hzi, by rw [hzi]; exact HZ.out.2 i hlt⟩
      subst e1
      clear q1 l1 hzi
      go_wp2
      have hlL : L.length ≤ n := nd_len HG.out.2.1.nd HG.out.2.1.lt
      have HLL : Hid (L.length ≤ n) := hlL
      clear hlL
      have hst : ((zi : Nat) : Int) = ((orb q n zi 0 : Nat) : Int) := by rw [orb_zero HZi.out.2]
      rw [hst]
      clear hst
      go_loopg [9] (n + 1 - L.length) (fun gk vk wx => ∃ (s : Nat) (L' : List Nat), vk = .int .i64 (orb q n zi s : Nat) ∧ gk = n + 1 - L'.length ∧ Hid (Tg B L' wx ∧ (∀ k, k ∈ L' ↔ k ∈ L ∨ ∃ j, j < s ∧ orb q n zi j = k) ∧ L'.Nodup ∧ (∀ k ∈ L', k < n) ∧ Below w.heap.size w wx))
      case atStart => exact ⟨0, L, rfl, rfl, HG.out.1, fun k => ⟨Or.inl, fun h => h.elim id (fun ⟨j, hj, _⟩ => absurd hj (by omega))⟩, HG.out.2.1.nd, HG.out.2.1.lt, HG.out.2.2⟩
      case round =>
        obtain ⟨s, L', rfl, rfl, HI⟩ := hrel
        rename World => wx
        obtain ⟨D, hown, hD⟩ := HI.out.1
        obtain ⟨x, hx⟩ : ∃ x, x = orb q n zi s := ⟨_, rfl⟩
        have hxn : x < n := by rw [hx]; exact orb_lt (by omega)
        have hlen : L'.length ≤ n := nd_len HI.out.2.2.1 HI.out.2.2.2.1
        rw [← hx]
        have HOw : Hid (wx.ownsMap Tryz.prog 3 (plainElem Tryz.prog 3) B L'.length D ∧ TgD D L' ∧ L'.length ≤ n) := ⟨hown, hD, hlen⟩
        have hxw : (Lit.int .i64 (x : Nat)).wf = true := ct_wf (by omega)
        have HXe : Hid (x = orb q n zi s) := hx
        clear hown hD hlen hx
        by_cases hmem : x ∈ L'
        · have HN : Hid (TgL q n z (i + 1) L') := by
            have h := walk_end (q := q) (z := zi) (s := s) (by omega) HG.out.2.1.cl HI.out.2.1 (by rw [← HXe.out]; exact hmem)
            refine ⟨HI.out.2.2.1, HI.out.2.2.2.1, h.1, fun k => ?_⟩
            constructor
            · intro hk
              rcases (HI.out.2.1 k).1 hk with c | ⟨j, _, c⟩
              · obtain ⟨i', hi', c⟩ := (HG.out.2.1.mem k).1 c
                exact ⟨i', by omega, c⟩
              · exact ⟨i, by omega, j, by rw [← HZi.out.1]; exact c⟩
            · rintro ⟨i', hi', j, c⟩
              by_cases e : i' = i
              · rw [e, ← HZi.out.1] at c
                rw [← c]; exact h.2 j
              · exact (HI.out.2.1 k).2 (Or.inl ((HG.out.2.1.mem k).2 ⟨i', by omega, j, c⟩))
          go_wp2_with (at_lookup; refine wpList_lookup_own_int _ rfl _ _ 55 rfl 3 3 .i64 ct_law ct_map cty_int (ct_zero _) B L'.length _ rfl HOw.out.1 _ _ rfl (ct_key _ hxw) ?_; intro c hat hwc; obtain rfl : c = 1 := lit_inj (hat.symm.trans (HOw.out.2.1.yes x hmem)); clear hat hwc)
          go_roundw
          case rel => exact ⟨i + 1, L', by omega, by go_num, HI.out.1, HN.out, HI.out.2.2.2.2⟩
          case measure => simp [RowKit.intOf]; omega
        · obtain ⟨xq, hxq⟩ : ∃ xq, xq = x * q := ⟨_, rfl⟩
          have hxqi : (x : Int) * (q : Int) = (xq : Int) := by rw [hxq]; simp
          have hxqb : xq ≤ 4096 := by rw [hxq]; exact Nat.le_trans (Nat.mul_le_mul (show x ≤ 64 by omega) hq) (by decide)
          have hxqw : IntKind.i64.wrap (xq : Int) = (xq : Int) := wrap_to rfl (by omega)
          obtain ⟨y, hy⟩ : ∃ y, y = xq % n := ⟨_, rfl⟩
          have hrm : (xq : Int).tmod (n : Int) = (y : Int) := by rw [Int.tmod_eq_emod_of_nonneg (by omega), hy]; omega
          have hre : (xq : Int) % (n : Int) = (y : Int) := by rw [hy]; omega
          have hn0 : ¬ (n : Int) = 0 := by omega
          have hn0b : ((n : Int) == 0) = false := by rw [beq_eq_false_iff_ne]; omega
          have HYe : Hid (y = orb q n zi (s + 1)) := by
            show _ = _
            rw [orb_succ, ← HXe.out, hy, hxq]
          clear hxq hy
          go_wp2_with (first
            | (at_lookup; refine wpList_lookup_own_int _ rfl _ _ 55 rfl 3 3 .i64 ct_law ct_map cty_int (ct_zero _) B L'.length _ rfl HOw.out.1 _ _ rfl (ct_key _ hxw) ?_; intro c hat hwc; obtain rfl : c = 0 := lit_inj (hat.symm.trans (HOw.out.2.1.no x hmem)); clear hat hwc)
            | (at_mapUpdate; refine wpList_mapUpdate_own _ rfl _ _ _ 55 rfl 3 3 ct_law ct_map _ B L'.length _ rfl HOw.out.1 (by have := HOw.out.2.2; unfold maxLen; omega) _ _ _ rfl rfl (ct_key _ hxw) _ [] (plainElem_int cty_int (by decide)) ?_; intro w1 hown1 hgrow1))
          have HN : Hid (Tg B (L' ++ [x]) w1 ∧ (∀ k, k ∈ L' ++ [x] ↔ k ∈ L ∨ ∃ j, j < s + 1 ∧ orb q n zi j = k) ∧ (L' ++ [x]).Nodup ∧ (∀ k ∈ L' ++ [x], k < n) ∧ Below w.heap.size w w1) := by
            refine ⟨⟨_, by rw [List.length_append, List.length_singleton]; exact hown1, HOw.out.2.1.put x⟩, fun k => ?_, ?_, fun k hk => ?_, HI.out.2.2.2.2.grown hgrow1 HI.out.2.2.2.2.size (fun j hj => by cases hj; have := H0.out.2.2; omega)⟩
            · rw [List.mem_append, HI.out.2.1 k, List.mem_singleton]
              constructor
              · rintro ((c | ⟨j, hj, c⟩) | c)
                · exact Or.inl c
                · exact Or.inr ⟨j, by omega, c⟩
                · exact Or.inr ⟨s, by omega, by rw [c]; exact HXe.out.symm⟩
              · rintro (c | ⟨j, hj, c⟩)
                · exact Or.inl (Or.inl c)
                · by_cases e : j = s
                  · right; rw [← c, e]; exact HXe.out.symm
                  · exact Or.inl (Or.inr ⟨j, by omega, c⟩)
            · rw [List.nodup_append]
              exact ⟨HI.out.2.2.1, by simp, fun a ha b hb => by rw [List.mem_singleton.1 hb]; intro e; rw [e] at ha; exact hmem ha⟩
            · rcases List.mem_append.1 hk with c | c
              · exact HI.out.2.2.2.1 k c
              · rw [List.mem_singleton.1 c]; exact hxn
          have HLn : Hid (L'.length < n) := by
            have h := nd_len HN.out.2.2.1 HN.out.2.2.2.1
            rw [List.length_append, List.length_singleton] at h
            exact h
          clear hown1 hgrow1
          go_roundg (n + 1 - (L' ++ [x]).length)
          case rel => exact ⟨s + 1, L' ++ [x], by rw [HYe.out], rfl, HN.out⟩
          case measure => rw [List.length_append, List.length_singleton]; have := HLn.out; omega
    · have hib : ¬ (i : Int) < (m : Int) := by omega
      have hie : m = i := by omega
      subst hie
      go_wp2
      go_ret
      exact ⟨by rw [← H0.out.2.2]; rfl, L, by rw [← H0.out.2.2]; exact HG.out.1, HG.out.2.1, HG.out.2.2⟩
end Go.Proofs.YtppggchhkckobaaGreat
