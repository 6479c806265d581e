/- Words in order: the reference's Below (of words of bits) and Sort (printed by make/ki16.py). -/
import Derived.Test.YtillljojdnofgaaZKI15
import Derived.Test.YtillljojdnofgaaZKH7
import Derived.Test.YtillljojdnofgaaZS9
import Derived.Test.YtillljojdnofgaaZW11
namespace Go.Proofs.Ytillljojdnofgaa
open Go.RowKit Go.Sort

set_option maxHeartbeats 4000000 in
set_option maxRecDepth 100000 in
theorem rbelow_bits {ao bo : Option Addr} {m ca cb : Nat} {c d : Nat → Nat} {w : World} (hX : SlZ ao m (fun j => ((c j : Nat) : Int)) w) (hY : SlZ bo m (fun j => ((d j : Nat) : Int)) w) (hm : m ≤ 13) (hc : ∀ j, c j ≤ 1) (hd : ∀ j, d j ≤ 1) :
    Calls Try.prog 55 #[.slice ao m ca, .slice bo m cb] w fun e w' => e = .returned (.bool (decide (dnum 2 c m < dnum 2 d m))) ∧ ∃ n, w' = w.drewN n := by
  obtain ⟨R, hR⟩ : ∃ R, R = decide (dnum 2 c m < dnum 2 d m) := ⟨_, rfl⟩
  have HF : Hid (SlZ ao m (fun j => ((c j : Nat) : Int)) w ∧ SlZ bo m (fun j => ((d j : Nat) : Int)) w ∧ (∀ j, c j ≤ 1) ∧ (∀ j, d j ≤ 1) ∧ R = decide (dnum 2 c m < dnum 2 d m)) := ⟨hX, hY, hc, hd, hR⟩
  rw [← hR]
  have hmm : ¬ (m : Int) < (m : Int) := by omega
  clear hX hY hc hd hR
  go_enter Try.func55, Try.ntmps55
  go_wp2
  go_loopw [5] (fun vi wr => ∃ i : Nat, i ≤ m ∧ vi = .int .i64 (i : Nat) ∧ Hid ((∀ j, j < i → c j = d j) ∧ ∃ n, wr = w.drewN n)) (fun vi _ => m - (intOf vi).toNat)
  case atStart => exact ⟨0, by omega, rfl, fun j hj => absurd hj (by omega), 0, rfl⟩
  case round =>
    obtain ⟨i, hi, rfl, HG⟩ := hrel
    rename World => wr
    by_cases hlt : i < m
    · have hib : (i : Int) < (m : Int) := by omega
      have hib0 : (0 : Int) ≤ (i : Int) := by omega
      obtain ⟨ba, oa, hao, hca⟩ := HF.out.1 i hlt
      obtain ⟨bb, ob, hbo, hcb⟩ := HF.out.2.1 i hlt
      obtain ⟨x, hx⟩ : ∃ x, x = c i := ⟨_, rfl⟩
      obtain ⟨y, hy⟩ : ∃ y, y = d i := ⟨_, rfl⟩
      replace hca : wr.cell? ⟨ba, oa + i, none⟩ = some (.int .i64 (x : Nat)) := by obtain ⟨n, hn⟩ := HG.out.2; rw [hn, hx]; exact hca
      replace hcb : wr.cell? ⟨bb, ob + i, none⟩ = some (.int .i64 (y : Nat)) := by obtain ⟨n, hn⟩ := HG.out.2; rw [hn, hy]; exact hcb
      subst hao
      subst hbo
      have HW : Hid (∀ e, Hid (∃ e', wr.drewN e = w.drewN e')) := fun e => by
        obtain ⟨n, hn⟩ := HG.out.2
        exact ⟨_, by rw [hn, World.drewN_drewN]⟩
      by_cases hxy : x = y
      · have zxy : ((x : Int) != (y : Int)) = false := by rw [hxy]; simp
        have HN : Hid (∀ j, j < i + 1 → c j = d j) := fun j hj => by
          by_cases e : j = i
          · rw [e, ← hx, ← hy, hxy]
          · exact HG.out.1 j (by omega)
        clear hx hy hxy
        go_wp2
        go_quiet (fail)
        go_wp2
        go_roundw
        case rel => exact ⟨i + 1, by omega, by go_num, HN.out, (HW.out _).out⟩
        case measure => simp [intOf]; omega
      · have zxy : ((x : Int) != (y : Int)) = true := bne_iff_ne.2 (by omega)
        have HQ : Hid (decide (x < y) = R) := by
          have h13 : ∀ u : Nat → Nat, (∀ j, u j ≤ 1) → ∀ t, t < i + 1 + (m - (i + 1)) → u t < 2 := fun u hu t _ => by have := hu t; omega
          have em : i + 1 + (m - (i + 1)) = m := by omega
          show decide (x < y) = R
          rw [HF.out.2.2.2.2]
          rcases Nat.lt_or_ge x y with h | h
          · have h1 := dnum_lex (q := 2) HG.out.1 (show c i < d i by rw [← hx, ← hy]; exact h) (m - (i + 1)) (h13 c HF.out.2.2.1)
            rw [em] at h1
            rw [decide_eq_true h, decide_eq_true h1]
          · have h1 := dnum_lex (q := 2) (fun j hj => (HG.out.1 j hj).symm) (show d i < c i by rw [← hx, ← hy]; omega) (m - (i + 1)) (h13 d HF.out.2.2.2.1)
            rw [em] at h1
            rw [decide_eq_false (by omega), decide_eq_false (by omega)]
        clear hx hy hxy
        go_wp2
        go_quiet (fail)
        go_wp2
        go_quiet (fail)
        go_wp2
        go_ret
        exact ⟨by rw [← HQ.out]; rfl, by first | exact (HW.out _).out | (rw [World.drewN_drewN]; exact (HW.out _).out)⟩
    · have hib : ¬ (i : Int) < (m : Int) := by omega
      have HQ : Hid (R = false) := by
        show R = false
        rw [HF.out.2.2.2.2, dnum_congr (e := d) m (fun j hj => HG.out.1 j (by omega))]
        exact decide_eq_false (by omega)
      go_wp2
      go_ret
      exact ⟨by rw [HQ.out]; rfl, HG.out.2⟩

/-- The value is a word of m bits, whose number is key. -/
def WdK (m : Nat) (u : Value) (key : Nat) (w : World) : Prop := ∃ c, OwnI 0 u (wz m c) w ∧ (∀ j, c j ≤ 1) ∧ dnum 2 c m = key
theorem WdK.below {m key : Nat} {u : Value} {w w' : World} (h : WdK m u key w) (hb : Below w.heap.size w w') : WdK m u key w' := by
  obtain ⟨c, h1, h2⟩ := h
  exact ⟨c, h1.below hb fun q hq => (h1.lt q hq).2, h2⟩
theorem WdK.one {m key : Nat} {u : Value} {w : World} (h : WdK m u key w) : u.oneCell' = true := by
  obtain ⟨c, h1, _⟩ := h
  obtain ⟨x, cx, rfl, _⟩ := OwnI.argL (n := m) (y := fun j => ((c j : Nat) : Int)) h1
  rfl
theorem WdK.ofG {m key base G K cap : Nat} {u : Value} {l : List Value} {w w' : World} (h : WdK m u key w) (ho : OwnV base (.slice (some ⟨G, 0, none⟩) K cap) l w) (hs : OfG G w w') : WdK m u key w' := by
  obtain ⟨c, h1, h2⟩ := h
  refine ⟨c, h1.same fun q hq => hs.same q (h1.lt q hq).2 fun e => ?_, h2⟩
  rcases h1.apart ho with x | x
  · rw [x] at hq; cases hq
  · exact x (by rw [hq, e]; rfl)
theorem OfG.set {G o : Nat} {u : Value} {w w' : World} (h : OfG G w w') : OfG G w (w'.setCell ⟨G, o, none⟩ u) := ⟨fun g hg hn => (Below.heap_setCell _ _ _ _ hn).trans (h.same g hg hn), fun B v hb hB => setO_bel (h.bel B v hb hB) hB _⟩
theorem OfG.of {G : Nat} {w w' : World} (h : Below w.heap.size w w') (hG : G < w.heap.size) : OfG G w w' := ⟨fun g hg _ => h.block g hg, fun B u hb hB => hb.trans (h.mono (by omega))⟩
theorem OfG.far {G g : Nat} {w w2 w3 : World} (h : OfG G w w2) (h2 : OfG g w2 w3) (hg : w.heap.size ≤ g) (hG : G < w.heap.size) : OfG G w w3 := ⟨fun x hx hn => (h2.same x (Nat.lt_of_lt_of_le hx h.size) (by omega)).trans (h.same x hx hn), fun B u hb hB => h2.bel B u (h.bel B u hb hB) (by omega)⟩
theorem OwnV.bounds {base G K cap : Nat} {l : List Value} {w : World} (h : OwnV base (.slice (some ⟨G, 0, none⟩) K cap) l w) : l.length = K ∧ K ≤ cap ∧ cap ≤ 9223372036854775807 ∧ base ≤ G ∧ G < w.heap.size := by
  rcases h.2 with ⟨h1, _⟩ | ⟨g, c, cur, hv, hg, hh, hle, hcm, hsz, _⟩
  · cases h1
  · cases hv
    exact ⟨rfl, hle, hcm, hg, lt_of_block hh⟩
/-- 'append(l, x...)', l a slice of slices of the call's own. -/
theorem append_sln {ops : Array Oper} {rest : List Oper} {o : Oper} {a : Act} {w : World} {Q : Exit → Act → World → Prop} (hgd : o.guard = none) (s x : Operand)
    (ho : o.op = .call { callee := .builtin .append, args := #[s, x], argTypes := #[25, 25] })
    (base : Nat) (v : Value) (l : List Value) (hs : a.eval s = v) (hown : OwnV base v l w) (g off n sc : Nat) (vs : Nat → Value) (hx : a.eval x = .slice (some ⟨g, off, none⟩) n sc) (hS : SlV (some ⟨g, off, none⟩) n vs w) (hone : ∀ j, j < n → (vs j).oneCell' = true)
    (hlen : l.length + n ≤ 1000000) (hbase : base ≤ w.heap.size)
    (h : ∀ v' w', OwnV base v' (l ++ vl n vs) w' → w.grownBy w' v.ownBlock → wpList Try.prog ops Q rest (a.put o.dst v') w') : wpList Try.prog ops Q (o :: rest) a w := by
  obtain ⟨i0, hi, hz0, hz1, hz2⟩ := info_parts Try.infoSl
  refine wpList_append_own _ hgd s x 25 ho base 22 i0 (.slice none 0 0) 1 24 Try.underlying25 hi hz0 hz1 hz2 rfl (by decide) v l.length _ hs hown ⟨g, off, none⟩ n sc (vl n vs) hx (by rw [vl_len]; omega) ?_ ?_ ?_ ?_ hbase ?_
  · intro j u hj
    have hj' : j < n := by
      have := (List.getElem?_eq_some_iff.1 hj).1
      rwa [vl_len] at this
    rw [vl_get n vs j hj'] at hj
    cases hj
    obtain ⟨b, of2, e, hc⟩ := hS j hj'
    cases e
    rw [add_off]; exact hc
  · intro u hu
    obtain ⟨k, hk, rfl⟩ := List.mem_map.1 hu
    exact hone k (List.mem_range.1 hk)
  · unfold maxLen; omega
  · omega
  · intro v' w' hown' hgrow _
    refine h v' w' ?_ hgrow
    unfold OwnV
    rw [List.length_append, vl_len]
    exact hown'
theorem OwnV.slv {base G K cap : Nat} {vs : Nat → Value} {w : World} (h : OwnV base (.slice (some ⟨G, 0, none⟩) K cap) (vl K vs) w) : SlV (some ⟨G, 0, none⟩) K vs w := fun j hj => by
  obtain ⟨ao, c, e, _, _, _, hc⟩ := h.open
  rw [vl_len] at e
  obtain ⟨g, e2, h2, _⟩ := hc j (vs j) (vl_get K vs j hj)
  subst e2
  cases e
  exact ⟨G, 0, rfl, by rw [Nat.zero_add]; exact h2⟩
theorem OwnV.at {base G K cap : Nat} {vs : Nat → Value} {w : World} (h : OwnV base (.slice (some ⟨G, 0, none⟩) K cap) (vl K vs) w) {j : Nat} (hj : j < K) : w.cell? ⟨G, j, none⟩ = some (vs j) ∧ w.frozen? ⟨G, j, none⟩ = false := by
  obtain ⟨ao, c, e, _, _, _, hc⟩ := h.open
  rw [vl_len] at e
  obtain ⟨g, e2, h2, h3⟩ := hc j (vs j) (vl_get K vs j hj)
  subst e2
  cases e
  exact ⟨h2, h3⟩
/-- Values and their numbers, from the i-th on. -/
def PLf (vs : Nat → Value) (ks : Nat → Nat) (i n : Nat) : List (Value × Nat) := (List.range n).map fun t => (vs (i + t), ks (i + t))
theorem PLf_cons (vs : Nat → Value) (ks : Nat → Nat) (i n : Nat) : PLf vs ks i (n + 1) = (vs i, ks i) :: PLf vs ks (i + 1) n := by
  unfold PLf
  rw [List.range_succ_eq_map, List.map_cons, List.map_map]
  congr 1
  refine List.map_congr_left fun t _ => ?_
  show (vs (i + (t + 1)), ks (i + (t + 1))) = _
  rw [show i + (t + 1) = i + 1 + t by omega]
theorem PLf_snoc (vs : Nat → Value) (ks : Nat → Nat) (i n : Nat) : PLf vs ks i (n + 1) = PLf vs ks i n ++ [(vs (i + n), ks (i + n))] := by
  unfold PLf
  rw [List.range_succ, List.map_append]; rfl
theorem PLf_congr {vs us : Nat → Value} {ks js : Nat → Nat} {i n : Nat} (h : ∀ t, t < n → vs (i + t) = us (i + t) ∧ ks (i + t) = js (i + t)) : PLf vs ks i n = PLf us js i n := List.map_congr_left fun t ht => by rw [(h t (List.mem_range.1 ht)).1, (h t (List.mem_range.1 ht)).2]
theorem PLf_split (vs : Nat → Value) (ks : Nat → Nat) (h K : Nat) (hh : h ≤ K) : PLf vs ks 0 K = PLf vs ks 0 h ++ PLf (fun t => vs (h + t)) (fun t => ks (h + t)) 0 (K - h) := by
  unfold PLf
  rw [show K = h + (K - h) by omega, List.range_add, List.map_append, List.map_map]
  congr 1
  rw [show h + (K - h) - h = K - h by omega]
  refine List.map_congr_left fun t _ => ?_
  show (vs (0 + (h + t)), ks (0 + (h + t))) = (vs (h + (0 + t)), ks (h + (0 + t)))
  rw [Nat.zero_add, Nat.zero_add]
/-- What Sort leaves: the same, in order. -/
def SrP (m base G K cap : Nat) (vs : Nat → Value) (ks : Nat → Nat) (w w' : World) : Prop := ∃ us js, OwnV base (.slice (some ⟨G, 0, none⟩) K cap) (vl K us) w' ∧ (PLf us js 0 K).Perm (PLf vs ks 0 K) ∧ (∀ i j, i < j → j < K → js i ≤ js j) ∧ (∀ i, i < K → WdK m (us i) (js i) w') ∧ OfG G w w'
/-- How far two rows in order are put together. -/
structure MgI (K h i k n : Nat) (va vb us : Nat → Value) (ka kb js : Nat → Nat) : Prop where
  sum : i + k = n
  ih : i ≤ h
  kh : k ≤ K - h
  perm : (PLf us js 0 n ++ (PLf va ka i (h - i) ++ PLf vb kb k (K - h - k))).Perm (PLf va ka 0 h ++ PLf vb kb 0 (K - h))
  ord : ∀ s t, s < t → t < n → js s ≤ js t
  la : ∀ s t, s < n → i ≤ t → t < h → js s ≤ ka t
  lb : ∀ s t, s < n → k ≤ t → t < K - h → js s ≤ kb t
theorem MgI.left {K h i k n : Nat} {va vb us : Nat → Value} {ka kb js : Nat → Nat} (H : MgI K h i k n va vb us ka kb js) (hi : i < h) (oa : ∀ s t, s < t → t < h → ka s ≤ ka t) (hb : ∀ t, k ≤ t → t < K - h → ka i ≤ kb t) : MgI K h (i + 1) k (n + 1) va vb (fun t => if t = n then va i else us t) ka kb (fun t => if t = n then ka i else js t) := by
  refine ⟨by have := H.sum; omega, by omega, H.kh, ?_, fun s t hs ht => ?_, fun s t hs h1 h2 => ?_, fun s t hs h1 h2 => ?_⟩
  · have e := H.perm
    rw [show h - i = (h - (i + 1)) + 1 by omega, PLf_cons] at e
    rw [PLf_snoc, PLf_congr (us := us) (js := js) (fun t ht => by simp only [Nat.zero_add]; rw [if_neg (by omega), if_neg (by omega)]; exact ⟨rfl, rfl⟩)]
    simp only [Nat.zero_add, if_true]
    rw [List.append_assoc]
    exact e
  · show (if s = n then ka i else js s) ≤ if t = n then ka i else js t
    rw [if_neg (by omega)]
    by_cases e : t = n
    · rw [if_pos e]; exact H.la s i (by omega) (Nat.le_refl _) hi
    · rw [if_neg e]; exact H.ord s t hs (by omega)
  · show (if s = n then ka i else js s) ≤ ka t
    by_cases e : s = n
    · rw [if_pos e]; exact oa i t (by omega) h2
    · rw [if_neg e]; exact H.la s t (by omega) (by omega) h2
  · show (if s = n then ka i else js s) ≤ kb t
    by_cases e : s = n
    · rw [if_pos e]; exact hb t h1 h2
    · rw [if_neg e]; exact H.lb s t (by omega) h1 h2
theorem MgI.right {K h i k n : Nat} {va vb us : Nat → Value} {ka kb js : Nat → Nat} (H : MgI K h i k n va vb us ka kb js) (hk : k < K - h) (ob : ∀ s t, s < t → t < K - h → kb s ≤ kb t) (ha : ∀ t, i ≤ t → t < h → kb k ≤ ka t) : MgI K h i (k + 1) (n + 1) va vb (fun t => if t = n then vb k else us t) ka kb (fun t => if t = n then kb k else js t) := by
  refine ⟨by have := H.sum; omega, H.ih, by omega, ?_, fun s t hs ht => ?_, fun s t hs h1 h2 => ?_, fun s t hs h1 h2 => ?_⟩
  · have e := H.perm
    rw [show K - h - k = (K - h - (k + 1)) + 1 by omega, PLf_cons] at e
    rw [PLf_snoc, PLf_congr (us := us) (js := js) (fun t ht => by simp only [Nat.zero_add]; rw [if_neg (by omega), if_neg (by omega)]; exact ⟨rfl, rfl⟩)]
    simp only [Nat.zero_add, if_true]
    rw [List.append_assoc]
    refine List.Perm.trans (List.Perm.append_left _ ?_) e
    rw [List.singleton_append]
    exact List.perm_middle.symm
  · show (if s = n then kb k else js s) ≤ if t = n then kb k else js t
    rw [if_neg (by omega)]
    by_cases e : t = n
    · rw [if_pos e]; exact H.lb s k (by omega) (Nat.le_refl _) hk
    · rw [if_neg e]; exact H.ord s t hs (by omega)
  · show (if s = n then kb k else js s) ≤ ka t
    by_cases e : s = n
    · rw [if_pos e]; exact ha t h1 h2
    · rw [if_neg e]; exact H.la s t (by omega) h1 h2
  · show (if s = n then kb k else js s) ≤ kb t
    by_cases e : s = n
    · rw [if_pos e]; exact ob k t (by omega) h2
    · rw [if_neg e]; exact H.lb s t (by omega) (by omega) h2
end Go.Proofs.Ytillljojdnofgaa
