/- Texts of ours, one behind the other: KI15 KI16 KI17. -/
import Derived.Test.YtabkomelnhnoiaaZKI13
import Derived.Test.YtabkomelnhnoiaaZKH6
import Derived.Test.YtabkomelnhnoiaaZS11
import Derived.Test.YtabkomelnhnoiaaZI5
/- Words that may lose a bit: what Mend tells is what GapMended tells; Mend's errors. -/
namespace Go.Proofs.Ytabkomelnhnoiaa
open Go.RowKit Go.Sort

theorem wz_eq {n : Nat} {c d : Nat → Nat} : wz n c = wz n d ↔ ∀ j, j < n → c j = d j := by
  constructor
  · intro h j hj
    have h1 := congrArg (fun l => l[j]?) h
    have h1 : (zl n fun t => ((c t : Nat) : Int))[j]? = (zl n fun t => ((d t : Nat) : Int))[j]? := h1
    rw [zl_get _ _ _ hj, zl_get _ _ _ hj] at h1
    have h2 := Option.some.inj h1
    omega
  · exact fun h => zl_congr fun j hj => by show ((c j : Nat) : Int) = ((d j : Nat) : Int); rw [h j hj]
theorem wdL_mem {n a : Nat} {c : Nat → Nat} : ∀ k, c ∈ wdL n a k ↔ ∃ i, i < k ∧ psm (dgs 2 n i) n % (n + 1) = a ∧ c = dgs 2 n i
  | 0 => ⟨fun h => (by cases h), fun ⟨i, h, _⟩ => absurd h (by omega)⟩
  | k + 1 => by
    show c ∈ wdL n a k ++ (if psm (dgs 2 n k) n % (n + 1) = a then [dgs 2 n k] else []) ↔ _
    rw [List.mem_append, wdL_mem k]
    constructor
    · rintro (⟨i, hi, e⟩ | e)
      · exact ⟨i, by omega, e⟩
      · by_cases h : psm (dgs 2 n k) n % (n + 1) = a
        · rw [if_pos h, List.mem_singleton] at e
          exact ⟨k, by omega, h, e⟩
        · rw [if_neg h] at e; cases e
    · rintro ⟨i, hi, h, e⟩
      by_cases hk : i = k
      · subst hk
        exact Or.inr (by rw [if_pos h, List.mem_singleton]; exact e)
      · exact Or.inl ⟨i, by omega, h, e⟩
theorem wdL_sum {n a k : Nat} {c : Nat → Nat} (h : c ∈ wdL n a k) : psm c n % (n + 1) = a ∧ ∀ j, c j ≤ 1 := by
  obtain ⟨i, _, h1, rfl⟩ := (wdL_mem k).1 h
  exact ⟨h1, fun j => by have := dgs_lt (q := 2) (k := n) (a := i) (by omega) j; omega⟩
theorem wib_congr {a b n : Nat} {u v : Nat → Nat} (h : ∀ j, j < n → u j = v j) {j : Nat} (hj : j < n + 1) (ha : a ≤ n) : wib a b u j = wib a b v j := by
  unfold wib
  by_cases h1 : j < a
  · rw [if_pos h1, if_pos h1]; exact h j (by omega)
  · rw [if_neg h1, if_neg h1]
    by_cases h2 : j = a
    · rw [if_pos h2, if_pos h2]
    · rw [if_neg h2, if_neg h2]; exact h (j - 1) (by omega)
/-- A word of the list of which f may have come is, as a word, one that sent names. -/
theorem rel_sent {n l : Nat} {f c : Nat → Nat} (hn1 : 1 ≤ n) (hc : ∀ j, c j ≤ 1) (hr : relW n l f c) : ∃ d ∈ snL n l f, wz n d = wz n c := by
  rcases hr with h | ⟨hl, d, hd, he⟩ | ⟨hl, d, hd, he⟩
  · have hln : n = l := by
      have := congrArg List.length h
      rw [wz_len, wz_len] at this; exact this
    refine ⟨f, ?_, ?_⟩
    · unfold snL; rw [if_neg (by omega), if_pos hln.symm]; exact List.mem_singleton.2 rfl
    · rw [h, hln]
  · obtain ⟨i, hi, rfl⟩ := (lsL_mem n).1 hd
    have hln : n - 1 = l := by omega
    rw [hln] at he
    have he := wz_eq.1 he
    have hci := hc i
    refine ⟨wib i (c i) f, ?_, wz_eq.2 fun j hj => ?_⟩
    · unfold snL
      rw [if_pos hl, lgL_mem]
      exact ⟨2 * i + c i, by omega, by rw [show (2 * i + c i) / 2 = i by omega, show (2 * i + c i) % 2 = c i by omega]⟩
    · have e2 : wib i (c i) (wo i c) j = c j := by rw [wib_wo]
      rw [← e2]
      exact wib_congr (n := l) (fun j hj => (he j hj).symm) (by omega) (by omega)
  · obtain ⟨i, hi, rfl⟩ := (lsL_mem l).1 hd
    refine ⟨wo i f, ?_, ?_⟩
    · unfold snL
      rw [if_neg (by omega), if_neg (by omega), if_pos hl, srL_mem]
      exact ⟨i, hi, rfl⟩
    · rw [← he, hl]; rfl
/-- Of the words that sent names one at most has the sum. -/
theorem sent_one {n l a : Nat} {f c d : Nat → Nat} (hf : ∀ j, f j ≤ 1) (hc : c ∈ snL n l f) (hd : d ∈ snL n l f) (sc : psm c n % (n + 1) = a) (sd : psm d n % (n + 1) = a) : c = d := by
  unfold snL at hc hd
  by_cases h1 : l + 1 = n
  · rw [if_pos h1, lgL_mem] at hc hd
    obtain ⟨i, hi, rfl⟩ := hc
    obtain ⟨k, hk, rfl⟩ := hd
    subst h1
    exact ins_one hf (by omega) (by omega) (by omega) (by omega) (sc.trans sd.symm)
  rw [if_neg h1] at hc hd
  by_cases h2 : l = n
  · rw [if_pos h2, List.mem_singleton] at hc hd
    rw [hc, hd]
  rw [if_neg h2] at hc hd
  by_cases h3 : l = n + 1
  · rw [if_pos h3, srL_mem] at hc hd
    obtain ⟨i, hi, rfl⟩ := hc
    obtain ⟨k, hk, rfl⟩ := hd
    exact del_one hf (by omega) (by omega) (sc.trans sd.symm)
  · rw [if_neg h3] at hc; cases hc
end Go.Proofs.Ytabkomelnhnoiaa

/- Words in order: the reference's Below (of words of bits) and Sort (printed by make/ki16.py). -/
namespace Go.Proofs.Ytabkomelnhnoiaa
open Go.RowKit Go.Sort

/-- The value is a word of m bits, whose number is key. -/
def WdK (m : Nat) (u : Value) (key : Nat) (w : World) : Prop := ∃ c, OwnI 0 u (wz m c) w ∧ (∀ j, c j ≤ 1) ∧ dnum 2 c m = key
theorem WdK.below {m key : Nat} {u : Value} {w w' : World} (h : WdK m u key w) (hb : Below w.heap.size w w') : WdK m u key w' := by
  obtain ⟨c, h1, h2⟩ := h
  exact ⟨c, h1.below hb fun q hq => (h1.lt q hq).2, h2⟩
theorem WdK.one {m key : Nat} {u : Value} {w : World} (h : WdK m u key w) : u.oneCell' = true := by
  obtain ⟨c, h1, _⟩ := h
  obtain ⟨x, cx, rfl, _⟩ := OwnI.argL (n := m) (y := fun j => ((c j : Nat) : Int)) h1
  rfl
theorem WdK.ofG {m key base G K cap : Nat} {u : Value} {l : List Value} {w w' : World} (h : WdK m u key w) (ho : OwnV base (.slice (some ⟨G, 0, none⟩) K cap) l w) (hs : OfG G w w') : WdK m u key w' := by
  obtain ⟨c, h1, h2⟩ := h
  refine ⟨c, h1.same fun q hq => hs.same q (h1.lt q hq).2 fun e => ?_, h2⟩
  rcases h1.apart ho with x | x
  · rw [x] at hq; cases hq
  · exact x (by rw [hq, e]; rfl)
theorem OfG.set {G o : Nat} {u : Value} {w w' : World} (h : OfG G w w') : OfG G w (w'.setCell ⟨G, o, none⟩ u) := ⟨fun g hg hn => (Below.heap_setCell _ _ _ _ hn).trans (h.same g hg hn), fun B v hb hB => setO_bel (h.bel B v hb hB) hB _⟩
theorem OfG.of {G : Nat} {w w' : World} (h : Below w.heap.size w w') (hG : G < w.heap.size) : OfG G w w' := ⟨fun g hg _ => h.block g hg, fun B u hb hB => hb.trans (h.mono (by omega))⟩
theorem OfG.far {G g : Nat} {w w2 w3 : World} (h : OfG G w w2) (h2 : OfG g w2 w3) (hg : w.heap.size ≤ g) (hG : G < w.heap.size) : OfG G w w3 := ⟨fun x hx hn => (h2.same x (Nat.lt_of_lt_of_le hx h.size) (by omega)).trans (h.same x hx hn), fun B u hb hB => h2.bel B u (h.bel B u hb hB) (by omega)⟩
theorem OwnV.bounds {base G K cap : Nat} {l : List Value} {w : World} (h : OwnV base (.slice (some ⟨G, 0, none⟩) K cap) l w) : l.length = K ∧ K ≤ cap ∧ cap ≤ 9223372036854775807 ∧ base ≤ G ∧ G < w.heap.size := by
  rcases h.2 with ⟨h1, _⟩ | ⟨g, c, cur, hv, hg, hh, hle, hcm, hsz, _⟩
  · cases h1
  · cases hv
    exact ⟨rfl, hle, hcm, hg, lt_of_block hh⟩
theorem OwnV.at {base G K cap : Nat} {vs : Nat → Value} {w : World} (h : OwnV base (.slice (some ⟨G, 0, none⟩) K cap) (vl K vs) w) {j : Nat} (hj : j < K) : w.cell? ⟨G, j, none⟩ = some (vs j) ∧ w.frozen? ⟨G, j, none⟩ = false := by
  obtain ⟨ao, c, e, _, _, _, hc⟩ := h.open
  rw [vl_len] at e
  obtain ⟨g, e2, h2, h3⟩ := hc j (vs j) (vl_get K vs j hj)
  subst e2
  cases e
  exact ⟨h2, h3⟩
/-- Values and their numbers, from the i-th on. -/
def PLf (vs : Nat → Value) (ks : Nat → Nat) (i n : Nat) : List (Value × Nat) := (List.range n).map fun t => (vs (i + t), ks (i + t))
theorem PLf_cons (vs : Nat → Value) (ks : Nat → Nat) (i n : Nat) : PLf vs ks i (n + 1) = (vs i, ks i) :: PLf vs ks (i + 1) n := by
  unfold PLf
  rw [List.range_succ_eq_map, List.map_cons, List.map_map]
  congr 1
  refine List.map_congr_left fun t _ => ?_
  show (vs (i + (t + 1)), ks (i + (t + 1))) = _
  rw [show i + (t + 1) = i + 1 + t by omega]
theorem PLf_snoc (vs : Nat → Value) (ks : Nat → Nat) (i n : Nat) : PLf vs ks i (n + 1) = PLf vs ks i n ++ [(vs (i + n), ks (i + n))] := by
  unfold PLf
  rw [List.range_succ, List.map_append]; rfl
theorem PLf_congr {vs us : Nat → Value} {ks js : Nat → Nat} {i n : Nat} (h : ∀ t, t < n → vs (i + t) = us (i + t) ∧ ks (i + t) = js (i + t)) : PLf vs ks i n = PLf us js i n := List.map_congr_left fun t ht => by rw [(h t (List.mem_range.1 ht)).1, (h t (List.mem_range.1 ht)).2]
/-- What Sort leaves: the same, in order. -/
def SrP (m base G K cap : Nat) (vs : Nat → Value) (ks : Nat → Nat) (w w' : World) : Prop := ∃ us js, OwnV base (.slice (some ⟨G, 0, none⟩) K cap) (vl K us) w' ∧ (PLf us js 0 K).Perm (PLf vs ks 0 K) ∧ (∀ i j, i < j → j < K → js i ≤ js j) ∧ (∀ i, i < K → WdK m (us i) (js i) w') ∧ OfG G w w'
/-- How far two rows in order are put together. -/
structure MgI (K h i k n : Nat) (va vb us : Nat → Value) (ka kb js : Nat → Nat) : Prop where
  sum : i + k = n
  ih : i ≤ h
  kh : k ≤ K - h
  perm : (PLf us js 0 n ++ (PLf va ka i (h - i) ++ PLf vb kb k (K - h - k))).Perm (PLf va ka 0 h ++ PLf vb kb 0 (K - h))
  ord : ∀ s t, s < t → t < n → js s ≤ js t
  la : ∀ s t, s < n → i ≤ t → t < h → js s ≤ ka t
  lb : ∀ s t, s < n → k ≤ t → t < K - h → js s ≤ kb t
theorem MgI.left {K h i k n : Nat} {va vb us : Nat → Value} {ka kb js : Nat → Nat} (H : MgI K h i k n va vb us ka kb js) (hi : i < h) (oa : ∀ s t, s < t → t < h → ka s ≤ ka t) (hb : ∀ t, k ≤ t → t < K - h → ka i ≤ kb t) : MgI K h (i + 1) k (n + 1) va vb (fun t => if t = n then va i else us t) ka kb (fun t => if t = n then ka i else js t) := by
  refine ⟨by have := H.sum; omega, by omega, H.kh, ?_, fun s t hs ht => ?_, fun s t hs h1 h2 => ?_, fun s t hs h1 h2 => ?_⟩
  · have e := H.perm
    rw [show h - i = (h - (i + 1)) + 1 by omega, PLf_cons] at e
    rw [PLf_snoc, PLf_congr (us := us) (js := js) (fun t ht => by simp only [Nat.zero_add]; rw [if_neg (by omega), if_neg (by omega)]; exact ⟨rfl, rfl⟩)]
    simp only [Nat.zero_add, if_true]
    rw [List.append_assoc]
    exact e
  · show (if s = n then ka i else js s) ≤ if t = n then ka i else js t
    rw [if_neg (by omega)]
    by_cases e : t = n
    · rw [if_pos e]; exact H.la s i (by omega) (Nat.le_refl _) hi
    · rw [if_neg e]; exact H.ord s t hs (by omega)
  · show (if s = n then ka i else js s) ≤ ka t
    by_cases e : s = n
    · rw [if_pos e]; exact oa i t (by omega) h2
    · rw [if_neg e]; exact H.la s t (by omega) (by omega) h2
  · show (if s = n then ka i else js s) ≤ kb t
    by_cases e : s = n
    · rw [if_pos e]; exact hb t h1 h2
    · rw [if_neg e]; exact H.lb s t (by omega) h1 h2
theorem MgI.right {K h i k n : Nat} {va vb us : Nat → Value} {ka kb js : Nat → Nat} (H : MgI K h i k n va vb us ka kb js) (hk : k < K - h) (ob : ∀ s t, s < t → t < K - h → kb s ≤ kb t) (ha : ∀ t, i ≤ t → t < h → kb k ≤ ka t) : MgI K h i (k + 1) (n + 1) va vb (fun t => if t = n then vb k else us t) ka kb (fun t => if t = n then kb k else js t) := by
  refine ⟨by have := H.sum; omega, H.ih, by omega, ?_, fun s t hs ht => ?_, fun s t hs h1 h2 => ?_, fun s t hs h1 h2 => ?_⟩
  · have e := H.perm
    rw [show K - h - k = (K - h - (k + 1)) + 1 by omega, PLf_cons] at e
    rw [PLf_snoc, PLf_congr (us := us) (js := js) (fun t ht => by simp only [Nat.zero_add]; rw [if_neg (by omega), if_neg (by omega)]; exact ⟨rfl, rfl⟩)]
    simp only [Nat.zero_add, if_true]
    rw [List.append_assoc]
    refine List.Perm.trans (List.Perm.append_left _ ?_) e
    rw [List.singleton_append]
    exact List.perm_middle.symm
  · show (if s = n then kb k else js s) ≤ if t = n then kb k else js t
    rw [if_neg (by omega)]
    by_cases e : t = n
    · rw [if_pos e]; exact H.lb s k (by omega) (Nat.le_refl _) hk
    · rw [if_neg e]; exact H.ord s t hs (by omega)
  · show (if s = n then kb k else js s) ≤ ka t
    by_cases e : s = n
    · rw [if_pos e]; exact ha t h1 h2
    · rw [if_neg e]; exact H.la s t (by omega) h1 h2
  · show (if s = n then kb k else js s) ≤ kb t
    by_cases e : s = n
    · rw [if_pos e]; exact ob k t (by omega) h2
    · rw [if_neg e]; exact H.lb s t (by omega) (by omega) h2
end Go.Proofs.Ytabkomelnhnoiaa

/- Words in order: the reference's Sort (printed by make/ki17.py). -/
namespace Go.Proofs.Ytabkomelnhnoiaa
open Go.RowKit Go.Sort

end Go.Proofs.Ytabkomelnhnoiaa
