/- Texts of ours, one behind the other: KP3 KP4. -/
import Derived.Test.YtaliaikahohemaaDoorZKP2
import Derived.Test.YtaliaikahohemaaDoorZV7
/- A line of a text: its words (strings.Split), its numbers (package code: readLine). -/
namespace Go.Proofs.YtaliaikahohemaaDoor
open Go.RowKit

/-- How many pieces a text has, cut at a sign; each of them. -/
def pcN (c : UInt8) (s : ByteArray) : Nat := (spl c s.data.toList).length
def pcS (c : UInt8) (s : ByteArray) (k : Nat) : ByteArray := ⟨((spl c s.data.toList).getD k []).toArray⟩
/-- Block g has these texts from its beginning on. -/
def SR (g m : Nat) (S : Nat → ByteArray) (w : World) : Prop := ∀ k, k < m → w.cell? ⟨g, k, none⟩ = some (.string (S k))
theorem SR.lt {g m : Nat} {S : Nat → ByteArray} {w : World} (h : SR g m S w) (hm : 0 < m) : g < w.heap.size := World.block_lt_of_cell? _ _ (h 0 hm)
theorem SR.kept {B g m : Nat} {S : Nat → ByteArray} {w w' : World} (h : SR g m S w) (hb : Below B w w') (hg : g < B) : SR g m S w' := fun k hk => (hb.cell (p := ⟨g, k, none⟩) hg).trans (h k hk)
theorem pcN_pos (c : UInt8) (s : ByteArray) : 0 < pcN c s := by
  obtain ⟨p, ps, e⟩ := spl_cons c s.data.toList
  unfold pcN
  rw [e]; simp
theorem spl_len (c : UInt8) : ∀ s, (spl c s).length ≤ s.length + 1
  | [] => Nat.le_refl _
  | x :: xs => by
    have ih := spl_len c xs
    obtain ⟨p, ps, e⟩ := spl_cons c xs
    by_cases h : x = c
    · subst h
      rw [spl_at, List.length_cons, List.length_cons]
      omega
    · rw [spl_on h e]
      rw [e, List.length_cons] at ih
      rw [List.length_cons, List.length_cons]
      omega
theorem pcN_le (c : UInt8) (s : ByteArray) : pcN c s ≤ s.size + 1 := by
  have := spl_len c s.data.toList
  rw [siz_len] at this
  exact this
theorem spl_piece (c : UInt8) : ∀ s k, ((spl c s).getD k []).length ≤ s.length
  | [], k => by
    cases k with
    | zero => exact Nat.le_refl _
    | succ k => exact Nat.le_refl _
  | x :: xs, k => by
    obtain ⟨p, ps, e⟩ := spl_cons c xs
    have ih := spl_piece c xs
    rw [e] at ih
    by_cases h : x = c
    · subst h
      rw [spl_at, e]
      cases k with
      | zero => exact Nat.zero_le _
      | succ k => exact Nat.le_trans (ih k) (Nat.le_succ _)
    · rw [spl_on h e]
      cases k with
      | zero => have := ih 0; simp at this ⊢; omega
      | succ k => exact Nat.le_trans (ih (k + 1)) (Nat.le_succ _)
theorem pcS_le (c : UInt8) (s : ByteArray) (k : Nat) : (pcS c s k).size ≤ s.size := by
  have := spl_piece c s.data.toList k
  rw [siz_len] at this
  show ((spl c s.data.toList).getD k []).toArray.size ≤ _
  rw [List.size_toArray]; exact this
theorem splitB_spl (c : UInt8) (s : ByteArray) : Lib.splitB ⟨#[c]⟩ 0 (Lib.countB s ⟨#[c]⟩) s = (spl c s.data.toList).map fun l => ⟨l.toArray⟩ := by
  have h := Lib.splitB_data ⟨#[c]⟩ 0 (Lib.countB s ⟨#[c]⟩) s
  have hc : Lib.countB s ⟨#[c]⟩ = s.data.toList.count c := Lib.count_one c _
  rw [hc] at h ⊢
  have h2 : Lib.splitK [c] 0 (s.data.toList.count c) s.data.toList = spl c s.data.toList := splitK_spl c _ _ (Nat.le_refl _)
  have h3 : ((Lib.splitB ⟨#[c]⟩ 0 (s.data.toList.count c) s).map (·.data.toList)) = spl c s.data.toList := h.trans h2
  rw [← h3, List.map_map]
  conv => lhs; rw [← List.map_id (Lib.splitB ⟨#[c]⟩ 0 (s.data.toList.count c) s)]
  apply List.map_congr_left
  intro b _
  cases b with | mk d => simp
/-- strings.Split at one sign. -/
theorem split_any (c : UInt8) (s : ByteArray) (m : Int) (w : World) (hs : s.size ≤ 5000) (hm : w.cell? ⟨mxl, 0, none⟩ = some (.int .i64 m)) :
    Calls Tryd.prog 7 #[.string s, .string ⟨#[c]⟩] w fun e w' => e = .returned (.slice (some ⟨w.heap.size, 0, none⟩) (pcN c s) (pcN c s)) ∧ SR w.heap.size (pcN c s) (pcS c s) w' ∧ Below w.heap.size w w' ∧ w'.heap.size = w.heap.size + 1 := by
  refine (splitS s ⟨#[c]⟩ m w (by omega) hm (Nat.le_refl 1)).mono ?_
  rintro e w' ⟨rfl, rfl⟩
  have hl : Lib.countB s ⟨#[c]⟩ + 1 = pcN c s := by
    rw [← Lib.splitB_all ⟨#[c]⟩ (Nat.le_refl 1) 0 _ s rfl, splitB_spl, List.length_map]; rfl
  rw [hl, splitB_spl]
  refine ⟨rfl, fun k hk => ?_, below_grown (World.grownBy_alloc w _ none) (Nat.le_refl _) (fun k hk => by cases hk), by simp⟩
  have hnew : ∀ o : Obj, (w.alloc o).heap[w.heap.size]? = some o := fun o => by
    show (w.heap.push o)[w.heap.size]? = some o
    rw [Array.getElem?_push_size]
  rw [cell_of_row _ w.heap.size k _ 9 (0, 0) (hnew _)]
  unfold pcN at hk
  unfold pcS
  rw [List.getElem?_toArray, List.getElem?_map, List.getElem?_map, List.getElem?_eq_getElem hk, List.getD_eq_getElem?_getD, List.getElem?_eq_getElem hk]
  rfl
/-- A line's first error; its numbers. -/
def lne (s : ByteArray) : Int := fer (fun k => (rnb (pcS 32 s k)).1) (pcN 32 s)
def lnz (s : ByteArray) (k : Nat) : Int := ((rnb (pcS 32 s k)).2 : Nat)
/-- What reading a line tells. -/
def RlP (s : ByteArray) (w : World) (e : Ending) (w' : World) : Prop :=
  (lne s ≠ 0 ∧ e = .returned (.tuple #[.slice none 0 0, .int .i64 (lne s)])) ∨ (lne s = 0 ∧ ∃ v, e = .returned (.tuple #[v, .int .i64 0]) ∧ OwnI w.heap.size v (zl (pcN 32 s) (lnz s)) w')
theorem readNumber_at {s : ByteArray} {w : World} {e0 : Int} {y : Nat} (hs : s.size ≤ 1000000) (h : rnb s = (e0, y)) :
    Calls Tryd.prog 18 #[.string s] w fun e w' => e = .returned (.tuple #[.int .i64 (y : Nat), .int .i64 e0]) ∧ Below w.heap.size w w' := by
  have := readNumber_any s w hs
  rw [h] at this
  exact this
theorem split_at {c : UInt8} {s : ByteArray} {m : Int} {w : World} {n : Nat} {S : Nat → ByteArray} (hs : s.size ≤ 5000) (hm : w.cell? ⟨mxl, 0, none⟩ = some (.int .i64 m)) (hn : n = pcN c s) (hS : S = pcS c s) :
    Calls Tryd.prog 7 #[.string s, .string ⟨#[c]⟩] w fun e w' => e = .returned (.slice (some ⟨w.heap.size, 0, none⟩) n n) ∧ SR w.heap.size n S w' ∧ Below w.heap.size w w' ∧ w'.heap.size = w.heap.size + 1 := by
  rw [hn, hS]; exact split_any c s m w hs hm

set_option maxHeartbeats 4000000 in
set_option maxRecDepth 100000 in
theorem readLine_any (s : ByteArray) (m : Int) (w : World) (hs : s.size ≤ 5000) (hm : w.cell? ⟨mxl, 0, none⟩ = some (.int .i64 m)) :
    Calls Tryd.prog 9 #[.string s] w fun e w' => RlP s w e w' ∧ Below w.heap.size w w' := by
  have HM : Hid (w.cell? ⟨mxl, 0, none⟩ = some (.int .i64 m)) := hm
  clear hm
  obtain ⟨n, hn⟩ : ∃ n, n = pcN 32 s := ⟨_, rfl⟩
  have HP : Hid (n = pcN 32 s ∧ 0 < n) := ⟨hn, by rw [hn]; exact pcN_pos _ _⟩
  have hn1 : n ≤ 5001 := by have := pcN_le 32 s; omega
  obtain ⟨S, hS⟩ : ∃ S, S = pcS 32 s := ⟨_, rfl⟩
  have HS : Hid (S = pcS 32 s) := hS
  clear hn hS
  go_enter Tryd.func9, Tryd.ntmps9
  go_wp2_with (go_at_call 7; refine (split_at hs HM.out HP.out.1 HS.out).mono ?_; rintro e w1 ⟨rfl, hsr, hb1, hsz⟩)
  obtain ⟨g, hg⟩ : ∃ g, g = w.heap.size := ⟨_, rfl⟩
  rw [← hg] at hsr hsz
  try rw [← hg]
  have H1 : Hid (SR g n S w1 ∧ Below w.heap.size w w1 ∧ w1.heap.size = g + 1 ∧ g = w.heap.size) := ⟨hsr, hb1, hsz, hg⟩
  clear hsr hb1 hsz hg
  go_loopw [4, 12] (fun v vi wr => ∃ (t : Nat), t ≤ n ∧ vi = .int .i64 (t : Nat) ∧ Hid (OwnI (g + 1) v (zl t (lnz s)) wr ∧ SR g n S wr ∧ Below (g + 1) w1 wr ∧ fer (fun k => (rnb (S k)).1) t = 0)) (fun _ vi _ => n - (intOf vi).toNat)
  case atStart => exact ⟨0, by omega, rfl, OwnI.nil _ _, H1.out.1, Below.refl _ _, rfl⟩
  case round =>
    obtain ⟨t, ht, rfl, HG⟩ := hrel
    rename World => wr
    by_cases hlt : t < n
    · have hib : (t : Int) < (n : Int) := by omega
      have hib0 : (0 : Int) ≤ (t : Int) := by omega
      have hcell := HG.out.2.1 t hlt
      obtain ⟨x, hx⟩ : ∃ x, x = S t := ⟨_, rfl⟩
      rw [← hx] at hcell
      have hxs : x.size ≤ 1000000 := by rw [hx, HS.out]; have := pcS_le 32 s t; omega
      have HX0 : Hid (x = S t) := hx
      clear hx
      obtain ⟨e0, y, HR⟩ : ∃ e0 y, Hid (rnb x = (e0, y)) := ⟨_, _, rfl⟩
      have HX : Hid (e0 = (rnb (S t)).1 ∧ (y : Int) = lnz s t) := by
        have h := HR.out
        rw [HX0.out] at h
        refine ⟨by rw [h], ?_⟩
        unfold lnz
        rw [← HS.out, h]
      by_cases h0 : e0 = 0
      · have i0 : (e0 != 0) = false := by rw [h0]; rfl
        have HF : Hid (fer (fun k => (rnb (S k)).1) (t + 1) = 0) := by
          show fer _ _ = _
          rw [fer_next HG.out.2.2.2, ← HX.out.1]; exact h0
        have hbs := HG.out.2.2.1.size
        have hsz1 := H1.out.2.2.1
        clear h0
        go_wp2_with first
          | (go_at_call 18; refine (readNumber_at hxs HR.out).mono ?_; rintro e w2 ⟨rfl, hb2⟩; have hs2 := hb2.size; have ho2 := HG.out.1.below hb2 (fun k hk => (HG.out.1.lt k hk).2))
          | (at_builtin; refine append_int rfl _ _ rfl (g + 1) _ (zl t (lnz s)) rfl (ho2.alloc _) ⟨_, 0, none⟩ 1 (y : Int) rfl (by simp) (by rw [zl_len]; omega) (by simp; omega) ?_; intro v3 w3 hown3 hgrow3)
        have HY : Hid (OwnI (g + 1) v3 (zl (t + 1) (lnz s)) w3 ∧ SR g n S w3 ∧ Below (g + 1) w1 w3 ∧ fer (fun k => (rnb (S k)).1) (t + 1) = 0) := by
          have hb3 : Below (g + 1) wr w3 := ((hb2.mono (by omega)).alloc (by omega) _).grown hgrow3 (by simp; omega) (fun k hk => (HG.out.1.lt k hk).1)
          refine ⟨?_, HG.out.2.1.kept hb3 (by omega), HG.out.2.2.1.trans hb3, HF.out⟩
          rw [zl_succ, ← HX.out.2]; exact hown3
        clear hown3 hgrow3 hb2 hs2 ho2 hbs hsz1
        go_roundw
        case rel => exact ⟨t + 1, by omega, by go_num, HY.out⟩
        case measure => simp [intOf]; omega
      · have i0 : (e0 != 0) = true := by rw [bne_iff_ne]; exact h0
        have HF : Hid (lne s = e0 ∧ e0 ≠ 0) := by
          refine ⟨?_, h0⟩
          have h1 : fer (fun k => (rnb (S k)).1) (t + 1) = e0 := by rw [fer_next HG.out.2.2.2, ← HX.out.1]
          unfold lne
          rw [← HS.out, ← HP.out.1, fer_stay (i := t + 1) (by rw [h1]; exact h0) n (by omega), h1]
        have hbs := HG.out.2.2.1.size
        have hsz1 := H1.out.2.2.1
        clear h0
        go_wp2_with (go_at_call 18; refine (readNumber_at hxs HR.out).mono ?_; rintro e w2 ⟨rfl, hb2⟩)
        go_ret2
        refine ⟨Or.inl ⟨by rw [HF.out.1]; exact HF.out.2, by rw [HF.out.1]; rfl⟩, ?_⟩
        have h4 := H1.out.2.2.2
        exact H1.out.2.1.trans ((HG.out.2.2.1.trans (hb2.mono (by omega))).mono (by omega))
    · have hib : ¬ (t : Int) < (n : Int) := by omega
      have hte : t = n := by omega
      have h4 := H1.out.2.2.2
      have HD : Hid (lne s = 0 ∧ OwnI w.heap.size u4 (zl (pcN 32 s) (lnz s)) wr) := by
        refine ⟨?_, ?_⟩
        · unfold lne
          rw [← HS.out, ← HP.out.1, ← hte]; exact HG.out.2.2.2
        · rw [← HP.out.1, ← hte]; exact HG.out.1.mono (by omega)
      clear hte
      go_wp2
      go_ret2
      exact ⟨Or.inr ⟨HD.out.1, _, rfl, HD.out.2⟩, H1.out.2.1.trans (HG.out.2.2.1.mono (by omega))⟩
end Go.Proofs.YtaliaikahohemaaDoor

/- The reference's pieces and lines of a text (Cut, Lines). -/
namespace Go.Proofs.YtaliaikahohemaaDoor
open Go.RowKit

theorem Tryd.infoStr : (Tryd.prog.info? 9).map (fun i => (i.zero, i.size, i.bytes)) = some (some (.string ByteArray.empty), 1, 16) := by kernel_rfl
/-- The slice v of texts, made behind block number base, holds the texts l. -/
def OwnS (base : Nat) (v : Value) (l : List ByteArray) (w : World) : Prop := w.ownsRow base 9 1 v l.length (l.map Value.string)
theorem OwnS.nil (base : Nat) (w : World) : OwnS base (.slice none 0 0) [] w := World.ownsRow_nil _ _ _ _
theorem OwnS.alloc {base : Nat} {v : Value} {l : List ByteArray} {w : World} (h : OwnS base v l w) (o : Obj) : OwnS base v l (w.alloc o) := World.ownsRow.alloc h o
theorem OwnS.lt {base : Nat} {v : Value} {l : List ByteArray} {w : World} (h : OwnS base v l w) : ∀ k, v.ownBlock = some k → base ≤ k ∧ k < w.heap.size := World.ownsRow.lt h
theorem OwnS.at {base : Nat} {v : Value} {l : List ByteArray} {w : World} (h : OwnS base v l w) (hl : l ≠ []) : ∃ g cap, v = .slice (some ⟨g, 0, none⟩) l.length cap ∧ base ≤ g ∧ g < w.heap.size ∧ l.length ≤ cap ∧
    (∀ j, j < l.length → w.cell? ⟨g, j, none⟩ = some (.string (l.getD j ByteArray.empty))) := by
  have h' := h
  rcases h'.2 with ⟨_, h2⟩ | ⟨g, cap, cur, hv, hg, hh, hle, r⟩
  · exact absurd (List.length_eq_zero_iff.1 h2) hl
  · have h3 : w.ownsRow base 9 1 (.slice (some ⟨g, 0, none⟩) l.length cap) l.length (l.map Value.string) := hv ▸ h
    refine ⟨g, cap, hv, hg, lt_of_block hh, hle, fun j hj => ?_⟩
    rw [h3.cellAt j (by omega), List.getElem?_map, List.getElem?_eq_getElem hj, List.getD_eq_getElem?_getD, List.getElem?_eq_getElem hj]; rfl
/-- 'l = append(l, y)', l texts of the call's own. -/
theorem append_str {ops : Array Oper} {rest : List Oper} {o : Oper} {a : Act} {w : World} {Q : Exit → Act → World → Prop} (hgd : o.guard = none) (s x : Operand)
    (ho : o.op = .call { callee := .builtin .append, args := #[s, x], argTypes := #[30, 30] })
    (base : Nat) (v : Value) (l : List ByteArray) (hs : a.eval s = v) (hown : OwnS base v l w) (ad : Addr) (c : Nat) (y : ByteArray) (hx : a.eval x = .slice (some ad) 1 c) (hcell : w.cell? ad = some (.string y))
    (hlen : l.length ≤ 1000000) (hbase : base ≤ w.heap.size)
    (h : ∀ v' w', OwnS base v' (l ++ [y]) w' → w.grownBy w' v.ownBlock → wpList Tryd.prog ops Q rest (a.put o.dst v') w') : wpList Tryd.prog ops Q (o :: rest) a w := by
  obtain ⟨i0, hi, hz0, hz1, hz2⟩ := info_parts Tryd.infoStr
  refine wpList_append_own _ hgd s x 30 ho base 9 i0 (.string ByteArray.empty) 1 16 Tryd.underlying30 hi hz0 hz1 hz2 rfl (by decide) v l.length _ hs hown ad 1 c [.string y] hx rfl ?_ ?_ ?_ ?_ hbase ?_
  · intro j u hj
    match j, hj with
    | 0, hj =>
      simp at hj; subst hj
      have : ad.add 0 = ad := by cases ad with | mk b o s => cases s <;> simp [Addr.add]
      rw [this]; exact hcell
  · intro u hu; simp at hu; subst hu; rfl
  · unfold maxLen; omega
  · omega
  · intro v' w' hown' hgrow _
    refine h v' w' ?_ hgrow
    unfold OwnS
    rw [List.map_append, List.length_append]
    exact hown'
/-- Bytes as texts. -/
def tob (l : List UInt8) : ByteArray := ⟨l.toArray⟩
/-- The pieces so far, and where the last one begins. -/
structure CtI (c : UInt8) (s : ByteArray) (i f : Nat) (L : List (List UInt8)) : Prop where
  fi : f ≤ i
  eq : spl c (s.data.toList.take i) = L ++ [(s.data.toList.take i).drop f]
theorem CtI.start (c : UInt8) (s : ByteArray) : CtI c s 0 0 [] := ⟨Nat.le_refl _, rfl⟩
theorem CtI.hit {c : UInt8} {s : ByteArray} {i f : Nat} {L : List (List UInt8)} (h : CtI c s i f L) (hi : i < s.size) (hb : s.data.toList.getD i 0 = c) : CtI c s (i + 1) (i + 1) (L ++ [(s.data.toList.take i).drop f]) := by
  have h' : i < s.data.toList.length := by rw [siz_len]; exact hi
  refine ⟨Nat.le_refl _, ?_⟩
  have e : s.data.toList.take (i + 1) = s.data.toList.take i ++ [s.data.toList.getD i 0] := by
    rw [List.take_succ_eq_append_getElem h', List.getD_eq_getElem?_getD, List.getElem?_eq_getElem h']; rfl
  have h1 : (s.data.toList.take (i + 1)).drop (i + 1) = [] := by
    rw [List.drop_eq_nil_iff, List.length_take]; omega
  rw [h1, e, spl_snoc _ h.eq, if_pos hb]
theorem CtI.miss {c : UInt8} {s : ByteArray} {i f : Nat} {L : List (List UInt8)} (h : CtI c s i f L) (hi : i < s.size) (hb : s.data.toList.getD i 0 ≠ c) : CtI c s (i + 1) f L := by
  have h' : i < s.data.toList.length := by rw [siz_len]; exact hi
  refine ⟨Nat.le_succ_of_le h.fi, ?_⟩
  have e : s.data.toList.take (i + 1) = s.data.toList.take i ++ [s.data.toList.getD i 0] := by
    rw [List.take_succ_eq_append_getElem h', List.getD_eq_getElem?_getD, List.getElem?_eq_getElem h']; rfl
  rw [e, spl_snoc _ h.eq, if_neg hb, List.drop_append_of_le_length (by rw [List.length_take]; have := h.fi; omega)]
theorem CtI.stop {c : UInt8} {s : ByteArray} {f : Nat} {L : List (List UInt8)} (h : CtI c s s.size f L) : spl c s.data.toList = L ++ [s.data.toList.drop f] := by
  have := h.eq
  rwa [List.take_of_length_le (by rw [siz_len]; exact Nat.le_refl _)] at this
theorem ext_tob {s : ByteArray} {f i : Nat} : s.extract f i = tob ((s.data.toList.take i).drop f) := by
  unfold tob
  apply ByteArray.ext
  apply Array.toList_inj.1
  simp [ByteArray.data_extract, List.drop_take, Array.toList_extract, List.extract_eq_take_drop]
/-- The pieces as texts. -/
def pcL (c : UInt8) (s : ByteArray) : List ByteArray := (spl c s.data.toList).map tob
theorem pcL_len (c : UInt8) (s : ByteArray) : (pcL c s).length = pcN c s := List.length_map _
theorem pcL_at (c : UInt8) (s : ByteArray) (k : Nat) (hk : k < pcN c s) : (pcL c s).getD k ByteArray.empty = pcS c s k := by
  unfold pcL pcS
  unfold pcN at hk
  rw [List.getD_eq_getElem?_getD, List.getElem?_map, List.getElem?_eq_getElem hk, List.getD_eq_getElem?_getD, List.getElem?_eq_getElem hk]
  rfl

set_option maxHeartbeats 4000000 in
set_option maxRecDepth 100000 in
theorem cut_any (c : UInt8) (s : ByteArray) (w : World) (hs : s.size ≤ 5000) :
    Calls Tryd.prog 12 #[.string s, .int .u8 (c.toNat : Nat)] w fun e w' => (∃ g cap, e = .returned (.slice (some ⟨g, 0, none⟩) (pcN c s) cap) ∧ pcN c s ≤ cap ∧ w.heap.size ≤ g ∧ SR g (pcN c s) (pcS c s) w') ∧ Below w.heap.size w w' := by
  obtain ⟨ci, hci⟩ : ∃ ci : Nat, ci = c.toNat := ⟨_, rfl⟩
  rw [← hci]
  have HC : Hid (ci = c.toNat) := hci
  clear hci
  go_enter Tryd.func12, Tryd.ntmps12
  go_wp2
  go_loopw [5, 6, 7] (fun v vf vi wr => ∃ (i f : Nat) (L : List (List UInt8)), i ≤ s.size ∧ f ≤ i ∧ vf = .int .i64 (f : Nat) ∧ vi = .int .i64 (i : Nat) ∧ Hid (CtI c s i f L ∧ OwnS w.heap.size v (L.map tob) wr ∧ Below w.heap.size w wr)) (fun _ _ vi _ => s.size - (intOf vi).toNat)
  case atStart => exact ⟨0, 0, [], by omega, by omega, rfl, rfl, CtI.start c s, OwnS.nil _ _, Below.refl _ _⟩
  case round =>
    obtain ⟨i, f, L, hi, hf, rfl, rfl, HG⟩ := hrel
    rename World => wr
    have HL : Hid ((L.map tob).length ≤ 5000) := by
      have h1 := spl_len c (s.data.toList.take i)
      rw [HG.out.1.eq, List.length_append, List.length_take, siz_len] at h1
      show (L.map tob).length ≤ 5000
      rw [List.length_map]
      simp at h1
      omega
    have hsz := HG.out.2.2.size
    by_cases hlt : i < s.size
    · have hib : (i : Int) < (s.size : Int) := by omega
      have hib0 : (0 : Int) ≤ (i : Int) := by omega
      have hbt := bts_at s i hlt
      have hb2 : bts s i = (s.data.toList.getD i 0).toNat := rfl
      by_cases he : s.data.toList.getD i 0 = c
      · have i1 : (((s[i]'hlt).toNat : Int) == (ci : Int)) = true := by rw [beq_iff_eq, HC.out, hbt, hb2, he]
        have HH : Hid (CtI c s (i + 1) (i + 1) (L ++ [(s.data.toList.take i).drop f])) := HG.out.1.hit hlt he
        have hfi : (f : Int) ≤ (i : Int) := by omega
        have hf0 : (0 : Int) ≤ (f : Int) := by omega
        have his : (i : Int) ≤ (s.size : Int) := by omega
        clear hbt hb2 he
        go_wp2_with (at_builtin; refine append_str rfl _ _ rfl w.heap.size _ (L.map tob) rfl (HG.out.2.1.alloc _) ⟨_, 0, none⟩ 1 (s.extract f i) rfl (by simp) (by have := HL.out; omega) (by simp; omega) ?_; intro v3 w3 hown3 hgrow3)
        have HY : Hid (OwnS w.heap.size v3 ((L ++ [(s.data.toList.take i).drop f]).map tob) w3 ∧ Below w.heap.size w w3) := by
          refine ⟨?_, (HG.out.2.2.alloc hsz _).grown hgrow3 (by simp; omega) (fun k hk => (HG.out.2.1.lt k hk).1)⟩
          rw [List.map_append]
          show OwnS _ _ (L.map tob ++ [tob ((s.data.toList.take i).drop f)]) _
          rw [← ext_tob]
          exact hown3
        clear hown3 hgrow3
        go_roundw
        case rel => exact ⟨i + 1, i + 1, _, by omega, by omega, by go_num, by go_num, HH.out, HY.out⟩
        case measure => simp [intOf]; omega
      · have i1 : (((s[i]'hlt).toNat : Int) == (ci : Int)) = false := by
          rw [beq_eq_false_iff_ne, HC.out, hbt, hb2]
          intro e
          exact he (UInt8.toNat_inj.1 (by omega))
        have HH : Hid (CtI c s (i + 1) f L) := HG.out.1.miss hlt he
        clear hbt hb2 he
        go_wp2
        go_roundw
        case rel => exact ⟨i + 1, f, L, by omega, by omega, rfl, by go_num, HH.out, HG.out.2⟩
        case measure => simp [intOf]; omega
    · have hib : ¬ (i : Int) < (s.size : Int) := by omega
      have HE : Hid (spl c s.data.toList = L ++ [s.data.toList.drop f]) := by
        have h := HG.out.1
        rw [show i = s.size by omega] at h
        exact h.stop
      have hfi : (f : Int) ≤ (s.size : Int) := by omega
      have hf0 : (0 : Int) ≤ (f : Int) := by omega
      go_wp2_with (at_builtin; refine append_str rfl _ _ rfl w.heap.size _ (L.map tob) rfl (HG.out.2.1.alloc _) ⟨_, 0, none⟩ 1 (s.extract f s.size) rfl (by simp) (by have := HL.out; omega) (by simp; omega) ?_; intro v3 w3 hown3 hgrow3)
      have HY : Hid (OwnS w.heap.size v3 (pcL c s) w3 ∧ Below w.heap.size w w3) := by
        refine ⟨?_, (HG.out.2.2.alloc hsz _).grown hgrow3 (by simp; omega) (fun k hk => (HG.out.2.1.lt k hk).1)⟩
        unfold pcL
        rw [HE.out, List.map_append]
        show OwnS _ _ (L.map tob ++ [tob (s.data.toList.drop f)]) _
        have h2 := ext_tob (s := s) (f := f) (i := s.size)
        rw [List.take_of_length_le (by rw [siz_len]; exact Nat.le_refl _)] at h2
        rw [← h2]
        exact hown3
      clear hown3 hgrow3
      have hne : pcL c s ≠ [] := by
        intro e
        have := pcN_pos c s
        rw [← pcL_len, e] at this
        exact absurd this (by simp)
      obtain ⟨g3, cap3, hv3, hg3, hl3, hc3, hce⟩ := HY.out.1.at hne
      have HZ : Hid (v3 = .slice (some ⟨g3, 0, none⟩) (pcN c s) cap3 ∧ pcN c s ≤ cap3 ∧ w.heap.size ≤ g3 ∧ SR g3 (pcN c s) (pcS c s) w3) := by
        rw [pcL_len] at hv3 hc3 hce
        exact ⟨hv3, hc3, hg3, fun k hk => by rw [hce k hk, pcL_at c s k hk]⟩
      clear hne hv3 hg3 hl3 hc3 hce
      go_wp2
      go_ret
      exact ⟨⟨g3, cap3, congrArg Ending.returned HZ.out.1, HZ.out.2⟩, HY.out.2⟩
end Go.Proofs.YtaliaikahohemaaDoor
