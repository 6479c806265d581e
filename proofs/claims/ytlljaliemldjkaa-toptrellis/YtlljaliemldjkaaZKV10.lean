/- Trellises: maps by states, whatever they hold. -/
import Derived.Test.YtlljaliemldjkaaZKV9
import Derived.Maps.OwnOps
import Derived.Maps.OwnSet
import Derived.Maps.RangeWalk
namespace Go.Proofs.Ytlljaliemldjkaa
open Go.RowKit Go.Maps

/-- Elements of a map, read as themselves. -/
def hlR (v : Value) : Option (DataW Value × List MemPlace) := some (.held v, [])
theorem tv_int : Try.prog.underlying 3 = some (.int .i64) := by kernel_rfl
theorem tv_law : Keyed Try.prog 3 := int_keyed tv_int
theorem tv_wf {k : Nat} (h : k ≤ 1000000) : (Lit.int .i64 (k : Nat)).wf = true := by
  have h1 : IntKind.i64.min = -9223372036854775808 := by decide +kernel
  have h2 : IntKind.i64.max = 9223372036854775807 := by decide +kernel
  simp only [Lit.wf, h1, h2, Bool.and_eq_true, decide_eq_true_eq]
  omega
theorem tv_key {k : Nat} (h : k ≤ 1000000) : keyOf Try.prog 3 (.int .i64 (k : Nat)) = some (.int .i64 (k : Nat)) := keyOf_int_mk tv_int (tv_wf h)
theorem tv_lit (x : Int) : WideAt.IsKeyLit (.int .i64 x) := by first | trivial | (unfold WideAt.IsKeyLit; trivial) | exact Or.inl ⟨_, _, rfl⟩ | simp [WideAt.IsKeyLit]
/-- What a map holds by its keys. -/
structure MpD {α : Type} (enc : α → Value) (D : DataW Value) (F : Nat → Option α) : Prop where
  im : IsMap D
  at' : ∀ k a, F k = some a → ∀ z, D.atKey (.int .i64 (k : Nat)) z = .held (enc a)
  no : ∀ k, F k = none → ∀ z, D.atKey (.int .i64 (k : Nat)) z = z
  has : ∀ x : Int, Maps.has D (.int .i64 x) = true ↔ ∃ k, F k ≠ none ∧ x = ((k : Nat) : Int)
theorem MpD.nil {α : Type} (enc : α → Value) : MpD enc (.map []) (fun _ => none) := ⟨isMap_empty, fun k a h => (by cases h), fun _ _ _ => rfl, fun x => ⟨fun h => (by cases h), fun ⟨k, h, _⟩ => absurd rfl h⟩⟩
theorem MpD.put {α : Type} {enc : α → Value} {D : DataW Value} {F : Nat → Option α} (h : MpD enc D F) (k : Nat) (a : α) : MpD enc (D.put (.int .i64 (k : Nat)) (.held (enc a))) (fun j => if j = k then some a else F j) := by
  refine ⟨h.im.put _ _, fun j b hj z => ?_, fun j hj z => ?_, fun x => ?_⟩
  · by_cases e : j = k
    · subst e
      have hj2 : (if j = j then some a else F j) = some b := hj
      rw [if_pos rfl] at hj2
      cases hj2
      exact atKey_put_same h.im (tv_lit _) _ _
    · have hj2 : (if j = k then some a else F j) = some b := hj
      rw [if_neg e] at hj2
      rw [atKey_put_other (by intro c; cases c; exact e (by omega))]
      exact h.at' j b hj2 z
  · by_cases e : j = k
    · have hj2 : (if j = k then some a else F j) = none := hj
      rw [if_pos e] at hj2; cases hj2
    · have hj2 : (if j = k then some a else F j) = none := hj
      rw [if_neg e] at hj2
      rw [atKey_put_other (by intro c; cases c; exact e (by omega))]
      exact h.no j hj2 z
  · by_cases e : x = ((k : Nat) : Int)
    · subst e
      exact ⟨fun _ => ⟨k, (by show (if k = k then some a else F k) ≠ none; rw [if_pos rfl]; intro c; cases c), rfl⟩, fun _ => has_put_same h.im (tv_lit _) _⟩
    · rw [has_put_other (by intro c; cases c; exact e rfl), h.has x]
      constructor
      · rintro ⟨j, hj, rfl⟩
        exact ⟨j, by show (if j = k then some a else F j) ≠ none; rw [if_neg (fun c => e (by rw [c]))]; exact hj, rfl⟩
      · rintro ⟨j, hj, rfl⟩
        have hj2 : (if j = k then some a else F j) ≠ none := hj
        rw [if_neg (fun c => e (by rw [c]))] at hj2
        exact ⟨j, hj2, rfl⟩
theorem MpD.congr {α : Type} {enc : α → Value} {D : DataW Value} {F G : Nat → Option α} (h : MpD enc D F) (e : ∀ k, F k = G k) : MpD enc D G := by
  have : F = G := funext e
  rw [← this]; exact h
theorem MpD.has_some {α : Type} {enc : α → Value} {D : DataW Value} {F : Nat → Option α} (h : MpD enc D F) {k : Nat} {a : α} (e : F k = some a) : Maps.has D (.int .i64 (k : Nat)) = true := (h.has _).2 ⟨k, (by rw [e]; intro c; cases c), rfl⟩
theorem MpD.has_none {α : Type} {enc : α → Value} {D : DataW Value} {F : Nat → Option α} (h : MpD enc D F) {k : Nat} (e : F k = none) : Maps.has D (.int .i64 (k : Nat)) = false := by
  cases q : Maps.has D (.int .i64 (k : Nat))
  · rfl
  · obtain ⟨j, hj, ej⟩ := (h.has _).1 q
    have : j = k := by omega
    rw [this] at hj
    exact absurd e hj
/-- What is left of a range over such a map, where V have come up. -/
structure Lfs {α : Type} (F : Nat → Option α) (V : List Nat) (left : Lit → Bool) : Prop where
  vis : ∀ x : Int, left (.int .i64 x) = true ↔ ∃ k, F k ≠ none ∧ x = ((k : Nat) : Int) ∧ k ∉ V
  sub : ∀ k ∈ V, F k ≠ none
  nd : V.Nodup
theorem Lfs.start {α : Type} {enc : α → Value} {D : DataW Value} {F : Nat → Option α} (h : MpD enc D F) : Lfs F [] (Maps.has D) := ⟨fun x => by
  rw [h.has x]
  exact ⟨fun ⟨k, a, b⟩ => ⟨k, a, b, by simp⟩, fun ⟨k, a, b, _⟩ => ⟨k, a, b⟩⟩, fun k hk => (by cases hk), List.nodup_nil⟩
theorem i64_same (x y : Int) : (Lit.int .i64 x).sameKey (.int .i64 y) = true ↔ x = y := by
  first
    | simp [Lit.sameKey]
    | (unfold Lit.sameKey; simp)
theorem Lfs.step {α : Type} {F : Nat → Option α} {V : List Nat} {left : Lit → Bool} (h : Lfs F V left) {x : Int} (hx : left (.int .i64 x) = true) : ∃ k, F k ≠ none ∧ k ∉ V ∧ x = ((k : Nat) : Int) ∧ Lfs F (V ++ [k]) (fun z => left z && !z.sameKey (.int .i64 x)) := by
  obtain ⟨k, hk, e, hV⟩ := (h.vis x).1 hx
  refine ⟨k, hk, hV, e, fun y => ?_, fun j hj => ?_, ?_⟩
  · show (left (.int .i64 y) && !(Lit.int .i64 y).sameKey (.int .i64 x)) = true ↔ _
    rw [Bool.and_eq_true, h.vis y, Bool.not_eq_true', ← Bool.not_eq_true, i64_same]
    constructor
    · rintro ⟨⟨j, a, b, c⟩, d⟩
      refine ⟨j, a, b, fun hj => ?_⟩
      rcases List.mem_append.1 hj with q | q
      · exact c q
      · rw [List.mem_singleton.1 q] at b
        exact d (by rw [b, e])
    · rintro ⟨j, a, b, c⟩
      refine ⟨⟨j, a, b, fun q => c (List.mem_append.2 (Or.inl q))⟩, fun q => c (List.mem_append.2 (Or.inr (List.mem_singleton.2 ?_)))⟩
      omega
  · rcases List.mem_append.1 hj with q | q
    · exact h.sub j q
    · rw [List.mem_singleton.1 q]; exact hk
  · rw [List.nodup_append]
    refine ⟨h.nd, by simp, fun a ha b hb q => hV ?_⟩
    rw [List.mem_singleton.1 hb] at q
    rw [← q]; exact ha
theorem Lfs.done {α : Type} {F : Nat → Option α} {V : List Nat} {left : Lit → Bool} (h : Lfs F V left) (h0 : ∀ z, left z = false) : ∀ k, F k ≠ none → k ∈ V := fun k hk => by
  by_cases c : k ∈ V
  · exact c
  · have := (h.vis ((k : Nat) : Int)).2 ⟨k, hk, rfl, c⟩
    rw [h0] at this; cases this
/-- The range's step, where what the map holds is known. -/
theorem next_held {α : Type} {enc : α → Value} {ops : Array Oper} {rest : List Oper} {o : Oper} {a : Act} {Q : Exit → Act → World → Prop} {w : World} (hg : o.guard = none) (it : Operand) (hop : o.op = Op.next it false) (b r n : Nat) (D : DataW Value) (left : Lit → Bool) (cnt : Nat) (F : Nat → Option α) (V : List Nat)
    (hit : a.eval it = .pointer (some ⟨r, 0, none⟩)) (h : w.ranges Try.prog 3 hlR b r n D left cnt) (hD : MpD enc D F) (hL : Lfs F V left)
    (hDone : (∀ k, F k ≠ none → k ∈ V) → wpList Try.prog ops Q rest (a.put o.dst (.tuple #[.bool false])) w)
    (hMore : ∀ (s : Nat) (c : α) (w' : World) (cnt' : Nat) (left' : Lit → Bool), F s = some c → s ∉ V → w'.ranges Try.prog 3 hlR b r n D left' cnt' → Lfs F (V ++ [s]) left' → cnt' < cnt → w.grownBy w' (some r) → w'.heap.size = w.heap.size → (Instr.entry (.pointer (some ⟨r, 0, none⟩))).run Try.prog w' = .ok (.tuple #[.int .i64 (s : Nat), enc c]) w' → wpList Try.prog ops Q rest (a.put o.dst (.tuple #[.bool true, .int .i64 (s : Nat), enc c])) w') :
    wpList Try.prog ops Q (o :: rest) a w := by
  refine wpList_next_ranges w hg it hop 3 tv_law hlR (Value.int .i64) (fun v : Value => v) (fun key kl hkey => by obtain ⟨x, rfl, _⟩ := Maps.keyOf_int_inv tv_int hkey; exact ⟨x, rfl⟩) (fun v _ _ => ⟨v, rfl⟩) b r n D left cnt hit h (fun _ hl => hDone (hL.done hl)) ?_
  intro x c kl y w' cnt' hkey hlk hv hat hrg hlt hgr hsz hen
  obtain ⟨x', ex, rfl, hwx⟩ := Maps.keyOf_int_inv tv_int hkey
  cases ex
  obtain ⟨s, hs, hsV, e, hL'⟩ := hL.step hlk
  subst e
  obtain ⟨c0, hc0⟩ := Option.ne_none_iff_exists'.1 hs
  have e1 := hD.at' s c0 hc0 (.lit (.int .i64 0))
  have e2 : y = (.held c, []) := (Option.some.inj hv).symm
  rw [hat, e2] at e1
  have e3 : c = enc c0 := by cases e1; rfl
  rw [e3] at hen
  show wpList Try.prog ops Q rest (a.put o.dst (.tuple #[.bool true, .int .i64 (s : Nat), c])) w'
  rw [e3]
  exact hMore s c0 w' cnt' _ hc0 hsV hrg hL' hlt hgr hsz hen
/-- 'v, ok := m[k]', where it is there. -/
theorem look_hyes {α : Type} {enc : α → Value} {ops : Array Oper} {rest : List Oper} {o : Oper} {a : Act} {Q : Exit → Act → World → Prop} {w : World} (hg : o.guard = none) (m x : Operand) (t e : TypeId) (hop : o.op = Op.lookup t m x true) (ht : Try.prog.underlying t = some (.map 3 e)) {zv : Value} (hz : (zeroValue e).run Try.prog w = .ok zv w) (b n : Nat) (D : DataW Value) (F : Nat → Option α)
    (hm : a.eval m = .map (some b)) (hown : w.ownsMap Try.prog 3 hlR b n D) (hD : MpD enc D F) (k : Nat) (hk : k ≤ 1000000) (hx : a.eval x = .int .i64 (k : Nat)) (c : α) (hc : F k = some c)
    (hK : wpList Try.prog ops Q rest (a.put o.dst (.tuple #[enc c, .bool true])) w) : wpList Try.prog ops Q (o :: rest) a w := by
  refine wpList_lookup_own_ok w hg m x t hop 3 e tv_law ht hlR hz (.held zv) [] rfl b n D hm hown _ _ hx (tv_key hk) ?_
  intro v ps hv
  have e1 := hD.at' k c hc (.held zv)
  have e2 : (DataW.held v : DataW Value) = .held (enc c) := by
    have := (Option.some.inj hv)
    rw [← e1]; exact (Prod.mk.inj this).1
  have e3 : v = enc c := by cases e2; rfl
  rw [e3, hD.has_some hc]
  exact hK
theorem look_hno {α : Type} {enc : α → Value} {ops : Array Oper} {rest : List Oper} {o : Oper} {a : Act} {Q : Exit → Act → World → Prop} {w : World} (hg : o.guard = none) (m x : Operand) (t e : TypeId) (hop : o.op = Op.lookup t m x true) (ht : Try.prog.underlying t = some (.map 3 e)) {zv : Value} (hz : (zeroValue e).run Try.prog w = .ok zv w) (b n : Nat) (D : DataW Value) (F : Nat → Option α)
    (hm : a.eval m = .map (some b)) (hown : w.ownsMap Try.prog 3 hlR b n D) (hD : MpD enc D F) (k : Nat) (hk : k ≤ 1000000) (hx : a.eval x = .int .i64 (k : Nat)) (hc : F k = none)
    (hK : wpList Try.prog ops Q rest (a.put o.dst (.tuple #[zv, .bool false])) w) : wpList Try.prog ops Q (o :: rest) a w := by
  refine wpList_lookup_own_ok w hg m x t hop 3 e tv_law ht hlR hz (.held zv) [] rfl b n D hm hown _ _ hx (tv_key hk) ?_
  intro v ps hv
  have e1 := hD.no k hc (.held zv)
  have e2 : (DataW.held v : DataW Value) = .held zv := by
    have := (Option.some.inj hv)
    rw [← e1]; exact (Prod.mk.inj this).1
  have e3 : v = zv := by cases e2; rfl
  rw [e3, hD.has_none hc]
  exact hK
end Go.Proofs.Ytlljaliemldjkaa
