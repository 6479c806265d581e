/- The tables of package digits: Verhoeff's turns, Damm's square (layTurned, laySquare). -/
import Derived.Test.YtonjkpakbmbafaaZKK1
import Derived.StillTailTactics
namespace Go.Proofs.Ytonjkpakbmbafaa
open Go.RowKit

theorem heap_new (w : World) (o : Obj) : (w.alloc o).heap[w.heap.size]? = some o := by
  show (w.heap.push o)[w.heap.size]? = some o
  simp
/-- The row of one turn. -/
def vtR : Array Value := #[.int .i64 1, .int .i64 5, .int .i64 7, .int .i64 6, .int .i64 2, .int .i64 8, .int .i64 3, .int .i64 0, .int .i64 9, .int .i64 4]
theorem vtR_at : ∀ x, x < 10 → vtR[x]? = some (nvl (vtn x)) := by
  intro x hx
  rcases x with _ | _ | _ | _ | _ | _ | _ | _ | _ | _ | x
  all_goals first | rfl | omega
theorem row_vt (w : World) : RowF w.heap.size 10 91 (fun x => nvl (vtn x)) (w.alloc (.cells vtR 91)) := ⟨vtR, heap_new _ _, rfl, vtR_at⟩
/-- The turns' part of the tables. -/
structure TrnT (d t : Nat) (g : Nat → Value) : Prop where
  at' : ∀ x k, x < 10 → k < 8 → (x < d ∨ (x = d ∧ k < t)) → g (110 + k * 10 + x) = nvl (vtk k x)

set_option maxHeartbeats 4000000 in
set_option maxRecDepth 100000 in
theorem layTurned_any {T : Nat} {f : Nat → Value} {w : World} (hR : RowF T 290 95 f w) :
    Calls Try.prog 81 #[.pointer (some ⟨T, 0, none⟩)] w fun e w' => e = .returned (.tuple #[]) ∧ ∃ g, RowF T 290 95 g w' ∧ TrnT 10 0 g ∧ (∀ o, o < 110 ∨ 190 ≤ o → g o = f o) ∧ w.grownBy w' (some T) := by
  have HF : Hid (RowF T 290 95 f w) := hR
  clear hR
  go_enter Try.func81, Try.ntmps81
  go_wp2
  obtain ⟨w1, hw1⟩ : ∃ w1, w1 = w.alloc (.cells vtR 91) := ⟨_, rfl⟩
  obtain ⟨O, hO⟩ : ∃ O, O = w.heap.size := ⟨_, rfl⟩
  have H1 : Hid (RowF T 290 95 f w1 ∧ RowF O 10 91 (fun x => nvl (vtn x)) w1 ∧ w.grownBy w1 (some T) ∧ T < O) := by
    rw [hw1, hO]; exact ⟨HF.out.alloc _, row_vt w, grown_none (World.grownBy_alloc w _ none), HF.out.lt⟩
  unfold vtR at hw1
  rw [← hw1]
  try rw [← hO]
  clear hw1 hO
  go_loopw [7] (fun vi wr => ∃ (d : Nat) (g : Nat → Value), d ≤ 10 ∧ vi = .int .i64 (d : Nat) ∧ Hid (RowF T 290 95 g wr ∧ TrnT d 0 g ∧ (∀ o, o < 110 ∨ 190 ≤ o → g o = f o) ∧ w.grownBy wr (some T) ∧ RowF O 10 91 (fun x => nvl (vtn x)) wr)) (fun vi _ => 10 - (intOf vi).toNat)
  case atStart => exact ⟨0, f, by omega, rfl, H1.out.1, ⟨fun x k _ _ h => by omega⟩, fun _ _ => rfl, H1.out.2.2.1, H1.out.2.1⟩
  case round =>
    obtain ⟨d, g, hd, rfl, HG⟩ := hrel
    rename World => wr
    by_cases hlt : d < 10
    · have hib : (d : Int) < 10 := by omega
      have hib0 : (0 : Int) ≤ (d : Int) := by omega
      go_wp2
      go_loopw [4, 5] (fun vi vn wx => ∃ (t n : Nat) (g : Nat → Value), t ≤ 8 ∧ n < 10 ∧ vi = .int .i64 (t : Nat) ∧ vn = .int .i64 (n : Nat) ∧ Hid (n = vtk t d ∧ RowF T 290 95 g wx ∧ TrnT d t g ∧ (∀ o, o < 110 ∨ 190 ≤ o → g o = f o) ∧ w.grownBy wx (some T) ∧ RowF O 10 91 (fun x => nvl (vtn x)) wx)) (fun vi _ _ => 8 - (intOf vi).toNat)
      case atStart => exact ⟨0, d, g, by omega, hlt, rfl, rfl, rfl, HG.out⟩
      case round =>
        obtain ⟨t, n, g2, ht, hn, rfl, rfl, HJ⟩ := hrel
        rename World => wx
        by_cases hltb : t < 8
        · have hjb : (t : Int) < 8 := by omega
          have hjb0 : (0 : Int) ≤ (t : Int) := by omega
          have hnb : (n : Int) < 10 := by omega
          have hnb0 : (0 : Int) ≤ (n : Int) := by omega
          obtain ⟨n2, hn2⟩ : ∃ n2, n2 = vtn n := ⟨_, rfl⟩
          have hcell := HJ.out.2.1.cell (110 + t * 10 + d) (by omega)
          have hfree := HJ.out.2.1.free (110 + t * 10 + d)
          obtain ⟨ws, hws⟩ : ∃ ws, ws = wx.setCell ⟨T, 110 + t * 10 + d, none⟩ (.int .i64 (n : Nat)) := ⟨_, rfl⟩
          have HS : Hid (RowF T 290 95 (upd g2 (110 + t * 10 + d) (nvl n)) ws ∧ TrnT d (t + 1) (upd g2 (110 + t * 10 + d) (nvl n)) ∧ (∀ o, o < 110 ∨ 190 ≤ o → upd g2 (110 + t * 10 + d) (nvl n) o = f o) ∧ w.grownBy ws (some T) ∧ RowF O 10 91 (fun x => nvl (vtn x)) ws) := by
            rw [hws]
            refine ⟨HJ.out.2.1.store _ _, ⟨fun x k hx hk h => ?_⟩, fun o ho => ?_, grown_set HJ.out.2.2.2.2.1 _ _, HJ.out.2.2.2.2.2.setOther _ (by show O ≠ T; have := H1.out.2.2.2; omega) _⟩
            · by_cases e : x = d ∧ k = t
              · rw [e.1, e.2, upd_at, HJ.out.1]
              · rw [upd_ne _ _ _ (by omega)]; exact HJ.out.2.2.1.at' x k hx hk (by omega)
            · rw [upd_ne _ _ _ (by omega)]; exact HJ.out.2.2.2.1 o ho
          have HN : Hid (n2 = vtk (t + 1) d ∧ n2 < 10) := ⟨by rw [hn2, HJ.out.1]; rfl, by rw [hn2]; exact vtn_lt n hn⟩
          have hcn := HS.out.2.2.2.2.cell n hn
          rw [← hn2] at hcn
          replace hcn : ws.cell? ⟨O, n, none⟩ = some (.int .i64 (n2 : Nat)) := hcn
          rw [hws] at hcn
          clear hn2
          go_wp2
          try rw [← hws]
          clear hws hcell hfree hcn
          go_roundw
          case rel => exact ⟨t + 1, n2, _, by omega, HN.out.2, by go_num, rfl, HN.out.1, HS.out⟩
          case measure => simp [intOf]; omega
        · have hjb : ¬ (t : Int) < 8 := by omega
          have HT : Hid (TrnT (d + 1) 0 g2) := ⟨fun x k hx hk h => HJ.out.2.2.1.at' x k hx hk (by omega)⟩
          go_wp2
          go_roundw
          case rel => exact ⟨d + 1, g2, by omega, by go_num, HJ.out.2.1, HT.out, HJ.out.2.2.2⟩
          case measure => simp [intOf]; omega
    · have hib : ¬ (d : Int) < 10 := by omega
      have hae : d = 10 := by omega
      have HT : Hid (TrnT 10 0 g) := by rw [← hae]; exact HG.out.2.1
      clear hae
      go_wp2
      exact bodyPost_end (results_none rfl _ _ _) rfl ⟨rfl, g, HG.out.1, HT.out, HG.out.2.2.1, HG.out.2.2.2.1⟩

/-- Damm's rows as texts. -/
def dqA : Array ByteArray := #[⟨#[48, 51, 49, 55, 53, 57, 56, 54, 52, 50]⟩, ⟨#[55, 48, 57, 50, 49, 53, 52, 56, 54, 51]⟩, ⟨#[52, 50, 48, 54, 56, 55, 49, 51, 53, 57]⟩, ⟨#[49, 55, 53, 48, 57, 56, 51, 52, 50, 54]⟩, ⟨#[54, 49, 50, 51, 48, 52, 53, 57, 55, 56]⟩, ⟨#[51, 54, 55, 52, 50, 48, 57, 53, 56, 49]⟩, ⟨#[53, 56, 54, 57, 55, 50, 48, 49, 51, 52]⟩, ⟨#[56, 57, 52, 53, 51, 54, 50, 48, 49, 55]⟩, ⟨#[57, 52, 51, 56, 54, 49, 55, 50, 48, 53]⟩, ⟨#[50, 53, 56, 49, 52, 51, 54, 55, 57, 48]⟩]
def dqS (c : Nat) : ByteArray := dqA.getD c ByteArray.empty
def dqR : Array Value := #[.string (dqS 0), .string (dqS 1), .string (dqS 2), .string (dqS 3), .string (dqS 4), .string (dqS 5), .string (dqS 6), .string (dqS 7), .string (dqS 8), .string (dqS 9)]
theorem dqS_size : ∀ c, c < 10 → (dqS c).size = 10 := by decide +kernel
theorem dqS_get : ∀ c, c < 10 → ∀ b, b < 10 → ((dqS c).data.getD b 0).toNat = 48 + dsq c b := by decide +kernel
theorem dqS_at {c b : Nat} (hc : c < 10) (hb : b < 10) (h : b < (dqS c).size) : (((dqS c)[b]'h).toNat) = 48 + dsq c b := by
  rw [← dqS_get c hc b hb]
  show ((dqS c).data[b]'h).toNat = _
  have h' : b < (dqS c).data.size := h
  rw [Array.getD, dif_pos h']; rfl
theorem dqR_at {c : Nat} (hc : c < 10) : dqR[c]? = some (.string (dqS c)) := by
  rcases c with _ | _ | _ | _ | _ | _ | _ | _ | _ | _ | c
  all_goals first | rfl | omega
/-- The square's part of the tables. -/
structure SqrT (c b : Nat) (g : Nat → Value) : Prop where
  at' : ∀ i j, i < 10 → j < 10 → (i < c ∨ (i = c ∧ j < b)) → g (190 + i * 10 + j) = nvl (dsq i j)
theorem iter_put (w : World) (s : ByteArray) (p : Nat) (a : Addr) (v : Value) (h : a.block < w.heap.size) : (w.iter s p).setCell a v = (w.setCell a v).iter s p := by
  simp only [World.setCell, World.iter, World.alloc]
  congr 1
  apply Array.ext
  · simp
  · intro i h1 h2
    rw [Array.getElem_modify, Array.getElem_push, Array.getElem_push]
    by_cases e : i < w.heap.size
    · rw [dif_pos e, dif_pos (by simpa using e), Array.getElem_modify]
    · rw [dif_neg e, dif_neg (by simpa using e), if_neg (by omega)]
theorem iter_row {T n : Nat} {t : TypeId} {f : Nat → Value} {w : World} (h : RowF T n t f w) (s : ByteArray) (p : Nat) : RowF T n t f (w.iter s p) := h.alloc _
theorem u8_ten : ∀ y : Nat, y < 10 → IntKind.u8.wrap (y : Int) = (y : Int) := by decide +kernel
theorem und_rows : Try.prog.underlying 128 = some (.array 10 9) := by kernel_rfl
theorem inf_str : (Try.prog.info? 9).map (·.size) = some 1 := by kernel_rfl
theorem index_rows {D : Array Value} {c : Nat} {v : Value} (hc : c < 10) (h : D[c]? = some v) (w : World) : (Instr.index 128 (.agg D) (.int .i64 (c : Nat))).run Try.prog w = .ok v w := by
  have hi := inf_str
  cases hq : Try.prog.info? 9 with
  | none => simp [hq] at hi
  | some i =>
    have hs : i.size = 1 := by simpa [hq] using hi
    simp only [Instr.index, asIntOf, Sem.run_bind, Sem.run_pure, Result.andThen_ok, run_underlying und_rows w]
    rw [if_pos ⟨by omega, by omega⟩]
    simp [part, Sem.run_bind, sizeOf, typeInfo, hq, hs, h]

set_option maxHeartbeats 4000000 in
set_option maxRecDepth 100000 in
theorem laySquare_any {T : Nat} {f : Nat → Value} {w : World} (hR : RowF T 290 95 f w) :
    Calls Try.prog 82 #[.pointer (some ⟨T, 0, none⟩)] w fun e w' => e = .returned (.tuple #[]) ∧ ∃ g, RowF T 290 95 g w' ∧ SqrT 10 0 g ∧ (∀ o, o < 190 → g o = f o) ∧ w.grownBy w' (some T) := by
  have HF : Hid (RowF T 290 95 f w) := hR
  clear hR
  go_enter Try.func82, Try.ntmps82
  go_wp2
  obtain ⟨w1, hw1⟩ : ∃ w1, w1 = w.alloc (.cells dqR 128) := ⟨_, rfl⟩
  have H1 : Hid (RowF T 290 95 f w1 ∧ w.grownBy w1 (some T)) := by
    rw [hw1]; exact ⟨HF.out.alloc _, grown_none (World.grownBy_alloc w _ none)⟩
  have hlit : dqR = #[.string ⟨#[48, 51, 49, 55, 53, 57, 56, 54, 52, 50]⟩, .string ⟨#[55, 48, 57, 50, 49, 53, 52, 56, 54, 51]⟩, .string ⟨#[52, 50, 48, 54, 56, 55, 49, 51, 53, 57]⟩, .string ⟨#[49, 55, 53, 48, 57, 56, 51, 52, 50, 54]⟩, .string ⟨#[54, 49, 50, 51, 48, 52, 53, 57, 55, 56]⟩, .string ⟨#[51, 54, 55, 52, 50, 48, 57, 53, 56, 49]⟩, .string ⟨#[53, 56, 54, 57, 55, 50, 48, 49, 51, 52]⟩, .string ⟨#[56, 57, 52, 53, 51, 54, 50, 48, 49, 55]⟩, .string ⟨#[57, 52, 51, 56, 54, 49, 55, 50, 48, 53]⟩, .string ⟨#[50, 53, 56, 49, 52, 51, 54, 55, 57, 48]⟩] := rfl
  rw [← hlit]
  rw [← hw1]
  clear hw1 hlit
  obtain ⟨D, hD⟩ : ∃ D, D = dqR := ⟨_, rfl⟩
  rw [← hD]
  have HD : Hid (D = dqR) := hD
  clear hD
  go_loopw [8] (fun vi wr => ∃ (c : Nat) (g : Nat → Value), c ≤ 10 ∧ vi = .int .i64 (c : Nat) ∧ Hid (RowF T 290 95 g wr ∧ SqrT c 0 g ∧ (∀ o, o < 190 → g o = f o) ∧ w.grownBy wr (some T))) (fun vi _ => 10 - (intOf vi).toNat)
  case atStart => exact ⟨0, f, by omega, rfl, H1.out.1, ⟨fun x k _ _ h => by omega⟩, fun _ _ => rfl, H1.out.2⟩
  case round =>
    obtain ⟨c, g, hc, rfl, HG⟩ := hrel
    rename World => wr
    by_cases hlt : c < 10
    · have hib : (c : Int) < 10 := by omega
      have hib0 : (0 : Int) ≤ (c : Int) := by omega
      have hidx : (Instr.index 128 (.agg D) (.int .i64 (c : Nat))).run Try.prog wr = .ok (.string (dqS c)) wr := index_rows hlt (by rw [HD.out]; exact dqR_at hlt) wr
      obtain ⟨s, hs⟩ : ∃ s, s = dqS c := ⟨_, rfl⟩
      rw [← hs] at hidx
      have HS : Hid (s = dqS c) := hs
      clear hs
      go_wp2
      go_loopw [5] (fun _ wy => ∃ (b : Nat) (g : Nat → Value) (wx : World), b ≤ 10 ∧ wy = wx.iter s b ∧ Hid (wx.heap.size = wr.heap.size ∧ RowF T 290 95 g wx ∧ SqrT c b g ∧ (∀ o, o < 190 → g o = f o) ∧ w.grownBy wx (some T))) (fun _ wy => 10 - wy.iterPos wr.heap.size)
      case atStart => exact ⟨0, g, wr, by omega, rfl, rfl, HG.out⟩
      case round =>
        obtain ⟨b, g2, wx, hb, rfl, HJ⟩ := hrel
        have HW : Hid (wx.heap.size = wr.heap.size) := HJ.out.1
        have HSz : Hid (s.size = 10) := by show s.size = 10; rw [HS.out]; exact dqS_size c hlt
        by_cases hltb : b < 10
        · have hbs : b < s.size := by rw [HSz.out]; exact hltb
          obtain ⟨y, hy⟩ : ∃ y, y = dsq c b := ⟨_, rfl⟩
          have hxy : (s[b]'hbs).toNat = 48 + y := by
            rw [hy]
            have h : ∀ (u : ByteArray) (hu : b < u.size), u = dqS c → (u[b]'hu).toNat = 48 + dsq c b := by
              intro u hu e; subst e; exact dqS_at hlt hltb hu
            exact h s hbs HS.out
          have hy10 : y < 10 := by rw [hy]; exact dsq_lt c hlt b hltb
          have hnx : ∀ ty, (Instr.next (.pointer (some ⟨wr.heap.size, 0, none⟩)) true ty).run Try.prog (wx.iter s b) = .ok (.tuple #[.bool true, .int .i64 (b : Nat), .int .i32 ((s[b]'hbs).toNat : Nat)]) (wx.iter s (b + 1)) := by
            intro ty
            rw [← HW.out]
            exact run_next_ascii wx s b ty hbs (by omega)
          obtain ⟨wz, hwz⟩ : ∃ wz, wz = wx.iter s (b + 1) := ⟨_, rfl⟩
          rw [← hwz] at hnx
          have hrz : RowF T 290 95 g2 wz := by rw [hwz]; exact iter_row HJ.out.2.1 s _
          have hcell := hrz.cell (190 + c * 10 + b) (by omega)
          have hfree := hrz.free (190 + c * 10 + b)
          have wu : IntKind.u8.wrap (((s[b]'hbs).toNat : Int) - 48) = (y : Int) := by rw [show ((s[b]'hbs).toNat : Int) - 48 = (y : Int) by omega]; exact u8_ten y hy10
          have hbi : (b : Int) < (s.size : Int) := by omega
          have hbi2 : (b : Int) < 10 := by omega
          have hbi0 : (0 : Int) ≤ (b : Int) := by omega
          have HZ : Hid (wz = wx.iter s (b + 1) ∧ y = dsq c b) := ⟨hwz, hy⟩
          clear hwz hy hxy hrz
          go_wp2
          go_still_tail 12, (by kernel_rfl)
          go_wp2
          obtain ⟨wv, hwv⟩ : ∃ wv, wv = (wx.setCell ⟨T, 190 + c * 10 + b, none⟩ (.int .i64 (y : Nat))).drew := ⟨_, rfl⟩
          have HV : Hid ((wz.setCell ⟨T, 190 + c * 10 + b, none⟩ (.int .i64 (y : Nat))).drew = wv.iter s (b + 1) ∧ wv.heap.size = wr.heap.size) := by
            refine ⟨?_, ?_⟩
            · rw [HZ.out.1, iter_put _ _ _ _ _ HJ.out.2.1.lt, hwv]; rfl
            · rw [hwv, ← HW.out]
              show (wx.heap.modify _ _).size = _
              simp
          have HR : Hid (RowF T 290 95 (upd g2 (190 + c * 10 + b) (nvl y)) wv ∧ SqrT c (b + 1) (upd g2 (190 + c * 10 + b) (nvl y)) ∧ (∀ o, o < 190 → upd g2 (190 + c * 10 + b) (nvl y) o = f o) ∧ w.grownBy wv (some T)) := by
            rw [hwv]
            refine ⟨(HJ.out.2.1.store _ _).drew, ⟨fun i j hi hj h => ?_⟩, fun o ho => ?_, grown_drew (grown_set HJ.out.2.2.2.2 _ _)⟩
            · by_cases e : i = c ∧ j = b
              · rw [e.1, e.2, upd_at, HZ.out.2]
              · rw [upd_ne _ _ _ (by omega)]; exact HJ.out.2.2.1.at' i j hi hj (by omega)
            · rw [upd_ne _ _ _ (by omega)]; exact HJ.out.2.2.2.1 o ho
          clear hwv hcell hfree hnx
          go_roundw
          case rel => exact ⟨b + 1, _, wv, by omega, HV.out.1, HV.out.2, HR.out⟩
          case measure =>
            rw [HV.out.1, ← HV.out.2, World.iterPos_iter, HV.out.2, ← HW.out, World.iterPos_iter]
            omega
        · have hbs : ¬ b < s.size := by rw [HSz.out]; exact hltb
          have hbe : b = 10 := by omega
          have hnx : ∀ ty, (Instr.next (.pointer (some ⟨wr.heap.size, 0, none⟩)) true ty).run Try.prog (wx.iter s b) = .ok (.tuple #[.bool false]) (wx.iter s b) := fun ty => by rw [← HW.out]; exact run_next_end wx s b ty hbs
          obtain ⟨wz, hwz⟩ : ∃ wz, wz = wx.iter s b := ⟨_, rfl⟩
          have HR : Hid (RowF T 290 95 g2 wz ∧ SqrT (c + 1) 0 g2 ∧ (∀ o, o < 190 → g2 o = f o) ∧ w.grownBy wz (some T)) := by
            rw [hwz]
            exact ⟨iter_row HJ.out.2.1 s _, ⟨fun i j hi hj h => HJ.out.2.2.1.at' i j hi hj (by omega)⟩, HJ.out.2.2.2.1, grown_trans HJ.out.2.2.2.2 (grown_none (World.grownBy_alloc wx _ none))⟩
          rw [← hwz] at hnx ⊢
          clear hwz hbs hbe
          go_wp2
          go_roundw
          case rel => exact ⟨c + 1, g2, by omega, by go_num, HR.out⟩
          case measure => simp [intOf]; omega
    · have hib : ¬ (c : Int) < 10 := by omega
      have hae : c = 10 := by omega
      have HT : Hid (SqrT 10 0 g) := by rw [← hae]; exact HG.out.2.1
      clear hae
      go_wp2
      exact bodyPost_end (results_none rfl _ _ _) rfl ⟨rfl, g, HG.out.1, HT.out, HG.out.2.2⟩
end Go.Proofs.Ytonjkpakbmbafaa
