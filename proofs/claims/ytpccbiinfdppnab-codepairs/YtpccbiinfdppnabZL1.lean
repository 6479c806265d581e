/- Texts of ours, one behind the other: L1 L2 L3 L4 L5 L6 L7 W8 L8. -/
import Derived.Test.YtpccbiinfdppnabZV11
import Derived.Test.YtpccbiinfdppnabZM7
import Derived.Test.YtpccbiinfdppnabZR9
/- What two answers are held together by: numbers, lists, lists of lists. -/
namespace Go.Proofs.Ytpccbiinfdppnab
open Go.RowKit

set_option maxHeartbeats 2000000 in
theorem list_err2 (e : Int) (he : e ≠ 0) (ao : Option Addr) (ca : Nat) (vb : Value) (w : World) :
    Calls Try.prog 31 #[.slice ao 0 ca, .int .i64 e, vb, .int .i64 e] w fun r w' => r = .returned (.bool true) ∧ w' = w := by
  have h1 : (e != 0) = true := bne_iff_ne.2 he
  go_enter Try.func31, Try.ntmps31
  go_wp2
  go_ret
  exact ⟨rfl, rfl⟩
set_option maxHeartbeats 2000000 in
theorem lists_err2 (e : Int) (he : e ≠ 0) (ao : Option Addr) (ca : Nat) (vb : Value) (w : World) :
    Calls Try.prog 47 #[.slice ao 0 ca, .int .i64 e, vb, .int .i64 e] w fun r w' => r = .returned (.bool true) ∧ w' = w := by
  have h1 : (e != 0) = true := bne_iff_ne.2 he
  go_enter Try.func47, Try.ntmps47
  go_wp2
  go_ret
  exact ⟨rfl, rfl⟩
set_option maxHeartbeats 2000000 in
theorem num_err (e : Int) (he : e ≠ 0) (b : Int) (w : World) :
    Calls Try.prog 32 #[.int .i64 0, .int .i64 e, .int .i64 b, .int .i64 e] w fun r w' => r = .returned (.bool true) ∧ w' = w := by
  have h1 : (e != 0) = true := bne_iff_ne.2 he
  go_enter Try.func32, Try.ntmps32
  go_wp2
  go_ret
  exact ⟨rfl, rfl⟩
set_option maxHeartbeats 2000000 in
theorem num_same (a : Int) (w : World) :
    Calls Try.prog 32 #[.int .i64 a, .int .i64 0, .int .i64 a, .int .i64 0] w fun r w' => r = .returned (.bool true) ∧ w' = w := by
  go_enter Try.func32, Try.ntmps32
  go_wp2
  go_ret
  exact ⟨by simp, rfl⟩

/-- The reference's field, with its modulus where it lies. -/
theorem rfield_sl {D : FD} (hD : D ∈ fieldsL) (w : World) :
    Calls Try.prog 43 #[.int .i64 D.q] w fun e w' => ∃ gm cm, e = .returned (.tuple #[rf D.q D.p D.m D.gen (.slice (some ⟨gm, 0, none⟩) (D.m + 1) cm), .int .i64 0]) ∧ ModAt D (.slice (some ⟨gm, 0, none⟩) (D.m + 1) cm) D.md w' ∧ Below w.heap.size w w' := by
  refine (rfield_any hD w).mono ?_
  rintro e w' ⟨v, rfl, hown, hmod, hb⟩
  obtain ⟨gm, cm, fm, rfl, _⟩ := hown.row (D.m + 1) modL_len' (by have := (fld hD).m6; omega)
  exact ⟨gm, cm, rfl, hmod, hb⟩
theorem OwnP.sliceI {base n : Nat} {v : Value} {c : Nat → Nat} {w : World} (h : OwnP base v n c w) (hn : n ≤ 1000000) : SliceI v (zl n fun j => (c j : Nat)) w := by
  obtain ⟨ao, cap, rfl, _, _, _, _, _, hr⟩ := h
  by_cases h0 : n = 0
  · subst h0
    exact Or.inl ⟨rfl, ao, cap, rfl⟩
  · obtain ⟨g, rfl, hrow⟩ := hr (by omega)
    refine Or.inr ⟨fun e => ?_, by rw [zl_len]; exact hn, g, 0, cap, by rw [zl_len], fun j hj => ?_⟩
    · have := congrArg List.length e
      rw [zl_len] at this
      exact h0 this
    · rw [zl_len] at hj
      rw [Nat.zero_add, zl_getD n _ j hj]; exact hrow.cell j hj
theorem Elm.sliceI {v : Value} {p : Nat × (Nat → Nat)} {w : World} (h : Elm v p w) (hn : p.1 + 1 ≤ 1000000) : SliceI v (zl (p.1 + 1) fun j => (p.2 j : Nat)) w := by
  obtain ⟨g, cap, rfl, h1, h2, hr⟩ := h
  exact (OwnP.of_row (base := 0) hr (Nat.le_refl _) h1 h2 (Nat.zero_le _)).sliceI hn

set_option maxHeartbeats 2000000 in
set_option maxRecDepth 100000 in
theorem sameAll_lls {ba bb : Nat} {va vb : Value} {L : List (Nat × (Nat → Nat))} {w : World} (ha : LLs ba va L w) (hb : LLs bb vb L w) (hL : L.length ≤ 1000000) (hp : ∀ p ∈ L, p.1 + 1 ≤ 1000000) :
    Calls Try.prog 90 #[va, vb] w fun e w' => e = .returned (.bool true) ∧ ∃ n, w' = w.drewN n := by
  obtain ⟨l, ho, he⟩ := ha
  obtain ⟨l', ho', he'⟩ := hb
  obtain ⟨ao, ca, rfl, _, _, _, hc⟩ := ho.open
  obtain ⟨bo, cb, rfl, _, _, _, hc'⟩ := ho'.open
  rw [he.1, he'.1]
  have HC : Hid (Elms l L w ∧ Elms l' L w ∧ (∀ p ∈ L, p.1 + 1 ≤ 1000000) ∧ (∀ (j : Nat) (u : Value), l[j]? = some u → ∃ g, ao = some ⟨g, 0, none⟩ ∧ w.cell? ⟨g, j, none⟩ = some u ∧ w.frozen? ⟨g, j, none⟩ = false) ∧ (∀ (j : Nat) (u : Value), l'[j]? = some u → ∃ g, bo = some ⟨g, 0, none⟩ ∧ w.cell? ⟨g, j, none⟩ = some u ∧ w.frozen? ⟨g, j, none⟩ = false)) := ⟨he, he', hp, hc, hc'⟩
  clear he he' hp hc hc' ho ho'
  go_enter Try.func90, Try.ntmps90
  go_wp2
  go_loopw [5] (fun i wr => ∃ r : Nat, r ≤ L.length ∧ i = .int .i64 r ∧ ∃ n, wr = w.drewN n) (fun i _ => L.length - (intOf i).toNat)
  case atStart => exact ⟨0, by omega, rfl, 0, rfl⟩
  case round =>
    obtain ⟨r, hr, rfl, n, rfl⟩ := hrel
    by_cases hlt : r < L.length
    · have h1 := HC.out.1.1
      have h2 := HC.out.2.1.1
      obtain ⟨p, hp⟩ : ∃ p, L[r]? = some p := ⟨L[r], List.getElem?_eq_getElem hlt⟩
      obtain ⟨v, hv⟩ : ∃ v, l[r]? = some v := ⟨l[r]'(by omega), List.getElem?_eq_getElem _⟩
      obtain ⟨v', hv'⟩ : ∃ v', l'[r]? = some v' := ⟨l'[r]'(by omega), List.getElem?_eq_getElem _⟩
      obtain ⟨g, rfl, hc, _⟩ := HC.out.2.2.2.1 r v hv
      obtain ⟨g', rfl, hc', _⟩ := HC.out.2.2.2.2 r v' hv'
      have hpl := HC.out.2.2.1 p (List.mem_of_getElem? hp)
      have HS : Hid (∀ k, Calls Try.prog 37 #[v, v'] (w.drewN (n + k)) fun e w' => e = .returned (.bool true) ∧ ∃ m, w' = w.drewN (n + m)) := fun k => by
        refine (same_any (w := w.drewN (n + k)) ((HC.out.1.2 r v p hv hp).sliceI hpl) ((HC.out.2.1.2 r v' p hv' hp).sliceI hpl)).mono ?_
        rintro e w' ⟨rfl, m, rfl⟩
        exact ⟨by rw [decide_eq_true rfl], k + m, by rw [World.drewN_drewN, Nat.add_assoc]⟩
      have hib : (r : Int) < (L.length : Int) := by omega
      have hib0 : (0 : Int) ≤ (r : Int) := by omega
      clear h1 h2 hp hv hv' hpl
      go_wp2
      go_big_quiet (first | (go_at_call 37; exact HS.out _))
      go_wp2
      go_roundw
      case rel => exact ⟨r + 1, by omega, by go_num, _, by first | rfl | rw [World.drewN_drewN]⟩
      case measure => simp [intOf]; omega
    · go_wp2
      go_ret
      exact ⟨rfl, _, rfl⟩

set_option maxHeartbeats 2000000 in
theorem lists_same {ba bb : Nat} {va vb : Value} {L : List (Nat × (Nat → Nat))} {w : World} (ha : LLs ba va L w) (hb : LLs bb vb L w) (hL : L.length ≤ 1000000) (hp : ∀ p ∈ L, p.1 + 1 ≤ 1000000) :
    Calls Try.prog 47 #[va, .int .i64 0, vb, .int .i64 0] w fun r w' => r = .returned (.bool true) ∧ ∃ n, w' = w.drewN n := by
  have H : Hid (LLs ba va L w ∧ LLs bb vb L w ∧ ∀ p ∈ L, p.1 + 1 ≤ 1000000) := ⟨ha, hb, hp⟩
  clear ha hb hp
  go_enter Try.func47, Try.ntmps47
  go_wp2_with fail
  refine (sameAll_lls H.out.1 H.out.2.1 hL H.out.2.2).mono ?_
  rintro e w' ⟨rfl, n, rfl⟩
  go_wp2
  go_ret
  exact ⟨rfl, _, rfl⟩
end Go.Proofs.Ytpccbiinfdppnab

/- PolySays: values (polyAt). -/
namespace Go.Proofs.Ytpccbiinfdppnab
open Go.RowKit

theorem chk2_def (D : FD) (n : Nat) (z : Nat → Int) (m : Nat) (y : Nat → Int) : D.chk2 n z m y = if D.chk n z = 0 then D.chk m y else D.chk n z := by
  first | rfl | (unfold FD.chk2; rfl) | (unfold FD.chk2; split <;> simp_all)

end Go.Proofs.Ytpccbiinfdppnab

/- PolySays: roots and parts (polyRoots). -/
namespace Go.Proofs.Ytpccbiinfdppnab
open Go.RowKit

theorem facSpec_len {D : FD} (hD : D ∈ fieldsL) {n : Nat} {z : Nat → Int} {er : Int} {L : List (Nat × (Nat → Nat))} (h : FacSpec D n z er L) (hn : n ≤ 128) : L.length ≤ 1000000 ∧ ∀ p ∈ L, p.1 + 1 ≤ 1000000 := by
  rcases h with ⟨h1, h2, _, _, h5⟩ | ⟨_, _, _, _, rfl⟩ | ⟨_, _, _, rfl⟩ | ⟨_, _, rfl⟩
  · obtain ⟨l, hl⟩ : ∃ l, dgn (zc n z) n = l + 1 := ⟨dgn (zc n z) n - 1, by omega⟩
    have hle := dgn_le (zc n z) n
    rw [hl] at h5
    have htr : Trd (l + 1) (zc n z) := by rw [← hl]; exact trd_dgn (zc_bd _ _)
    have hm := mon_mn hD (zc_el (fld hD) h1) htr
    refine ⟨?_, fun p hp => by have := pre_deg hD hm h5 p hp; omega⟩
    have := pre_length hD hm h5
    omega
  all_goals exact ⟨by simp, fun p hp => by simp at hp⟩

end Go.Proofs.Ytpccbiinfdppnab

/- PolySays: roots and parts (polyRoots), the rest. -/
namespace Go.Proofs.Ytpccbiinfdppnab
open Go.RowKit

end Go.Proofs.Ytpccbiinfdppnab

/- PolySays: a polynomial through points (polyThrough). -/
namespace Go.Proofs.Ytpccbiinfdppnab
open Go.RowKit Go.Sort

theorem has_of_lt {D : FD} {x : Nat} (h : x < D.q) : D.has (x : Int) = true := by
  unfold FD.has; simp; omega

set_option maxHeartbeats 4000000 in
set_option maxRecDepth 100000 in
theorem relements_ok {D : FD} (gen : Nat) (v : Value) {ao : Option Addr} {n ca : Nat} {c : Nat → Nat} {w : World} (hn : n ≤ 1000000) (hc : El D c) (hA : Sl ao n c w) (hl : LtB ao w.heap.size) :
    Calls Try.prog 54 #[rf D.q D.p D.m gen v, .slice ao n ca] w fun e w' => e = .returned (.bool true) ∧ Below w.heap.size w w' := by
  have hbl : Below w.heap.size w (w.alloc (.cells #[.int .i64 D.q, .int .i64 D.p, .int .i64 D.m, .int .i64 gen, v] 65)) := (Below.refl _ _).alloc (Nat.le_refl _) _
  have HS : Hid (Sl ao n c w ∧ LtB ao w.heap.size ∧ El D c ∧ Box w.heap.size D gen v (w.alloc (.cells #[.int .i64 D.q, .int .i64 D.p, .int .i64 D.m, .int .i64 gen, v] 65)) ∧ Below w.heap.size w (w.alloc (.cells #[.int .i64 D.q, .int .i64 D.p, .int .i64 D.m, .int .i64 gen, v] 65))) := ⟨hA, hl, hc, box_new D gen _ w, hbl⟩
  clear hA hl hc hbl
  unfold rf
  go_enter Try.func54, Try.ntmps54
  go_wp2
  go_loopw [5] (fun i wr => ∃ r : Nat, r ≤ n ∧ i = .int .i64 r ∧ Hid (Box w.heap.size D gen v wr ∧ Below w.heap.size w wr) ∧ w.heap.size < wr.heap.size) (fun i _ => n - (intOf i).toNat)
  case atStart => exact ⟨0, by omega, rfl, ⟨HS.out.2.2.2.1, HS.out.2.2.2.2⟩, by simp⟩
  case round =>
    obtain ⟨r, hr, rfl, HG, hsz⟩ := hrel
    by_cases hlt : r < n
    · obtain ⟨b, off, rfl, hcl⟩ := (HS.out.1.below HG.out.2 HS.out.2.1) r hlt
      obtain ⟨x, hx⟩ : ∃ x, x = c r := ⟨_, rfl⟩
      rw [← hx] at hcl
      have hxx : D.has (x : Int) = true := by rw [hx]; exact has_of_lt (HS.out.2.2.1 r)
      have z1 : (0 : Int) ≤ (r : Int) := by omega
      have z2 : (r : Int) < (n : Int) := by omega
      have k0 := cell_regrown HG.out.1.c0
      have k1 := cell_regrown HG.out.1.c1
      have k2 := cell_regrown HG.out.1.c2
      have k3 := cell_regrown HG.out.1.c3
      have k4 := cell_regrown HG.out.1.c4
      have k5 := cell_regrown hcl
      have HC : Hid (∀ d os, Calls Try.prog 77 #[.agg #[.int .i64 D.q, .int .i64 D.p, .int .i64 D.m, .int .i64 gen, v], .int .i64 (x : Nat)] (grow (redrawn wr d) os) fun e w'' => e = .returned (.bool true) ∧ ∃ p : Regrown, w'' = grow (redrawn wr p.d) p.os) := fun d os => by
        have h := rhas_any D gen v (x : Int) (grow (redrawn wr d) os)
        rw [hxx] at h
        exact Calls.regrown_of h
      clear hx hcl hxx
      go_wp2
      refine wp_region_quiet_below (by kernel_rfl) (by kernel_rfl) ?_
      repeat (go_big_quiet_step (first | (go_at_call 77; exact HC.out _ _)))
      refine wpQuiet_nil ?_
      intro _ hw'
      obtain ⟨⟨dq, osq⟩, hw''⟩ := hw'
      subst hw''
      have hb := below_regrown wr dq osq
      have HR : Hid (Box w.heap.size D gen v (grow (redrawn wr dq) osq) ∧ Below w.heap.size w (grow (redrawn wr dq) osq)) := ⟨HG.out.1.below hb hsz, bel_up HG.out.2 hb⟩
      have hs := hb.size
      clear hb k0 k1 k2 k3 k4 k5 HC
      go_wp2
      go_roundw
      case rel => exact ⟨r + 1, by omega, by go_num, HR.out, by omega⟩
      case measure => simp [intOf]; omega
    · go_wp2
      go_ret
      exact ⟨rfl, HG.out.2⟩

theorem arg_sliceI {ao : Option Addr} {n ca : Nat} {z : Nat → Int} {w : World} (h : Arg ao n ca z w) {r : Nat} (hr : r ≤ n) : SliceI (.slice ao r ca) (zl r z) w := by
  by_cases h0 : r = 0
  · subst h0
    exact Or.inl ⟨rfl, ao, ca, rfl⟩
  · obtain ⟨b, off, rfl, _⟩ := h.sl 0 (by omega)
    refine Or.inr ⟨fun e => ?_, by rw [zl_len]; have := h.few; omega, b, off, ca, by rw [zl_len], fun j hj => ?_⟩
    · have := congrArg List.length e
      rw [zl_len] at this
      exact h0 this
    · rw [zl_len] at hj
      obtain ⟨b', off', e, hc⟩ := h.sl j (by omega)
      cases e
      rw [zl_getD r z j hj]; exact hc
theorem zl_mem {n : Nat} {z : Nat → Int} {x : Int} : x ∈ zl n z ↔ ∃ j, j < n ∧ z j = x := by
  unfold zl
  rw [List.mem_map]
  constructor
  · rintro ⟨j, hj, e⟩
    exact ⟨j, List.mem_range.1 hj, e⟩
  · rintro ⟨j, hj, e⟩
    exact ⟨j, List.mem_range.2 hj, e⟩
theorem zc_inj {D : FD} {n : Nat} {z : Nat → Int} (h : D.chk n z = 0) {i j : Nat} (hi : i < n) (hj : j < n) : zc n z i = zc n z j ↔ z i = z j := by
  obtain ⟨x, hx, _⟩ := has_nat ((chk_zero h).2 i hi)
  obtain ⟨y, hy, _⟩ := has_nat ((chk_zero h).2 j hj)
  unfold zc
  rw [if_pos hi, if_pos hj, hx, hy]
  omega

end Go.Proofs.Ytpccbiinfdppnab

/- PolySays: a polynomial through points (polyThrough), where there is one. -/
namespace Go.Proofs.Ytpccbiinfdppnab
open Go.RowKit Go.Sort

end Go.Proofs.Ytpccbiinfdppnab

/- PolySays: its parts put together; where an argument may not be. -/
namespace Go.Proofs.Ytpccbiinfdppnab
open Go.RowKit Go.Sort

end Go.Proofs.Ytpccbiinfdppnab

/- Lists that were made and lie in memory that is there: kept while more is made. What two answers with lists are held together by, whatever the error. -/
namespace Go.Proofs.Ytpccbiinfdppnab
open Go.RowKit

/-- The list v reads as l, in memory that is there. -/
def KI (v : Value) (l : List Int) (w : World) : Prop := SliceI v l w ∧ ∀ k, v.ownBlock = some k → k < w.heap.size
theorem KI.below {v : Value} {l : List Int} {w w' : World} (h : KI v l w) (hb : Below w.heap.size w w') : KI v l w' := ⟨h.1.below hb h.2, fun k hk => Nat.lt_of_lt_of_le (h.2 k hk) hb.size⟩
theorem KI.drewN {v : Value} {l : List Int} {w : World} (h : KI v l w) (n : Nat) : KI v l (w.drewN n) := ⟨h.1.drewN n, h.2⟩
theorem OwnI.ki {base : Nat} {v : Value} {l : List Int} {w : World} (h : OwnI base v l w) (hl : l.length ≤ 1000000) : KI v l w := ⟨h.slice hl, fun k hk => (h.lt k hk).2⟩
theorem OwnP.ki {base n : Nat} {v : Value} {c : Nat → Nat} {w : World} (h : OwnP base v n c w) (hn : n ≤ 1000000) : KI v (zl n fun j => (c j : Nat)) w := by
  refine ⟨h.sliceI hn, ?_⟩
  obtain ⟨ao, cap, rfl, _, _, _, hl, _⟩ := h
  intro k hk
  cases ao with
  | none => cases hk
  | some x =>
    have hk : some x.block = some k := hk
    cases hk
    exact hl x rfl

theorem list_gen {va vb : Value} {e : Int} {w : World} (h : (e ≠ 0 ∧ ∃ ao ca, va = .slice ao 0 ca) ∨ (e = 0 ∧ ∃ l, SliceI va l w ∧ SliceI vb l w)) :
    Calls Try.prog 31 #[va, .int .i64 e, vb, .int .i64 e] w fun r w' => r = .returned (.bool true) ∧ ∃ n, w' = w.drewN n := by
  rcases h with ⟨he, ao, ca, rfl⟩ | ⟨rfl, l, h1, h2⟩
  · refine (list_err2 e he ao ca vb w).mono ?_
    rintro r w' ⟨rfl, rfl⟩
    exact ⟨rfl, 0, rfl⟩
  · exact list_same h1 h2
end Go.Proofs.Ytpccbiinfdppnab

/- PolySays: where an argument may not be. -/
namespace Go.Proofs.Ytpccbiinfdppnab
open Go.RowKit Go.Sort

end Go.Proofs.Ytpccbiinfdppnab
