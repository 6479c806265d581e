/- Texts of ours, one behind the other: S47 S65 KT1 LS5 S89. -/
import Derived.Test.YtbnkekeeceicaaaGreatZH1
import Derived.Test.YtbnkekeeceicaaaGreatZS12
import Derived.Test.YtbnkekeeceicaaaGreatZA1
import Derived.Test.YtbnkekeeceicaaaGreatZN3
import Derived.Maps.OwnOps
import Derived.Maps.OwnSet
import Derived.Lib.SlKeysI
import Derived.Deep.LoopGhost
import Derived.Shelf.SlIterI.Nil
import Derived.Shelf.SortM.Plain
import Derived.Shelf.SortM.SortNone
import Derived.Ground.GgzProg
import Derived.Ground.SlgmProg
import Derived.Shelf.SlGeneric
import Derived.Test.YtbnkekeeceicaaaGreatProg
/- Plain mathematics: through values at different places goes just one short polynomial, and equations of powers are met by it alone. No Go text here. -/
namespace Go.Proofs.YtbnkekeeceicaaaGreat
open Go.RowKit Go.Sort

/-- Equations that are met have no row that says 0 = 1. -/
theorem met_no {D : FD} (F : Fld D) {m n k : Nat} {R M : Nat → Nat → Nat} {p b u : Nat → Nat} (h : RRE D (n + 1) k R p) (hel : ∀ i, i < m → El D (M i)) (hb : ∀ i, i < m → b i < D.q) (hs : ∀ v, Spn D (RowsOf k R) v ↔ Spn D (RowsOf m (aug n M b)) v) (hu : ∀ i, i < m → dt D (M i) u n = b i) : ∀ i, i < k → p i ≠ n := fun i hi e => by
  have h1 : Spn D (RowsOf m (aug n M b)) (R i) := (hs _).1 ⟨[(1, R i)], fun x hx => by simp at hx; rw [hx]; exact ⟨i, hi, rfl⟩, by
    show R i = padd D (pscale D 1 (R i)) pnil
    rw [pscale_one F (h.el i hi), padd_nil F (h.el i hi)]⟩
  have dtc : ∀ {a a' : Nat → Nat} (t : Nat), (∀ j, j < t → a j = a' j) → dt D a u t = dt D a' u t := fun {a a'} t => by
    induction t with
    | zero => intro _; rfl
    | succ t ih =>
      intro ht
      show D.ad (dt D a u t) (D.mul (a t) (u t)) = D.ad (dt D a' u t) (D.mul (a' t) (u t))
      rw [ih (fun j hj => ht j (by omega)), ht t (by omega)]
  have h2 : El D (R i) ∧ dt D (R i) u n = R i n := by
    refine spn_ind (Q := fun v => El D v ∧ dt D v u n = v n) ⟨el_nil F, dt_nil F u n⟩ (fun a c ha hc => ⟨el_add F ha.1 hc.1, ?_⟩) (fun s v hv => ⟨el_scale F _ _, ?_⟩) (fun v hv => ?_) h1
    · rw [dt_add F u ha.1 hc.1, ha.2, hc.2]; rfl
    · rw [dt_scale F, hv.2]; rfl
    · obtain ⟨j, hj, rfl⟩ := hv
      refine ⟨fun t => ?_, ?_⟩
      · unfold aug
        by_cases e : t = n
        · rw [if_pos e]; exact hb j hj
        · rw [if_neg e]; exact hel j hj t
      · rw [dtc n (a' := M j) (fun t ht => by unfold aug; rw [if_neg (by omega)]), hu j hj]
        unfold aug
        rw [if_pos rfl]
  have h3 : dt D (R i) u n = 0 := by
    rw [dtc n (a' := pnil) (fun t ht => h.lead i t hi (by omega)), dt_nil F]
  have h4 := h.one i hi
  rw [e] at h4
  have := h2.2
  omega

end Go.Proofs.YtbnkekeeceicaaaGreat

/- Numbers below n that come of each other times q: the lists of them (plain mathematics). -/
namespace Go.Proofs.YtbnkekeeceicaaaGreat

/-- A list of numbers below n, each once, sorted: those of 0, 1, .. that are in it. -/
theorem sort_range {n : Nat} {L : List Nat} (hd : L.Nodup) (hl : ∀ k ∈ L, k < n) : ((L.map fun j => ((j : Nat) : Int)).mergeSort fun x y => decide (x ≤ y)) = ((List.range n).filter fun j => L.contains j).map fun j => ((j : Nat) : Int) := by
  have hp : ((List.range n).filter fun j => L.contains j).Perm L := by
    refine (List.perm_ext_iff_of_nodup (List.nodup_range.filter _) hd).2 (fun a => ?_)
    rw [List.mem_filter, List.contains_iff_mem]
    exact ⟨fun h => h.2, fun h => ⟨List.mem_range.2 (hl a h), h⟩⟩
  refine List.Perm.eq_of_pairwise (le := fun a b : Int => a ≤ b) (fun a b _ _ x y => Int.le_antisymm x y) ?_ ?_ ?_
  · exact (List.pairwise_mergeSort (le := fun x y : Int => decide (x ≤ y)) (fun a b c h1 h2 => by simp only [decide_eq_true_eq] at *; omega) (fun a b => by simp only [Bool.or_eq_true, decide_eq_true_eq]; omega) _).imp (fun h => by simpa using h)
  · rw [List.pairwise_map]
    exact (List.Pairwise.filter _ List.pairwise_lt_range).imp (fun {a b} h => by omega)
  · exact (List.mergeSort_perm _ _).trans (hp.map _).symm
end Go.Proofs.YtbnkekeeceicaaaGreat

/- Cyclic: numbers that come of each other (together): a map that the call makes. -/
namespace Go.Proofs.YtbnkekeeceicaaaGreat
open Go.RowKit Go.Maps

theorem cty_int : Tryz.prog.underlying 3 = some (.int .i64) := by kernel_rfl
theorem ct_map : Tryz.prog.underlying 63 = some (.map 3 3) := by kernel_rfl
theorem ct_law : Keyed Tryz.prog 3 := int_keyed cty_int
theorem ct_zero (w : World) : (zeroValue 3).run Tryz.prog w = .ok (.int .i64 0) w := by kernel_rfl
theorem ct_key (a : Int) (h : (Lit.int .i64 a).wf = true) : keyOf Tryz.prog 3 (.int .i64 a) = some (.int .i64 a) := keyOf_int_mk cty_int h
theorem ct_wf {k : Nat} (h : k ≤ 1000) : (Lit.int .i64 (k : Nat)).wf = true := WalkArith.wf_i64 (by omega)
theorem ct_lit (x : Int) : WideAt.IsKeyLit (.int .i64 x) := by first | trivial | (unfold WideAt.IsKeyLit; trivial) | exact Or.inl ⟨_, _, rfl⟩ | simp [WideAt.IsKeyLit]
theorem lit_inj {c d : Int} (h : (DataW.lit (.int .i64 c) : DataW Value) = .lit (.int .i64 d)) : c = d := by cases h; rfl
theorem nd_len {n : Nat} {L : List Nat} (h : L.Nodup) (hl : ∀ k ∈ L, k < n) : L.length ≤ n := by
  have hp : ((List.range n).filter fun j => L.contains j).Perm L := by
    refine (List.perm_ext_iff_of_nodup (List.nodup_range.filter _) h).2 (fun a => ?_)
    rw [List.mem_filter, List.contains_iff_mem]
    exact ⟨fun h => h.2, fun h => ⟨List.mem_range.2 (hl a h), h⟩⟩
  rw [← hp.length_eq]
  have := List.length_filter_le (fun j => L.contains j) (List.range n)
  rwa [List.length_range] at this

end Go.Proofs.YtbnkekeeceicaaaGreat

/- How the library sorts a map's keys here (slices.Sorted of maps.Keys): what the shelf asks of the program. -/
namespace Go.Proofs.YtbnkekeeceicaaaGreat
open Go.Shelf
def keysA_ren : Go.Shelf.Ren := ⟨fun | 7 => 24 | 10 => 45 | n => n, fun | 23 => 63 | 26 => 3 | 3 => 3 | 28 => 61 | 0 => 0 | 27 => 60 | 33 => 88 | 4 => 4 | n => n, fun | n => n⟩
theorem keysA : Go.Proofs.SlLaysZI.n7 Tryz.prog keysA_ren := {
  mixed := by kernel_rfl
  f7 := ⟨Tryz.f24.name, by decide, Tryz.func24.trans (congrArg some (by kernel_rfl))⟩
  f10 := ⟨Tryz.f45.name, by decide, Tryz.func45.trans (congrArg some (by kernel_rfl))⟩
  t0 := Tryz.underlying0
  a0 := Tryz.isAgg0
  z0 := Tryz.sizeOf0
  v0 := Tryz.zeroValue0
  t4 := Tryz.underlying4
  a4 := Tryz.isAgg4
  z4 := Tryz.sizeOf4
  v4 := Tryz.zeroValue4
  t23 := Tryz.underlying63
  a23 := Tryz.isAgg63
  z23 := Tryz.sizeOf63
  v23 := Tryz.zeroValue63
  t26 := Tryz.underlying3
  a26 := Tryz.isAgg3
  z26 := Tryz.sizeOf3
  v26 := Tryz.zeroValue3
  t27 := Tryz.underlying60
  a27 := Tryz.isAgg60
  z27 := Tryz.sizeOf60
  v27 := Tryz.zeroValue60
  t28 := Tryz.underlying61
  a28 := Tryz.isAgg61
  z28 := Tryz.sizeOf61
  v28 := Tryz.zeroValue61
  t33 := Tryz.underlying88
  a33 := Tryz.isAgg88
  z33 := Tryz.sizeOf88
  v33 := Tryz.zeroValue88 }
def sortedA_ren : Go.Shelf.Ren := ⟨fun | 6 => 23 | 8 => 43 | 9 => 44 | 11 => 59 | 13 => 61 | 12 => 60 | 23 => 82 | 24 => 83 | 14 => 73 | 15 => 74 | 16 => 75 | 17 => 76 | 18 => 77 | 19 => 78 | 20 => 79 | 21 => 80 | 22 => 81 | 25 => 101 | 26 => 102 | 27 => 103 | 28 => 104 | 29 => 105 | 30 => 106 | 31 => 115 | n => n, fun | 26 => 3 | 28 => 61 | 24 => 25 | 0 => 0 | 3 => 3 | 37 => 105 | 48 => 124 | 50 => 126 | 4 => 4 | 40 => 117 | 39 => 116 | 45 => 90 | 5 => 5 | 9 => 9 | 51 => 134 | 55 => 138 | 57 => 144 | 58 => 76 | 33 => 88 | n => n, fun | n => n⟩
theorem sortedA : Go.Proofs.SlLaysZI.n6 Tryz.prog sortedA_ren := {
  mixed := by kernel_rfl
  f6 := ⟨Tryz.f23.name, by decide, Tryz.func23.trans (congrArg some (by kernel_rfl))⟩
  f8 := ⟨Tryz.f43.name, by decide, Tryz.func43.trans (congrArg some (by kernel_rfl))⟩
  f11 := ⟨Tryz.f59.name, by decide, Tryz.func59.trans (congrArg some (by kernel_rfl))⟩
  t0 := Tryz.underlying0
  a0 := Tryz.isAgg0
  z0 := Tryz.sizeOf0
  v0 := Tryz.zeroValue0
  t24 := Tryz.underlying25
  a24 := Tryz.isAgg25
  z24 := Tryz.sizeOf25
  v24 := Tryz.zeroValue25
  t26 := Tryz.underlying3
  a26 := Tryz.isAgg3
  z26 := Tryz.sizeOf3
  v26 := Tryz.zeroValue3
  t28 := Tryz.underlying61
  a28 := Tryz.isAgg61
  z28 := Tryz.sizeOf61
  v28 := Tryz.zeroValue61
  i26 := by kernel_rfl }
def sortA_ren : Go.Shelf.Ren := ⟨fun | 5 => 44 | 8 => 61 | 7 => 60 | 19 => 82 | 20 => 83 | 10 => 73 | 11 => 74 | 12 => 75 | 13 => 76 | 14 => 77 | 15 => 78 | 16 => 79 | 17 => 80 | 18 => 81 | 30 => 101 | 31 => 102 | 32 => 103 | 33 => 104 | 34 => 105 | 35 => 106 | 40 => 115 | n => n, fun | 23 => 25 | 25 => 3 | 3 => 3 | 32 => 105 | 22 => 25 | 0 => 0 | 44 => 124 | 46 => 126 | 4 => 4 | 36 => 117 | 35 => 116 | 41 => 90 | 5 => 5 | 9 => 9 | 53 => 134 | 57 => 138 | 63 => 144 | 64 => 76 | n => n, fun | n => n⟩
theorem sortA : Go.Proofs.SlLaysM.n5 Tryz.prog sortA_ren := {
  mixed := by kernel_rfl
  f5 := ⟨Tryz.f44.name, by decide, Tryz.func44.trans (congrArg some (by kernel_rfl))⟩
  f7 := ⟨Tryz.f60.name, by decide, Tryz.func60.trans (congrArg some (by kernel_rfl))⟩
  f8 := Tryz.func61.trans (congrArg some (by kernel_rfl))
  f10 := ⟨Tryz.f73.name, by decide, Tryz.func73.trans (congrArg some (by kernel_rfl))⟩
  f11 := ⟨Tryz.f74.name, by decide, Tryz.func74.trans (congrArg some (by kernel_rfl))⟩
  f12 := ⟨Tryz.f75.name, by decide, Tryz.func75.trans (congrArg some (by kernel_rfl))⟩
  f13 := ⟨Tryz.f76.name, by decide, Tryz.func76.trans (congrArg some (by kernel_rfl))⟩
  f14 := ⟨Tryz.f77.name, by decide, Tryz.func77.trans (congrArg some (by kernel_rfl))⟩
  f15 := ⟨Tryz.f78.name, by decide, Tryz.func78.trans (congrArg some (by kernel_rfl))⟩
  f16 := ⟨Tryz.f79.name, by decide, Tryz.func79.trans (congrArg some (by kernel_rfl))⟩
  f17 := ⟨Tryz.f80.name, by decide, Tryz.func80.trans (congrArg some (by kernel_rfl))⟩
  f18 := ⟨Tryz.f81.name, by decide, Tryz.func81.trans (congrArg some (by kernel_rfl))⟩
  f19 := Tryz.func82.trans (congrArg some (by kernel_rfl))
  f20 := Tryz.func83.trans (congrArg some (by kernel_rfl))
  f30 := ⟨Tryz.f101.name, by decide, Tryz.func101.trans (congrArg some (by kernel_rfl))⟩
  f31 := Tryz.func102.trans (congrArg some (by kernel_rfl))
  f32 := Tryz.func103.trans (congrArg some (by kernel_rfl))
  f33 := ⟨Tryz.f104.name, by decide, Tryz.func104.trans (congrArg some (by kernel_rfl))⟩
  f34 := ⟨Tryz.f105.name, by decide, Tryz.func105.trans (congrArg some (by kernel_rfl))⟩
  f35 := ⟨Tryz.f106.name, by decide, Tryz.func106.trans (congrArg some (by kernel_rfl))⟩
  f40 := ⟨Tryz.f115.name, by decide, Tryz.func115.trans (congrArg some (by kernel_rfl))⟩
  t0 := Tryz.underlying0
  a0 := Tryz.isAgg0
  z0 := Tryz.sizeOf0
  v0 := Tryz.zeroValue0
  t3 := Tryz.underlying3
  a3 := Tryz.isAgg3
  z3 := Tryz.sizeOf3
  v3 := Tryz.zeroValue3
  t4 := Tryz.underlying4
  a4 := Tryz.isAgg4
  z4 := Tryz.sizeOf4
  v4 := Tryz.zeroValue4
  t5 := Tryz.underlying5
  a5 := Tryz.isAgg5
  z5 := Tryz.sizeOf5
  v5 := Tryz.zeroValue5
  t9 := Tryz.underlying9
  a9 := Tryz.isAgg9
  z9 := Tryz.sizeOf9
  v9 := Tryz.zeroValue9
  t22 := Tryz.underlying25
  a22 := Tryz.isAgg25
  z22 := Tryz.sizeOf25
  v22 := Tryz.zeroValue25
  t23 := Tryz.underlying25
  a23 := Tryz.isAgg25
  z23 := Tryz.sizeOf25
  v23 := Tryz.zeroValue25
  t25 := Tryz.underlying3
  a25 := Tryz.isAgg3
  z25 := Tryz.sizeOf3
  v25 := Tryz.zeroValue3
  t32 := Tryz.underlying105
  a32 := Tryz.isAgg105
  z32 := Tryz.sizeOf105
  v32 := Tryz.zeroValue105
  t35 := Tryz.underlying116
  a35 := Tryz.isAgg116
  z35 := Tryz.sizeOf116
  v35 := Tryz.zeroValue116
  t36 := Tryz.underlying117
  a36 := Tryz.isAgg117
  z36 := Tryz.sizeOf117
  v36 := Tryz.zeroValue117
  t41 := Tryz.underlying90
  a41 := Tryz.isAgg90
  z41 := Tryz.sizeOf90
  v41 := Tryz.zeroValue90
  t44 := Tryz.underlying124
  a44 := Tryz.isAgg124
  z44 := Tryz.sizeOf124
  v44 := Tryz.zeroValue124
  t46 := Tryz.underlying126
  a46 := Tryz.isAgg126
  z46 := Tryz.sizeOf126
  v46 := Tryz.zeroValue126
  t53 := Tryz.underlying134
  a53 := Tryz.isAgg134
  z53 := Tryz.sizeOf134
  v53 := Tryz.zeroValue134
  t57 := Tryz.underlying138
  a57 := Tryz.isAgg138
  z57 := Tryz.sizeOf138
  v57 := Tryz.zeroValue138
  t63 := Tryz.underlying144
  a63 := Tryz.isAgg144
  z63 := Tryz.sizeOf144
  v63 := Tryz.zeroValue144
  t64 := Tryz.underlying76
  a64 := Tryz.isAgg76
  z64 := Tryz.sizeOf76
  v64 := Tryz.zeroValue76 }

end Go.Proofs.YtbnkekeeceicaaaGreat

/- Nets: flows and cuts. -/
namespace Go.Proofs.YtbnkekeeceicaaaGreat

theorem nf_cg {p q : Nat → Bool} : ∀ n, (∀ i, i < n → p i = q i) → ct p n = ct q n
  | 0, _ => rfl
  | n + 1, h => by
    show ct p n + (if p n = true then 1 else 0) = ct q n + (if q n = true then 1 else 0)
    rw [nf_cg n (fun i hi => h i (by omega)), h n (by omega)]
theorem nf_le {p q : Nat → Bool} : ∀ n, (∀ i, i < n → p i = true → q i = true) → ct p n ≤ ct q n
  | 0, _ => Nat.le_refl _
  | n + 1, h => by
    show ct p n + (if p n = true then 1 else 0) ≤ ct q n + (if q n = true then 1 else 0)
    have h1 := nf_le n (fun i hi => h i (by omega))
    by_cases c : p n = true
    · rw [if_pos c, if_pos (h n (by omega) c)]; omega
    · rw [if_neg c]; omega
theorem nf_eq {p q : Nat → Bool} : ∀ n, (∀ i, i < n → p i = true → q i = true) → ct p n = ct q n → ∀ i, i < n → q i = true → p i = true
  | 0, _, _, i, hi, _ => absurd hi (by omega)
  | n + 1, h, he, i, hi, hq => by
    have he : ct p n + (if p n = true then 1 else 0) = ct q n + (if q n = true then 1 else 0) := he
    have h1 := nf_le (p := p) (q := q) n (fun i hi => h i (by omega))
    by_cases c : p n = true
    · rw [if_pos c, if_pos (h n (by omega) c)] at he
      by_cases e : i = n
      · rw [e]; exact c
      · exact nf_eq n (fun i hi => h i (by omega)) (by omega) i (by omega) hq
    · rw [if_neg c] at he
      by_cases d : q n = true
      · rw [if_pos d] at he; omega
      · rw [if_neg d] at he
        by_cases e : i = n
        · rw [e] at hq; exact absurd hq d
        · exact nf_eq n (fun i hi => h i (by omega)) (by omega) i (by omega) hq
theorem nf_part (p s : Nat → Bool) : ∀ n, ct p n = ct (fun i => p i && s i) n + ct (fun i => p i && !s i) n
  | 0 => rfl
  | n + 1 => by
    show ct p n + (if p n = true then 1 else 0) = ct (fun i => p i && s i) n + (if (p n && s n) = true then 1 else 0) + (ct (fun i => p i && !s i) n + (if (p n && !s n) = true then 1 else 0))
    rw [nf_part p s n]
    cases p n <;> cases s n <;> simp <;> omega
theorem nf_pos {p : Nat → Bool} : ∀ n, 0 < ct p n → ∃ i, i < n ∧ p i = true
  | 0, h => absurd h (by show ¬ 0 < 0; omega)
  | n + 1, h => by
    have h : 0 < ct p n + (if p n = true then 1 else 0) := h
    by_cases c : p n = true
    · exact ⟨n, by omega, c⟩
    · rw [if_neg c] at h
      obtain ⟨i, hi, hp⟩ := nf_pos n (by omega)
      exact ⟨i, by omega, hp⟩
theorem nf_top (p : Nat → Bool) : ∀ n, ct p n ≤ n
  | 0 => Nat.le_refl _
  | n + 1 => by
    show ct p n + (if p n = true then 1 else 0) ≤ n + 1
    have := nf_top p n
    split <;> omega
theorem nf_full {p : Nat → Bool} : ∀ n, ct p n = n → ∀ i, i < n → p i = true
  | 0, _, i, hi => absurd hi (by omega)
  | n + 1, h, i, hi => by
    have h : ct p n + (if p n = true then 1 else 0) = n + 1 := h
    have h2 := nf_top p n
    by_cases c : p n = true
    · rw [if_pos c] at h
      by_cases e : i = n
      · rw [e]; exact c
      · exact nf_full n (by omega) i (by omega)
    · rw [if_neg c] at h; omega
theorem nf_has {p : Nat → Bool} {i : Nat} (hp : p i = true) : ∀ n, i < n → 0 < ct p n
  | 0, h => absurd h (by omega)
  | n + 1, h => by
    show 0 < ct p n + (if p n = true then 1 else 0)
    by_cases e : i = n
    · rw [← e, if_pos hp]; omega
    · have := nf_has hp n (by omega); omega
theorem nf_nil {p : Nat → Bool} : ∀ n, ct p n = 0 → ∀ i, i < n → p i = false := fun n h i hi => by
  cases c : p i with
  | false => rfl
  | true => have := nf_has c n hi; omega
/-- One of them turned. -/
def tgl (us : Nat → Bool) (e : Nat) : Nat → Bool := fun i => if i = e then !us i else us i
theorem nf_far {us p : Nat → Bool} {e : Nat} : ∀ n, n ≤ e → ct (fun i => tgl us e i && p i) n = ct (fun i => us i && p i) n := fun n h => nf_cg n (fun i hi => by unfold tgl; rw [if_neg (by omega)])
theorem nf_tgl {us p : Nat → Bool} {e : Nat} : ∀ n, e < n → ct (fun i => tgl us e i && p i) n + (if (us e && p e) = true then 1 else 0) = ct (fun i => us i && p i) n + (if (!us e && p e) = true then 1 else 0)
  | 0, h => absurd h (by omega)
  | n + 1, h => by
    show ct (fun i => tgl us e i && p i) n + (if (tgl us e n && p n) = true then 1 else 0) + _ = ct (fun i => us i && p i) n + (if (us n && p n) = true then 1 else 0) + _
    by_cases c : e = n
    · subst c
      rw [nf_far e (Nat.le_refl _)]
      unfold tgl
      rw [if_pos rfl]
      cases us e <;> cases p e <;> simp
    · have ih := nf_tgl (us := us) (p := p) (e := e) n (by omega)
      have e2 : tgl us e n = us n := by unfold tgl; rw [if_neg (by omega)]
      rw [e2]
      omega
/-- A sum. -/
def nsm (f : Nat → Nat) : Nat → Nat
  | 0 => 0
  | n + 1 => nsm f n + f n
theorem nsm_cg {f g : Nat → Nat} : ∀ n, (∀ v, v < n → f v = g v) → nsm f n = nsm g n
  | 0, _ => rfl
  | n + 1, h => by show nsm f n + f n = nsm g n + g n; rw [nsm_cg n (fun v hv => h v (by omega)), h n (by omega)]
theorem nsm_two (f g : Nat → Nat) : ∀ n, nsm (fun v => f v + g v) n = nsm f n + nsm g n
  | 0 => rfl
  | n + 1 => by
    show nsm (fun v => f v + g v) n + (f n + g n) = nsm f n + f n + (nsm g n + g n)
    rw [nsm_two f g n]; omega
theorem nsm_nil : ∀ n, nsm (fun _ => 0) n = 0
  | 0 => rfl
  | n + 1 => by show nsm (fun _ => 0) n + 0 = 0; rw [nsm_nil n]
theorem nsm_one (a x : Nat) : ∀ n, nsm (fun v => if v = a then x else 0) n = if a < n then x else 0
  | 0 => by rw [if_neg (by omega)]; rfl
  | n + 1 => by
    show nsm (fun v => if v = a then x else 0) n + (if n = a then x else 0) = _
    rw [nsm_one a x n]
    by_cases c : n = a
    · rw [if_pos c, if_neg (by omega), if_pos (by omega)]; omega
    · rw [if_neg c]
      by_cases d : a < n
      · rw [if_pos d, if_pos (by omega), Nat.add_zero]
      · rw [if_neg d, if_neg (by omega)]
/-- How many edges are used, of those with a node at one end. -/
def edN (m : Nat) (G : Nat → Nat) (us : Nat → Bool) (v : Nat) : Nat := ct (fun i => us i && decide (G i = v)) m
theorem nsm_ct (us : Nat → Bool) (G : Nat → Nat) (S : Nat → Bool) (n : Nat) : ∀ m, (∀ i, i < m → G i < n) → nsm (fun v => if S v = true then edN m G us v else 0) n = ct (fun i => us i && S (G i)) m
  | 0, _ => by
    rw [nsm_cg (g := fun _ => 0) n (fun v _ => by show (if S v = true then 0 else 0) = 0; split <;> rfl), nsm_nil]; rfl
  | m + 1, h => by
    have e : ∀ v, v < n → (if S v = true then edN (m + 1) G us v else 0) = (if S v = true then edN m G us v else 0) + (if v = G m then (if (us m && S (G m)) = true then 1 else 0) else 0) := fun v _ => by
      show (if S v = true then edN m G us v + (if (us m && decide (G m = v)) = true then 1 else 0) else 0) = _
      by_cases c : v = G m
      · subst c
        cases us m <;> cases S (G m) <;> simp
      · have c2 : ¬ G m = v := fun x => c x.symm
        rw [if_neg c, decide_eq_false c2, Bool.and_false]
        cases S v <;> simp
    rw [nsm_cg n e, nsm_two, nsm_ct us G S n m (fun i hi => h i (by omega)), nsm_one, if_pos (h m (by omega))]
    rfl
/-- A net: each edge leads on. -/
structure Nt (n m : Nat) (F T : Nat → Nat) : Prop where
  up : ∀ i, i < m → F i < T i
  lt : ∀ i, i < m → T i < n
/-- k ways from the source to a node. -/
def Flw (m : Nat) (F T : Nat → Nat) (us : Nat → Bool) (t k : Nat) : Prop := ∀ v, edN m F us v + (if v = t then k else 0) = edN m T us v + (if v = 0 then k else 0)
/-- And one from x. -/
def Bal (m : Nat) (F T : Nat → Nat) (us : Nat → Bool) (x t k : Nat) : Prop := ∀ v, edN m F us v + (if v = t then k + 1 else 0) = edN m T us v + (if v = 0 then k else 0) + (if v = x then 1 else 0)
def frF (F T : Nat → Nat) (us : Nat → Bool) (e : Nat) : Nat := if us e = true then T e else F e
def frT (F T : Nat → Nat) (us : Nat → Bool) (e : Nat) : Nat := if us e = true then F e else T e
theorem Flw.none (m : Nat) (F T : Nat → Nat) (t : Nat) : Flw m F T (fun _ => false) t 0 := fun v => by
  have h : ∀ G, edN m G (fun _ => false) v = 0 := fun G => ct_none m (fun i _ => rfl)
  rw [h, h]
  split <;> split <;> rfl
theorem Flw.start {m : Nat} {F T : Nat → Nat} {us : Nat → Bool} {t k : Nat} (h : Flw m F T us t k) : Bal m F T us t t k := fun v => by
  have h1 := h v
  by_cases c : v = t
  · rw [if_pos c] at h1 ⊢; rw [if_pos c]; omega
  · rw [if_neg c] at h1 ⊢; rw [if_neg c]; omega
theorem Bal.done {m : Nat} {F T : Nat → Nat} {us : Nat → Bool} {t k : Nat} (h : Bal m F T us 0 t k) : Flw m F T us t (k + 1) := fun v => by
  have h1 := h v
  by_cases c : v = 0
  · rw [if_pos c, if_pos c] at h1; rw [if_pos c]; omega
  · rw [if_neg c, if_neg c] at h1; rw [if_neg c]; omega
theorem ed_if (a v : Nat) : (if decide (a = v) = true then 1 else 0) = if v = a then 1 else 0 := by
  by_cases c : a = v
  · rw [if_pos (decide_eq_true c), if_pos c.symm]
  · rw [if_neg (by rw [decide_eq_true_eq]; exact c), if_neg (fun q => c q.symm)]
theorem ed_on {m : Nat} {G : Nat → Nat} {us : Nat → Bool} {e : Nat} (he : e < m) (hu : us e = false) (v : Nat) : edN m G (tgl us e) v = edN m G us v + if v = G e then 1 else 0 := by
  have h := nf_tgl (us := us) (p := fun i => decide (G i = v)) m he
  rw [hu, Bool.false_and, if_neg (by intro q; cases q), Bool.not_false, Bool.true_and] at h
  unfold edN
  rw [show ct (fun i => tgl us e i && decide (G i = v)) m = _ from h]
  rw [ed_if]
theorem ed_off {m : Nat} {G : Nat → Nat} {us : Nat → Bool} {e : Nat} (he : e < m) (hu : us e = true) (v : Nat) : edN m G (tgl us e) v + (if v = G e then 1 else 0) = edN m G us v := by
  have h := nf_tgl (us := us) (p := fun i => decide (G i = v)) m he
  rw [hu, Bool.true_and, Bool.not_true, Bool.false_and, if_neg (c := false = true) (by intro q; cases q)] at h
  unfold edN
  rw [show ct (fun i => us i && decide (G i = v)) m = _ from h.symm]
  rw [ed_if]
theorem Bal.step {m : Nat} {F T : Nat → Nat} {us : Nat → Bool} {x t k e : Nat} (h : Bal m F T us x t k) (he : e < m) (hx : frT F T us e = x) : Bal m F T (tgl us e) (frF F T us e) t k := fun v => by
  have h1 := h v
  unfold frT at hx
  unfold frF
  cases hu : us e with
  | true =>
    rw [hu, if_pos rfl] at hx
    rw [if_pos rfl]
    have h2 := ed_off (G := F) he hu v
    have h3 := ed_off (G := T) he hu v
    rw [← hx] at h1
    omega
  | false =>
    rw [hu, if_neg (show ¬ (false = true) by decide)] at hx
    rw [if_neg (show ¬ (false = true) by decide)]
    have h2 := ed_on (G := F) he hu v
    have h3 := ed_on (G := T) he hu v
    rw [← hx] at h1
    omega
theorem fr_imp {F T : Nat → Nat} {us S : Nat → Bool} {e : Nat} : (S (frF F T us e) = true → S (frT F T us e) = true) ↔ ((us e && S (T e)) && !S (F e)) = false ∧ ((!us e && S (F e)) && !S (T e)) = false := by
  unfold frF frT
  cases us e with
  | true =>
    rw [if_pos rfl, if_pos rfl]
    cases S (F e) <;> cases S (T e) <;> simp
  | false =>
    rw [if_neg (by intro q; cases q), if_neg (by intro q; cases q)]
    cases S (F e) <;> cases S (T e) <;> simp
/-- How many edges lead out of a set. -/
def cpS (m : Nat) (F T : Nat → Nat) (S : Nat → Bool) : Nat := ct (fun i => S (F i) && !S (T i)) m
theorem Flw.sum {n m : Nat} {F T : Nat → Nat} {us : Nat → Bool} {t k : Nat} (hN : Nt n m F T) (hn : 0 < n) (h : Flw m F T us t k) {S : Nat → Bool} (h0 : S 0 = true) (ht : S t = false) : ct (fun i => us i && S (F i)) m = ct (fun i => us i && S (T i)) m + k := by
  rw [← nsm_ct us F S n m (fun i hi => by have := hN.up i hi; have := hN.lt i hi; omega), ← nsm_ct us T S n m (fun i hi => hN.lt i hi)]
  have e : ∀ v, v < n → (if S v = true then edN m F us v else 0) = (if S v = true then edN m T us v else 0) + (if v = 0 then k else 0) := fun v _ => by
    have h1 := h v
    by_cases c : v = t
    · rw [c, ht]
      have : t ≠ 0 := fun q => by rw [q, h0] at ht; cases ht
      rw [if_neg this]; rfl
    · rw [if_neg c] at h1
      by_cases d : v = 0
      · subst d; rw [if_pos h0, if_pos h0, if_pos rfl]; rw [if_pos rfl] at h1; omega
      · rw [if_neg d] at h1 ⊢; rw [show edN m F us v = edN m T us v by omega]; omega
  rw [nsm_cg n e, nsm_two, nsm_one, if_pos hn]
theorem Flw.cut {n m : Nat} {F T : Nat → Nat} {us : Nat → Bool} {t k : Nat} (hN : Nt n m F T) (hn : 0 < n) (h : Flw m F T us t k) {S : Nat → Bool} (h0 : S 0 = true) (ht : S t = false) :
    ct (fun i => (us i && S (F i)) && !S (T i)) m = ct (fun i => (us i && S (T i)) && !S (F i)) m + k := by
  have h1 := h.sum hN hn h0 ht
  have h2 := nf_part (fun i => us i && S (F i)) (fun i => S (T i)) m
  have h3 := nf_part (fun i => us i && S (T i)) (fun i => S (F i)) m
  have h4 : ct (fun i => (us i && S (F i)) && S (T i)) m = ct (fun i => (us i && S (T i)) && S (F i)) m := nf_cg m (fun i _ => by cases us i <;> cases S (F i) <;> cases S (T i) <;> rfl)
  omega
theorem Flw.le {n m : Nat} {F T : Nat → Nat} {us : Nat → Bool} {t k : Nat} (hN : Nt n m F T) (hn : 0 < n) (h : Flw m F T us t k) {S : Nat → Bool} (h0 : S 0 = true) (ht : S t = false) : k ≤ cpS m F T S := by
  have h1 := h.cut hN hn h0 ht
  have h2 : ct (fun i => (us i && S (F i)) && !S (T i)) m ≤ cpS m F T S := nf_le m (fun i _ q => by revert q; cases us i <;> cases S (F i) <;> cases S (T i) <;> simp)
  omega
theorem Flw.tight {n m : Nat} {F T : Nat → Nat} {us : Nat → Bool} {t k : Nat} (hN : Nt n m F T) (hn : 0 < n) (h : Flw m F T us t k) {S : Nat → Bool} (h0 : S 0 = true) (ht : S t = false) (hk : cpS m F T S = k) : ∀ e, e < m → S (frF F T us e) = true → S (frT F T us e) = true := fun e he hf => by
  have h1 := h.cut hN hn h0 ht
  have h2 : ct (fun i => (us i && S (F i)) && !S (T i)) m ≤ cpS m F T S := nf_le m (fun i _ q => by revert q; cases us i <;> cases S (F i) <;> cases S (T i) <;> simp)
  have h3 : ct (fun i => (us i && S (T i)) && !S (F i)) m = 0 := by omega
  have h4 : ct (fun i => (us i && S (F i)) && !S (T i)) m = cpS m F T S := by omega
  have a1 : ((us e && S (T e)) && !S (F e)) = false := nf_nil m h3 e he
  have a2 : (S (F e) && !S (T e)) = true → ((us e && S (F e)) && !S (T e)) = true := nf_eq (p := fun i => (us i && S (F i)) && !S (T i)) (q := fun i => S (F i) && !S (T i)) m (fun i _ q => by revert q; cases us i <;> cases S (F i) <;> cases S (T i) <;> simp) h4 e he
  refine fr_imp.2 ⟨a1, ?_⟩ hf
  revert a2
  cases us e <;> cases S (F e) <;> cases S (T e) <;> simp
/-- What is reached by edges that are free. -/
structure Rch (m : Nat) (F T : Nat → Nat) (us : Nat → Bool) (L : List Nat) (bt : Nat → Nat) : Prop where
  hd : ∃ L', L = 0 :: L'
  nd : L.Nodup
  by' : ∀ v, v ∈ L → v ≠ 0 → bt v < m ∧ frT F T us (bt v) = v ∧ frF F T us (bt v) ∈ L ∧ L.idxOf (frF F T us (bt v)) < L.idxOf v
  cl : ∀ e, e < m → frF F T us e ∈ L → frT F T us e ∈ L
theorem Rch.zero {m : Nat} {F T : Nat → Nat} {us : Nat → Bool} {L : List Nat} {bt : Nat → Nat} (h : Rch m F T us L bt) : 0 ∈ L := by
  obtain ⟨L', e⟩ := h.hd
  rw [e]; exact List.mem_cons_self
theorem Rch.least {m : Nat} {F T : Nat → Nat} {us : Nat → Bool} {L : List Nat} {bt : Nat → Nat} (h : Rch m F T us L bt) {S : Nat → Bool} (h0 : S 0 = true) (hc : ∀ e, e < m → S (frF F T us e) = true → S (frT F T us e) = true) : ∀ r v, L.idxOf v < r → v ∈ L → S v = true
  | 0, _, hr, _ => absurd hr (by omega)
  | r + 1, v, hr, hv => by
    by_cases e : v = 0
    · rw [e]; exact h0
    · obtain ⟨h1, h2, h3, h4⟩ := h.by' v hv e
      have := h.least h0 hc r (frF F T us (bt v)) (by omega) h3
      rw [← h2]
      exact hc _ h1 this
theorem Rch.sub {m : Nat} {F T : Nat → Nat} {us : Nat → Bool} {L : List Nat} {bt : Nat → Nat} (h : Rch m F T us L bt) {S : Nat → Bool} (h0 : S 0 = true) (hc : ∀ e, e < m → S (frF F T us e) = true → S (frT F T us e) = true) {v : Nat} (hv : v ∈ L) : S v = true := h.least h0 hc _ v (Nat.lt_succ_self _) hv
theorem fr_lt {n m : Nat} {F T : Nat → Nat} {us : Nat → Bool} (hN : Nt n m F T) {e : Nat} (he : e < m) : frF F T us e < n ∧ frT F T us e < n := by
  have h1 := hN.up e he
  have h2 := hN.lt e he
  unfold frF frT
  split <;> omega
theorem Rch.lt {n m : Nat} {F T : Nat → Nat} {us : Nat → Bool} {L : List Nat} {bt : Nat → Nat} (hN : Nt n m F T) (hn : 0 < n) (h : Rch m F T us L bt) {v : Nat} (hv : v ∈ L) : v < n := by
  by_cases e : v = 0
  · omega
  · obtain ⟨h1, h2, _, _⟩ := h.by' v hv e
    rw [← h2]; exact (fr_lt hN h1).2
/-- The set as truths. -/
def inL (L : List Nat) : Nat → Bool := fun v => L.contains v
theorem inL_yes {L : List Nat} {v : Nat} : inL L v = true ↔ v ∈ L := List.contains_iff_mem
theorem Rch.tight {n m : Nat} {F T : Nat → Nat} {us : Nat → Bool} {t k : Nat} {L : List Nat} {bt : Nat → Nat} (hN : Nt n m F T) (hn : 0 < n) (h : Flw m F T us t k) (hR : Rch m F T us L bt) (ht : t ∉ L) : cpS m F T (inL L) = k := by
  have h1 := h.cut hN hn (S := inL L) (inL_yes.2 hR.zero) (by cases c : inL L t with | false => rfl | true => exact absurd (inL_yes.1 c) ht)
  have cl : ∀ e, e < m → inL L (frF F T us e) = true → inL L (frT F T us e) = true := fun e he q => inL_yes.2 (hR.cl e he (inL_yes.1 q))
  have h3 : ct (fun i => (us i && inL L (T i)) && !inL L (F i)) m = 0 := ct_none m (fun i hi => (fr_imp.1 (cl i hi)).1)
  have h4 : ct (fun i => (us i && inL L (F i)) && !inL L (T i)) m = cpS m F T (inL L) := nf_cg m (fun i hi => by
    have a := (fr_imp.1 (cl i hi)).2
    revert a
    cases us i <;> cases inL L (F i) <;> cases inL L (T i) <;> simp)
  omega
/-- Where all edges are ways. -/
theorem Flw.all {n m : Nat} {F T : Nat → Nat} {us : Nat → Bool} {t : Nat} {L : List Nat} {bt : Nat → Nat} (hN : Nt n m F T) (h : Flw m F T us t m) (h0 : t ≠ 0) (hR : Rch m F T us L bt) : t ∉ L := fun hv => by
  have h1 := h 0
  rw [if_neg (fun q => h0 q.symm), if_pos rfl] at h1
  have h2 : edN m F us 0 ≤ m := nf_top _ m
  have h3 : edN m F us 0 = m := by omega
  have h4 := nf_full m h3
  have := hR.sub (S := fun v => decide (v = 0)) rfl (fun e he q => by
    exfalso
    have a := h4 e he
    have b := hN.up e he
    simp only [Bool.and_eq_true, decide_eq_true_eq] at a q
    unfold frF at q
    rw [if_pos a.1] at q
    omega) hv
  simp at this
  exact h0 this
end Go.Proofs.YtbnkekeeceicaaaGreat
