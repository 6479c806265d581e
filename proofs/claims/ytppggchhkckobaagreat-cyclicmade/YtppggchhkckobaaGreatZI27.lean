/- Texts of ours, one behind the other: I27 I28 I29 I30 I31 S13 S14 S15 S16 S17 S18 I32 I33 I34 I35 I36 K6 K7 K8 W12 K9 E7 I37 S19 I38 I39 I40 I41 G2 S20 KA1 KA2 KA3 KA4 KA5 KA6 KA7 KA8 KA9 KA10 KA11 KB1 S21 KB2 S22 KB3 KB5 KB6 KB7 S23 S24 S25 S27 S28 KD1. -/
import Derived.Test.YtppggchhkckobaaGreatZI12
import Derived.Lib.AppendZerosOnto
import Derived.Test.YtppggchhkckobaaGreatZI1
import Derived.Test.YtppggchhkckobaaGreatZX18
import Derived.Test.YtppggchhkckobaaGreatZX11
import Derived.Test.YtppggchhkckobaaGreatZT1
import Derived.Test.YtppggchhkckobaaGreatZU8
import Derived.Test.YtppggchhkckobaaGreatZU2
import Derived.Test.YtppggchhkckobaaGreatZV7
import Derived.Test.YtppggchhkckobaaGreatZA1
import Derived.Test.YtppggchhkckobaaGreatZD1
import Derived.Test.YtppggchhkckobaaGreatZM3
import Derived.Deep.CutBlock
import Derived.Deep.DeepCutAuto
import Derived.Test.YtppggchhkckobaaGreatZR5
import Derived.Laws.EntriesVeiled
import Derived.Test.YtppggchhkckobaaGreatZL1
import Derived.Test.YtppggchhkckobaaGreatZV2
namespace Go.Proofs.YtppggchhkckobaaGreat
open Go.RowKit Go.Sort
end Go.Proofs.YtppggchhkckobaaGreat
namespace Go.Proofs.YtppggchhkckobaaGreat
theorem lcR_spn {D : FD} (F : Fld D) {K : Nat} {R : Nat → Nat → Nat} (p v : Nat → Nat) (hR : ∀ i,i < K → El D (R i)) : ∀ k,k ≤ K → Spn D (RowsOf K R) (lcR D R p v k)
 | 0,_ => spn_nil D _
 | k + 1,h => spn_add F (lcR_spn F p v hR k (by omega)) (spn_scale F _ (spn_mem F (hR k (by omega)) ⟨k,by omega,rfl⟩))
theorem lcR_own {D : FD} (F : Fld D) {K : Nat} {R : Nat → Nat → Nat} {p v : Nat → Nat} (hv : El D v) (ho : ∀ i j,i < K → j < K → R i (p j) = if i = j then 1 else 0) {j : Nat} (hj : j < K) : ∀ k,k ≤ K → lcR D R p v k (p j) = if j < k then v (p j) else 0
 | 0,_ => by rw [if_neg (by omega)]; rfl
 | k + 1,h => by
   show D.ad (lcR D R p v k (p j)) (D.mul (v (p k)) (R k (p j))) = _
   rw [lcR_own F hv ho hj k (by omega),ho k j (by omega) hj]
   by_cases e : k = j
   · subst e
     rw [if_neg (by omega),if_pos rfl,if_pos (by omega),mul1 F (hv _),zero_ad F (hv _)]
   · rw [if_neg e,mul0 F]
     by_cases e2 : j < k
     · rw [if_pos e2,if_pos (by omega),ad_zero F (hv _)]
     · rw [if_neg e2,if_neg (by omega),ad_zero F (zero_lt' F)]
theorem dot_only {D : FD} (F : Fld D) {a b : Nat → Nat} {t : Nat} : ∀ n,t < n → (∀ j,j < n → j ≠ t → D.mul (a j) (b j) = 0) → dot D a b n = D.mul (a t) (b t)
 | 0,h,_ => absurd h (by omega)
 | n + 1,h,hz => by
   show D.ad (dot D a b n) (D.mul (a n) (b n)) = _
   by_cases e : n = t
   · subst e
     have h0 : ∀ m,m ≤ n → dot D a b m = 0 := fun m => by
       induction m with
       | zero => intro _; rfl
       | succ m ih =>
         intro hm
         show D.ad (dot D a b m) (D.mul (a m) (b m)) = 0
         rw [ih (by omega),hz m (by omega) (by omega),ad_zero F (zero_lt' F)]
     rw [h0 n (Nat.le_refl _),zero_ad F (F.mul_lt _ _)]
   · rw [hz n (by omega) e,ad_zero F (dot_lt F _ _ _)]
     exact dot_only F n (by omega) (fun j hj => hz j (by omega))
theorem fcs_all {k : Nat} {p : Nat → Nat} {c : Nat} (hc : ∀ i,i < k → p i ≠ c) : ∀ n,c < n → ∃ i,i < nct k p n ∧ fcs k p n i = c
 | 0,h => absurd h (by omega)
 | n + 1,h => by
   by_cases e : c = n
   · subst e
     exact ⟨nct k p c,by rw [nct_yes hc]; omega,fcs_at k p c⟩
   · obtain ⟨i,hi,hf⟩ := fcs_all hc n (by omega)
     refine ⟨i, ?_,by rw [fcs_lo hi]; exact hf⟩
     by_cases h2 : ∀ i,i < k → p i ≠ n
     · rw [nct_yes h2]; omega
     · rw [nct_no h2]; exact hi
theorem dot_nrv {D : FD} (F : Fld D) {n k : Nat} {R : Nat → Nat → Nat} {p : Nat → Nat} (h : RRE D n k R p) {i c : Nat} (hi : i < k) (hc : c < n) (hf : ∀ j,j < k → p j ≠ c) : ∀ r,r ≤ k → dot D (R i) (nrv D R p c r) n = if i < r then 0 else R i c
 | 0,_ => by rw [if_neg (by omega)]; exact dot_unit F (h.el i hi c) hc
 | r + 1,hr => by
   have e : nrv D R p c (r + 1) = fun t => if t = p r then D.ng (R r c) else nrv D R p c r t := rfl
   have h0 : nrv D R p c r (p r) = 0 := by
     rw [nrv_free r (fun j hj e => by have := h.mono j r hj (by omega); omega),if_neg (hf r (by omega))]
   rw [e,dot_put F h0 n (h.lt r (by omega)),dot_nrv F h hi hc hf r (by omega)]
   by_cases e2 : i = r
   · subst e2
     rw [if_neg (by omega),if_pos (by omega),h.one i hi,omul F (ng_lt F (h.el i hi c)),ad_ng F (h.el i hi c)]
   · rw [h.zero i r hi (by omega) e2,zmul F]
     by_cases e3 : i < r
     · rw [if_pos e3,if_pos (by omega),ad_zero F (zero_lt' F)]
     · rw [if_neg e3,if_neg (by omega),ad_zero F (h.el i hi c)]
theorem nul_orth {D : FD} (F : Fld D) {n k : Nat} {R : Nat → Nat → Nat} {p : Nat → Nat} (h : RRE D n k R p) {i j : Nat} (hi : i < k) (hj : j < nct k p n) : dot D (R i) (nul D R p k n j) n = 0 := by
 have h1 := fcs_ok n j hj
 have h2 := dot_nrv F h hi h1.1 h1.2 k (Nat.le_refl _)
 rw [if_pos hi] at h2
 exact h2
theorem orth_nul {D : FD} (F : Fld D) {n k : Nat} {R : Nat → Nat → Nat} {p : Nat → Nat} (h : RRE D n k R p) {v : Nat → Nat} (hv : El D v) (hb : Bd n v) (ho : ∀ i,i < k → dot D (R i) v n = 0) : Spn D (RowsOf (nct k p n) (nul D R p k n)) v := by
 have hs := lcR_spn F (K := nct k p n) (R := nul D R p k n) (fcs k p n) v (fun i _ => nul_el F h.el n i) (nct k p n) (Nat.le_refl _)
 obtain ⟨s,hse⟩ : ∃ s,s = lcR D (nul D R p k n) (fcs k p n) v (nct k p n) := ⟨_,rfl⟩
 rw [← hse] at hs
 have hsel : El D s := hs.el F
 have hu : ∀ c,D.sb (v c) (s c) = 0 := by
   have horth : ∀ i,i < k → dot D (R i) (psub D v s) n = 0 := fun i hi => by
     have e : dot D v (R i) n = 0 := by rw [dot_comm F]; exact ho i hi
     have e2 : dot D s (R i) n = 0 := dot_spn F hs (fun x ⟨j,hj,hx⟩ => by rw [hx,dot_comm F]; exact nul_orth F h hi hj)
     have e3 : psub D v s = padd D v (pscale D (D.ng 1) s) := by
       funext c
       show D.sb (v c) (s c) = D.ad (v c) (D.mul (D.ng 1) (s c))
       rw [F.mul_comm,mul_ng F (one_lt' F),mul1 F (hsel c)]; rfl
     rw [dot_comm F,e3,dot_add F hv (el_scale F _ _),dot_scale F,e,e2,mul0 F,ad_zero F (zero_lt' F)]
   have hfree : ∀ c,c < n → (∀ j,j < k → p j ≠ c) → D.sb (v c) (s c) = 0 := fun c hc hf => by
     obtain ⟨j,hj,ej⟩ := fcs_all hf n hc
     have h1 := lcR_own F (K := nct k p n) (R := nul D R p k n) (p := fcs k p n) hv (fun a b ha hb => nul_one ha hb) hj (nct k p n) (Nat.le_refl _)
     rw [if_pos hj,ej, ← hse] at h1
     rw [h1,sb_self F (hv c)]
   intro c
   by_cases hc : c < n
   · by_cases hf : ∀ j,j < k → p j ≠ c
     · exact hfree c hc hf
     · obtain ⟨i,hi,e⟩ : ∃ i,i < k ∧ p i = c := Classical.byContradiction (fun hn => hf (fun j hj e => hn ⟨j,hj,e⟩))
       subst e
       have h1 := dot_only F (a := R i) (b := psub D v s) n (h.lt i hi) (fun j hj hne => by
         by_cases hf2 : ∀ l,l < k → p l ≠ j
         · show D.mul (R i j) (D.sb (v j) (s j)) = 0
           rw [hfree j hj hf2,mul0 F]
         · obtain ⟨l,hl,e⟩ : ∃ l,l < k ∧ p l = j := Classical.byContradiction (fun hn => hf2 (fun j hj e => hn ⟨j,hj,e⟩))
           subst e
           rw [h.zero i l hi hl (fun e => hne (by rw [e])),zmul F])
       rw [horth i hi,h.one i hi] at h1
       have h2 : D.mul 1 (D.sb (v (p i)) (s (p i))) = 0 := h1.symm
       rw [omul F (sb_lt F (hv _) (hsel _))] at h2
       exact h2
   · have h1 : s c = 0 := by
       have hsb : ∀ k',k' ≤ nct k p n → lcR D (nul D R p k n) (fcs k p n) v k' c = 0 := fun k' hk' => lcR_at F _ _ _ c k' (fun i hi => by rw [nul_bd h.lt (by omega) c (by omega),mul0 F])
       rw [hse]; exact hsb _ (Nat.le_refl _)
     rw [h1,hb c (by omega),sb_self F (zero_lt' F)]
 have e : v = s := by
   funext c
   exact sb_eq_zero F (hv c) (hsel c) (hu c)
 rw [e]; exact hs
theorem Dul.iff {D : FD} (F : Fld D) {n m k2 : Nat} {M R2 : Nat → Nat → Nat} (h : Dul D n m M k2 R2) (hM : ∀ i,i < m → El D (M i)) (v : Nat → Nat) : Spn D (RowsOf k2 R2) v ↔ El D v ∧ Bd n v ∧ ∀ i,i < m → dot D (M i) v n = 0 := by
 obtain ⟨k,R,p,p2,h1,h2,h3,h4,_⟩ := h
 rw [h4 v]
 constructor
 · intro hs
   refine ⟨hs.el F, ?_,fun i hi => ?_⟩
   · exact spn_ind (Q := Bd n) (fun _ _ => rfl) (fun u w hu hw c hc => by show D.ad (u c) (w c) = 0; rw [hu c hc,hw c hc,ad_zero F (zero_lt' F)]) (fun s u hu c hc => by show D.mul s (u c) = 0; rw [hu c hc,mul0 F]) (fun u ⟨j,hj,e⟩ => by rw [e]; exact nul_bd h1.lt hj) hs
   · have hMi := (h2 _).2 (spn_mem F (hM i hi) ⟨i,hi,rfl⟩)
     refine dot_spn F hMi (fun u ⟨j,hj,e⟩ => ?_)
     rw [e,dot_comm F]
     exact dot_spn F hs (fun x ⟨l,hl,ex⟩ => by rw [ex,dot_comm F]; exact nul_orth F h1 hj hl)
 · rintro ⟨he,hb,ho⟩
   refine orth_nul F h1 he hb (fun i hi => ?_)
   have hRi := (h2 _).1 (spn_mem F (h1.el i hi) ⟨i,hi,rfl⟩)
   exact dot_spn F hRi (fun u ⟨j,hj,e⟩ => by rw [e]; exact ho j hj)
end Go.Proofs.YtppggchhkckobaaGreat
namespace Go.Proofs.YtppggchhkckobaaGreat
end Go.Proofs.YtppggchhkckobaaGreat
namespace Go.Proofs.YtppggchhkckobaaGreat
end Go.Proofs.YtppggchhkckobaaGreat
namespace Go.Proofs.YtppggchhkckobaaGreat
theorem RRE.take {D : FD} {n k j : Nat} {R : Nat → Nat → Nat} {p : Nat → Nat} (h : RRE D n k R p) (hj : j ≤ k) : RRE D n j R p :=
 ⟨fun i hi => h.el i (by omega),fun i hi => h.bd i (by omega),fun i hi => h.lt i (by omega),fun a b h1 h2 => h.mono a b h1 (by omega),fun i hi => h.one i (by omega),fun a b h1 h2 => h.zero a b (by omega) (by omega),fun i c hi => h.lead i c (by omega)⟩
theorem orth_back {D : FD} (F : Fld D) {n k : Nat} {R : Nat → Nat → Nat} {p : Nat → Nat} (h : RRE D n k R p) {v : Nat → Nat} (hv : El D v) (hb : Bd n v) (ho : ∀ j,j < nct k p n → dot D (nul D R p k n j) v n = 0) : Spn D (RowsOf k R) v := by
 have hs := lcR_spn F (K := k) (R := R) p v h.el k (Nat.le_refl _)
 obtain ⟨s,hse⟩ : ∃ s,s = lcR D R p v k := ⟨_,rfl⟩
 rw [← hse] at hs
 have hsel : El D s := hs.el F
 have hpiv : ∀ i,i < k → D.sb (v (p i)) (s (p i)) = 0 := fun i hi => by
   have h1 := lcR_own F (K := k) (R := R) (p := p) hv (fun a b ha hb => by
     by_cases e : a = b
     · subst e; rw [if_pos rfl,h.one a ha]
     · rw [if_neg e,h.zero a b ha hb e]) hi k (Nat.le_refl _)
   rw [if_pos hi, ← hse] at h1
   rw [h1,sb_self F (hv _)]
 have horth : ∀ j,j < nct k p n → dot D (nul D R p k n j) (psub D v s) n = 0 := fun j hj => by
   have e : dot D v (nul D R p k n j) n = 0 := by rw [dot_comm F]; exact ho j hj
   have e2 : dot D s (nul D R p k n j) n = 0 := dot_spn F hs (fun x ⟨i,hi,hx⟩ => by rw [hx]; exact nul_orth F h hi hj)
   have e3 : psub D v s = padd D v (pscale D (D.ng 1) s) := by
     funext c
     show D.sb (v c) (s c) = D.ad (v c) (D.mul (D.ng 1) (s c))
     rw [F.mul_comm,mul_ng F (one_lt' F),mul1 F (hsel c)]; rfl
   rw [dot_comm F,e3,dot_add F hv (el_scale F _ _),dot_scale F,e,e2,mul0 F,ad_zero F (zero_lt' F)]
 have hu : ∀ c,D.sb (v c) (s c) = 0 := fun c => by
   by_cases hc : c < n
   · by_cases hf : ∀ j,j < k → p j ≠ c
     · obtain ⟨j,hj,ej⟩ := fcs_all hf n hc
       subst ej
       have h1 := dot_only F (a := nul D R p k n j) (b := psub D v s) n hc (fun t ht hne => by
         by_cases hf2 : ∀ l,l < k → p l ≠ t
         · obtain ⟨l,hl,el⟩ := fcs_all hf2 n ht
           subst el
           rw [nul_one hj hl,if_neg (fun e => hne (by rw [e])),zmul F]
         · obtain ⟨l,hl,e⟩ : ∃ l,l < k ∧ p l = t := Classical.byContradiction (fun hn => hf2 (fun j hj e => hn ⟨j,hj,e⟩))
           subst e
           show D.mul _ (D.sb (v (p l)) (s (p l))) = 0
           rw [hpiv l hl,mul0 F])
       rw [horth j hj,nul_one hj hj,if_pos rfl] at h1
       have h2 : D.mul 1 (D.sb (v (fcs k p n j)) (s (fcs k p n j))) = 0 := h1.symm
       rw [omul F (sb_lt F (hv _) (hsel _))] at h2
       exact h2
     · obtain ⟨i,hi,e⟩ : ∃ i,i < k ∧ p i = c := Classical.byContradiction (fun hn => hf (fun j hj e => hn ⟨j,hj,e⟩))
       rw [← e]; exact hpiv i hi
   · have h1 : s c = 0 := by rw [hse]; exact lcR_at F _ _ _ c k (fun i hi => by rw [h.bd i hi c (by omega),mul0 F])
     rw [h1,hb c (by omega),sb_self F (zero_lt' F)]
 have e : v = s := by
   funext c
   exact sb_eq_zero F (hv c) (hsel c) (hu c)
 rw [e]; exact hs
theorem Dul.back {D : FD} (F : Fld D) {n m k2 : Nat} {M R2 : Nat → Nat → Nat} (h : Dul D n m M k2 R2) (hM : ∀ i,i < m → El D (M i) ∧ Bd n (M i)) (v : Nat → Nat) : Spn D (RowsOf m M) v ↔ El D v ∧ Bd n v ∧ ∀ i,i < k2 → dot D (R2 i) v n = 0 := by
 have hR2 := h.rows
 have i2 := h.iff F (fun i hi => (hM i hi).1)
 obtain ⟨k,R,p,p2,h1,h2,h3,h4,e2⟩ := h
 constructor
 · intro hv
   refine ⟨hv.el F, ?_,fun i hi => ?_⟩
   · exact spn_ind (Q := Bd n) (fun _ _ => rfl) (fun u w hu hw c hc => by show D.ad (u c) (w c) = 0; rw [hu c hc,hw c hc,ad_zero F (zero_lt' F)]) (fun s u hu c hc => by show D.mul s (u c) = 0; rw [hu c hc,mul0 F]) (fun u ⟨j,hj,e⟩ => by rw [e]; exact (hM j hj).2) hv
   · rw [dot_comm F]
     refine dot_spn F hv (fun x ⟨j,hj,e⟩ => ?_)
     rw [e]
     exact ((i2 (R2 i)).1 (spn_mem F (hR2.1 i hi) ⟨i,hi,rfl⟩)).2.2 j hj
 · rintro ⟨he,hb,ho⟩
   refine (h2 v).1 (orth_back F h1 he hb (fun j hj => ?_))
   have hn := (h4 _).2 (spn_mem F (nul_el F h1.el n j) ⟨j,hj,rfl⟩)
   exact dot_spn F hn (fun x ⟨i,hi,e⟩ => by rw [e]; exact ho i hi)
end Go.Proofs.YtppggchhkckobaaGreat
namespace Go.Proofs.YtppggchhkckobaaGreat
end Go.Proofs.YtppggchhkckobaaGreat
namespace Go.Proofs.YtppggchhkckobaaGreat
end Go.Proofs.YtppggchhkckobaaGreat
namespace Go.Proofs.YtppggchhkckobaaGreat
open Go.RowKit Go.Sort
def Cod (D : FD) (n : Nat) (ao : Option Addr) (m : Nat) (M : Nat → Nat → Nat) (w : World) : Prop := ∃ A N C Z,CdZ D ao m n A N C Z w ∧ ∀ i,i < m → mzc N Z i = M i
theorem Cod.below {D : FD} {n m : Nat} {ao : Option Addr} {M : Nat → Nat → Nat} {w w' : World} (h : Cod D n ao m M w) (hb : Below w.heap.size w w') : Cod D n ao m M w' := by
 obtain ⟨A,N,C,Z,h1,h2⟩ := h
 exact ⟨A,N,C,Z,h1.below hb,h2⟩
theorem Cod.rows {D : FD} (F : Fld D) {n m : Nat} {ao : Option Addr} {M : Nat → Nat → Nat} {w : World} (h : Cod D n ao m M w) : m ≤ 64 ∧ (1 ≤ n ∧ n ≤ 64) ∧ ∀ i,i < m → El D (M i) ∧ Bd n (M i) := by
 obtain ⟨A,N,C,Z,h1,h2⟩ := h
 obtain ⟨g1,g2,g3,_⟩ := h1.rows F
 exact ⟨g1,⟨h1.n1,h1.n64⟩,fun i hi => by rw [← h2 i hi]; exact ⟨g2 i hi,g3 i hi⟩⟩
theorem Cod.chk {D : FD} (hD : D ∈ fieldsL) {n m : Nat} (ca : Nat) {ao : Option Addr} {M : Nat → Nat → Nat} {w : World} (h : Cod D n ao m M w) (wx : World) (hx : Below w.heap.size w wx) :
   Calls Tryz.prog 96 #[.agg #[.int .i64 D.q, .int .i64 (n : Nat), .slice ao m ca]] wx fun x w' => x = .returned (.int .i64 0) ∧ Below wx.heap.size wx w' := by
 obtain ⟨A,N,C,Z,h1,_⟩ := h.below hx
 have e : D.cchk (n : Nat) m N Z = 0 := by
   have a1 := h1.n1
   have a2 := h1.n64
   unfold FD.cchk
   rw [if_neg (by omega),h1.chk,if_neg (fun h => h rfl),if_neg]
   rintro ⟨b1,b2⟩
   exact b2 (by rw [h1.wd b1])
 have := ccheck_any hD (ca := ca) (n : Nat) h1.mat (h1.few (fld hD))
 rw [e] at this
 exact this
theorem Red.of_eq {D : FD} {n m k : Nat} {M M' R : Nat → Nat → Nat} (h : Red D n m M k R) (e : ∀ i,i < m → M i = M' i) : Red D n m M' k R := by
 obtain ⟨p,h1,h2⟩ := h
 exact ⟨p,h1,fun v => (h2 v).trans (rows_congr e v)⟩
end Go.Proofs.YtppggchhkckobaaGreat
namespace Go.Proofs.YtppggchhkckobaaGreat
open Go
end Go.Proofs.YtppggchhkckobaaGreat
namespace Go.Proofs.YtppggchhkckobaaGreat
open Go.RowKit Go.Sort
def Wrd (n : Nat) (v : Nat → Nat) (gr c : Nat) (w : World) : Prop := Row gr n v w ∧ n ≤ c ∧ c ≤ 9223372036854775807
theorem Wrd.below {n gr c : Nat} {v : Nat → Nat} {w w' : World} (h : Wrd n v gr c w) (hb : Below w.heap.size w w') : Wrd n v gr c w' := ⟨h.1.below hb h.1.lt,h.2⟩
theorem Wrd.arg {n gr c : Nat} {v : Nat → Nat} {w : World} (h : Wrd n v gr c w) (hn : n ≤ 1000) : Arg (some ⟨gr,0,none⟩) n c (fun i => ((v i : Nat) : Int)) w :=
 ⟨slz_of (h.1.sl (Nat.le_refl _)),fun x hx => by cases hx; exact h.1.lt,by omega,(fun e => by cases e),h.2.1,h.2.2⟩
theorem blw_nchk {D : FD} {k : Nat} {y : Nat → Int} (h : Blw D.q k y) : D.nchk k y (k : Nat) = 0 := by
 unfold FD.nchk
 rw [if_neg (fun h => h rfl),if_neg]
 rw [anyB_no k (fun j hj => ?_)]
 · intro e; cases e
 · have hh : D.has (y j) = true := by
     have := h j hj
     unfold FD.has
     rw [decide_eq_true_eq]; exact this
   rw [hh]; rfl
theorem Cod.has {D : FD} (hD : D ∈ fieldsL) {n m gr c : Nat} (ca : Nat) {ao : Option Addr} {M : Nat → Nat → Nat} {v : Nat → Nat} {w : World} (h : Cod D n ao m M w) (hW : Wrd n v gr c w) (hv : El D v) (hs : Spn D (RowsOf m M) v) {k : Nat} {R : Nat → Nat → Nat} (hdu : Dul D n m M k R) :
   Calls Tryz.prog 27 #[.agg #[.int .i64 D.q, .int .i64 (n : Nat), .slice ao m ca], .slice (some ⟨gr,0,none⟩) n c] w fun x w' => x = .returned (.tuple #[.bool true, .int .i64 0]) ∧ Below w.heap.size w w' := by
 have hr := h.rows (fld hD)
 have hc := h.chk hD ca
 obtain ⟨_,hbd,hd0⟩ := (hdu.back (fld hD) hr.2.2 v).1 hs
 obtain ⟨A,N,C,Z,h1,h2⟩ := h
 have hdu2 : Dul D n m (mzc N Z) k R := hdu.of_spn (fun u => rows_congr (fun i hi => (h2 i hi).symm) u)
 have hk : D.nchk n (fun i => ((v i : Nat) : Int)) (n : Nat) = 0 := blw_nchk (fun j _ => ⟨by omega,by have := hv j; omega⟩)
 have hz : zc n (fun i => ((v i : Nat) : Int)) = v := by
   funext j
   unfold zc
   by_cases e : j < n
   · rw [if_pos e,Int.toNat_natCast]
   · rw [if_neg e,hbd j (by omega)]
 refine (cHas_ok D.q (n : Nat) (k := k) (v := fun i => dot D (R i) v n) (by have := hdu.le; omega) (fun wx hx => ?_)).mono ?_
 · have := cSyn_ok hD (h1.below hx) ((hW.below hx).arg (by omega)) hdu2 hk (fun wy hy => hc wy (bel_up' hx hy))
   rw [hz] at this
   exact this
 · rintro x w' ⟨rfl,hb⟩
   refine ⟨?_,hb⟩
   have h0 : ct (fun i => !decide (((dot D (R i) v n : Nat) : Int) = 0)) k = 0 := ct_none k (fun i hi => by
     have e := hd0 i hi
     simp [e])
   rw [h0]
   rfl
theorem Dul.red {D : FD} {n m k : Nat} {M R : Nat → Nat → Nat} (h : Dul D n m M k R) {m' : Nat} {M' : Nat → Nat → Nat} (hs : ∀ v,Spn D (RowsOf k R) v ↔ Spn D (RowsOf m' M') v) : Red D n m' M' k R := by
 obtain ⟨_,_,_,p,_,_,q1,_⟩ := h
 exact ⟨p,q1,hs⟩
theorem Dul.own {D : FD} {n m k : Nat} {M R : Nat → Nat → Nat} (h : Dul D n m M k R) : Red D n k R k R := h.red (fun _ => Iff.rfl)
end Go.Proofs.YtppggchhkckobaaGreat
namespace Go.Proofs.YtppggchhkckobaaGreat
end Go.Proofs.YtppggchhkckobaaGreat
namespace Go.Proofs.YtppggchhkckobaaGreat
open Go.RowKit Go.Sort
def UniF (K : Nat → (Nat → Nat → Nat) → Prop) : Prop := ∀ k R k' R',K k R → K k' R' → k = k' ∧ ∀ i,i < k → R i = R' i
def ToldR (S q : Int) (nn base : Nat) (K : Nat → (Nat → Nat → Nat) → Prop) (qa na : Int) (o : Option Addr) (k c : Nat) (w : World) : Prop := S = 0 → qa = q ∧ na = ((nn + 1 : Nat) : Int) ∧ k ≤ 64 ∧ ∃ R,LLs base (.slice o k c) (rl k nn R) w ∧ K k R
def ToldP (S q : Int) (nn : Nat) (K : Nat → (Nat → Nat → Nat) → Prop) (qa na : Int) (o : Option Addr) (k c : Nat) (w : World) : Prop := (S = 0 → qa = q ∧ na = ((nn + 1 : Nat) : Int) ∧ k ≤ 64 ∧ ∃ R,RL (.slice o k c) k (nn + 1) R w ∧ K k R) ∧ (S ≠ 0 → qa = 0 ∧ na = 0 ∧ o = none ∧ k = 0 ∧ c = 0)
theorem ToldR.below {S q : Int} {nn base : Nat} {K : Nat → (Nat → Nat → Nat) → Prop} {qa na : Int} {o : Option Addr} {k c : Nat} {w w' : World} (h : ToldR S q nn base K qa na o k c w) (hb : Below w.heap.size w w') : ToldR S q nn base K qa na o k c w' := fun e => by
 obtain ⟨h1,h2,h3,R,h4,h5⟩ := h e
 exact ⟨h1,h2,h3,R,h4.below hb (Nat.le_refl _),h5⟩
theorem ToldR.laid {S q : Int} {nn base : Nat} {K : Nat → (Nat → Nat → Nat) → Prop} {qa na : Int} {o : Option Addr} {k c b : Nat} {w : World} (h : ToldR S q nn base K qa na o k c w) (ht : RBt b w) (x y : Int) (u : Value) : ToldR S q nn base K qa na o k c (laid w b x y u) := fun e => by
 obtain ⟨h1,h2,h3,R,h4,h5⟩ := h e
 exact ⟨h1,h2,h3,R,h4.laid ht x y u,h5⟩
theorem ToldP.below {S q : Int} {nn : Nat} {K : Nat → (Nat → Nat → Nat) → Prop} {qa na : Int} {o : Option Addr} {k c : Nat} {w w' : World} (h : ToldP S q nn K qa na o k c w) (hb : Below w.heap.size w w') : ToldP S q nn K qa na o k c w' := ⟨fun e => by
 obtain ⟨h1,h2,h3,R,h4,h5⟩ := h.1 e
 exact ⟨h1,h2,h3,R,h4.below hb,h5⟩,h.2⟩
theorem lsame_told {S q : Int} {nn base : Nat} {K : Nat → (Nat → Nat → Nat) → Prop} (hu : UniF K) (hn : nn ≤ 1000) {qa na qb nb : Int} {o o' : Option Addr} {k c k' c' : Nat} {w : World} (hp : ToldP S q nn K qa na o k c w) (hr : ToldR S q nn base K qb nb o' k' c' w) :
   Calls Tryz.prog 22 #[.agg #[.int .i64 qa, .int .i64 na, .slice o k c], .int .i64 S, .agg #[.int .i64 qb, .int .i64 nb, .slice o' k' c'], .int .i64 S] w fun e w' => e = .returned (.bool true) ∧ Below w.heap.size w w' := by
 by_cases hS : S = 0
 · obtain ⟨rfl,rfl,h3,R,h4,h5⟩ := hp.1 hS
   obtain ⟨rfl,rfl,g3,R',g4,g5⟩ := hr hS
   obtain ⟨rfl,he⟩ := hu _ _ _ _ h5 g5
   subst hS
   exact lsame_ok _ _ h4 ((g4.rlz (by omega)).rl.congr (fun i hi => (he i hi).symm)) (by omega) (by omega)
 · obtain ⟨rfl,rfl,rfl,rfl,rfl⟩ := hp.2 hS
   exact lsame_err S hS qb nb o' k' c' w
theorem zc_natg {n : Nat} {c : Nat → Nat} (h : Bd n c) : zc n (fun j => ((c j : Nat) : Int)) = c := by
 funext j
 unfold zc
 by_cases e : j < n
 · rw [if_pos e]; simp
 · rw [if_neg e,h j (by omega)]
theorem chk_natg {D : FD} {n : Nat} {c : Nat → Nat} (h : El D c) (hn : n ≤ 128) : D.chk n (fun j => ((c j : Nat) : Int)) = 0 := by
 unfold FD.chk
 rw [if_neg (by omega),if_pos (allHas_iff.2 (fun j _ => has_of_lt (h j)))]
theorem slz_ofg {ao : Option Addr} {n : Nat} {a : Nat → Nat} {w : World} (h : Sl ao n a w) : SlZ ao n (fun i => ((a i : Nat) : Int)) w := h
def whl (D : FD) (n : Nat) : Nat → Nat := fun j => if j = n then 1 else if j = 0 then D.ng 1 else 0
theorem whl_el {D : FD} (F : Fld D) (n : Nat) : El D (whl D n) := fun j => by
 have h2 := F.q2
 unfold whl
 split
 · omega
 · split
   · exact ng_lt F (by omega)
   · omega
theorem whl_bd {D : FD} {n : Nat} : Bd (n + 1) (whl D n) := fun j hj => by
 unfold whl
 rw [if_neg (by omega),if_neg (by omega)]
theorem whl_div {D : FD} (hD : D ∈ fieldsL) {g Q : Nat → Nat} {m n K : Nat} (hm : 1 ≤ m) (eg : El D g) (bg : Bd m g) (tg : g (m - 1) ≠ 0) (hK : K + m = n + 1) (eQ : El D Q) (bQ : Bd (K + 1) Q) (tQ : Q K ≠ 0) (hQ : pmul D (K + 1) Q g = whl D n) :
   dgn g m = m ∧ dgn (D.quo (whl D n) (n + 1) g m) (n + 1 - (dgn g m - 1)) = K + 1 ∧ dgn (D.rst (whl D n) (n + 1) g m) (n + 1) = 0 := by
 have F := fld hD
 have hd : dgn g m = m := dgn_self (fun _ => tg)
 have hn : n + 1 - (m - 1) = K + 1 := by omega
 have hbg : Bd (m - 1 + 1) g := by rw [show m - 1 + 1 = m by omega]; exact bg
 have hi := iv_is hD (eg (m - 1)) tg
 have hr : divR D g (m - 1) (D.iv (g (m - 1))) (K + 1) (whl D n) = pnil := (rest_nil F eg hbg hi (whl_el F n) (by rw [show K + 1 + (m - 1) = n + 1 by omega]; exact whl_bd)).2 ⟨K + 1,Q,eQ,bQ,hQ.symm⟩
 have hq : divQ D g (m - 1) (D.iv (g (m - 1))) (K + 1) (whl D n) = Q := by
   have h1 := div_is F (b := g) (l := m - 1) (inv := D.iv (g (m - 1))) (K + 1) (whl_el F n)
   rw [hr] at h1
   refine (div_uniq F hbg tg (el_divQ F _ _) eQ (el_nil F) (el_nil F) (divQ_bd _ _) bQ (fun _ _ => rfl) (fun _ _ => rfl) (h1.trans ?_)).1
   rw [hQ]
   funext j
   show whl D n j = D.ad (whl D n j) 0
   rw [ad_zero F (whl_el F n j)]
 refine ⟨hd, ?_, ?_⟩
 · unfold FD.quo
   rw [hd,hn,hq]
   exact dgn_self (fun _ => tQ)
 · unfold FD.rst
   rw [hd,hn,hr]
   exact dgn_is (m := 0) (fun _ _ => rfl) (fun _ _ => rfl) (fun h => absurd rfl h)
end Go.Proofs.YtppggchhkckobaaGreat
namespace Go.Proofs.YtppggchhkckobaaGreat
end Go.Proofs.YtppggchhkckobaaGreat
namespace Go.Proofs.YtppggchhkckobaaGreat
open Go.RowKit
end Go.Proofs.YtppggchhkckobaaGreat
namespace Go.Proofs.YtppggchhkckobaaGreat
open Go.RowKit Go.Sort
theorem SlZ.cell {b off n : Nat} {z : Nat → Int} {w : World} (h : SlZ (some ⟨b,off,none⟩) n z w) {j : Nat} (hj : j < n) : w.cell? ⟨b,off + j,none⟩ = some (.int .i64 (z j)) := by
 obtain ⟨b',off',e,hc⟩ := h j hj
 cases e
 exact hc
end Go.Proofs.YtppggchhkckobaaGreat
namespace Go.Proofs.YtppggchhkckobaaGreat
end Go.Proofs.YtppggchhkckobaaGreat
namespace Go.Proofs.YtppggchhkckobaaGreat
open Go.RowKit
end Go.Proofs.YtppggchhkckobaaGreat
namespace Go.Proofs.YtppggchhkckobaaGreat
end Go.Proofs.YtppggchhkckobaaGreat
namespace Go.Proofs.YtppggchhkckobaaGreat
open Go.RowKit Go.Sort
end Go.Proofs.YtppggchhkckobaaGreat
namespace Go.Proofs.YtppggchhkckobaaGreat
end Go.Proofs.YtppggchhkckobaaGreat
namespace Go.Proofs.YtppggchhkckobaaGreat
open Go.RowKit Go.Sort
theorem pw_xp {D : FD} (hD : D ∈ fieldsL) {a : Nat} (h0 : a ≠ 0) : ∀ k,D.pw a k = D.xp a k
 | 0 => pw_zero hD a
 | k + 1 => by
   show _ = D.mul (D.xp a k) a
   rw [← pw_xp hD h0 k,pw_succ hD a k h0]
theorem pn_xp {D : FD} (hD : D ∈ fieldsL) {a : Nat} (ha : a < D.q) (k : Nat) : D.pn a k = D.xp a k := by
 have hh : D.has (a : Nat) = true := decide_eq_true ⟨by omega,by omega⟩
 unfold FD.pn FD.powZ
 rw [if_neg (by rw [hh]; decide)]
 cases k with
 | zero => rfl
 | succ k =>
   rw [if_neg (by omega)]
   by_cases h0 : a = 0
   · subst h0
     rw [if_pos (by rfl),if_neg (by omega)]
     show 0 = D.mul (D.xp 0 k) 0
     rw [mul0 (fld hD)]
   · rw [if_neg (by omega), ← pw_xp hD h0]
     rw [Int.toNat_natCast]
     have e : (((k + 1 : Nat) : Int) % ((D.q - 1 : Nat) : Int)).toNat = (k + 1) % (D.q - 1) := by
       have e0 : ((k + 1 : Nat) : Int) % ((D.q - 1 : Nat) : Int) = (((k + 1) % (D.q - 1) : Nat) : Int) := rfl
       rw [e0,Int.toNat_natCast]
     rw [e,Int.toNat_natCast]
     unfold FD.pw
     rw [Nat.mul_mod_mod]
def hrn (D : FD) (A : Nat → Nat) (y m : Nat) : Nat → Nat
 | 0 => 0
 | r + 1 => D.ad (D.mul (hrn D A y m r) y) (A (m - 1 - r))
def elc (D : FD) (err : Nat → Bool) (xs : Nat → Nat) : Nat → Nat → Nat
 | 0 => pone
 | i + 1 => if err i = true then pmul D 2 (xmr D (xs i)) (elc D err xs i) else elc D err xs i
theorem elc_ok {D : FD} (F : Fld D) {err : Nat → Bool} {xs : Nat → Nat} {n : Nat} (hx : ∀ i,i < n → xs i < D.q) : ∀ i,i ≤ n → El D (elc D err xs i) ∧ Bd (ct err i + 1) (elc D err xs i) ∧ elc D err xs i (ct err i) = 1 ∧ ∀ j,j < i → err j = true → D.ev (elc D err xs i) (xs j) (ct err i + 1) = 0
 | 0,_ => ⟨el_one F,fun j hj => if_neg (by omega),rfl,fun j hj => absurd hj (by omega)⟩
 | i + 1,h => by
   obtain ⟨h1,h2,h3,h4⟩ := elc_ok F (err := err) hx i (by omega)
   have hxi := hx i (by omega)
   by_cases e : err i = true
   · have ec : ct err (i + 1) = ct err i + 1 := by
       show ct err i + (if err i = true then 1 else 0) = _
       rw [if_pos e]
     have ee : elc D err xs (i + 1) = pmul D 2 (xmr D (xs i)) (elc D err xs i) := by
       show (if err i = true then _ else _) = _
       rw [if_pos e]
     rw [ec,ee]
     refine ⟨el_mul F _ _ _, ?_, ?_,fun j hj hjj => ?_⟩
     · have := pmul_bd F (a := xmr D (xs i)) h2 2
       rw [show 2 + (ct err i + 1) - 1 = ct err i + 1 + 1 by omega] at this
       exact this
     · have := pmul_top F (a := xmr D (xs i)) (n := 1) h2
       rw [show 1 + ct err i = ct err i + 1 by omega,h3] at this
       rw [this]
       show D.mul (if 1 = 0 then _ else if 1 = 1 then 1 else 0) 1 = 1
       rw [if_neg (by omega),if_pos rfl,mul1 F (one_lt' F)]
     · rw [← ev_from F (xs j) (n := ct err i + 1 + 1) (N := 2 + (ct err i + 1)) (by
         have := pmul_bd F (a := xmr D (xs i)) h2 2
         rw [show 2 + (ct err i + 1) - 1 = ct err i + 1 + 1 by omega] at this
         exact this) (by omega),ev_mul F (xs j) h2 h1 2 _ (Nat.le_refl _)]
       by_cases ej : j = i
       · rw [ej,xmr_ev F hxi hxi,sb_self F hxi,zmul F]
       · rw [h4 j (by omega) hjj,mul0 F]
   · have ec : ct err (i + 1) = ct err i := by
       show ct err i + (if err i = true then 1 else 0) = _
       rw [if_neg e]; rfl
     have ee : elc D err xs (i + 1) = elc D err xs i := by
       show (if err i = true then _ else _) = _
       rw [if_neg e]
     rw [ec,ee]
     refine ⟨h1,h2,h3,fun j hj hjj => ?_⟩
     by_cases ej : j = i
     · rw [ej] at hjj; exact absurd hjj e
     · exact h4 j (by omega) hjj
end Go.Proofs.YtppggchhkckobaaGreat
