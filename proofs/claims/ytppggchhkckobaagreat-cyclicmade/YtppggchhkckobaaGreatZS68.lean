/- Texts of ours, one behind the other: S68 S69 S70 KT1 LS5 KT2. -/
import Derived.Test.YtppggchhkckobaaGreatZW13
import Derived.Test.YtppggchhkckobaaGreatZD1
import Derived.Test.YtppggchhkckobaaGreatZL10
import Derived.Test.YtppggchhkckobaaGreatZX18
import Derived.Test.YtppggchhkckobaaGreatZU8
import Derived.Maps.OwnOps
import Derived.Maps.OwnSet
import Derived.Lib.SlKeysI
import Derived.Deep.LoopGhost
import Derived.Shelf.SlIterI.Nil
import Derived.Shelf.SortM.Plain
import Derived.Shelf.SortM.SortNone
import Derived.Ground.GgzProg
import Derived.Ground.SlgmProg
import Derived.Shelf.SlGeneric
import Derived.Test.YtppggchhkckobaaGreatProg
namespace Go.Proofs.YtppggchhkckobaaGreat
theorem q_pow : (fieldsL.all fun D => D.q == D.p ^ D.m) = true := by decide +kernel
theorem fld_pow {D : FD} (hD : D ∈ fieldsL) : D.q = D.p ^ D.m := by simpa using List.all_eq_true.1 q_pow D hD
theorem img_all : (fieldsL.all fun D => fieldsL.all fun E => !(D.holdsB E) || (List.range D.q).all fun x => !(again D.frob1 E.m x == x) || (List.range E.q).any fun a => D.emb E (D.root E) a == x) = true := by decide +kernel
theorem img_of {D E : FD} (hD : D ∈ fieldsL) (hE : E ∈ fieldsL) (h : E.p = D.p ∧ D.m % E.m = 0) {x : Nat} (hx : x < D.q) (hs : again D.frob1 E.m x = x) : ∃ a,a < E.q ∧ D.emb E (D.root E) a = x := by
 have k := List.all_eq_true.1 (List.all_eq_true.1 img_all D hD) E hE
 have hb : D.holdsB E = true := by simp [FD.holdsB,h.1,h.2]
 rw [hb] at k
 simp only [Bool.not_true,Bool.false_or] at k
 have k := List.all_eq_true.1 k x (List.mem_range.2 hx)
 rw [hs] at k
 simp only [beq_self_eq_true,Bool.not_true,Bool.false_or] at k
 obtain ⟨a,ha,e⟩ := List.any_eq_true.1 k
 exact ⟨a,List.mem_range.1 ha,by simpa using e⟩
theorem Ord.inv {q n : Nat} (h : Ord q n) : ∃ i, ∀ x,x < n → orb q n (x * q % n) i = x ∧ orb q n x i * q % n = x := by
 obtain ⟨t,ht,e⟩ := h
 obtain ⟨i,rfl⟩ : ∃ i,t = i + 1 := ⟨t - 1,by omega⟩
 refine ⟨i,fun x hx => ?_⟩
 have e2 : orb q n x (i + 1) = x := by
   unfold orb
   rw [Nat.mul_mod,e, ← Nat.mul_mod,Nat.mul_one,Nat.mod_eq_of_lt hx]
 have e1 : x * q % n = orb q n x 1 := by unfold orb; rw [Nat.pow_one]
 exact ⟨by rw [e1,orb_orb,Nat.add_comm]; exact e2,by rw [← orb_succ]; exact e2⟩
theorem cl_perm {q n : Nat} {S : List Nat} (ho : Ord q n) (hd : S.Nodup) (hl : ∀ k ∈ S,k < n) (hc : Clq q n S) : (S.map fun k => k * q % n).Perm S := by
 obtain ⟨i,hi⟩ := ho.inv
 refine (List.perm_ext_iff_of_nodup ?_ hd).2 (fun a => ?_)
 · refine List.pairwise_map.2 (hd.imp_of_mem (fun {a b} ha hb hne e => hne ?_))
   have h1 := (hi a (hl a ha)).1
   have h2 := (hi b (hl b hb)).1
   rw [← h1, ← h2,e]
 · rw [List.mem_map]
   constructor
   · rintro ⟨k,hk,rfl⟩; exact hc k hk
   · intro ha
     exact ⟨orb q n a i,hc.orb ha (hl a ha) i,(hi a (hl a ha)).2⟩
theorem frob_rng {D : FD} (hD : D ∈ fieldsL) (m : Nat) : Rng D D (again D.frob1 m) := by
 refine ⟨fun a ha => frob_lt hD a ha m,frob_zero m, ?_,fun _ _ ha hb => frobK_add hD ha hb m,fun a b _ _ => frobK_mul hD a b m⟩
 rw [frob_pw hD 1 (one_lt' (fld hD)) (by omega),pw_xp hD (by omega),one_xp (fld hD)]
theorem prod_fix {D E : FD} (hD : D ∈ fieldsL) (hE : E ∈ fieldsL) (h : E.p = D.p ∧ D.m % E.m = 0) {b n : Nat} (hr : Rt D b n) {S : List Nat} (ho : Ord E.q n) (hd : S.Nodup) (hl : ∀ k ∈ S, k < n) (hc : Clq E.q n S) (k : Nat) :
   again D.frob1 E.m (prL D (S.map (D.xp b)) k) = prL D (S.map (D.xp b)) k := by
 have F := fld hD
 have hq : ∀ l : List Nat, ∀ r ∈ l.map (D.xp b),r < D.q := fun l r hr => by
   obtain ⟨j,_,rfl⟩ := List.mem_map.1 hr
   exact xp_lt F b j
 have h1 := congrFun ((frob_rng hD E.m).prL F F (S.map (D.xp b)) (hq S)) k
 refine h1.trans ?_
 have e : (S.map (D.xp b)).map (again D.frob1 E.m) = (S.map fun k => k * E.q % n).map (D.xp b) := by
   rw [List.map_map,List.map_map]
   refine List.map_congr_left (fun j _ => ?_)
   show again D.frob1 E.m (D.xp b j) = D.xp b (j * E.q % n)
   rw [hr.md hD, ← pw_xp hD hr.ne,frob_pw hD _ (pw_lt hD b j) (pw_ne hD b j).1,pw_pw hD,pw_xp hD hr.ne,fld_pow hE,h.1]
 rw [e]
 exact congrFun (prL_perm F ((cl_perm ho hd hl hc).map _) (hq _)) k
def gtl (D E : FD) (c : Nat) : Nat := ((List.range E.q).find? fun a => D.emb E (D.root E) a == c).getD 0
theorem gtl_is {D E : FD} (hD : D ∈ fieldsL) (hE : E ∈ fieldsL) (h : E.p = D.p ∧ D.m % E.m = 0) {c : Nat} (hc : c < D.q) (hs : again D.frob1 E.m c = c) : gtl D E c < E.q ∧ D.emb E (D.root E) (gtl D E c) = c := by
 obtain ⟨a,ha,e⟩ := img_of hD hE h hc hs
 unfold gtl
 cases hf : (List.range E.q).find? fun a => D.emb E (D.root E) a == c with
 | none =>
   have := List.find?_eq_none.1 hf a (List.mem_range.2 ha)
   rw [e] at this
   simp at this
 | some a' =>
   have h1 := List.find?_some hf
   have h2 := List.mem_of_find?_eq_some hf
   exact ⟨List.mem_range.1 h2,by simpa using h1⟩
theorem emb_rng {D E : FD} (hD : D ∈ fieldsL) (hE : E ∈ fieldsL) (h : E.p = D.p ∧ D.m % E.m = 0) : Rng E D (D.emb E (D.root E)) :=
 ⟨fun a _ => emb_lt hD hE h a,(chk_emb hD hE h).2.1,(chk_emb hD hE h).1,fun _ _ ha hb => emb_add hD hE h ha hb,fun _ _ ha hb => emb_mul hD hE h ha hb⟩
def gnr (D E : FD) (b : Nat) (S : List Nat) : Nat → Nat := fun k => gtl D E (prL D (S.map (D.xp b)) k)
structure Gnr (D E : FD) (b n : Nat) (S : List Nat) : Prop where
 el : El E (gnr D E b S)
 bd : Bd (S.length + 1) (gnr D E b S)
 top : gnr D E b S S.length = 1
 emb : ∀ k,D.emb E (D.root E) (gnr D E b S k) = prL D (S.map (D.xp b)) k
theorem gnr_is {D E : FD} (hD : D ∈ fieldsL) (hE : E ∈ fieldsL) (h : E.p = D.p ∧ D.m % E.m = 0) {b n : Nat} (hr : Rt D b n) {S : List Nat} (ho : Ord E.q n) (hd : S.Nodup) (hl : ∀ k ∈ S,k < n) (hc : Clq E.q n S) : Gnr D E b n S := by
 have F := fld hD
 have FE := fld hE
 have hk := fun k => gtl_is hD hE h (prL_el F (S.map (D.xp b)) k) (prod_fix hD hE h hr ho hd hl hc k)
 have hz := chk_emb hD hE h
 refine ⟨fun k => (hk k).1,fun k hk' => ?_, ?_,fun k => (hk k).2⟩
 · refine emb_inj hD hE h (hk k).1 (zero_lt' FE) ?_
   have e := (hk k).2
   rw [hz.2.1]
   refine e.trans (prL_bd F _ k (by rw [List.length_map]; exact hk'))
 · refine emb_inj hD hE h (hk _).1 (one_lt' FE) ?_
   have e := (hk S.length).2
   rw [hz.1]
   refine e.trans ?_
   have t := prL_top F (S.map (D.xp b))
   rwa [List.length_map] at t
theorem gnr_div {D E : FD} (hD : D ∈ fieldsL) (hE : E ∈ fieldsL) (h : E.p = D.p ∧ D.m % E.m = 0) {b n : Nat} (hn : 1 ≤ n) (hr : Rt D b n) {S T : List Nat} (gS : Gnr D E b n S) (gT : Gnr D E b n T) (hp : (T ++ S).Perm (List.range n)) :
   pmul E (T.length + 1) (gnr D E b T) (gnr D E b S) = whl E n := by
 have F := fld hD
 have FE := fld hE
 have R := emb_rng hD hE h
 have hq : ∀ l : List Nat, ∀ r ∈ l.map (D.xp b),r < D.q := fun l r hr => by
   obtain ⟨j,_,rfl⟩ := List.mem_map.1 hr
   exact xp_lt F b j
 funext k
 refine emb_inj hD hE h (el_mul FE _ _ _ k) (whl_el FE n k) ?_
 rw [R.pmul FE F gT.el gS.el,funext gT.emb,funext gS.emb]
 have e1 : pmul D (T.length + 1) (prL D (T.map (D.xp b))) (prL D (S.map (D.xp b))) = whl D n := by
   have := prL_app F (T.map (D.xp b)) (S.map (D.xp b)) (hq T)
   rw [List.length_map] at this
   rw [← this, ← List.map_append,whl_all hD hn hr]
   exact prL_perm F (hp.map _) (hq _)
 rw [e1]
 unfold whl
 by_cases c : k = n
 · rw [if_pos c,if_pos c]; exact R.one.symm
 · rw [if_neg c,if_neg c]
   by_cases c2 : k = 0
   · rw [if_pos c2,if_pos c2,R.ng FE F (one_lt' FE),R.one]
   · rw [if_neg c2,if_neg c2]; exact R.zero.symm
end Go.Proofs.YtppggchhkckobaaGreat
namespace Go.Proofs.YtppggchhkckobaaGreat
theorem gen_chk : (fieldsL.all fun D => decide (D.q = 2) || D.lg D.gen == 1) = true := by decide +kernel
theorem gen_lg {D : FD} (hD : D ∈ fieldsL) : D.lg D.gen % (D.q - 1) = 1 % (D.q - 1) := by
 have k := List.all_eq_true.1 gen_chk D hD
 rw [Bool.or_eq_true] at k
 rcases k with k | k
 · have e : D.q = 2 := of_decide_eq_true k
   rw [e,Nat.mod_one,Nat.mod_one]
 · have e : D.lg D.gen = 1 := by simpa using k
   rw [e]
theorem gen_ne {D : FD} (hD : D ∈ fieldsL) : D.gen < D.q ∧ D.gen ≠ 0 := by
 have k := List.all_eq_true.1 st_one D hD
 simp only [Bool.and_eq_true,decide_eq_true_eq] at k
 exact ⟨k.1.2,k.2⟩
theorem gen_pw {D : FD} (hD : D ∈ fieldsL) (k : Nat) : D.lg (D.pw D.gen k) = k % (D.q - 1) := by
 rw [(pw_ne hD D.gen k).2,Nat.mul_mod,gen_lg hD, ← Nat.mul_mod,Nat.one_mul]
theorem gen_all (D : FD) : D.pw D.gen (D.q - 1) = 1 := by
 show again D.st (D.lg D.gen * (D.q - 1) % (D.q - 1)) 1 = 1
 rw [Nat.mul_mod_left]
 rfl
theorem root_rt {D : FD} (hD : D ∈ fieldsL) {n : Nat} (h : (D.q - 1) % n = 0) : Rt D (D.pw D.gen ((D.q - 1) / n)) n := by
 have hq2 := (fld hD).q2
 have e : (D.q - 1) / n * n = D.q - 1 := Nat.div_mul_cancel (Nat.dvd_of_mod_eq_zero h)
 have hpos : 0 < (D.q - 1) / n := by
   rcases Nat.eq_zero_or_pos ((D.q - 1) / n) with c | c
   · rw [c] at e; omega
   · exact c
 obtain ⟨d,hd⟩ : ∃ d,d = (D.q - 1) / n := ⟨_,rfl⟩
 rw [← hd] at e hpos ⊢
 have hne := pw_ne hD D.gen d
 have hpw : ∀ i,D.xp (D.pw D.gen d) i = D.pw D.gen (d * i) := fun i => by rw [← pw_xp hD hne.1,pw_pw hD]
 refine ⟨pw_lt hD _ _,hne.1, ?_,fun i j hi hj hij c => hij ?_⟩
 · rw [hpw,e,gen_all D]
 · rw [hpw,hpw] at c
   have c2 := congrArg D.lg c
   rw [gen_pw hD,gen_pw hD] at c2
   have b : ∀ i,i < n → d * i < D.q - 1 := fun i hi => by rw [← e]; exact Nat.mul_lt_mul_of_pos_left hi hpos
   rw [Nat.mod_eq_of_lt (b i hi),Nat.mod_eq_of_lt (b j hj)] at c2
   exact Nat.eq_of_mul_eq_mul_left hpos c2
theorem ord_chk : (fieldsL.all fun E => (List.range 65).all fun n => decide (n = 0) || decide (n % E.p = 0) || (List.range 65).any fun t => decide (0 < t) && E.q ^ t % n == 1 % n) = true := by decide +kernel
theorem ord_of {E : FD} (hE : E ∈ fieldsL) {n : Nat} (hn1 : 1 ≤ n) (hn : n ≤ 64) (hp : n % E.p ≠ 0) : Ord E.q n := by
 have k := List.all_eq_true.1 (List.all_eq_true.1 ord_chk E hE) n (List.mem_range.2 (by omega))
 rw [Bool.or_eq_true,Bool.or_eq_true] at k
 rcases k with (k | k) | k
 · exact absurd (of_decide_eq_true k) (by omega)
 · exact absurd (of_decide_eq_true k) hp
 · obtain ⟨t,_,k⟩ := List.any_eq_true.1 k
   simp only [Bool.and_eq_true,decide_eq_true_eq,beq_iff_eq] at k
   exact ⟨t,k.1,k.2⟩
end Go.Proofs.YtppggchhkckobaaGreat
namespace Go.Proofs.YtppggchhkckobaaGreat
def twd (n : Nat) (v : Nat → Nat) : Nat → Nat := fun j => if j = 0 then v (n - 1) else if j < n then v (j - 1) else 0
theorem twd_add {D : FD} (F : Fld D) (n : Nat) (u v : Nat → Nat) : twd n (padd D u v) = padd D (twd n u) (twd n v) := by
 funext j
 show (if j = 0 then D.ad (u (n - 1)) (v (n - 1)) else if j < n then D.ad (u (j - 1)) (v (j - 1)) else 0) = D.ad (if j = 0 then u (n - 1) else if j < n then u (j - 1) else 0) (if j = 0 then v (n - 1) else if j < n then v (j - 1) else 0)
 by_cases c : j = 0
 · rw [if_pos c,if_pos c,if_pos c]
 · rw [if_neg c,if_neg c,if_neg c]
   by_cases c2 : j < n
   · rw [if_pos c2,if_pos c2,if_pos c2]
   · rw [if_neg c2,if_neg c2,if_neg c2,ad_zero F (zero_lt' F)]
theorem twd_scale {D : FD} (F : Fld D) (n s : Nat) (v : Nat → Nat) : twd n (pscale D s v) = pscale D s (twd n v) := by
 funext j
 show (if j = 0 then D.mul s (v (n - 1)) else if j < n then D.mul s (v (j - 1)) else 0) = D.mul s (if j = 0 then v (n - 1) else if j < n then v (j - 1) else 0)
 by_cases c : j = 0
 · rw [if_pos c,if_pos c]
 · rw [if_neg c,if_neg c]
   by_cases c2 : j < n
   · rw [if_pos c2,if_pos c2]
   · rw [if_neg c2,if_neg c2,mul0 F]
theorem twd_nil (n : Nat) : twd n pnil = pnil := by
 funext j
 unfold twd pnil
 split
 · rfl
 · split <;> rfl
theorem ngg {D : FD} (F : Fld D) {a : Nat} (ha : a < D.q) : D.ng (D.ng a) = a := by
 have h1 := ad_ng F (ng_lt F ha)
 have h2 : D.ad (D.ng a) a = 0 := by rw [ad_comm F]; exact ad_ng F ha
 exact ad_cancel F (ng_lt F ha) (ng_lt F (ng_lt F ha)) ha (h1.trans h2.symm)
theorem ng_mulng {D : FD} (F : Fld D) {a b : Nat} (ha : a < D.q) (hb : b < D.q) : D.mul (D.ng a) (D.ng b) = D.mul a b := by
 rw [mul_ng F hb,F.mul_comm,mul_ng F ha,ngg F (F.mul_lt _ _),F.mul_comm]
theorem spn_pmul {D : FD} (F : Fld D) {g Q : Nat → Nat} {K : Nat} (eg : El D g) : ∀ k,k ≤ K → Spn D (RowsOf K fun i => psh i g) (pmul D k Q g)
 | 0,_ => spn_nil D _
 | k + 1,h => by
   show Spn D _ (padd D (pmul D k Q g) (psh k (pscale D (Q k) g)))
   rw [psh_scale F]
   exact spn_add F (spn_pmul F eg k (by omega)) (spn_scale F _ (spn_mem F (el_sh F k eg) ⟨k,by omega,rfl⟩))
theorem twd_gen {D : FD} (F : Fld D) {g Q : Nat → Nat} {m n K : Nat} (hm : 1 ≤ m) (eg : El D g) (bg : Bd m g) (hK : K + m = n + 1) (hn : 1 ≤ n) (hQ : pmul D (K + 1) Q g = whl D n) (i : Nat) (hi : i < K) :
   Spn D (RowsOf K fun i => psh i g) (twd n (psh i g)) := by
 by_cases c : i + 1 < K
 · have e : twd n (psh i g) = psh (i + 1) g := by
     funext j
     show (if j = 0 then (if i ≤ n - 1 then g (n - 1 - i) else 0) else if j < n then (if i ≤ j - 1 then g (j - 1 - i) else 0) else 0) = if i + 1 ≤ j then g (j - (i + 1)) else 0
     by_cases c1 : j = 0
     · rw [if_pos c1,if_pos (by omega),if_neg (by omega),bg _ (by omega)]
     · rw [if_neg c1]
       by_cases c2 : j < n
       · rw [if_pos c2]
         by_cases c3 : i + 1 ≤ j
         · rw [if_pos c3,if_pos (by omega),show j - 1 - i = j - (i + 1) by omega]
         · rw [if_neg c3,if_neg (by omega)]
       · rw [if_neg c2,if_pos (by omega),bg _ (by omega)]
   rw [e]
   exact spn_mem F (el_sh F _ eg) ⟨i + 1,c,rfl⟩
 · have hiK : i = K - 1 := by omega
   subst hiK
   obtain ⟨t,ht⟩ : ∃ t,t = g (m - 1) := ⟨_,rfl⟩
   have htq : t < D.q := by rw [ht]; exact eg _
   obtain ⟨A,hA⟩ : ∃ A,A = pmul D K Q g := ⟨_,rfl⟩
   have eA : El D A := by rw [hA]; exact el_mul F _ _ _
   have hsum : ∀ j,D.ad (A j) (psh K (pscale D (Q K) g) j) = whl D n j := fun j => by rw [← hQ,hA]; rfl
   have hp : ∀ j,psh K (pscale D (Q K) g) j = D.mul (Q K) (psh K g j) := fun j => by rw [psh_scale F]; rfl
   have hAj : ∀ j,A j = D.sb (whl D n j) (D.mul (Q K) (psh K g j)) := fun j => by
     have h1 := hsum j
     rw [hp j] at h1
     rw [← h1,sb_ad F (eA j) (F.mul_lt _ _)]
   have hpn : psh K g n = t := by
     show (if K ≤ n then g (n - K) else 0) = t
     rw [if_pos (by omega),ht,show n - K = m - 1 by omega]
   have hpb : ∀ j,n < j → psh K g j = 0 := fun j hj => by
     show (if K ≤ j then g (j - K) else 0) = 0
     rw [if_pos (by omega),bg _ (by omega)]
   have hAb : A n = 0 := by
     rw [hA]
     have := pmul_bd F (a := Q) bg K
     exact this n (by omega)
   have hone : D.mul (Q K) t = 1 := by
     have h1 := hsum n
     rw [hp n,hpn,hAb,zero_ad F (F.mul_lt _ _)] at h1
     rw [h1]
     unfold whl
     rw [if_pos rfl]
   have e : twd n (psh (K - 1) g) = pscale D (D.ng t) A := by
     funext j
     show (if j = 0 then (if K - 1 ≤ n - 1 then g (n - 1 - (K - 1)) else 0) else if j < n then (if K - 1 ≤ j - 1 then g (j - 1 - (K - 1)) else 0) else 0) = D.mul (D.ng t) (A j)
     by_cases c1 : j = 0
     · rw [if_pos c1,if_pos (by omega),show n - 1 - (K - 1) = m - 1 by omega, ← ht,c1,hAj 0]
       have e1 : whl D n 0 = D.ng 1 := by unfold whl; rw [if_neg (by omega),if_pos rfl]
       have e2 : psh K g 0 = 0 := by show (if K ≤ 0 then g (0 - K) else 0) = 0; rw [if_neg (by omega)]
       rw [e1,e2,mul0 F,sb_zero F (ng_lt F (one_lt' F)),ng_mulng F htq (one_lt' F),mul1 F htq]
     · rw [if_neg c1]
       by_cases c2 : j < n
       · rw [if_pos c2,hAj j]
         have e1 : whl D n j = 0 := by unfold whl; rw [if_neg (by omega),if_neg c1]
         obtain ⟨p,hpe⟩ : ∃ p,p = psh K g j := ⟨_,rfl⟩
         have hpq : p < D.q := by rw [hpe]; exact el_sh F K eg j
         have e2 : (if K - 1 ≤ j - 1 then g (j - 1 - (K - 1)) else 0) = p := by
           rw [hpe]
           show _ = if K ≤ j then g (j - K) else 0
           by_cases c3 : K ≤ j
           · rw [if_pos c3,if_pos (by omega),show j - 1 - (K - 1) = j - K by omega]
           · rw [if_neg c3,if_neg (by omega)]
         have e3 : D.sb 0 (D.mul (Q K) p) = D.ng (D.mul (Q K) p) := by
           show D.ad 0 (D.ng (D.mul (Q K) p)) = _
           exact zero_ad F (ng_lt F (F.mul_lt _ _))
         rw [e2,e1, ← hpe,e3,ng_mulng F htq (F.mul_lt _ _), ← F.mul_assoc,F.mul_comm t,hone,omul F hpq]
       · rw [if_neg c2]
         by_cases c3 : j = n
         · rw [c3,hAb,mul0 F]
         · rw [hAj j,hpb j (by omega),mul0 F]
           have e1 : whl D n j = 0 := by unfold whl; rw [if_neg c3,if_neg c1]
           rw [e1,sb_self F (zero_lt' F),mul0 F]
   rw [e,hA]
   exact spn_scale F _ (spn_pmul F eg K (Nat.le_refl _))
theorem twd_spn {D : FD} (F : Fld D) {g Q : Nat → Nat} {m n K : Nat} (hm : 1 ≤ m) (eg : El D g) (bg : Bd m g) (hK : K + m = n + 1) (hn : 1 ≤ n) (hQ : pmul D (K + 1) Q g = whl D n) {v : Nat → Nat} (hv : Spn D (RowsOf K fun i => psh i g) v) :
   Spn D (RowsOf K fun i => psh i g) (twd n v) := by
 refine spn_ind (Q := fun v => Spn D (RowsOf K fun i => psh i g) (twd n v)) (by rw [twd_nil]; exact spn_nil D _) (fun u v hu hv => by rw [twd_add F]; exact spn_add F hu hv) (fun s v hv => by rw [twd_scale F]; exact spn_scale F s hv) (fun v hv => ?_) hv
 obtain ⟨i,hi,rfl⟩ := hv
 exact twd_gen F hm eg bg hK hn hQ i hi
end Go.Proofs.YtppggchhkckobaaGreat
namespace Go.Proofs.YtppggchhkckobaaGreat
open Go.RowKit Go.Maps
theorem cty_int : Tryz.prog.underlying 3 = some (.int .i64) := by kernel_rfl
theorem ct_map : Tryz.prog.underlying 55 = some (.map 3 3) := by kernel_rfl
theorem ct_law : Keyed Tryz.prog 3 := int_keyed cty_int
theorem ct_zero (w : World) : (zeroValue 3).run Tryz.prog w = .ok (.int .i64 0) w := by kernel_rfl
theorem ct_key (a : Int) (h : (Lit.int .i64 a).wf = true) : keyOf Tryz.prog 3 (.int .i64 a) = some (.int .i64 a) := keyOf_int_mk cty_int h
theorem ct_wf {k : Nat} (h : k ≤ 1000) : (Lit.int .i64 (k : Nat)).wf = true := WalkArith.wf_i64 (by omega)
structure TgD (D : DataW Value) (L : List Nat) : Prop where
 im : IsMap D
 yes : ∀ k,k ∈ L → D.atKey (.int .i64 (k : Nat)) (.lit (.int .i64 0)) = .lit (.int .i64 1)
 no : ∀ k : Nat,k ∉ L → D.atKey (.int .i64 (k : Nat)) (.lit (.int .i64 0)) = .lit (.int .i64 0)
 has : ∀ x : Int,Maps.has D (.int .i64 x) = true ↔ ∃ k ∈ L,x = ((k : Nat) : Int)
theorem TgD.nil : TgD (.map []) [] := ⟨isMap_empty,fun k h => (by cases h),fun k _ => rfl,fun x => ⟨fun h => (by cases h),fun ⟨_,h,_⟩ => (by cases h)⟩⟩
theorem ct_lit (x : Int) : WideAt.IsKeyLit (.int .i64 x) := by first | trivial | (unfold WideAt.IsKeyLit; trivial) | exact Or.inl ⟨_,_,rfl⟩ | simp [WideAt.IsKeyLit]
theorem TgD.put {D : DataW Value} {L : List Nat} (h : TgD D L) (k : Nat) : TgD (D.put (.int .i64 (k : Nat)) (.lit (.int .i64 1))) (L ++ [k]) := by
 refine ⟨h.im.put _ _,fun j hj => ?_,fun j hj => ?_,fun x => ?_⟩
 · by_cases e : j = k
   · rw [e]; exact atKey_put_same h.im (ct_lit _) _ _
   · rw [atKey_put_other (by intro c; cases c; exact e (by omega))]
     exact h.yes j ((List.mem_append.1 hj).resolve_right (fun c => e (List.mem_singleton.1 c)))
 · have e : j ≠ k := fun e => hj (List.mem_append.2 (Or.inr (List.mem_singleton.2 e)))
   rw [atKey_put_other (by intro c; cases c; exact e (by omega))]
   exact h.no j (fun c => hj (List.mem_append.2 (Or.inl c)))
 · by_cases e : x = ((k : Nat) : Int)
   · subst e
     exact ⟨fun _ => ⟨k,by simp,rfl⟩,fun _ => has_put_same h.im (ct_lit _) _⟩
   · rw [has_put_other (by intro c; cases c; exact e rfl),h.has x]
     constructor
     · rintro ⟨j,hj,rfl⟩; exact ⟨j,by simp [hj],rfl⟩
     · rintro ⟨j,hj,rfl⟩
       rcases List.mem_append.1 hj with c | c
       · exact ⟨j,c,rfl⟩
       · rw [List.mem_singleton.1 c] at e; exact absurd rfl e
theorem lit_inj {c d : Int} (h : (DataW.lit (.int .i64 c) : DataW Value) = .lit (.int .i64 d)) : c = d := by cases h; rfl
def Tg (B : Nat) (L : List Nat) (w : World) : Prop := ∃ D : DataW Value,w.ownsMap Tryz.prog 3 (plainElem Tryz.prog 3) B L.length D ∧ TgD D L
structure TgL (q n : Nat) (z : Nat → Nat) (m : Nat) (L : List Nat) : Prop where
 nd : L.Nodup
 lt : ∀ k ∈ L,k < n
 cl : Clq q n L
 mem : ∀ k,k ∈ L ↔ Clo q n z m k
theorem TgL.none (q n : Nat) (z : Nat → Nat) : TgL q n z 0 [] := ⟨List.nodup_nil,fun k h => (by cases h),fun k h => (by cases h),fun k => ⟨fun h => (by cases h),fun ⟨i,hi,_⟩ => absurd hi (by omega)⟩⟩
theorem nd_len {n : Nat} {L : List Nat} (h : L.Nodup) (hl : ∀ k ∈ L,k < n) : L.length ≤ n := by
 have hp : ((List.range n).filter fun j => L.contains j).Perm L := by
   refine (List.perm_ext_iff_of_nodup (List.nodup_range.filter _) h).2 (fun a => ?_)
   rw [List.mem_filter,List.contains_iff_mem]
   exact ⟨fun h => h.2,fun h => ⟨List.mem_range.2 (hl a h),h⟩⟩
 rw [← hp.length_eq]
 have := List.length_filter_le (fun j => L.contains j) (List.range n)
 rwa [List.length_range] at this
set_option maxHeartbeats 4000000 in
set_option maxRecDepth 100000 in
theorem cytog_any {q n m zc : Nat} {zo : Option Addr} {z : Nat → Nat} {w : World} (hq : q ≤ 64) (hn1 : 1 ≤ n) (hn : n ≤ 64) (hm : m ≤ 1000) (hz : SlZ zo m (fun i => ((z i : Nat) : Int)) w) (hzl : LtB zo w.heap.size) (hzn : ∀ i, i < m → z i < n) :
   Calls Tryz.prog 32 #[.int .i64 (q : Nat), .int .i64 (n : Nat), .slice zo m zc] w fun e w' => ∃ L,e = .returned (.map (some w.heap.size)) ∧ Tg w.heap.size L w' ∧ TgL q n z m L ∧ Below w.heap.size w w' := by
 have HZ : Hid ((SlZ zo m (fun i => ((z i : Nat) : Int)) w ∧ LtB zo w.heap.size) ∧ ∀ i,i < m → z i < n) := ⟨⟨hz,hzl⟩,hzn⟩
 obtain ⟨B,hB⟩ : ∃ B,B = w.heap.size := ⟨_,rfl⟩
 have H0 : Hid (Tg B [] (w.alloc (.map #[] 0)) ∧ Below w.heap.size w (w.alloc (.map #[] 0)) ∧ B = w.heap.size) := ⟨⟨.map [],by rw [hB]; exact World.ownsMap_made _ _ _ _,TgD.nil⟩,(Below.refl _ _).alloc (Nat.le_refl _) _,hB⟩
 have hmm := @run_makeMap Tryz.prog
 clear hz hzl hzn
 go_enter Tryz.func32,Tryz.ntmps32
 go_wp2
 rw [← hB]
 clear hB
 go_loopw [13] (fun vi wr => ∃ (i : Nat) (L : List Nat),i ≤ m ∧ vi = .int .i64 (i : Nat) ∧ Hid (Tg B L wr ∧ TgL q n z i L ∧ Below w.heap.size w wr)) (fun vi _ => m - (RowKit.intOf vi).toNat)
 case atStart => exact ⟨0, [],by omega,rfl,H0.out.1,TgL.none _ _ _,H0.out.2.1⟩
 case round =>
   obtain ⟨i,L,hi,rfl,HG⟩ := hrel
   rename World => wr
   by_cases hlt : i < m
   · have hib : (i : Int) < (m : Int) := by omega
     have hib0 : (0 : Int) ≤ (i : Int) := by omega
     obtain ⟨b1,o1,e1,q1⟩ := HZ.out.1.1 i hlt
     have l1 := HZ.out.1.2 _ e1
     obtain ⟨zi,hzi⟩ : ∃ zi,zi = z i := ⟨_,rfl⟩
     have k1 : wr.cell? ⟨b1,o1 + i,none⟩ = some (.int .i64 (zi : Nat)) := by rw [hzi]; exact (HG.out.2.2.cell (p := ⟨b1,o1 + i,none⟩) l1).trans q1
     have HZi : Hid (zi = z i ∧ zi < n) := ⟨hzi,by rw [hzi]; exact HZ.out.2 i hlt⟩
     subst e1
     clear q1 l1 hzi
     go_wp2
     have hlL : L.length ≤ n := nd_len HG.out.2.1.nd HG.out.2.1.lt
     have HLL : Hid (L.length ≤ n) := hlL
     clear hlL
     have hst : ((zi : Nat) : Int) = ((orb q n zi 0 : Nat) : Int) := by rw [orb_zero HZi.out.2]
     rw [hst]
     clear hst
     go_loopg [9] (n + 1 - L.length) (fun gk vk wx => ∃ (s : Nat) (L' : List Nat),vk = .int .i64 (orb q n zi s : Nat) ∧ gk = n + 1 - L'.length ∧ Hid (Tg B L' wx ∧ (∀ k,k ∈ L' ↔ k ∈ L ∨ ∃ j,j < s ∧ orb q n zi j = k) ∧ L'.Nodup ∧ (∀ k ∈ L',k < n) ∧ Below w.heap.size w wx))
     case atStart => exact ⟨0,L,rfl,rfl,HG.out.1,fun k => ⟨Or.inl,fun h => h.elim id (fun ⟨j,hj,_⟩ => absurd hj (by omega))⟩,HG.out.2.1.nd,HG.out.2.1.lt,HG.out.2.2⟩
     case round =>
       obtain ⟨s,L',rfl,rfl,HI⟩ := hrel
       rename World => wx
       obtain ⟨D,hown,hD⟩ := HI.out.1
       obtain ⟨x,hx⟩ : ∃ x,x = orb q n zi s := ⟨_,rfl⟩
       have hxn : x < n := by rw [hx]; exact orb_lt (by omega)
       have hlen : L'.length ≤ n := nd_len HI.out.2.2.1 HI.out.2.2.2.1
       rw [← hx]
       have HOw : Hid (wx.ownsMap Tryz.prog 3 (plainElem Tryz.prog 3) B L'.length D ∧ TgD D L' ∧ L'.length ≤ n) := ⟨hown,hD,hlen⟩
       have hxw : (Lit.int .i64 (x : Nat)).wf = true := ct_wf (by omega)
       have HXe : Hid (x = orb q n zi s) := hx
       clear hown hD hlen hx
       by_cases hmem : x ∈ L'
       · have HN : Hid (TgL q n z (i + 1) L') := by
           have h := walk_end (q := q) (z := zi) (s := s) (by omega) HG.out.2.1.cl HI.out.2.1 (by rw [← HXe.out]; exact hmem)
           refine ⟨HI.out.2.2.1,HI.out.2.2.2.1,h.1,fun k => ?_⟩
           constructor
           · intro hk
             rcases (HI.out.2.1 k).1 hk with c | ⟨j,_,c⟩
             · obtain ⟨i',hi',c⟩ := (HG.out.2.1.mem k).1 c
               exact ⟨i',by omega,c⟩
             · exact ⟨i,by omega,j,by rw [← HZi.out.1]; exact c⟩
           · rintro ⟨i',hi',j,c⟩
             by_cases e : i' = i
             · rw [e, ← HZi.out.1] at c
               rw [← c]; exact h.2 j
             · exact (HI.out.2.1 k).2 (Or.inl ((HG.out.2.1.mem k).2 ⟨i',by omega,j,c⟩))
         go_wp2_with (at_lookup; refine wpList_lookup_own_int _ rfl _ _ 55 rfl 3 3 .i64 ct_law ct_map cty_int (ct_zero _) B L'.length _ rfl HOw.out.1 _ _ rfl (ct_key _ hxw) ?_; intro c hat hwc; obtain rfl : c = 1 := lit_inj (hat.symm.trans (HOw.out.2.1.yes x hmem)); clear hat hwc)
         go_roundw
         case rel => exact ⟨i + 1,L',by omega,by go_num,HI.out.1,HN.out,HI.out.2.2.2.2⟩
         case measure => simp [RowKit.intOf]; omega
       · obtain ⟨xq,hxq⟩ : ∃ xq,xq = x * q := ⟨_,rfl⟩
         have hxqi : (x : Int) * (q : Int) = (xq : Int) := by rw [hxq]; simp
         have hxqb : xq ≤ 4096 := by rw [hxq]; exact Nat.le_trans (Nat.mul_le_mul (show x ≤ 64 by omega) hq) (by decide)
         have hxqw : IntKind.i64.wrap (xq : Int) = (xq : Int) := wrap_to rfl (by omega)
         obtain ⟨y,hy⟩ : ∃ y,y = xq % n := ⟨_,rfl⟩
         have hrm : (xq : Int).tmod (n : Int) = (y : Int) := by rw [Int.tmod_eq_emod_of_nonneg (by omega),hy]; omega
         have hre : (xq : Int) % (n : Int) = (y : Int) := by rw [hy]; omega
         have hn0 : ¬ (n : Int) = 0 := by omega
         have hn0b : ((n : Int) == 0) = false := by rw [beq_eq_false_iff_ne]; omega
         have HYe : Hid (y = orb q n zi (s + 1)) := by
           show _ = _
           rw [orb_succ, ← HXe.out,hy,hxq]
         clear hxq hy
         go_wp2_with (first
           | (at_lookup; refine wpList_lookup_own_int _ rfl _ _ 55 rfl 3 3 .i64 ct_law ct_map cty_int (ct_zero _) B L'.length _ rfl HOw.out.1 _ _ rfl (ct_key _ hxw) ?_; intro c hat hwc; obtain rfl : c = 0 := lit_inj (hat.symm.trans (HOw.out.2.1.no x hmem)); clear hat hwc)
           | (at_mapUpdate; refine wpList_mapUpdate_own _ rfl _ _ _ 55 rfl 3 3 ct_law ct_map _ B L'.length _ rfl HOw.out.1 (by have := HOw.out.2.2; unfold maxLen; omega) _ _ _ rfl rfl (ct_key _ hxw) _ [] (plainElem_int cty_int (by decide)) ?_; intro w1 hown1 hgrow1))
         have HN : Hid (Tg B (L' ++ [x]) w1 ∧ (∀ k,k ∈ L' ++ [x] ↔ k ∈ L ∨ ∃ j,j < s + 1 ∧ orb q n zi j = k) ∧ (L' ++ [x]).Nodup ∧ (∀ k ∈ L' ++ [x],k < n) ∧ Below w.heap.size w w1) := by
           refine ⟨⟨_,by rw [List.length_append,List.length_singleton]; exact hown1,HOw.out.2.1.put x⟩,fun k => ?_, ?_,fun k hk => ?_,HI.out.2.2.2.2.grown hgrow1 HI.out.2.2.2.2.size (fun j hj => by cases hj; have := H0.out.2.2; omega)⟩
           · rw [List.mem_append,HI.out.2.1 k,List.mem_singleton]
             constructor
             · rintro ((c | ⟨j,hj,c⟩) | c)
               · exact Or.inl c
               · exact Or.inr ⟨j,by omega,c⟩
               · exact Or.inr ⟨s,by omega,by rw [c]; exact HXe.out.symm⟩
             · rintro (c | ⟨j,hj,c⟩)
               · exact Or.inl (Or.inl c)
               · by_cases e : j = s
                 · right; rw [← c,e]; exact HXe.out.symm
                 · exact Or.inl (Or.inr ⟨j,by omega,c⟩)
           · rw [List.nodup_append]
             exact ⟨HI.out.2.2.1,by simp,fun a ha b hb => by rw [List.mem_singleton.1 hb]; intro e; rw [e] at ha; exact hmem ha⟩
           · rcases List.mem_append.1 hk with c | c
             · exact HI.out.2.2.2.1 k c
             · rw [List.mem_singleton.1 c]; exact hxn
         have HLn : Hid (L'.length < n) := by
           have h := nd_len HN.out.2.2.1 HN.out.2.2.2.1
           rw [List.length_append,List.length_singleton] at h
           exact h
         clear hown1 hgrow1
         go_roundg (n + 1 - (L' ++ [x]).length)
         case rel => exact ⟨s + 1,L' ++ [x],by rw [HYe.out],rfl,HN.out⟩
         case measure => rw [List.length_append,List.length_singleton]; have := HLn.out; omega
   · have hib : ¬ (i : Int) < (m : Int) := by omega
     have hie : m = i := by omega
     subst hie
     go_wp2
     go_ret
     exact ⟨by rw [← H0.out.2.2]; rfl,L,by rw [← H0.out.2.2]; exact HG.out.1,HG.out.2.1,HG.out.2.2⟩
end Go.Proofs.YtppggchhkckobaaGreat
namespace Go.Proofs.YtppggchhkckobaaGreat
open Go.Shelf
def keysA_ren : Go.Shelf.Ren := ⟨fun | 7 => 74 | 10 => 111 | n => n,fun | 23 => 55 | 26 => 3 | 3 => 3 | 28 => 94 | 0 => 0 | 27 => 93 | 33 => 75 | 4 => 4 | n => n,fun | n => n⟩
theorem keysA : Go.Proofs.SlLaysZI.n7 Tryz.prog keysA_ren := {
 mixed := by kernel_rfl
 f7 := ⟨Tryz.f74.name,by decide,Tryz.func74.trans (congrArg some (by kernel_rfl))⟩
 f10 := ⟨Tryz.f111.name,by decide,Tryz.func111.trans (congrArg some (by kernel_rfl))⟩
 t0 := Tryz.underlying0
 a0 := Tryz.isAgg0
 z0 := Tryz.sizeOf0
 v0 := Tryz.zeroValue0
 t4 := Tryz.underlying4
 a4 := Tryz.isAgg4
 z4 := Tryz.sizeOf4
 v4 := Tryz.zeroValue4
 t23 := Tryz.underlying55
 a23 := Tryz.isAgg55
 z23 := Tryz.sizeOf55
 v23 := Tryz.zeroValue55
 t26 := Tryz.underlying3
 a26 := Tryz.isAgg3
 z26 := Tryz.sizeOf3
 v26 := Tryz.zeroValue3
 t27 := Tryz.underlying93
 a27 := Tryz.isAgg93
 z27 := Tryz.sizeOf93
 v27 := Tryz.zeroValue93
 t28 := Tryz.underlying94
 a28 := Tryz.isAgg94
 z28 := Tryz.sizeOf94
 v28 := Tryz.zeroValue94
 t33 := Tryz.underlying75
 a33 := Tryz.isAgg75
 z33 := Tryz.sizeOf75
 v33 := Tryz.zeroValue75 }
def sortedA_ren : Go.Shelf.Ren := ⟨fun | 6 => 73 | 8 => 109 | 9 => 110 | 11 => 129 | 13 => 131 | 12 => 130 | 23 => 153 | 24 => 154 | 14 => 144 | 15 => 145 | 16 => 146 | 17 => 147 | 18 => 148 | 19 => 149 | 20 => 150 | 21 => 151 | 22 => 152 | 25 => 160 | 26 => 161 | 27 => 162 | 28 => 163 | 29 => 164 | 30 => 165 | 31 => 168 | n => n,fun | 26 => 3 | 28 => 94 | 24 => 22 | 0 => 0 | 3 => 3 | 37 => 130 | 48 => 149 | 50 => 151 | 4 => 4 | 40 => 142 | 39 => 141 | 45 => 146 | 5 => 5 | 9 => 9 | 51 => 156 | 55 => 160 | 57 => 164 | 58 => 45 | 33 => 75 | n => n,fun | n => n⟩
theorem sortedA : Go.Proofs.SlLaysZI.n6 Tryz.prog sortedA_ren := {
 mixed := by kernel_rfl
 f6 := ⟨Tryz.f73.name,by decide,Tryz.func73.trans (congrArg some (by kernel_rfl))⟩
 f8 := ⟨Tryz.f109.name,by decide,Tryz.func109.trans (congrArg some (by kernel_rfl))⟩
 f11 := ⟨Tryz.f129.name,by decide,Tryz.func129.trans (congrArg some (by kernel_rfl))⟩
 t0 := Tryz.underlying0
 a0 := Tryz.isAgg0
 z0 := Tryz.sizeOf0
 v0 := Tryz.zeroValue0
 t24 := Tryz.underlying22
 a24 := Tryz.isAgg22
 z24 := Tryz.sizeOf22
 v24 := Tryz.zeroValue22
 t26 := Tryz.underlying3
 a26 := Tryz.isAgg3
 z26 := Tryz.sizeOf3
 v26 := Tryz.zeroValue3
 t28 := Tryz.underlying94
 a28 := Tryz.isAgg94
 z28 := Tryz.sizeOf94
 v28 := Tryz.zeroValue94
 i26 := by kernel_rfl }
def sortA_ren : Go.Shelf.Ren := ⟨fun | 5 => 110 | 8 => 131 | 7 => 130 | 19 => 153 | 20 => 154 | 10 => 144 | 11 => 145 | 12 => 146 | 13 => 147 | 14 => 148 | 15 => 149 | 16 => 150 | 17 => 151 | 18 => 152 | 30 => 160 | 31 => 161 | 32 => 162 | 33 => 163 | 34 => 164 | 35 => 165 | 40 => 168 | n => n,fun | 23 => 22 | 25 => 3 | 3 => 3 | 32 => 130 | 22 => 22 | 0 => 0 | 44 => 149 | 46 => 151 | 4 => 4 | 36 => 142 | 35 => 141 | 41 => 146 | 5 => 5 | 9 => 9 | 53 => 156 | 57 => 160 | 63 => 164 | 64 => 45 | n => n,fun | n => n⟩
theorem sortA : Go.Proofs.SlLaysM.n5 Tryz.prog sortA_ren := {
 mixed := by kernel_rfl
 f5 := ⟨Tryz.f110.name,by decide,Tryz.func110.trans (congrArg some (by kernel_rfl))⟩
 f7 := ⟨Tryz.f130.name,by decide,Tryz.func130.trans (congrArg some (by kernel_rfl))⟩
 f8 := Tryz.func131.trans (congrArg some (by kernel_rfl))
 f10 := ⟨Tryz.f144.name,by decide,Tryz.func144.trans (congrArg some (by kernel_rfl))⟩
 f11 := ⟨Tryz.f145.name,by decide,Tryz.func145.trans (congrArg some (by kernel_rfl))⟩
 f12 := ⟨Tryz.f146.name,by decide,Tryz.func146.trans (congrArg some (by kernel_rfl))⟩
 f13 := ⟨Tryz.f147.name,by decide,Tryz.func147.trans (congrArg some (by kernel_rfl))⟩
 f14 := ⟨Tryz.f148.name,by decide,Tryz.func148.trans (congrArg some (by kernel_rfl))⟩
 f15 := ⟨Tryz.f149.name,by decide,Tryz.func149.trans (congrArg some (by kernel_rfl))⟩
 f16 := ⟨Tryz.f150.name,by decide,Tryz.func150.trans (congrArg some (by kernel_rfl))⟩
 f17 := ⟨Tryz.f151.name,by decide,Tryz.func151.trans (congrArg some (by kernel_rfl))⟩
 f18 := ⟨Tryz.f152.name,by decide,Tryz.func152.trans (congrArg some (by kernel_rfl))⟩
 f19 := Tryz.func153.trans (congrArg some (by kernel_rfl))
 f20 := Tryz.func154.trans (congrArg some (by kernel_rfl))
 f30 := ⟨Tryz.f160.name,by decide,Tryz.func160.trans (congrArg some (by kernel_rfl))⟩
 f31 := Tryz.func161.trans (congrArg some (by kernel_rfl))
 f32 := Tryz.func162.trans (congrArg some (by kernel_rfl))
 f33 := ⟨Tryz.f163.name,by decide,Tryz.func163.trans (congrArg some (by kernel_rfl))⟩
 f34 := ⟨Tryz.f164.name,by decide,Tryz.func164.trans (congrArg some (by kernel_rfl))⟩
 f35 := ⟨Tryz.f165.name,by decide,Tryz.func165.trans (congrArg some (by kernel_rfl))⟩
 f40 := ⟨Tryz.f168.name,by decide,Tryz.func168.trans (congrArg some (by kernel_rfl))⟩
 t0 := Tryz.underlying0
 a0 := Tryz.isAgg0
 z0 := Tryz.sizeOf0
 v0 := Tryz.zeroValue0
 t3 := Tryz.underlying3
 a3 := Tryz.isAgg3
 z3 := Tryz.sizeOf3
 v3 := Tryz.zeroValue3
 t4 := Tryz.underlying4
 a4 := Tryz.isAgg4
 z4 := Tryz.sizeOf4
 v4 := Tryz.zeroValue4
 t5 := Tryz.underlying5
 a5 := Tryz.isAgg5
 z5 := Tryz.sizeOf5
 v5 := Tryz.zeroValue5
 t9 := Tryz.underlying9
 a9 := Tryz.isAgg9
 z9 := Tryz.sizeOf9
 v9 := Tryz.zeroValue9
 t22 := Tryz.underlying22
 a22 := Tryz.isAgg22
 z22 := Tryz.sizeOf22
 v22 := Tryz.zeroValue22
 t23 := Tryz.underlying22
 a23 := Tryz.isAgg22
 z23 := Tryz.sizeOf22
 v23 := Tryz.zeroValue22
 t25 := Tryz.underlying3
 a25 := Tryz.isAgg3
 z25 := Tryz.sizeOf3
 v25 := Tryz.zeroValue3
 t32 := Tryz.underlying130
 a32 := Tryz.isAgg130
 z32 := Tryz.sizeOf130
 v32 := Tryz.zeroValue130
 t35 := Tryz.underlying141
 a35 := Tryz.isAgg141
 z35 := Tryz.sizeOf141
 v35 := Tryz.zeroValue141
 t36 := Tryz.underlying142
 a36 := Tryz.isAgg142
 z36 := Tryz.sizeOf142
 v36 := Tryz.zeroValue142
 t41 := Tryz.underlying146
 a41 := Tryz.isAgg146
 z41 := Tryz.sizeOf146
 v41 := Tryz.zeroValue146
 t44 := Tryz.underlying149
 a44 := Tryz.isAgg149
 z44 := Tryz.sizeOf149
 v44 := Tryz.zeroValue149
 t46 := Tryz.underlying151
 a46 := Tryz.isAgg151
 z46 := Tryz.sizeOf151
 v46 := Tryz.zeroValue151
 t53 := Tryz.underlying156
 a53 := Tryz.isAgg156
 z53 := Tryz.sizeOf156
 v53 := Tryz.zeroValue156
 t57 := Tryz.underlying160
 a57 := Tryz.isAgg160
 z57 := Tryz.sizeOf160
 v57 := Tryz.zeroValue160
 t63 := Tryz.underlying164
 a63 := Tryz.isAgg164
 z63 := Tryz.sizeOf164
 v63 := Tryz.zeroValue164
 t64 := Tryz.underlying45
 a64 := Tryz.isAgg45
 z64 := Tryz.sizeOf45
 v64 := Tryz.zeroValue45 }
end Go.Proofs.YtppggchhkckobaaGreat
namespace Go.Proofs.YtppggchhkckobaaGreat
open Go.RowKit Go.Maps Go.Sort Go.Shelf
theorem sortsA (m : Nat) : AnyZI.SortsIn Tryz.prog sortedA_ren Fence.wide m :=
 ⟨fun blk off cap ss W hH hblk hsz => callsIn_wide.2 (AnyM.slices_Sort_int sortA blk off cap ss W hH hblk hsz),
  fun p cap W => callsIn_wide.2 (AnyM.slices_Sort_int_none sortA p cap W)⟩
set_option maxHeartbeats 1000000 in
theorem rising_map (b nn : Nat) (D0 : DataW Value) (R : Value → Option (DataW Value × List MemPlace)) (w : World) (hown : w.ownsMap Tryz.prog 3 R b nn D0) (hmax : Maps.size D0 ≤ maxLen) (hbytes : Maps.size D0 * 8 ≤ 140737488355328) :
   Calls Tryz.prog 31 #[.map (some b)] w fun e w' => ∃ (v : Value) (ss : List Int),e = .returned v ∧ ss.Perm (intKeys D0) ∧
     w'.ownsRow w.heap.size 3 1 v ss.length ((ss.mergeSort (fun x y => decide (x ≤ y))).map encZ) ∧ (v = .slice none 0 0 ↔ ss = []) ∧ Below w.heap.size w w' := by
 refine (callsIn_wide (n := 6)).1 ?_
 have hbl := hown.lt
 have hseq : SeqGives Fence.wide 2 Tryz.prog 111 #[.pointer (some ⟨w.heap.size,0,none⟩)] encZ (fun ss => ss.Perm (intKeys D0)) (Maps.size D0) (w.alloc (.cells #[.map (some b)] 55)) :=
   AnyZI.keys_gives (ρ := keysA_ren) { keysA with } Fence.wide _ trivial rfl (by omega) w.heap.size b nn D0 _ (by simp) (by simp) (by
     obtain ⟨es,clock,hb,Ft,hs,hD⟩ := hown
     exact ⟨es,clock,(Below.heap_alloc _ _ b hbl).trans hb,Ft,hs,hD⟩)
 have cK : ∀ mb W,CallsIn Fence.wide 5 Tryz.prog 74 #[.map mb] W fun e w' => e = .returned (.func (.func 111) #[] #[.pointer (some ⟨W.heap.size,0,none⟩)]) ∧ w' = W.alloc (.cells #[.map mb] 55) := fun mb W => AnyZI.keys_in keysA Fence.wide 5 trivial rfl mb W
 have cS := AnyZI.sorted_in sortedA Fence.wide 5 trivial trivial trivial trivial rfl (by omega) (sortsA _) (enters_of Tryz.func110 (by kernel_rfl) rfl) 111 #[.pointer (some ⟨w.heap.size,0,none⟩)] trivial (enters_of Tryz.func111 (by kernel_rfl) rfl) _ _ hmax hbytes _ hseq
 change CallsIn _ _ Tryz.prog 73 _ _ _ at cS
 have hfK : Fence.wide.fn 74 := trivial
 have hfS : Fence.wide.fn 73 := trivial
 refine callsIn_of_wp Tryz.func31 rfl trivial ?_ rfl
 simp only [Tryz.ntmps31,List.size_toArray,List.length_cons,List.length_nil,Nat.reduceAdd,Nat.reduceSub,Array.replicate_succ,Array.replicate_zero,List.push_toArray,List.append_toArray,List.nil_append,List.cons_append]
 gi_wp2_with (first
   | (gi_at_call 74; refine (cK _ _).mono ?_; rintro e w' ⟨rfl,rfl⟩)
   | (gi_at_call 73; refine cS.mono ?_; rintro e w' ⟨v,ss,rfl,hS,hrow,hnil,hb⟩))
 go_ret
 exact ⟨v,ss,rfl,hS,ownsRow_base_a hrow (by simp),hnil,((Below.refl _ w).alloc (Nat.le_refl _) _).trans (hb.mono (by simp))⟩
def rsn (n : Nat) (L : List Nat) : List Nat := (List.range n).filter fun j => L.contains j
theorem tg_perm {B nn : Nat} {L : List Nat} {D : DataW Value} {w : World} (hown : w.ownsMap Tryz.prog 3 (plainElem Tryz.prog 3) B nn D) (hD : TgD D L) (hd : L.Nodup) : (L.map fun j => ((j : Nat) : Int)).Perm (intKeys D) := by
 refine CollectedI.perm (left := fun _ => false) ⟨?_,fun x => ?_⟩ hown ct_law cty_int (fun _ => rfl)
 · exact List.pairwise_map.2 (hd.imp (fun {a b} h => by omega))
 · rw [hD.has x,List.mem_map]
   exact ⟨fun ⟨k,hk,e⟩ => ⟨⟨k,hk,e.symm⟩,rfl⟩,fun ⟨⟨k,hk,e⟩,_⟩ => ⟨k,hk,e.symm⟩⟩
theorem rising_any {B n : Nat} {L : List Nat} {w : World} (h : Tg B L w) (hd : L.Nodup) (hl : ∀ k ∈ L, k < n) (hn : n ≤ 64) :
   Calls Tryz.prog 31 #[.map (some B)] w fun e w' => ∃ v,e = .returned v ∧ OwnI w.heap.size v ((rsn n L).map fun j => ((j : Nat) : Int)) w' ∧ Below w.heap.size w w' := by
 obtain ⟨D,hown,hD⟩ := h
 have hp := tg_perm hown hD hd
 have hsz : Maps.size D = L.length := by
   obtain ⟨es,rfl⟩ := hD.im
   have := hp.length_eq
   rw [List.length_map] at this
   rw [this]
   show es.length = (es.map _).length
   rw [List.length_map]
 have hln := nd_len hd hl
 refine (rising_map B L.length D _ w hown (by rw [hsz]; unfold maxLen; omega) (by rw [hsz]; omega)).mono ?_
 rintro e w' ⟨v,ss,rfl,hS,hrow,_,hb⟩
 refine ⟨v,rfl, ?_,hb⟩
 have e1 : ss.mergeSort (fun x y => decide (x ≤ y)) = (rsn n L).map fun j => ((j : Nat) : Int) := by
   exact (mergeSort_of_perm_i (hS.trans hp.symm)).trans (sort_range hd hl)
 have e2 : ss.length = ((rsn n L).map fun j => ((j : Nat) : Int)).length := by rw [← e1,List.length_mergeSort]
 rw [e1,e2] at hrow
 exact hrow
end Go.Proofs.YtppggchhkckobaaGreat
