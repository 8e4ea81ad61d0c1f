/- Parts of the proof: E24, E25, E26, E27, E28, E29 -/
import Derived.Test.YtfpihegkllffbaaGreatP20
import Derived.Test.YtfpihegkllffbaaGreatP15
import Derived.Test.YtfpihegkllffbaaGreatP17
import Derived.Test.YtfpihegkllffbaaGreatP13
set_option linter.unusedVariables false
set_option linter.unusedSimpArgs false
set_option linter.unusedSectionVars false
namespace Go.Pv
open Go.Proofs Go.Am
set_option maxRecDepth 10000
noncomputable def Fns.wd (f:Fns) (r most:Int) (n:Nat):List Nat:=(List.range n).filter fun x=>decide (((f.wo x).spn (gF r)).hi≤most)
theorem wd_succ (f:Fns) (r most:Int) (n:Nat):f.wd r most (n+1)=if ((f.wo n).spn (gF r)).hi≤most then f.wd r most n++[n] else f.wd r most n:=by
  unfold Fns.wd
  rw [List.range_succ,List.filter_append,List.filter_cons,List.filter_nil]
  split<;>simp_all
theorem wd_len (f:Fns) (r most:Int) (n:Nat):(f.wd r most n).length≤n:=by
  unfold Fns.wd
  exact Nat.le_trans (List.length_filter_le _ _) (by simp)
theorem wd_mem {f:Fns} {r most:Int} {n x:Nat}:x∈f.wd r most n↔x < n∧((f.wo x).spn (gF r)).hi≤most:=by
  unfold Fns.wd
  rw [List.mem_filter,List.mem_range,decide_eq_true_eq]
theorem keepN_all:∀ (li:List Ofc) (i S:Nat),(∀ k,i≤k→k < i+li.length→S.testBit k=true)→keepN S i li=[]
  | [],_,_,_=>rfl
  | o :: os, i, S, h => by
    rw [keepN,if_pos (h i (Nat.le_refl _) (by simp only [List.length_cons];omega))]
    exact keepN_all os (i+1) S fun k h1 h2=>h k (by omega) (by simp only [List.length_cons];omega)
theorem wo_all (f:Fns):(f.wo (2 ^ f.li.length - 1)).li=[] :=
  keepN_all f.li 0 _ fun k _ h=>by rw [Nat.testBit_two_pow_sub_one,decide_eq_true_eq];omega
theorem spn_nil {f:Fns} (hf:f.ok) (hl:f.li=[]) {g:Deed→Int→Int} (hg:Gok g):f.spn g=⟨0,0⟩:=by
  have h:=spn_hul hf hg
  have hz:∀ x,(∃ T,f.Tru T∧f.val g T=x)→x=0:=fun x ⟨T,hT,e⟩=>by
    have:T=[]:=List.eq_nil_of_length_eq_zero (by rw [hT.ln,hl];rfl)
    subst this
    rw [← e]
    rfl
  have e1:=hz _ h.lo
  have e2:=hz _ h.hi
  generalize f.spn g=e at *
  obtain ⟨a,b⟩:=e
  simp only at e1 e2
  rw [e1,e2]
theorem wd_ne {f:Fns} (hf:f.ok) {r most:Int} (hm:0≤most):f.wd r most (2 ^ f.li.length)≠[]:=by
  have hp:0 < 2 ^ f.li.length:=Nat.pow_pos (by decide)
  have:(2 ^ f.li.length - 1)∈f.wd r most (2 ^ f.li.length):=wd_mem.2 ⟨by omega,by rw [spn_nil (hf.wo _) (wo_all f) (gF_ok r)];exact hm⟩
  exact List.ne_nil_of_mem this
section
variable (f:Fns) {t1 t2:Tail} (h1:t1.isOwn=false) (h2:t2.isOwn=false)
include h1 h2
theorem f61 (hf:f.ok) (r most:Int) (hm:0≤most):Fn P0 61 [f.v t1 t2,I r,I most] (N (fstL (f.wd r most (2 ^ f.li.length)))):=by
  have hl5:=hf.li
  have hp:2 ^ f.li.length≤2 ^ 5:=Nat.pow_le_pow_right (by decide) hl5
  have hp0:0 < 2 ^ f.li.length:=Nat.pow_pos (by decide)
  have hall:=f54 f h1 h2 hl5
  have hb1:PV.bds 0 [f.v t1 t2]=true:=bd_fnsV f h1 h2 rfl
  have hwo:=fun x (hx:x < 64)=>f80 f h1 h2 hf x hx
  have hbo:∀ x:Nat,PV.bds 0 [f.v t1 t2,N x]=true:=fun x=>bd_fnsV f h1 h2 rfl
  have hen:=fun (x:Nat) {t3:Tail} (h3:t3.isOwn=false)=>f69f (f.wo x) h1 h3 (hf.wo x) (ctF r) (ctF_ok r)
  have hbe:=fun (x:Nat) {t3:Tail} (h3:t3.isOwn=false)=>(bd_fnsV (f.wo x) h1 h3 rfl:PV.bds 0 [(f.wo x).v t1 t3,(ctF r).v]=true)
  have hsc:=wd_succ f r most
  have hwl:=wd_len f r most
  have hg:(ctF r).g=gF r:=rfl
  rw [hg] at hen
  have hmf:=f81 .no (f.wd r most (2 ^ f.li.length)) (wd_ne hf hm) (by have:=hwl (2 ^ f.li.length);omega) (fun x hx=>by have:=(wd_mem.1 hx).1;omega)
  have hbm:PV.bds 0 [.sl .no ((f.wd r most (2 ^ f.li.length)).map N),.fn (.func 82) [] []]=true:=bds_cons (bd_sl (f:=N) (tl:=.no) rfl (fun _=>rfl) _) rfl
  have hw0:f.wd r most 0=[]:=rfl
  generalize hn:2 ^ f.li.length=n at *
  generalize f.wd r most=W at *
  generalize hE:(fun x=>(f.wo x).spn (gF r))=E at *
  have hE':∀ x,(f.wo x).spn (gF r)=E x:=fun x=>by rw [← hE]
  simp only [hE'] at *
  have hall':((n - 1:Nat):Int)+1=(n:Int):=by omega
  refine PFun.of (C:=c61) (cx_ok _ _ _) rfl (fn:=Tryz.f61) (by kernel_rfl) (c:=_) rfl rfl rfl ?_
  refine rS (rN (cx_ok _ _ _) (rO rfl (Ope.boxF rfl rfl ?_)))
  refine rO rfl (oA rfl ?_)
  refine rI (rS (rN (cx_ok _ _ _) (rO rfl (oA rfl ?_))))
  refine rI (rS (rS (rN (cx_ok _ _ _) (rO rfl (oL rfl rfl ?_)))))
  refine rO rfl (Ope.cf rfl rfl hall hb1 ?_)
  refine rO rfl (Ope.add rfl rfl (by omega) ?_)
  rw [hall']
  refine rO rfl (oM rfl ?_)
  refine rI (Run.block (Run.loop (α:=Nat×Option Nat×Nat) (fun t=>[(1,I r),(2,I most),(3,.fp (f.v t1 t2)),(7,.sl (tlU t.2.1) ((W t.1).map N)),(11,I n),(12,I t.1)]) (fun t=>HE t.2.2 (ownU t.2.1++[])) (fun t=>t.1≤n∧∀ j,t.2.1=some j→j < t.2.2∧W t.1≠[]) (fun t=>n - t.1) (0,none,0) ⟨rfl,rfl,rfl,by rw [hw0];rfl,rfl,rfl,trivial⟩ rfl ⟨Nat.zero_le _,fun j hj=>by cases hj⟩ (fun t ht=>?_)))
  obtain ⟨i,o',m⟩:=t
  obtain ⟨hi,hO⟩:=ht
  simp only at hi hO
  show Run _ _ _ _ [(1,I r),(2,I most),(3,.fp (f.v t1 t2)),(7,.sl (tlU o') ((W i).map N)),(11,I n),(12,I i)] [] (HE m (ownU o'++[]))
  refine rS (rN (cx_ok _ _ _) (rO rfl (Ope.lt rfl rfl ?_)))
  refine rI (rS (rC rfl (fun hc=>?_) fun hc=>?_))
  ·refine Run.skip (rS (Run.block (rS ?_)))
   have hlt':i < n:=by omega
   have hno:∀ j,o'=some j→j < m:=fun j hj=>(hO j hj).1
   obtain ⟨t3,ht3,hwx⟩:=hwo i (by omega)
   have hex:=hen i ht3
   have hbx:=hbe i ht3
   have hsi:=hsc i
   have hli:=hwl i
   refine rN (cx_ok _ _ _) (rO rfl (oM rfl ?_))
   refine rO rfl (oA rfl ?_)
   refine rI (rS (rN (cx_ok _ _ _) (rO rfl (oL rfl rfl ?_))))
   refine rO rfl (oM rfl ?_)
   refine rO rfl (Ope.cf rfl rfl hwx (hbo i) ?_)
   refine rO rfl (oM rfl ?_)
   refine rO rfl (Ope.bld rfl rfl ?_)
   refine rO rfl (Ope.ifc rfl ?_)
   refine rO rfl (Ope.cf rfl rfl hex hbx ?_)
   refine rO rfl (Ope.field rfl rfl ?_)
   refine rO rfl (oM rfl ?_)
   refine rO rfl (Ope.le rfl rfl ?_)
   refine rI (rC rfl (fun hc=>?_) fun hc=>?_)
   ·refine rN (cx_ok _ _ _) (rO rfl (oM rfl ?_))
    refine rO rfl (oM rfl ?_)
    refine rO rfl (Ope.bsl rfl rfl rfl rfl ?_)
    refine rO rfl (Ope.apU (o':=o') (vs:=(W i).map N) (ws:=[N i]) rfl rfl (by simp) (fun j hj=>⟨by have:=(hO j hj).2;simpa using this,rfl⟩) (by simp only [List.length_map,List.length_singleton];omega) (by simp only [List.length_map,List.length_singleton];omega) (by decide) (by intro v hv;obtain ⟨_,_,rfl⟩:=List.mem_map.1 hv;rfl) (by intro v hv;simp only [List.mem_singleton] at hv;subst hv;exact ⟨rfl,rfl⟩) ?_)
    refine rO rfl (oA rfl ?_)
    refine rI (Run.bend (rN (cx_ok _ _ _) (rO rfl (Ope.add rfl rfl (by omega) ?_))))
    refine rO rfl (oM rfl ?_)
    refine rI ?_
    first
    | exact Run.lend ⟨(i+1,some m,m+1),by show n - (i+1) < n - i;omega,⟨by show i+1≤n;omega,fun j hj=>by cases hj;exact ⟨Nat.lt_succ_self _,by show W (i+1)≠[];rw [hsi,if_pos hc];simp⟩⟩,⟨rfl,rfl,rfl,congrArg (fun l=>some (PV.sl (.own m) l)) (by show _=(W (i+1)).map N;rw [hsi,if_pos hc,List.map_append];rfl),rfl,rfl,trivial⟩,rfl,rfl⟩
    | exact Run.lend ⟨(i+1,o',m),by show n - (i+1) < n - i;omega,⟨by show i+1≤n;omega,fun j hj=>by have:=hO j hj;refine ⟨this.1,?_⟩;show W (i+1)≠[];rw [hsi,if_neg hc];exact this.2⟩,⟨rfl,rfl,rfl,by show _=some (PV.sl (tlU o') ((W (i+1)).map N));rw [hsi,if_neg hc];rfl,rfl,rfl,trivial⟩,rfl,rfl⟩
   ·refine Run.skip (Run.bend (rN (cx_ok _ _ _) (rO rfl (Ope.add rfl rfl (by omega) ?_))))
    refine rO rfl (oM rfl ?_)
    refine rI ?_
    first
    | exact Run.lend ⟨(i+1,some m,m+1),by show n - (i+1) < n - i;omega,⟨by show i+1≤n;omega,fun j hj=>by cases hj;exact ⟨Nat.lt_succ_self _,by show W (i+1)≠[];rw [hsi,if_pos hc];simp⟩⟩,⟨rfl,rfl,rfl,congrArg (fun l=>some (PV.sl (.own m) l)) (by show _=(W (i+1)).map N;rw [hsi,if_pos hc,List.map_append];rfl),rfl,rfl,trivial⟩,rfl,rfl⟩
    | exact Run.lend ⟨(i+1,o',m),by show n - (i+1) < n - i;omega,⟨by show i+1≤n;omega,fun j hj=>by have:=hO j hj;refine ⟨this.1,?_⟩;show W (i+1)≠[];rw [hsi,if_neg hc];exact this.2⟩,⟨rfl,rfl,rfl,by show _=some (PV.sl (tlU o') ((W (i+1)).map N));rw [hsi,if_neg hc];rfl,rfl,rfl,trivial⟩,rfl,rfl⟩
  ·refine Run.exit (Jmp.code (Jmp.round (Jmp.here (rS ?_))))
   obtain rfl:i=n:=by omega
   refine Run.weakT (d:=7) rfl ?_
   refine Run.wide (m:=m) (l':=[]) (Nat.le_refl _) trivial ?_
   refine rN (cx_ok _ _ _) (rO rfl (oM rfl ?_))
   refine rO rfl (Ope.cf rfl rfl hmf hbm ?_)
   refine rO rfl (oA rfl ?_)
   exact rI (Run.ret (fin_ret (.tmp rfl .nil) rfl rfl))
theorem f60 (hf:f.ok) (r most:Int) (hm:0≤most):Fn P0 60 [f.v t1 t2,.fp (I r),.fp (I most)] (N (fstL (f.wd r most (2 ^ f.li.length)))):=by
  have h:=f61 f h1 h2 hf r most hm
  have hb:PV.bds 0 [f.v t1 t2,I r,I most]=true:=bd_fnsV f h1 h2 rfl
  generalize fstL (f.wd r most (2 ^ f.li.length))=z at *
  refine PFun.of (C:=c60) (cx_ok _ _ _) rfl (fn:=Tryz.f60) (by kernel_rfl) (c:=_) rfl rfl rfl ?_
  refine rS (rN (cx_ok _ _ _) (rO rfl (Ope.boxF rfl rfl ?_)))
  refine rO rfl (oA rfl ?_)
  refine rI (rS (rN (cx_ok _ _ _) (rO rfl (oL rfl rfl ?_))))
  refine rO rfl (oL rfl rfl ?_)
  refine rO rfl (oL rfl rfl ?_)
  refine rO rfl (Ope.cf rfl rfl h hb ?_)
  refine rO rfl (oA rfl ?_)
  exact rI (Run.ret (fin_ret (.tmp rfl .nil) rfl rfl))
omit h1 h2 in
def tolI (f:Fns) (rg:Bool) (z:Int):PV:=if f.B=true then (if rg=true then .tup [I z,I 0] else .tup [I 0,I 2]) else .tup [I 0,I 1]
variable (hS:f.ru.length≤9223372036854775807) (hJ:f.li.length≤9223372036854775807)
include hS hJ
theorem f24 (r most : Int) : Fn P0 24 [f.v t1 t2, I r, I most] (tolI f (numB f.n r && decide (0 ≤ most)) (fstL (f.wd r most (2 ^ f.li.length)))) := by
  have hnu:=f47 f h1 h2 r
  have hb2:PV.bds 0 [f.v t1 t2,I r]=true:=bd_fnsV f h1 h2 rfl
  have hbt:∀ b:Bool,PV.bds 0 [f.v t1 t2,B b,.fn (.func 60) [] [.fp (I r),.fp (I most)]]=true:=fun b=>bd_fnsV f h1 h2 rfl
  have hto:Fn P0 59 [f.v t1 t2,B (numB f.n r && decide (0≤most)),.fn (.func 60) [] [.fp (I r),.fp (I most)]] (tolI f (numB f.n r && decide (0≤most)) (fstL (f.wd r most (2 ^ f.li.length)))):=by
    unfold tolI
    by_cases hv:f.B=true
    · rw [if_pos hv]
      cases hr:(numB f.n r && decide (0≤most)) with
      | true =>
        have hf:=fns_ok f hv
        have hr':=hr
        simp only [Bool.and_eq_true,decide_eq_true_eq] at hr'
        exact f59ok f h1 h2 hS hJ 60 [.fp (I r),.fp (I most)] _ hv (bd_fnsV f h1 h2 rfl) rfl (f60 f h1 h2 hf r most hr'.2)
      | false=>exact f59rg f h1 h2 hS hJ 60 [.fp (I r),.fp (I most)] hv
    · rw [if_neg hv]
      exact f59ba f h1 h2 hS hJ 60 [.fp (I r),.fp (I most)] _ (by simpa using hv)
  obtain ⟨u,z,hu⟩:∃ (u z:Int),tolI f (numB f.n r && decide (0≤most)) (fstL (f.wd r most (2 ^ f.li.length)))=.tup [I u,I z]:=by
    unfold tolI
    split
    · split
      · exact ⟨_,_,rfl⟩
      · exact ⟨0,2,rfl⟩
    · exact ⟨0,1,rfl⟩
  rw [hu] at hto ⊢
  generalize numB f.n r=bn at *
  have e1:∀ h:bn=false,(bn && decide (0≤most))=false:=fun h=>by rw [h];rfl
  have e2:∀ h:bn=true,(bn && decide (0≤most))=decide (0≤most):=fun h=>by rw [h];rfl
  cases bn with
  | true =>
    rw [e2 rfl] at hto
    refine PFun.of (C:=c24) (cx_ok _ _ _) rfl (fn:=Tryz.f24) (by kernel_rfl) (c:=_) rfl rfl rfl ?_
    refine rS (rN (cx_ok _ _ _) (rO rfl (Ope.boxF rfl rfl ?_)))
    refine rO rfl (Ope.boxF rfl rfl ?_)
    refine rO rfl (Ope.boxF rfl rfl ?_)
    refine rO rfl (oA rfl ?_)
    refine rO rfl (oA rfl ?_)
    refine rI (rS (Run.draw (cx_ok _ _ _) [(0,false),(1,true),(2,true),(8,true),(3,true),(4,true),(5,true),(6,true),(7,true),(9,true),(10,true),(11,true),(12,true),(13,true)] (by kernel_rfl) (dO rfl rfl rfl (.load rfl) (oL rfl rfl ?_))))
    refine dO rfl rfl rfl .sure (oL rfl rfl ?_)
    refine dO rfl rfl rfl .sure (oL rfl rfl ?_)
    refine dO rfl rfl rfl .sure (Ope.mkf rfl rfl ?_)
    refine dO rfl rfl rfl .sure (Ope.cf rfl rfl hnu hb2 ?_)
    refine dO rfl rfl rfl .sure (oM rfl ?_)
    refine Dra.on' rfl rfl rfl rfl rfl .sure (oL rfl rfl ?_)
    refine Dra.on' rfl rfl rfl rfl rfl .sure (Ope.ge rfl rfl ?_)
    refine dO rfl rfl rfl .sure (Ope.pickT rfl rfl ?_)
    refine dO rfl rfl rfl .sure (Ope.cf rfl rfl hto (hbt _) ?_)
    refine dO rfl rfl rfl .sure (Ope.ext rfl rfl ?_)
    refine dO rfl rfl rfl .sure (Ope.ext rfl rfl ?_)
    refine dO rfl rfl rfl .sure (oA rfl ?_)
    refine dO rfl rfl rfl .sure (oA rfl ?_)
    exact Dra.nil (Run.ret (fin_ret (.tmp rfl (.tmp rfl .nil)) rfl rfl))
  | false =>
    rw [e1 rfl] at hto
    refine PFun.of (C:=c24) (cx_ok _ _ _) rfl (fn:=Tryz.f24) (by kernel_rfl) (c:=_) rfl rfl rfl ?_
    refine rS (rN (cx_ok _ _ _) (rO rfl (Ope.boxF rfl rfl ?_)))
    refine rO rfl (Ope.boxF rfl rfl ?_)
    refine rO rfl (Ope.boxF rfl rfl ?_)
    refine rO rfl (oA rfl ?_)
    refine rO rfl (oA rfl ?_)
    refine rI (rS (Run.draw (cx_ok _ _ _) [(0,false),(1,true),(2,true),(8,true),(3,true),(4,true),(5,true),(6,true),(7,true),(9,true),(10,true),(11,true),(12,true),(13,true)] (by kernel_rfl) (dO rfl rfl rfl (.load rfl) (oL rfl rfl ?_))))
    refine dO rfl rfl rfl .sure (oL rfl rfl ?_)
    refine dO rfl rfl rfl .sure (oL rfl rfl ?_)
    refine dO rfl rfl rfl .sure (Ope.mkf rfl rfl ?_)
    refine dO rfl rfl rfl .sure (Ope.cf rfl rfl hnu hb2 ?_)
    refine dO rfl rfl rfl .sure (oM rfl ?_)
    refine dF rfl rfl rfl (.inl rfl) rfl (dF rfl rfl rfl (.inl rfl) rfl (dO rfl rfl rfl .sure (Ope.pickF rfl rfl ?_)))
    refine dO rfl rfl rfl .sure (Ope.cf rfl rfl hto (hbt _) ?_)
    refine dO rfl rfl rfl .sure (Ope.ext rfl rfl ?_)
    refine dO rfl rfl rfl .sure (Ope.ext rfl rfl ?_)
    refine dO rfl rfl rfl .sure (oA rfl ?_)
    refine dO rfl rfl rfl .sure (oA rfl ?_)
    exact Dra.nil (Run.ret (fin_ret (.tmp rfl (.tmp rfl .nil)) rfl rfl))
end
end Go.Pv
namespace Go.Pv
open Go.Proofs Go.Am
set_option maxRecDepth 10000
def knN (n:Int) (ri ho:List Int) (i:Nat):Bool:=(List.range i).all fun k=>numB n (ri.getD k 0) && upB 144 (ho.getD k 0)
def Fns.knB (f:Fns) (ri ho:List Int):Bool:=(decide (ri.length=f.li.length) && decide (ho.length=f.li.length)) && knN f.n ri ho f.li.length
theorem knN_succ (n:Int) (ri ho:List Int) (i:Nat):knN n ri ho (i+1)=(knN n ri ho i && (numB n (ri.getD i 0) && upB 144 (ho.getD i 0))):=by
  unfold knN
  rw [List.range_succ,List.all_append]
  simp
theorem knN_no {n:Int} {ri ho:List Int} {i m:Nat} (h:i < m) (hb:(numB n (ri.getD i 0) && upB 144 (ho.getD i 0))=false):knN n ri ho m=false:=by
  cases hk:knN n ri ho m with
  | false=>rfl
  | true =>
    unfold knN at hk
    rw [List.all_eq_true] at hk
    have:=hk i (List.mem_range.2 h)
    rw [hb] at this
    cases this
theorem kno_of {f:Fns} {ri ho:List Int} (h:f.knB ri ho=true):f.Kno ri ho:=by
  unfold Fns.knB knN at h
  simp only [Bool.and_eq_true,decide_eq_true_eq,List.all_eq_true] at h
  obtain ⟨⟨a,b⟩,c⟩:=h
  refine ⟨a,b,fun x hx=>?_,fun x hx=>?_⟩
  · obtain ⟨i, hi, rfl⟩ := List.getElem_of_mem hx
    have:=(c i (List.mem_range.2 (by omega))).1
    simp only [numB,Bool.and_eq_true,decide_eq_true_eq,List.getD,List.getElem?_eq_getElem hi,Option.getD_some] at this
    exact this
  · obtain ⟨i, hi, rfl⟩ := List.getElem_of_mem hx
    have:=(c i (List.mem_range.2 (by omega))).2
    simp only [upB,Bool.and_eq_true,decide_eq_true_eq,List.getD,List.getElem?_eq_getElem hi,Option.getD_some] at this
    exact this
section
variable (f:Fns) {t1 t2:Tail} (h1:t1.isOwn=false) (h2:t2.isOwn=false)
include h1 h2
theorem f56 (hJ : f.li.length ≤ 9223372036854775807) (ta tb : Tail) (ri ho : List Int) : Fn P0 56 [f.v t1 t2, .sl ta (ri.map I), .sl tb (ho.map I)] (B (f.knB ri ho)) := by
  have hri:=fun r=>f47 f h1 h2 r
  have hup:=fun x=>f74 144 x
  have hb2:∀ r:Int,PV.bds 0 [f.v t1 t2,I r]=true:=fun r=>bd_fnsV f h1 h2 rfl
  have hno:=fun {i m:Nat} (h:i < m)=>@knN_no f.n ri ho i m h
  have hsu:=knN_succ f.n ri ho
  have hg1:∀ i (h:i < ri.length),ri.getD i 0=ri[i]:=fun i h=>by simp [List.getD,h]
  have hg2:∀ i (h:i < ho.length),ho.getD i 0=ho[i]:=fun i h=>by simp [List.getD,h]
  unfold Fns.knB
  have hk0:knN f.n ri ho 0=true:=rfl
  generalize knN f.n ri ho=K at *
  by_cases hA:ri.length=f.li.length∧ho.length=f.li.length
  · obtain ⟨hA1, hA2⟩ := hA
    rw [decide_eq_true hA1,decide_eq_true hA2,Bool.true_and,Bool.true_and]
    refine PFun.of (C:=c56) (cx_ok _ _ _) rfl (fn:=Tryz.f56) (by kernel_rfl) (c:=_) rfl rfl rfl ?_
    refine rS (rN (cx_ok _ _ _) (rO rfl (Ope.boxF rfl rfl ?_)))
    refine rO rfl (oA rfl ?_)
    refine rI (rS (rS (rN (cx_ok _ _ _) (rO rfl (oM rfl ?_)))))
    refine rO rfl (Ope.len (m:=ri.length) rfl (by simp) ?_)
    refine rO rfl (Ope.fld rfl rfl ?_)
    refine rO rfl (oL rfl rfl ?_)
    refine rO rfl (Ope.len (m:=f.li.length) rfl (by simp) ?_)
    refine rO rfl (Ope.ne rfl rfl ?_)
    refine rO rfl (oM rfl ?_)
    refine Reg.splitX rfl rfl (fun hg=>?_) fun hg=>?_
    ·(exfalso;omega)
    ·refine Reg.on rfl rfl rfl (oM rfl ?_)
     refine Reg.on rfl rfl rfl (Ope.len (m:=ho.length) rfl (by simp) ?_)
     refine Reg.on rfl rfl rfl (Ope.fld rfl rfl ?_)
     refine Reg.on rfl rfl rfl (oL rfl rfl ?_)
     refine Reg.on rfl rfl rfl (Ope.len (m:=f.li.length) rfl (by simp) ?_)
     refine Reg.on rfl rfl rfl (Ope.ne rfl rfl ?_)
     refine rO rfl (Ope.pickF rfl rfl ?_)
     refine rI (rC rfl (fun hc=>?_) fun hc=>?_)
     ·(exfalso;omega)
     ·refine Run.skip (rS (rS (rN (cx_ok _ _ _) (rO rfl (Ope.fld rfl rfl ?_)))))
      refine rO rfl (oL rfl rfl ?_)
      refine rO rfl (Ope.len (m:=f.li.length) rfl (by simp) ?_)
      refine rO rfl (oM rfl ?_)
      refine rI (Run.block (Run.loop (α:=Nat) (fun i=>[(1,.sl ta (ri.map I)),(2,.sl tb (ho.map I)),(3,.fp (f.v t1 t2)),(24,I f.li.length),(25,I i)]) (fun i=>HE 0 []) (fun i=>i≤f.li.length∧K i=true) (fun i=>f.li.length - i) 0 ⟨rfl,rfl,rfl,rfl,rfl,trivial⟩ rfl ⟨Nat.zero_le _,hk0⟩ (fun i hi=>?_)))
      obtain ⟨hi1,hi2⟩:=hi
      refine rS (rN (cx_ok _ _ _) (rO rfl (Ope.lt rfl rfl ?_)))
      refine rI (rS (rC rfl (fun hc=>?_) fun hc=>?_))
      ·refine Run.skip (rS (Run.block (rS ?_)))
       have hil:i < f.li.length:=by omega
       have hil1:i < ri.length:=by omega
       have hil2:i < ho.length:=by omega
       have hri1:=hri ri[i]
       have hup1:=hup ho[i]
       have hsi:=hsu i
       have hni:=@hno i f.li.length hil
       rw [hg1 i hil1,hg2 i hil2] at hsi hni
       generalize numB f.n ri[i]=p at *
       generalize upB 144 ho[i]=q at *
       have hbb:=hb2 ri[i]
       refine rN (cx_ok _ _ _) (rO rfl (oM rfl ?_))
       refine rO rfl (oA rfl ?_)
       refine rI (rS (Run.draw (cx_ok _ _ _) [(0,true),(1,true),(2,true),(3,true),(4,true),(5,true),(6,true),(7,true),(8,true),(9,true),(10,true),(11,true),(12,true),(13,true),(14,true)] (by kernel_rfl) (dO rfl rfl rfl .sure (oL rfl rfl ?_))))
       refine dO rfl rfl rfl .sure (oM rfl ?_)
       refine dO rfl rfl rfl .sure (oM rfl ?_)
       refine dO rfl rfl rfl .sure (Ope.idxM (m:=i) (f:=I) rfl rfl rfl hil1 (fun _=>rfl) ?_)
       refine dO rfl rfl rfl .sure (oL rfl rfl ?_)
       refine dO rfl rfl rfl .sure (Ope.cf rfl rfl hri1 hbb ?_)
       refine dO rfl rfl rfl .sure (Ope.not rfl ?_)
       refine dO rfl rfl rfl .sure (oM rfl ?_)
       refine Dra.splitX rfl rfl rfl rfl (fun hg=>?_) fun hg=>?_
       ·refine dF rfl rfl rfl (.inl rfl) rfl (dF rfl rfl rfl (.inl rfl) rfl (dF rfl rfl rfl (.inl rfl) rfl (dF rfl rfl rfl (.inl rfl) rfl (dF rfl rfl rfl (.inl rfl) rfl (dF rfl rfl rfl (.inl rfl) rfl (dO rfl rfl rfl .sure (Ope.pickT rfl rfl ?_)))))))
        refine Dra.nil (Run.condT rfl (rS (rN (cx_ok _ _ _) (rO rfl (oA rfl ?_)))))
        refine rI (Run.ret (Jmp.retB (Jmp.code (Jmp.round (Jmp.retB (Jmp.code (fin_ret (.tmp rfl .nil) rfl ?_)))))))
        first | (rw [hi2];done) | (show B _=B _;congr 1;symm;first | exact hi2 | (apply hni;cases p<;>cases q<;>first | rfl | simp_all))
       ·refine Dra.on' rfl rfl rfl rfl rfl .sure (oM rfl ?_)
        refine Dra.on' rfl rfl rfl rfl rfl .sure (oM rfl ?_)
        refine Dra.on' rfl rfl rfl rfl rfl .sure (Ope.idxM (m:=i) (f:=I) rfl rfl rfl hil2 (fun _=>rfl) ?_)
        refine Dra.on' rfl rfl rfl rfl rfl .sure (oL rfl rfl ?_)
        refine Dra.on' rfl rfl rfl rfl rfl .sure (Ope.cf rfl rfl (hup1) rfl ?_)
        refine Dra.on' rfl rfl rfl rfl rfl .sure (Ope.not rfl ?_)
        refine dO rfl rfl rfl .sure (Ope.pickF rfl rfl ?_)
        refine Dra.nil (rC rfl (fun hc=>?_) fun hc=>?_)
        ·refine rS (rN (cx_ok _ _ _) (rO rfl (oA rfl ?_)))
         refine rI (Run.ret (Jmp.retB (Jmp.code (Jmp.round (Jmp.retB (Jmp.code (fin_ret (.tmp rfl .nil) rfl ?_)))))))
         first | (rw [hi2];done) | (show B _=B _;congr 1;symm;first | exact hi2 | (apply hni;cases p<;>cases q<;>first | rfl | simp_all))
        ·refine Run.skip (Run.bend (rN (cx_ok _ _ _) (rO rfl (Ope.add rfl rfl (by omega) ?_))))
         refine rO rfl (oM rfl ?_)
         exact rI (Run.lend ⟨i+1,by omega,⟨by omega,by rw [hsi,hi2];simp_all⟩,⟨rfl,rfl,rfl,rfl,rfl,trivial⟩,rfl,rfl⟩)
      ·refine Run.exit (Jmp.code (Jmp.round (Jmp.here (rS ?_))))
       obtain rfl:i=f.li.length:=by omega
       refine rN (cx_ok _ _ _) (rO rfl (oA rfl ?_))
       refine rI (Run.ret (fin_ret (.tmp rfl .nil) rfl ?_))
       first | (rw [hi2];done) | (show B _=B _;congr 1;symm;first | exact hi2 | (apply hni;cases p<;>cases q<;>first | rfl | simp_all))
  · have hF : ((decide (ri.length = f.li.length) && decide (ho.length = f.li.length)) && K f.li.length) = false := by
      cases hx:((decide (ri.length=f.li.length) && decide (ho.length=f.li.length)) && K f.li.length) with
      | false=>rfl
      | true =>
        simp only [Bool.and_eq_true,decide_eq_true_eq] at hx
        exact absurd hx.1 hA
    rw [hF]
    refine PFun.of (C:=c56) (cx_ok _ _ _) rfl (fn:=Tryz.f56) (by kernel_rfl) (c:=_) rfl rfl rfl ?_
    refine rS (rN (cx_ok _ _ _) (rO rfl (Ope.boxF rfl rfl ?_)))
    refine rO rfl (oA rfl ?_)
    refine rI (rS (rS (rN (cx_ok _ _ _) (rO rfl (oM rfl ?_)))))
    refine rO rfl (Ope.len (m:=ri.length) rfl (by simp) ?_)
    refine rO rfl (Ope.fld rfl rfl ?_)
    refine rO rfl (oL rfl rfl ?_)
    refine rO rfl (Ope.len (m:=f.li.length) rfl (by simp) ?_)
    refine rO rfl (Ope.ne rfl rfl ?_)
    refine rO rfl (oM rfl ?_)
    refine Reg.splitX rfl rfl (fun hg=>?_) fun hg=>?_
    ·refine Reg.off rfl rfl rfl (Reg.off rfl rfl rfl (Reg.off rfl rfl rfl (Reg.off rfl rfl rfl (Reg.off rfl rfl rfl (Reg.off rfl rfl rfl (rO rfl (Ope.pickT rfl rfl ?_)))))))
     refine rI (Run.condT rfl (rS (rN (cx_ok _ _ _) (rO rfl (oA rfl ?_)))))
     exact rI (Run.ret (Jmp.code (fin_ret (.tmp rfl .nil) rfl rfl)))
    ·refine Reg.on rfl rfl rfl (oM rfl ?_)
     refine Reg.on rfl rfl rfl (Ope.len (m:=ho.length) rfl (by simp) ?_)
     refine Reg.on rfl rfl rfl (Ope.fld rfl rfl ?_)
     refine Reg.on rfl rfl rfl (oL rfl rfl ?_)
     refine Reg.on rfl rfl rfl (Ope.len (m:=f.li.length) rfl (by simp) ?_)
     refine Reg.on rfl rfl rfl (Ope.ne rfl rfl ?_)
     refine rO rfl (Ope.pickF rfl rfl ?_)
     refine rI (rC rfl (fun hc=>?_) fun hc=>?_)
     ·refine rS (rN (cx_ok _ _ _) (rO rfl (oA rfl ?_)))
      exact rI (Run.ret (Jmp.code (fin_ret (.tmp rfl .nil) rfl rfl)))
     ·(exfalso;omega)
theorem f57 (hf:f.ok) (ta tb:Tail) (hta:ta.isOwn=false) (htb:tb.isOwn=false) (ri ho:List Int) (hk:f.Kno ri ho):∃ t3:Tail,t3.isOwn=false∧Fn P0 57 [f.v t1 t2,.fp (.sl ta (ri.map I)),.fp (.sl tb (ho.map I))] (.sl t3 ((f.exa (f.dl ri ho f.li.length)).map I)):=by
  obtain ⟨t3,ht3,h⟩:=f58 f h1 h2 hf ta tb ri ho hk
  refine ⟨t3,ht3,?_⟩
  have hb:PV.bds 0 [f.v t1 t2,.sl ta (ri.map I),.sl tb (ho.map I)]=true:=bd_fnsV f h1 h2 (bds_cons (bd_sl (f:=I) hta (fun _=>rfl) _) (bds_cons (bd_sl (f:=I) htb (fun _=>rfl) _) rfl))
  have hbe:=bd_sl (f:=I) ht3 (fun _=>rfl) (f.exa (f.dl ri ho f.li.length))
  generalize f.exa (f.dl ri ho f.li.length)=X at *
  refine PFun.of (C:=c57) (cx_ok _ _ _) rfl (fn:=Tryz.f57) (by kernel_rfl) (c:=_) rfl rfl rfl ?_
  refine rS (rN (cx_ok _ _ _) (rO rfl (Ope.boxF rfl rfl ?_)))
  refine rO rfl (oA rfl ?_)
  refine rI (rS (rN (cx_ok _ _ _) (rO rfl (oL rfl rfl ?_))))
  refine rO rfl (oL rfl rfl ?_)
  refine rO rfl (oL rfl rfl ?_)
  refine rO rfl (Ope.cf rfl rfl h hb ?_)
  refine rO rfl (oA rfl ?_)
  exact rI (Run.ret (fin_ret (.tmp rfl .nil) hbe rfl))
omit h1 h2 in
def tolL (f:Fns) (rg:Bool) (t3:Tail) (xs:List Int):PV:=if f.B=true then (if rg=true then .tup [.sl t3 (xs.map I),I 0] else .tup [.sl .ex [],I 2]) else .tup [.sl .ex [],I 1]
variable (hS:f.ru.length≤9223372036854775807) (hJ:f.li.length≤9223372036854775807)
include hS hJ
theorem f21 (ta tb : Tail) (hta : ta.isOwn = false) (htb : tb.isOwn = false) (ri ho : List Int) : ∃ t3 : Tail, t3.isOwn = false ∧ Fn P0 21 [f.v t1 t2, .sl ta (ri.map I), .sl tb (ho.map I)] (tolL f (f.knB ri ho) t3 (f.exa (f.dl ri ho f.li.length))) := by
  have hkn:=f56 f h1 h2 hJ ta tb ri ho
  have hb2:PV.bds 0 [f.v t1 t2,.sl ta (ri.map I),.sl tb (ho.map I)]=true:=bd_fnsV f h1 h2 (bds_cons (bd_sl (f:=I) hta (fun _=>rfl) _) (bds_cons (bd_sl (f:=I) htb (fun _=>rfl) _) rfl))
  have hcap:PV.bds 0 [f.v t1 t2,.fp (.sl ta (ri.map I)),.fp (.sl tb (ho.map I))]=true:=bd_fnsV f h1 h2 (bds_cons (bd_sl (f:=I) hta (fun _=>rfl) _) (bds_cons (bd_sl (f:=I) htb (fun _=>rfl) _) rfl))
  have hbt:∀ b:Bool,PV.bds 0 [f.v t1 t2,B b,.fn (.func 57) [] [.fp (.sl ta (ri.map I)),.fp (.sl tb (ho.map I))]]=true:=fun b=>bd_fnsV f h1 h2 (bds_cons rfl (bds_cons (by
    show PV.bds 0 [.fp (.sl ta (ri.map I)),.fp (.sl tb (ho.map I))]=true
    exact bds_cons (bd_sl (f:=I) hta (fun _=>rfl) _) (bds_cons (bd_sl (f:=I) htb (fun _=>rfl) _) rfl)) rfl))
  obtain ⟨t3,ht3,hto⟩:∃ t3:Tail,t3.isOwn=false∧Fn P0 55 [f.v t1 t2,B (f.knB ri ho),.fn (.func 57) [] [.fp (.sl ta (ri.map I)),.fp (.sl tb (ho.map I))]] (tolL f (f.knB ri ho) t3 (f.exa (f.dl ri ho f.li.length))):=by
    unfold tolL
    by_cases hv:f.B=true
    · simp only [if_pos hv]
      cases hr:f.knB ri ho with
      | true =>
        have hf:=fns_ok f hv
        obtain ⟨t3,ht3,he⟩:=f57 f h1 h2 hf ta tb hta htb ri ho (kno_of hr)
        exact ⟨t3,ht3,f55ok f h1 h2 hS hJ 57 _ _ _ hv hcap (bd_sl (f:=I) ht3 (fun _=>rfl) _) he⟩
      | false=>exact ⟨.ex,rfl,f55rg f h1 h2 hS hJ 57 _ hv⟩
    · simp only [if_neg hv]
      exact ⟨.ex,rfl,f55ba f h1 h2 hS hJ 57 _ _ (by simpa using hv)⟩
  refine ⟨t3,ht3,?_⟩
  obtain ⟨t4,us,z,ht4,hu⟩:∃ (t4:Tail) (us:List Int) (z:Int),t4.isOwn=false∧tolL f (f.knB ri ho) t3 (f.exa (f.dl ri ho f.li.length))=.tup [.sl t4 (us.map I),I z]:=by
    unfold tolL
    split
    · split
      · exact ⟨_,_,_,ht3,rfl⟩
      · exact ⟨.ex,[],2,rfl,rfl⟩
    · exact ⟨.ex,[],1,rfl,rfl⟩
  rw [hu] at hto ⊢
  have hbu:=bd_sl (f:=I) ht4 (fun _=>rfl) us
  generalize f.knB ri ho=bk at *
  refine PFun.of (C:=c21) (cx_ok _ _ _) rfl (fn:=Tryz.f21) (by kernel_rfl) (c:=_) rfl rfl rfl ?_
  refine rS (rN (cx_ok _ _ _) (rO rfl (Ope.boxF rfl rfl ?_)))
  refine rO rfl (Ope.boxF rfl rfl ?_)
  refine rO rfl (Ope.boxF rfl rfl ?_)
  refine rO rfl (oA rfl ?_)
  refine rO rfl (oA rfl ?_)
  refine rI (rS (Run.draw (cx_ok _ _ _) [(0,false),(1,true),(2,true),(3,true),(5,true),(4,true),(6,true),(7,true),(8,true),(9,true),(10,true)] (by kernel_rfl) (dO rfl rfl rfl (.load rfl) (oL rfl rfl ?_))))
  refine dO rfl rfl rfl .sure (oL rfl rfl ?_)
  refine dO rfl rfl rfl .sure (oL rfl rfl ?_)
  refine dO rfl rfl rfl .sure (oL rfl rfl ?_)
  refine dO rfl rfl rfl .sure (Ope.mkf rfl rfl ?_)
  refine dO rfl rfl rfl .sure (Ope.cf rfl rfl hkn hb2 ?_)
  refine dO rfl rfl rfl .sure (Ope.cf rfl rfl hto (hbt _) ?_)
  refine dO rfl rfl rfl .sure (Ope.ext rfl rfl ?_)
  refine dO rfl rfl rfl .sure (Ope.ext rfl rfl ?_)
  refine dO rfl rfl rfl .sure (oA rfl ?_)
  refine dO rfl rfl rfl .sure (oA rfl ?_)
  exact Dra.nil (Run.ret (fin_ret (.tmp rfl (.tmp rfl .nil)) (bds_cons hbu rfl) rfl))
end
end Go.Pv
namespace Go.Pv
open Go.Proofs Go.Am
set_option maxRecDepth 10000
def Fns.opts (f:Fns) (n:Nat):List Deed:=((List.range f.n.toNat).filter fun r=>(f.ofc n).ri.toNat.testBit r).flatMap fun (r:Nat)=>(List.range ((f.ofc n).hi - (f.ofc n).lo+1).toNat).map fun (j:Nat)=>⟨(f.ofc n).kd,n,(r:Int),(f.ofc n).lo+(j:Int)⟩
def Fns.truN (f:Fns):Nat→List (List Deed)
  | 0=>[[]]
  | n+1=>(f.truN n).flatMap fun T=>(f.opts n).map fun d=>T++[d]
theorem mem_opts {f:Fns} {n:Nat} {d:Deed}:d∈f.opts n↔d.nu=n∧(f.ofc n).kd=d.kd∧(0≤d.ri∧d.ri < f.n∧(f.ofc n).ri.toNat.testBit d.ri.toNat=true)∧(f.ofc n).lo≤d.ho∧d.ho≤(f.ofc n).hi:=by
  unfold Fns.opts
  rw [List.mem_flatMap]
  constructor
  · rintro ⟨r, hr, hd⟩
    obtain ⟨hr1,hr2⟩:=List.mem_filter.1 hr
    have hr1:=List.mem_range.1 hr1
    obtain ⟨j,hj,rfl⟩:=List.mem_map.1 hd
    have hj:=List.mem_range.1 hj
    exact ⟨rfl,rfl,⟨by show (0:Int)≤(r:Int);omega,by show (r:Int) < f.n;omega,hr2⟩,by show (f.ofc n).lo≤(f.ofc n).lo+(j:Int);omega,by show (f.ofc n).lo+(j:Int)≤(f.ofc n).hi;omega⟩
  · rintro ⟨h1, h2, ⟨h3, h4, h5⟩, h6, h7⟩
    obtain ⟨kd,nu,ri,ho⟩:=d
    simp only at h1 h2 h3 h4 h5 h6 h7
    refine ⟨ri.toNat,List.mem_filter.2 ⟨List.mem_range.2 (by omega),h5⟩,List.mem_map.2 ⟨(ho - (f.ofc n).lo).toNat,List.mem_range.2 (by omega),?_⟩⟩
    rw [h1,h2,show ((ri.toNat:Nat):Int)=ri by omega,show (f.ofc n).lo+(((ho - (f.ofc n).lo).toNat:Nat):Int)=ho by omega]
theorem mem_truN {f : Fns} : ∀ {n : Nat}, n ≤ f.li.length → ∀ {T : List Deed}, T ∈ f.truN n ↔ T.length = n ∧ ∀ i (h : i < T.length), T[i].nu = i ∧ f.alw T[i]
  | 0, _, T => by
    rw [Fns.truN,List.mem_singleton]
    constructor
    · rintro rfl
      exact ⟨rfl,fun i h=>by cases h⟩
    · rintro ⟨h, _⟩
      exact List.eq_nil_of_length_eq_zero h
  | n + 1, hn, T => by
    have ih:=fun {T:List Deed}=>@mem_truN f n (by omega) T
    rw [Fns.truN,List.mem_flatMap]
    constructor
    · rintro ⟨T', hT', hd⟩
      obtain ⟨d,hd2,rfl⟩:=List.mem_map.1 hd
      obtain ⟨e1,e2⟩:=ih.1 hT'
      obtain ⟨c1,c2,c3,c4⟩:=mem_opts.1 hd2
      refine ⟨by rw [List.length_append,e1];rfl,fun i hi=>?_⟩
      rw [List.length_append,e1] at hi
      simp only [List.length_cons,List.length_nil] at hi
      by_cases h:i < n
      · rw [List.getElem_append_left (by omega)]
        exact e2 i (by omega)
      · obtain rfl : i = n := by omega
        rw [List.getElem_append_right (by omega)]
        simp only [e1,Nat.sub_self,List.getElem_cons_zero]
        refine ⟨c1,?_⟩
        unfold Fns.alw
        rw [c1]
        exact ⟨by omega,c2,c3,c4⟩
    · rintro ⟨e1, e2⟩
      have hl:n < T.length:=by omega
      refine ⟨T.take n,ih.2 ⟨by rw [List.length_take];omega,fun i hi=>?_⟩,List.mem_map.2 ⟨T[n],?_,?_⟩⟩
      · rw [List.length_take] at hi
        rw [List.getElem_take]
        exact e2 i (by omega)
      · obtain ⟨a, b⟩ := e2 n hl
        unfold Fns.alw at b
        rw [a] at b
        exact mem_opts.2 ⟨a,b.2.1,b.2.2.1,b.2.2.2⟩
      · rw [← List.take_succ_eq_append_getElem hl,List.take_of_length_le (by omega)]
theorem truN_tru {f:Fns} {T:List Deed}:T∈f.truN f.li.length↔f.Tru T:=by
  rw [mem_truN (Nat.le_refl _)]
  exact ⟨fun ⟨a,b⟩=>⟨a,b⟩,fun h=>⟨h.ln,h.at'⟩⟩
def hullL:List Int→Spn
  | []=>⟨0,0⟩
  | x::xs=>xs.foldl (fun e y=>⟨min e.lo y,max e.hi y⟩) ⟨x,x⟩
theorem hul_fold : ∀ (xs : List Int) {A : Int → Prop} {e : Spn}, Hul A e → Hul (fun z => A z ∨ z ∈ xs) (xs.foldl (fun e y => ⟨min e.lo y, max e.hi y⟩) e)
  | [],A,e,h=>Hul.congr h fun z=>⟨.inl,fun h=>h.elim id fun h=>by cases h⟩
  | x :: xs, A, e, h => by
    have h1:Hul (fun z=>A z∨z=x) ⟨min e.lo x,max e.hi x⟩:=by
      refine ⟨?_,?_,fun z hz=>?_⟩
      · show A (min e.lo x) ∨ min e.lo x = x
        rcases Int.le_total e.lo x with g | g
        · rw [Int.min_eq_left g];exact .inl h.lo
        · rw [Int.min_eq_right g];exact .inr rfl
      · show A (max e.hi x) ∨ max e.hi x = x
        rcases Int.le_total e.hi x with g | g
        · rw [Int.max_eq_right g];exact .inr rfl
        · rw [Int.max_eq_left g];exact .inl h.hi
      · show min e.lo x ≤ z ∧ z ≤ max e.hi x
        rcases hz with hz | rfl
        · have:=h.bd z hz;omega
        · omega
    refine Hul.congr (hul_fold xs h1) fun z=>⟨fun h=>?_,fun h=>?_⟩
    · rcases h with (h | h) | h
      · exact .inl h
      · exact .inr (by rw [h];exact List.mem_cons_self ..)
      · exact .inr (List.mem_cons_of_mem _ h)
    · rcases h with h | h
      · exact .inl (.inl h)
      · rcases List.mem_cons.1 h with h | h
        · exact .inl (.inr h)
        · exact .inr h
theorem hul_list {xs:List Int} (h:xs≠[]):Hul (fun z=>z∈xs) (hullL xs):=by
  cases xs with
  | nil=>exact absurd rfl h
  | cons x xs =>
    have h0:Hul (fun z=>z=x) ⟨x,x⟩:=⟨rfl,rfl,fun z hz=>by subst hz;exact ⟨Int.le_refl _,Int.le_refl _⟩⟩
    exact Hul.congr (hul_fold xs h0) fun z=>List.mem_cons.symm
theorem spn_c {f:Fns} (hf:f.ok) {g:Deed→Int→Int} (hg:Gok g):f.spn g=hullL ((f.truN f.li.length).map (f.val g)):=by
  have hne:(f.truN f.li.length).map (f.val g)≠[]:=by
    obtain ⟨T,hT⟩:=tru_some hf
    exact List.ne_nil_of_mem (List.mem_map_of_mem (truN_tru.2 hT))
  refine (spn_hul hf hg).uniq (Hul.congr (hul_list hne) fun z=>?_)
  rw [List.mem_map]
  exact ⟨fun ⟨T,hT,e⟩=>⟨T,truN_tru.1 hT,e⟩,fun ⟨T,hT,e⟩=>⟨T,truN_tru.2 hT,e⟩⟩
theorem wd_c {f:Fns} (hf:f.ok) (r most:Int) (n:Nat):f.wd r most n=(List.range n).filter fun x=>decide ((hullL (((f.wo x).truN (f.wo x).li.length).map ((f.wo x).val (gF r)))).hi≤most):=by
  unfold Fns.wd
  refine List.filter_congr fun x _=>?_
  rw [spn_c (hf.wo x) (gF_ok r)]
end Go.Pv
namespace Go.Pv
open Go.Proofs Go.Am
set_option maxRecDepth 10000
theorem f62 (n:Nat) (hn:n≤60):Fn P0 62 [I n] (N (2 ^ n)):=by
  have hp:∀ i,i≤n→2 ^ i≤2 ^ 60:=fun i hi=>Nat.pow_le_pow_right (by decide) (by omega)
  refine PFun.of (C:=c62) (cx_ok _ _ _) rfl (fn:=Tryz.f62) (by kernel_rfl) (c:=_) rfl rfl rfl ?_
  refine rS (rN (cx_ok _ _ _) (rO rfl (oA rfl ?_)))
  refine rI (rS (rN (cx_ok _ _ _) (rO rfl (oA rfl ?_))))
  refine rI (rS (rS (rN (cx_ok _ _ _) (rO rfl (oA rfl ?_)))))
  refine rI (Run.block (Run.loop (α:=Nat) (fun i=>[(0,I n),(3,N (2 ^ i)),(4,I i)]) (fun _=>HE 0 []) (fun i=>i≤n) (fun i=>n - i) 0 ⟨rfl,rfl,rfl,trivial⟩ rfl (Nat.zero_le _) (fun i hi=>?_)))
  refine rS (rS (rN (cx_ok _ _ _) (rO rfl (oM rfl ?_))))
  refine rO rfl (oM rfl ?_)
  refine rO rfl (Ope.lt rfl rfl ?_)
  refine rI (rC rfl (fun hc=>?_) fun hc=>?_)
  ·refine Run.skip (rS (Run.block ?_))
   have hpi:=hp i hi
   have hpi0:0 < 2 ^ i:=Nat.pow_pos (by decide)
   have hpi2:(0:Int)≤((2 ^ i:Nat):Int):=Int.natCast_nonneg _
   have hpi3:((2 ^ i:Nat):Int)≤((2 ^ 60:Nat):Int):=Int.ofNat_le.2 hpi
   have hpe:((2 ^ (i+1):Nat):Int)=2 * ((2 ^ i:Nat):Int):=by rw [Nat.pow_succ];omega
   refine rN (cx_ok _ _ _) (rO rfl (oM rfl ?_))
   refine rO rfl (Ope.mul rfl rfl (by omega) ?_)
   refine rO rfl (oA rfl ?_)
   refine rI (Run.bend (rN (cx_ok _ _ _) (rO rfl (oM rfl ?_))))
   refine rO rfl (Ope.add rfl rfl (by omega) ?_)
   refine rO rfl (oA rfl ?_)
   exact rI (Run.lend ⟨i+1,by omega,by omega,⟨rfl,(by show some _=some (PV.lit (.int .i64 ((2 ^ (i+1):Nat):Int)));rw [hpe]),rfl,trivial⟩,rfl,rfl⟩)
  ·refine Run.exit (Jmp.code (Jmp.round (Jmp.here (rS ?_))))
   obtain rfl:i=n:=by omega
   refine rN (cx_ok _ _ _) (rO rfl (oM rfl ?_))
   refine rO rfl (oA rfl ?_)
   exact rI (Run.ret (fin_ret (.tmp rfl .nil) rfl rfl))
def inB (x l h:Int):Bool:=decide (l≤x) && decide (x≤h)
theorem f44 (x l h:Int):Fn P0 44 [I x,I l,I h] (B (inB x l h)):=by
  unfold inB
  refine PFun.of (C:=c44) (cx_ok _ _ _) rfl (fn:=Tryz.f44) (by kernel_rfl) (c:=_) rfl rfl rfl ?_
  refine rS (rN (cx_ok _ _ _) (rO rfl (oA rfl ?_)))
  refine rI (rS (rN (cx_ok _ _ _) (rO rfl (oM rfl ?_))))
  refine rO rfl (oM rfl ?_)
  refine rO rfl (Ope.le rfl rfl ?_)
  refine rO rfl (oM rfl ?_)
  refine Reg.splitX rfl rfl (fun hg=>?_) fun hg=>?_
  ·refine Reg.on rfl rfl rfl (oM rfl ?_)
   refine Reg.on rfl rfl rfl (oM rfl ?_)
   refine Reg.on rfl rfl rfl (Ope.le rfl rfl ?_)
   refine rO rfl (Ope.pickT rfl rfl ?_)
   refine rO rfl (oA rfl ?_)
   refine rI (Run.ret (fin_ret (.tmp rfl .nil) rfl ?_))
   (simp [*];first | done | rfl)
  ·refine Reg.off rfl rfl rfl (Reg.off rfl rfl rfl (Reg.off rfl rfl rfl (rO rfl (Ope.pickF rfl rfl ?_))))
   refine rO rfl (oA rfl ?_)
   refine rI (Run.ret (fin_ret (.tmp rfl .nil) rfl ?_))
   (simp [*];first | done | rfl)
def siz:Nat→Nat→Nat
  | 0,_=>0
  | d+1,x=>x % 2+siz d (x / 2)
theorem f34 (x:Nat) (hx:x < 2 ^ 6):Fn P0 34 [N x] (N (cn x)):=by
  obtain ⟨z,hz,hzc⟩:∃ z,siz 6 x=z∧cn x=z:=⟨_,rfl,(by have h:∀ x,x < 64→cn x=siz 6 x:=(by decide);exact h x hx)⟩
  rw [hzc]
  refine PFun.of (C:=c34) (cx_ok _ _ _) rfl (fn:=Tryz.f34) (by kernel_rfl) (c:=_) rfl rfl rfl ?_
  refine rS (rN (cx_ok _ _ _) (rO rfl (oA rfl ?_)))
  refine rI (rS (rN (cx_ok _ _ _) (rO rfl (oA rfl ?_))))
  refine rI (rS (Run.block (Run.loop (α:=Nat×Nat×Nat) (fun s=>[(0,N s.2.1),(3,N s.2.2)]) (fun _=>HE 0 []) (fun s=>s.2.1 < 2 ^ s.1∧s.1≤6∧s.2.2+siz s.1 s.2.1=z∧s.2.2+s.1≤6) (fun s=>s.1) (6,x,0) ⟨rfl,rfl,trivial⟩ rfl ⟨hx,Nat.le_refl _,(Nat.zero_add _).trans hz,(show 0+6≤6 by decide)⟩ (fun s hs=>?_))))
  obtain ⟨d,y,c⟩:=s
  obtain ⟨hy,hd,hsz,hc⟩:=hs
  simp only at hy hd hsz hc
  have hy40:y < 2 ^ 6:=Nat.lt_of_lt_of_le hy (Nat.pow_le_pow_right (by decide) hd)
  show Run _ _ _ _ [(0,N y),(3,N c)] [] (HE 0 [])
  refine rS (rS (rN (cx_ok _ _ _) (rO rfl (oM rfl ?_))))
  refine rO rfl (Ope.gt rfl rfl ?_)
  refine rI (rC rfl (fun hc=>?_) fun hc=>?_)
  ·refine Run.skip (Run.block (rS ?_))
   obtain ⟨d,rfl⟩:∃ d',d=d'+1:=by
     cases d with
     | zero=>exfalso;simp at hy;omega
     | succ d=>exact ⟨d,rfl⟩
   refine rN (cx_ok _ _ _) (rO rfl (oM rfl ?_))
   refine rO rfl (oM rfl ?_)
   refine rO rfl (Ope.remN (p:=y) (q:=2) rfl rfl rfl rfl (by decide) ?_)
   refine rO rfl (Ope.add rfl rfl (by omega) ?_)
   refine rO rfl (oA rfl ?_)
   refine rI (rN (cx_ok _ _ _) (rO rfl (oM rfl ?_)))
   refine rO rfl (Ope.quoN (p:=y) (q:=2) rfl rfl rfl rfl (by decide) (by show y < 2 ^ 63;omega) ?_)
   refine rO rfl (oA rfl ?_)
   exact rI (Run.bend (Run.lend ⟨(d,y / 2,c+y % 2),Nat.lt_succ_self _,⟨by rw [Nat.pow_succ] at hy;show y / 2 < 2 ^ d;omega,by show d≤6;omega,by show c+y % 2+siz d (y / 2)=_;rw [← hsz];show _=c+(y % 2+siz d (y / 2));omega,by show c+y % 2+d≤6;omega⟩,⟨rfl,rfl,trivial⟩,rfl,rfl⟩))
  ·refine Run.exit (Jmp.code (Jmp.round (Jmp.here (rS ?_))))
   obtain rfl:y=0:=by omega
   have hz:∀ d,siz d 0=0:=fun d=>by induction d with
     | zero=>rfl
     | succ d ih=>simp [siz,ih]
   rw [hz] at hsz
   obtain rfl:c=z:=by omega
   refine rN (cx_ok _ _ _) (rO rfl (oM rfl ?_))
   refine rO rfl (oA rfl ?_)
   exact rI (Run.ret (fin_ret (.tmp rfl .nil) rfl rfl))
theorem f23 (t1 t2 : Tail) (xs ys : List Int) (hx : xs.length ≤ 1000000) (hy : ys.length ≤ 1000000) : Fn P0 23 [.sl t1 (xs.map I), .sl t2 (ys.map I)] (B (decide (xs = ys))) := by
  refine PFun.of (C:=c23) (cx_ok _ _ _) rfl (fn:=Tryz.f23) (by kernel_rfl) (c:=_) rfl rfl rfl ?_
  refine rS (rN (cx_ok _ _ _) (rO rfl (oA rfl ?_)))
  refine rI (rS (rS (rN (cx_ok _ _ _) (rO rfl (oM rfl ?_)))))
  refine rO rfl (Ope.len (m:=xs.length) rfl (by simp) ?_)
  refine rO rfl (oM rfl ?_)
  refine rO rfl (Ope.len (m:=ys.length) rfl (by simp) ?_)
  refine rO rfl (Ope.ne rfl rfl ?_)
  refine rI (rC rfl (fun hc=>?_) fun hc=>?_)
  ·refine rS (rN (cx_ok _ _ _) (rO rfl (oA rfl ?_)))
   refine rI (Run.ret (Jmp.code (fin_ret (.tmp rfl .nil) rfl ?_)))
   first
   | (rw [decide_eq_false (fun h=>by subst h;omega)];rfl)
   | (rw [decide_eq_false (fun h=>by subst h;exact absurd rfl hc)];rfl)
   | (have h1 : xs = ys := by
       have h3:i=xs.length:=by omega
       subst h3
       rw [List.take_length,hlen,List.take_length] at hte
       exact hte
      rw [decide_eq_true h1];rfl)
  ·refine Run.skip (rS (rS (rN (cx_ok _ _ _) (rO rfl (oA rfl ?_)))))
   refine rI (Run.block ?_)
   have hlen:xs.length=ys.length:=by omega
   refine Run.loop (α:=Nat) (fun i=>[(0,.sl t1 (xs.map I)),(1,.sl t2 (ys.map I)),(5,I i)]) (fun _=>HE 0 []) (fun i=>i≤xs.length∧xs.take i=ys.take i) (fun i=>xs.length - i) 0 ⟨rfl,rfl,rfl,trivial⟩ rfl ⟨Nat.zero_le _,rfl⟩ (fun i hi=>?_)
   obtain ⟨hi,hte⟩:=hi
   refine rS (rS (rN (cx_ok _ _ _) (rO rfl (oM rfl ?_))))
   refine rO rfl (oM rfl ?_)
   refine rO rfl (Ope.len (m:=xs.length) rfl (by simp) ?_)
   refine rO rfl (Ope.lt rfl rfl ?_)
   refine rI (rC rfl (fun hc=>?_) fun hc=>?_)
   ·refine Run.skip (rS (Run.block (rS ?_)))
    have hlt:i < xs.length:=by omega
    have hlt2:i < ys.length:=by omega
    refine Run.draw (cx_ok _ _ _) [(0,true),(1,true),(2,true),(3,true),(4,true),(5,true),(6,true),(7,true),(8,true)] (by kernel_rfl) (dO rfl rfl rfl .sure (oM rfl ?_))
    refine dO rfl rfl rfl .sure (oM rfl ?_)
    refine dO rfl rfl rfl .sure (Ope.idxM (m:=i) (f:=I) rfl rfl rfl hlt (fun _=>rfl) ?_)
    refine dO rfl rfl rfl .sure (oL rfl rfl ?_)
    refine dO rfl rfl rfl .sure (oM rfl ?_)
    refine dO rfl rfl rfl .sure (oM rfl ?_)
    refine dO rfl rfl rfl .sure (Ope.idxM (m:=i) (f:=I) rfl rfl rfl hlt2 (fun _=>rfl) ?_)
    refine dO rfl rfl rfl .sure (oL rfl rfl ?_)
    refine dO rfl rfl rfl .sure (Ope.ne rfl rfl ?_)
    refine Dra.nil (rC rfl (fun hc=>?_) fun hc=>?_)
    ·refine rS (rN (cx_ok _ _ _) (rO rfl (oA rfl ?_)))
     refine rI (Run.ret (Jmp.retB (Jmp.code (Jmp.round (Jmp.retB (Jmp.code (fin_ret (.tmp rfl .nil) rfl ?_)))))))
     first
     | (rw [decide_eq_false (fun h=>by subst h;omega)];rfl)
     | (rw [decide_eq_false (fun h=>by subst h;exact absurd rfl hc)];rfl)
     | (have h1 : xs = ys := by
         have h3:i=xs.length:=by omega
         subst h3
         rw [List.take_length,hlen,List.take_length] at hte
         exact hte
        rw [decide_eq_true h1];rfl)
    ·refine Run.skip (Run.bend (rN (cx_ok _ _ _) (rO rfl (oM rfl ?_))))
     refine rO rfl (Ope.add rfl rfl (by omega) ?_)
     refine rO rfl (oA rfl ?_)
     exact rI (Run.lend ⟨i+1,by omega,⟨by omega,by rw [List.take_succ_eq_append_getElem hlt,List.take_succ_eq_append_getElem hlt2,hte];congr 2;omega⟩,⟨rfl,rfl,rfl,trivial⟩,rfl,rfl⟩)
   ·refine Run.exit (Jmp.code (Jmp.round (Jmp.here (rS (rN (cx_ok _ _ _) (rO rfl (oA rfl ?_)))))))
    refine rI (Run.ret (fin_ret (.tmp rfl .nil) rfl ?_))
    first
    | (rw [decide_eq_false (fun h=>by subst h;omega)];rfl)
    | (rw [decide_eq_false (fun h=>by subst h;exact absurd rfl hc)];rfl)
    | (have h1 : xs = ys := by
        have h3:i=xs.length:=by omega
        subst h3
        rw [List.take_length,hlen,List.take_length] at hte
        exact hte
       rw [decide_eq_true h1];rfl)
end Go.Pv
namespace Go.Pv
open Go.Proofs Go.Am
set_option maxRecDepth 10000
theorem f38 (a b:Int):Fn P0 38 [I a,I b] (.agg [I a,I b]):=by
  refine PFun.of (C:=c38) (cx_ok _ _ _) rfl (fn:=Tryz.f38) (by kernel_rfl) (c:=_) rfl rfl rfl ?_
  refine rS (rN (cx_ok _ _ _) (rO rfl (Ope.newL rfl ?_)))
  refine rI (rS (rN (cx_ok _ _ _) (rO rfl (oM rfl ?_))))
  refine rO rfl (oM rfl ?_)
  refine rO rfl (Ope.bld rfl rfl ?_)
  refine Reg.op0 (Ope.store rfl rfl rfl rfl rfl rfl ?_)
  exact rI (Run.ret (fin_ret (.cell rfl rfl .nil) rfl rfl))
def smp:Fns:=⟨[⟨10,5,18,10⟩,⟨4,0,4,0⟩],4,[⟨0,1,5,5⟩,⟨0,3,12,14⟩,⟨0,1,20,20⟩,⟨1,12,1,1⟩]⟩
theorem f37:Fn P0 37 [] (smp.v .ex .ex):=by
  refine PFun.of (C:=c37) (cx_ok _ _ _) rfl (fn:=Tryz.f37) (by kernel_rfl) (c:=_) rfl rfl rfl ?_
  refine rS (rN (cx_ok _ _ _) (rO rfl (Ope.newL rfl ?_)))
  refine rI (rS (rN (cx_ok _ _ _) (rO rfl (Ope.bld rfl rfl ?_))))
  refine rO rfl (Ope.bld rfl rfl ?_)
  refine rO rfl (Ope.bsl rfl rfl rfl rfl ?_)
  refine rO rfl (Ope.cf rfl rfl (f38 5 5) rfl ?_)
  refine rO rfl (Ope.bld rfl rfl ?_)
  refine rO rfl (Ope.cf rfl rfl (f38 12 14) rfl ?_)
  refine rO rfl (Ope.bld rfl rfl ?_)
  refine rO rfl (Ope.cf rfl rfl (f38 20 20) rfl ?_)
  refine rO rfl (Ope.bld rfl rfl ?_)
  refine rO rfl (Ope.cf rfl rfl (f38 1 1) rfl ?_)
  refine rO rfl (Ope.bld rfl rfl ?_)
  refine rO rfl (Ope.bsl rfl rfl rfl rfl ?_)
  refine rO rfl (Ope.bld rfl rfl ?_)
  refine Reg.op0 (Ope.store rfl rfl rfl rfl rfl rfl ?_)
  exact rI (Run.ret (fin_ret (.cell rfl rfl .nil) rfl rfl))
theorem eqSv (x y x' y':Int):aeqv A0 E0 20 30 (.agg [.int .i64 x,.int .i64 y]) (.agg [.int .i64 x',.int .i64 y'])=bnd2 (some (x == x')) (bnd2 (some (y == y')) (some true)):=by kernel_rfl
theorem eqSe:E0.eqs.get 30=some ():=by kernel_rfl
theorem eqSu:(match A0.under 30 with | some (.struct _)=>true | _=>false)=true:=by kernel_rfl
theorem eqSp (xo yo:Operand) (x y x' y':Int):pbin A0 E0 .eql 30 xo yo (.agg [I x,I y]) (.agg [I x',I y'])=some (B (decide (x=x'∧y=y'))):=by
  have hn:pnil A0 30 (.agg [I x,I y]) (.agg [I x',I y'])=none:=by
    have h:=eqSu
    unfold pnil
    cases hu:A0.under 30 with
    | none=>rfl
    | some d =>
      rw [hu] at h
      cases d<;>first | rfl | (exact absurd h (by decide))
  have hv:=eqSv x y x' y'
  have hd:decide (x=x'∧y=y')=(x == x' && y == y'):=by
    by_cases h1:x=x'<;>by_cases h2:y=y'<;>simp [h1,h2]
  rw [hd]
  simp only [pbin,PV.toAV,PV.toAVs,bothNil,hn,abin,aequal,eqSe,hv]
  cases (x == x')<;>cases (y == y')<;>rfl
theorem smp_B:smp.B=true:=by kernel_rfl
theorem smp_ok:smp.ok:=fns_ok smp smp_B
theorem ex_cost:smp.spn (gC (1 * 2 ^ 1))=⟨10,15⟩:=by rw [spn_c smp_ok (gC_ok _)];kernel_rfl
theorem ex_fine:smp.spn (gF 0)=⟨20,40⟩:=by rw [spn_c smp_ok (gF_ok _)];kernel_rfl
theorem ex_pays:smp.spn (gP 1)=⟨15,19⟩:=by rw [spn_c smp_ok (gP_ok _)];kernel_rfl
theorem ex_total:smp.spn (gC (2 ^ 4 - 1))=⟨34,44⟩:=by rw [spn_c smp_ok (gC_ok _)];kernel_rfl
theorem ex_kn:smp.knB [0,0,0,2] [5,12,20,1]=true:=by kernel_rfl
theorem ex_exact:smp.exa (smp.dl [0,0,0,2] [5,12,20,1] 4)=[10,15,15,4]:=by kernel_rfl
theorem ex_wd:fstL (smp.wd 0 20 (2 ^ 4))=2:=by rw [wd_c smp_ok];kernel_rfl
theorem tolS_ok {f:Fns} (h:f.B=true) (e:Spn):tolS f true e=.tup [e.v,I 0]:=by unfold tolS;rw [if_pos h,if_pos rfl]
theorem tolI_ok {f:Fns} (h:f.B=true) (z:Int):tolI f true z=.tup [I z,I 0]:=by unfold tolI;rw [if_pos h,if_pos rfl]
theorem tolL_ok {f:Fns} (h:f.B=true) (t:Tail) (xs:List Int):tolL f true t xs=.tup [.sl t (xs.map I),I 0]:=by unfold tolL;rw [if_pos h,if_pos rfl]
theorem aliveF : Fn P0 12 [] (B true) := by
  have hS:smp.ru.length≤9223372036854775807:=by decide
  have hJ:smp.li.length≤9223372036854775807:=by decide
  have hb:PV.bds 0 [smp.v .ex .ex]=true:=rfl
  have hb1:PV.bds 0 [smp.v .ex .ex,I 1]=true:=rfl
  have hb0:PV.bds 0 [smp.v .ex .ex,I 0]=true:=rfl
  have hbx:PV.bds 0 [smp.v .ex .ex,.sl .ex ([0,0,0,2].map I),.sl .ex ([5,12,20,1].map I)]=true:=rfl
  have hbw:PV.bds 0 [smp.v .ex .ex,I 0,I 20]=true:=rfl
  have a1:Fn P0 13 [smp.v .ex .ex,I 1] (.tup [.agg [I 10,I 15],I 0]):=by
    have h:=f13 smp (t1:=.ex) (t2:=.ex) rfl rfl hS hJ 1
    rw [show numB smp.li.length 1=true from rfl,tolS_ok smp_B,show ((1:Int).toNat)=1 from rfl,ex_cost] at h
    exact h
  have a2:Fn P0 15 [smp.v .ex .ex,I 0] (.tup [.agg [I 20,I 40],I 0]):=by
    have h:=f15 smp (t1:=.ex) (t2:=.ex) rfl rfl hS hJ 0
    rw [show numB smp.n 0=true from rfl,tolS_ok smp_B,ex_fine] at h
    exact h
  have a3:Fn P0 17 [smp.v .ex .ex,I 1] (.tup [.agg [I 15,I 19],I 0]):=by
    have h:=f17 smp (t1:=.ex) (t2:=.ex) rfl rfl hS hJ 1
    rw [show numB smp.n 1=true from rfl,tolS_ok smp_B,ex_pays] at h
    exact h
  have a4:Fn P0 19 [smp.v .ex .ex] (.tup [.agg [I 34,I 44],I 0]):=by
    have h:=f19 smp (t1:=.ex) (t2:=.ex) rfl rfl hS hJ
    rw [tolS_ok smp_B,show smp.li.length=4 from rfl,ex_total] at h
    exact h
  obtain ⟨t3,ht3,a5⟩:∃ t3:Tail,t3.isOwn=false∧Fn P0 21 [smp.v .ex .ex,.sl .ex ([0,0,0,2].map I),.sl .ex ([5,12,20,1].map I)] (.tup [.sl t3 ([10,15,15,4].map I),I 0]):=by
    obtain ⟨t3,ht3,h⟩:=f21 smp (t1:=.ex) (t2:=.ex) rfl rfl hS hJ .ex .ex rfl rfl [0,0,0,2] [5,12,20,1]
    rw [ex_kn,tolL_ok smp_B,show smp.li.length=4 from rfl,ex_exact] at h
    exact ⟨t3,ht3,h⟩
  have a6:Fn P0 24 [smp.v .ex .ex,I 0,I 20] (.tup [I 2,I 0]):=by
    have h:=f24 smp (t1:=.ex) (t2:=.ex) rfl rfl hS hJ 0 20
    rw [show (numB smp.n 0 && decide ((0:Int)≤20))=true from rfl,tolI_ok smp_B,show smp.li.length=4 from rfl,ex_wd] at h
    exact h
  have c1:=f23 t3 .ex [10,15,15,4] [10,15,15,4] (by decide) (by decide)
  have hbc:PV.bds 0 [.sl t3 ([10,15,15,4].map I),.sl .ex ([10,15,15,4].map I)]=true:=bds_cons (bd_sl (f:=I) ht3 (fun _=>rfl) _) rfl
  have hsa:=f37
  generalize smp=s at *
  refine PFun.of (C:=c12) (cx_ok _ _ _) rfl (fn:=Tryz.f12) (by kernel_rfl) (c:=_) rfl rfl rfl ?_
  refine rS (rN (cx_ok _ _ _) (rO rfl (oA rfl ?_)))
  refine rI (rS (rN (cx_ok _ _ _) (rO rfl (Ope.cf rfl rfl (hsa) rfl ?_))))
  refine rO rfl (Ope.cf rfl rfl a1 hb1 ?_)
  refine rO rfl (oM rfl ?_)
  refine rO rfl (Ope.ext rfl rfl ?_)
  refine rO rfl (Ope.ext rfl rfl ?_)
  refine rO rfl (Ope.newL rfl ?_)
  refine Reg.op0 (Ope.store rfl rfl rfl rfl rfl rfl ?_)
  refine rO rfl (oA rfl ?_)
  refine rI (rS (Run.frz (d:=1) true rfl hget_hd rfl ?_))
  refine rN (cx_ok _ _ _) (rO rfl (Ope.cf rfl rfl (hsa) rfl ?_))
  refine rO rfl (Ope.cf rfl rfl a2 hb0 ?_)
  refine rO rfl (oM rfl ?_)
  refine rO rfl (Ope.ext rfl rfl ?_)
  refine rO rfl (Ope.ext rfl rfl ?_)
  refine rO rfl (Ope.newL rfl ?_)
  refine Reg.op0 (Ope.store rfl rfl rfl rfl rfl rfl ?_)
  refine rO rfl (oA rfl ?_)
  refine rI (rS (Run.frz (d:=3) true rfl hget_hd rfl ?_))
  refine rN (cx_ok _ _ _) (rO rfl (Ope.cf rfl rfl (hsa) rfl ?_))
  refine rO rfl (Ope.cf rfl rfl a3 hb1 ?_)
  refine rO rfl (oM rfl ?_)
  refine rO rfl (Ope.ext rfl rfl ?_)
  refine rO rfl (Ope.ext rfl rfl ?_)
  refine rO rfl (Ope.newL rfl ?_)
  refine Reg.op0 (Ope.store rfl rfl rfl rfl rfl rfl ?_)
  refine rO rfl (oA rfl ?_)
  refine rI (rS (Run.frz (d:=5) true rfl hget_hd rfl ?_))
  refine rN (cx_ok _ _ _) (rO rfl (Ope.cf rfl rfl (hsa) rfl ?_))
  refine rO rfl (Ope.cf rfl rfl a4 hb ?_)
  refine rO rfl (oM rfl ?_)
  refine rO rfl (Ope.ext rfl rfl ?_)
  refine rO rfl (Ope.ext rfl rfl ?_)
  refine rO rfl (Ope.newL rfl ?_)
  refine Reg.op0 (Ope.store rfl rfl rfl rfl rfl rfl ?_)
  refine rO rfl (oA rfl ?_)
  refine rI (rS (Run.frz (d:=7) true rfl hget_hd rfl ?_))
  refine rN (cx_ok _ _ _) (rO rfl (Ope.cf rfl rfl (hsa) rfl ?_))
  refine rO rfl (Ope.bsl rfl rfl rfl rfl ?_)
  refine rO rfl (Ope.bsl rfl rfl rfl rfl ?_)
  refine rO rfl (Ope.cf rfl rfl a5 hbx ?_)
  refine rO rfl (oM rfl ?_)
  refine rO rfl (Ope.ext rfl rfl ?_)
  refine rO rfl (Ope.ext rfl rfl ?_)
  refine rO rfl (oA rfl ?_)
  refine rO rfl (oA rfl ?_)
  refine rI (rS (rN (cx_ok _ _ _) (rO rfl (Ope.cf rfl rfl (hsa) rfl ?_))))
  refine rO rfl (Ope.cf rfl rfl a6 hbw ?_)
  refine rO rfl (oM rfl ?_)
  refine rO rfl (Ope.ext rfl rfl ?_)
  refine rO rfl (Ope.ext rfl rfl ?_)
  refine rO rfl (oA rfl ?_)
  refine rO rfl (oA rfl ?_)
  refine rI (rS (Run.draw (cx_ok _ _ _) [(0,false),(1,true),(2,true),(3,true),(4,true),(5,true),(6,true),(7,true),(8,false),(9,true),(10,true),(11,true),(12,true),(13,true),(14,true),(15,true),(16,true),(17,false),(18,true),(19,true),(20,true),(21,true),(22,true),(23,true),(24,true),(25,true),(26,false),(27,true),(28,true),(29,true),(30,true),(31,true),(32,true),(33,true),(34,true),(35,true),(36,true),(37,true),(38,true),(39,true),(40,true),(41,true),(42,true),(43,true),(44,true),(45,true),(46,true),(47,true),(48,true),(49,true),(50,true),(51,true)] (by kernel_rfl) (dO rfl rfl rfl (.load rfl) (oL rfl rfl ?_))))
  refine dO rfl rfl rfl .sure (Ope.cf rfl rfl (f38 10 15) rfl ?_)
  refine dO rfl rfl rfl .sure (Ope.eqV rfl rfl (eqSp _ _ _ _ _ _) ?_)
  refine dO rfl rfl rfl .sure (oM rfl ?_)
  refine Dra.splitX rfl rfl rfl rfl (fun hg=>?_) fun hg=>?_
  ·refine Dra.on' rfl rfl rfl rfl rfl .sure (oM rfl ?_)
   refine Dra.on' rfl rfl rfl rfl rfl .sure (Ope.eq rfl rfl ?_)
   refine dO rfl rfl rfl .sure (Ope.pickT rfl rfl ?_)
   refine dO rfl rfl rfl .sure (oM rfl ?_)
   refine Dra.splitX rfl rfl rfl rfl (fun hg=>?_) fun hg=>?_
   ·refine Dra.on' rfl rfl rfl rfl rfl (.load rfl) (oL rfl rfl ?_)
    refine Dra.on' rfl rfl rfl rfl rfl .sure (Ope.cf rfl rfl (f38 20 40) rfl ?_)
    refine Dra.on' rfl rfl rfl rfl rfl .sure (Ope.eqV rfl rfl (eqSp _ _ _ _ _ _) ?_)
    refine dO rfl rfl rfl .sure (Ope.pickT rfl rfl ?_)
    refine dO rfl rfl rfl .sure (oM rfl ?_)
    refine Dra.splitX rfl rfl rfl rfl (fun hg=>?_) fun hg=>?_
    ·refine Dra.on' rfl rfl rfl rfl rfl .sure (oM rfl ?_)
     refine Dra.on' rfl rfl rfl rfl rfl .sure (Ope.eq rfl rfl ?_)
     refine dO rfl rfl rfl .sure (Ope.pickT rfl rfl ?_)
     refine dO rfl rfl rfl .sure (oM rfl ?_)
     refine Dra.splitX rfl rfl rfl rfl (fun hg=>?_) fun hg=>?_
     ·refine Dra.on' rfl rfl rfl rfl rfl (.load rfl) (oL rfl rfl ?_)
      refine Dra.on' rfl rfl rfl rfl rfl .sure (Ope.cf rfl rfl (f38 15 19) rfl ?_)
      refine Dra.on' rfl rfl rfl rfl rfl .sure (Ope.eqV rfl rfl (eqSp _ _ _ _ _ _) ?_)
      refine dO rfl rfl rfl .sure (Ope.pickT rfl rfl ?_)
      refine dO rfl rfl rfl .sure (oM rfl ?_)
      refine Dra.splitX rfl rfl rfl rfl (fun hg=>?_) fun hg=>?_
      ·refine Dra.on' rfl rfl rfl rfl rfl .sure (oM rfl ?_)
       refine Dra.on' rfl rfl rfl rfl rfl .sure (Ope.eq rfl rfl ?_)
       refine dO rfl rfl rfl .sure (Ope.pickT rfl rfl ?_)
       refine dO rfl rfl rfl .sure (oM rfl ?_)
       refine Dra.splitX rfl rfl rfl rfl (fun hg=>?_) fun hg=>?_
       ·refine Dra.on' rfl rfl rfl rfl rfl (.load rfl) (oL rfl rfl ?_)
        refine Dra.on' rfl rfl rfl rfl rfl .sure (Ope.cf rfl rfl (f38 34 44) rfl ?_)
        refine Dra.on' rfl rfl rfl rfl rfl .sure (Ope.eqV rfl rfl (eqSp _ _ _ _ _ _) ?_)
        refine dO rfl rfl rfl .sure (Ope.pickT rfl rfl ?_)
        refine dO rfl rfl rfl .sure (oM rfl ?_)
        refine Dra.splitX rfl rfl rfl rfl (fun hg=>?_) fun hg=>?_
        ·refine Dra.on' rfl rfl rfl rfl rfl .sure (oM rfl ?_)
         refine Dra.on' rfl rfl rfl rfl rfl .sure (Ope.eq rfl rfl ?_)
         refine dO rfl rfl rfl .sure (Ope.pickT rfl rfl ?_)
         refine dO rfl rfl rfl .sure (oM rfl ?_)
         refine Dra.splitX rfl rfl rfl rfl (fun hg=>?_) fun hg=>?_
         ·refine Dra.on' rfl rfl rfl rfl rfl .sure (oM rfl ?_)
          refine Dra.on' rfl rfl rfl rfl rfl .sure (Ope.bsl rfl rfl rfl rfl ?_)
          refine Dra.on' rfl rfl rfl rfl rfl .sure (Ope.cf rfl rfl c1 hbc ?_)
          refine dO rfl rfl rfl .sure (Ope.pickT rfl rfl ?_)
          refine dO rfl rfl rfl .sure (oM rfl ?_)
          refine Dra.splitX rfl rfl rfl rfl (fun hg=>?_) fun hg=>?_
          ·refine Dra.on' rfl rfl rfl rfl rfl .sure (oM rfl ?_)
           refine Dra.on' rfl rfl rfl rfl rfl .sure (Ope.eq rfl rfl ?_)
           refine dO rfl rfl rfl .sure (Ope.pickT rfl rfl ?_)
           refine dO rfl rfl rfl .sure (oM rfl ?_)
           refine Dra.splitX rfl rfl rfl rfl (fun hg=>?_) fun hg=>?_
           ·refine Dra.on' rfl rfl rfl rfl rfl .sure (oM rfl ?_)
            refine Dra.on' rfl rfl rfl rfl rfl .sure (Ope.eq rfl rfl ?_)
            refine dO rfl rfl rfl .sure (Ope.pickT rfl rfl ?_)
            refine dO rfl rfl rfl .sure (oM rfl ?_)
            refine Dra.splitX rfl rfl rfl rfl (fun hg=>?_) fun hg=>?_
            ·refine Dra.on' rfl rfl rfl rfl rfl .sure (oM rfl ?_)
             refine Dra.on' rfl rfl rfl rfl rfl .sure (Ope.eq rfl rfl ?_)
             refine dO rfl rfl rfl .sure (Ope.pickT rfl rfl ?_)
             refine dO rfl rfl rfl .sure (oA rfl ?_)
             exact Dra.nil (Run.ret (fin_ret (.tmp rfl .nil) rfl rfl))
            ·(first | exact absurd rfl hg | (exact absurd hg (by decide)))
           ·(first | exact absurd rfl hg | (exact absurd hg (by decide)))
          ·(first | exact absurd rfl hg | (exact absurd hg (by decide)))
         ·(first | exact absurd rfl hg | (exact absurd hg (by decide)))
        ·(first | exact absurd rfl hg | (exact absurd hg (by decide)))
       ·(first | exact absurd rfl hg | (exact absurd hg (by decide)))
      ·(first | exact absurd rfl hg | (exact absurd hg (by decide)))
     ·(first | exact absurd rfl hg | (exact absurd hg (by decide)))
    ·(first | exact absurd rfl hg | (exact absurd hg (by decide)))
   ·(first | exact absurd rfl hg | (exact absurd hg (by decide)))
  ·(first | exact absurd rfl hg | (exact absurd hg (by decide)))
end Go.Pv
namespace Go.Pv
open Go.Proofs Go.Am
set_option maxRecDepth 10000
abbrev U16 (x:Nat):PV:=.lit (.int .u16 ((x:Nat):Int))
theorem inB_iff {x l h:Int}:inB x l h=true↔l≤x∧x≤h:=by unfold inB;rw [Bool.and_eq_true,decide_eq_true_eq,decide_eq_true_eq]
theorem rulB_iff {r:Rul}:r.B=true↔(0≤r.ba∧r.ba≤1000)∧(0≤r.st∧r.st≤1000)∧(0≤r.mo∧r.mo≤1000)∧(0≤r.wi∧r.wi≤144):=by
  simp only [Rul.B,upB,Bool.and_eq_true,decide_eq_true_eq]
theorem ofcB_iff {o:Ofc} {m n:Int}:o.B m n=true↔(0≤o.kd∧o.kd < m)∧(0 < o.ri∧o.ri < 2 ^ n.toNat)∧0≤o.lo∧o.lo≤o.hi∧o.hi≤144∧o.hi - o.lo≤2:=by
  simp only [Ofc.B,numB,Bool.and_eq_true,decide_eq_true_eq]
  constructor
  · rintro ⟨c1, c2, c3, c4, c5, c6, c7⟩
    exact ⟨c1,⟨c2,c3.2⟩,c4,c5,c6,c7⟩
  · rintro ⟨c1, c2, c4, c5, c6, c7⟩
    exact ⟨c1,c2.1,⟨by omega,c2.2⟩,c4,c5,c6,c7⟩
theorem pone_no {x:Bool} (h:x=false):pone [PV.lit (.bool false)]=B x:=by subst h;rfl
theorem pone_yes {x:Bool} (h:x=true):pone [PV.lit (.bool true)]=B x:=by subst h;rfl
theorem no_of {b:Bool} (h:¬ b=true):b=false:=by simpa using h
section
variable (f:Fns) {t1 t2:Tail} (h1:t1.isOwn=false) (h2:t2.isOwn=false)
include h1 h2
def Fns.lng (f:Fns):Bool:=decide (40 < max (f.ru.length:Int) (f.li.length:Int))
theorem f30n:Fn P0 30 [f.v t1 t2,.sl .ex []] (B f.lng):=by
  unfold Fns.lng
  obtain ⟨ru,n,li⟩:=f
  simp only
  refine PFun.of (C:=c30) (cx_ok _ _ _) rfl (fn:=Tryz.f30) (by kernel_rfl) (c:=_) rfl rfl rfl ?_
  refine rS (rN (cx_ok _ _ _) (rO rfl (Ope.boxF rfl rfl ?_)))
  refine rO rfl (oA rfl ?_)
  refine rI (rS (rN (cx_ok _ _ _) (rO rfl (Ope.fld rfl rfl ?_))))
  refine rO rfl (oL rfl rfl ?_)
  refine rO rfl (Ope.len (m:=ru.length) rfl (by simp) ?_)
  refine rO rfl (Ope.fld rfl rfl ?_)
  refine rO rfl (oL rfl rfl ?_)
  refine rO rfl (Ope.len (m:=li.length) rfl (by simp) ?_)
  refine rO rfl (Ope.maxI rfl rfl ?_)
  refine rO rfl (oA rfl ?_)
  refine rI (rS (rS (rN (cx_ok _ _ _) (rO rfl (oM rfl ?_)))))
  refine rO rfl (Ope.len (m:=0) rfl rfl ?_)
  refine rO rfl (oM rfl ?_)
  refine rI (Run.block (Run.loop (α:=Nat) (fun i=>[(5,I (max (ru.length:Int) (li.length:Int))),(16,I 0),(17,I i)]) (fun i=>HE 0 []) (fun i=>i=0) (fun i=>i) 0 ⟨rfl,rfl,rfl,trivial⟩ rfl rfl (fun i hi=>?_)))
  subst hi
  refine rS (rN (cx_ok _ _ _) (rO rfl (Ope.lt rfl rfl ?_)))
  refine rI (rS (rC rfl (fun hc=>?_) fun hc=>?_))
  ·(exfalso;omega)
  ·refine Run.exit (Jmp.code (Jmp.round (Jmp.here (rS (rN (cx_ok _ _ _) (rO rfl (oM rfl ?_)))))))
   refine rO rfl (Ope.gt rfl rfl ?_)
   refine rO rfl (oA rfl ?_)
   exact rI (Run.ret (fin_ret (.tmp rfl .nil) rfl rfl))
theorem f26 (hS : f.ru.length ≤ 9223372036854775807) (hJ : f.li.length ≤ 9223372036854775807) : Fn P0 26 [f.v t1 t2] (B f.B) := by
  have hin:=fun x l h=>f44 x l h
  have hbig:=B_big f
  have hbn:=B_n f
  have hsu:=fun {i:Nat} hi=>B_ru f (i:=i) hi
  have hjo:=fun {i:Nat} hi=>B_li f (i:=i) hi
  have hyes:=B_yes f
  obtain ⟨ru,n,li⟩:=f
  simp only at hbig hbn hsu hjo hyes hS hJ
  show Fn P0 26 [.agg [.sl t1 (ru.map Rul.v),I n,.sl t2 (li.map Ofc.v)]] (B (Fns.B ⟨ru,n,li⟩))
  have hin0:=hin n 2 6
  have hu:=@inB_iff n 2 6
  generalize inB n 2 6=u at *
  refine PFun.of (C:=c26) (cx_ok _ _ _) rfl (fn:=Tryz.f26) (by kernel_rfl) (c:=_) rfl rfl rfl ?_
  refine rS (rN (cx_ok _ _ _) (rO rfl (Ope.boxF rfl rfl ?_)))
  refine rO rfl (oA rfl ?_)
  refine rI (rS (rS (rN (cx_ok _ _ _) (rO rfl (Ope.fld rfl rfl ?_)))))
  refine rO rfl (oL rfl rfl ?_)
  refine rO rfl (Ope.len (m:=ru.length) rfl (by simp) ?_)
  refine rO rfl (Ope.gt rfl rfl ?_)
  refine rO rfl (oM rfl ?_)
  refine Reg.splitX rfl rfl (fun hg=>?_) fun hg=>?_
  ·refine Reg.off rfl rfl rfl (Reg.off rfl rfl rfl (Reg.off rfl rfl rfl (Reg.off rfl rfl rfl (rO rfl (Ope.pickT rfl rfl ?_)))))
   refine rO rfl (oM rfl ?_)
   refine Reg.off rfl rfl rfl (Reg.off rfl rfl rfl (Reg.off rfl rfl rfl (Reg.off rfl rfl rfl (rO rfl (Ope.pickT rfl rfl ?_)))))
   refine rO rfl (oM rfl ?_)
   refine Reg.off rfl rfl rfl (Reg.off rfl rfl rfl (Reg.off rfl rfl rfl (Reg.off rfl rfl rfl (rO rfl (Ope.pickT rfl rfl ?_)))))
   refine rI (Run.condT rfl (rS (rN (cx_ok _ _ _) (rO rfl (oA rfl ?_)))))
   refine rI (Run.ret (Jmp.code (fin_ret (.tmp rfl .nil) rfl ?_)))
   first
   | (refine pone_no (hbig ?_);omega)
   | (refine pone_no (hbn ?_);omega)
   | (refine pone_no (hbn fun h6=>?_);have h7:=hu.2 (by omega);simp_all;done)
   | (refine pone_no (hsu hlt (no_of fun hb=>?_));have h9:=hrb.1 hb;simp_all;done)
   | (refine pone_no (hjo hlt (no_of fun hb=>?_));have h9:=hob.1 hb;omega)
   | (refine pone_no (hjo hlt (no_of fun hb=>?_));have h9:=hob.1 hb;have h10:=i1.2 (by omega);have h11:=i2.2 (by omega);simp_all;done)
   | (exact pone_yes (hyes (by omega) (by omega) (by omega) (fun k hk=>hall k hk hk) (fun k hk=>hallj k hk (by omega))))
  ·refine Reg.on rfl rfl rfl (Ope.fld rfl rfl ?_)
   refine Reg.on rfl rfl rfl (oL rfl rfl ?_)
   refine Reg.on rfl rfl rfl (Ope.len (m:=li.length) rfl (by simp) ?_)
   refine Reg.on rfl rfl rfl (Ope.gt rfl rfl ?_)
   refine rO rfl (Ope.pickF rfl rfl ?_)
   refine rO rfl (oM rfl ?_)
   refine Reg.splitX rfl rfl (fun hg=>?_) fun hg=>?_
   ·refine Reg.off rfl rfl rfl (Reg.off rfl rfl rfl (Reg.off rfl rfl rfl (Reg.off rfl rfl rfl (rO rfl (Ope.pickT rfl rfl ?_)))))
    refine rO rfl (oM rfl ?_)
    refine Reg.off rfl rfl rfl (Reg.off rfl rfl rfl (Reg.off rfl rfl rfl (Reg.off rfl rfl rfl (rO rfl (Ope.pickT rfl rfl ?_)))))
    refine rI (Run.condT rfl (rS (rN (cx_ok _ _ _) (rO rfl (oA rfl ?_)))))
    refine rI (Run.ret (Jmp.code (fin_ret (.tmp rfl .nil) rfl ?_)))
    first
    | (refine pone_no (hbig ?_);omega)
    | (refine pone_no (hbn ?_);omega)
    | (refine pone_no (hbn fun h6=>?_);have h7:=hu.2 (by omega);simp_all;done)
    | (refine pone_no (hsu hlt (no_of fun hb=>?_));have h9:=hrb.1 hb;simp_all;done)
    | (refine pone_no (hjo hlt (no_of fun hb=>?_));have h9:=hob.1 hb;omega)
    | (refine pone_no (hjo hlt (no_of fun hb=>?_));have h9:=hob.1 hb;have h10:=i1.2 (by omega);have h11:=i2.2 (by omega);simp_all;done)
    | (exact pone_yes (hyes (by omega) (by omega) (by omega) (fun k hk=>hall k hk hk) (fun k hk=>hallj k hk (by omega))))
   ·refine Reg.on rfl rfl rfl (Ope.fld rfl rfl ?_)
    refine Reg.on rfl rfl rfl (oL rfl rfl ?_)
    refine Reg.on rfl rfl rfl (Ope.cf rfl rfl (hin0) rfl ?_)
    refine Reg.on rfl rfl rfl (Ope.not rfl ?_)
    refine rO rfl (Ope.pickF rfl rfl ?_)
    refine rO rfl (oM rfl ?_)
    refine Reg.splitX rfl rfl (fun hg=>?_) fun hg=>?_
    ·refine Reg.off rfl rfl rfl (Reg.off rfl rfl rfl (Reg.off rfl rfl rfl (Reg.off rfl rfl rfl (rO rfl (Ope.pickT rfl rfl ?_)))))
     refine rI (Run.condT rfl (rS (rN (cx_ok _ _ _) (rO rfl (oA rfl ?_)))))
     refine rI (Run.ret (Jmp.code (fin_ret (.tmp rfl .nil) rfl ?_)))
     first
     | (refine pone_no (hbig ?_);omega)
     | (refine pone_no (hbn ?_);omega)
     | (refine pone_no (hbn fun h6=>?_);have h7:=hu.2 (by omega);simp_all;done)
     | (refine pone_no (hsu hlt (no_of fun hb=>?_));have h9:=hrb.1 hb;simp_all;done)
     | (refine pone_no (hjo hlt (no_of fun hb=>?_));have h9:=hob.1 hb;omega)
     | (refine pone_no (hjo hlt (no_of fun hb=>?_));have h9:=hob.1 hb;have h10:=i1.2 (by omega);have h11:=i2.2 (by omega);simp_all;done)
     | (exact pone_yes (hyes (by omega) (by omega) (by omega) (fun k hk=>hall k hk hk) (fun k hk=>hallj k hk (by omega))))
    ·refine Reg.on rfl rfl rfl (Ope.fld rfl rfl ?_)
     refine Reg.on rfl rfl rfl (oL rfl rfl ?_)
     refine Reg.on rfl rfl rfl (Ope.remN (p:=n.toNat) (q:=2) rfl rfl (by have:=hu.1 (by assumption);omega) rfl (by decide) ?_)
     refine Reg.on rfl rfl rfl (Ope.ne rfl rfl ?_)
     refine rO rfl (Ope.pickF rfl rfl ?_)
     refine rI (rC rfl (fun hc=>?_) fun hc=>?_)
     ·refine rS (rN (cx_ok _ _ _) (rO rfl (oA rfl ?_)))
      refine rI (Run.ret (Jmp.code (fin_ret (.tmp rfl .nil) rfl ?_)))
      first
      | (refine pone_no (hbig ?_);omega)
      | (refine pone_no (hbn ?_);omega)
      | (refine pone_no (hbn fun h6=>?_);have h7:=hu.2 (by omega);simp_all;done)
      | (refine pone_no (hsu hlt (no_of fun hb=>?_));have h9:=hrb.1 hb;simp_all;done)
      | (refine pone_no (hjo hlt (no_of fun hb=>?_));have h9:=hob.1 hb;omega)
      | (refine pone_no (hjo hlt (no_of fun hb=>?_));have h9:=hob.1 hb;have h10:=i1.2 (by omega);have h11:=i2.2 (by omega);simp_all;done)
      | (exact pone_yes (hyes (by omega) (by omega) (by omega) (fun k hk=>hall k hk hk) (fun k hk=>hallj k hk (by omega))))
     ·refine Run.skip (rS (rS ?_))
      have hun:=hu.1 (by assumption)
      have hn6:n=2∨n=4∨n=6:=by omega
      refine rN (cx_ok _ _ _) (rO rfl (oA rfl ?_))
      refine rI (Run.block (Run.loop (α:=Nat×Nat) (fun t=>[(1,.fp (.agg [.sl t1 (ru.map Rul.v),I n,.sl t2 (li.map Ofc.v)])),(3,I t.1)]) (fun t=>HE t.2 []) (fun t=>t.1≤ru.length∧∀ k (hk:k < ru.length),k < t.1→(ru[k]).B=true) (fun t=>ru.length - t.1) (0,0) ⟨rfl,rfl,trivial⟩ rfl ⟨Nat.zero_le _,fun k _ hk=>absurd hk (Nat.not_lt_zero _)⟩ (fun t ht=>?_)))
      obtain ⟨i,m⟩:=t
      obtain ⟨hi,hall⟩:=ht
      simp only at hi hall
      refine rS (rS (rN (cx_ok _ _ _) (rO rfl (oM rfl ?_))))
      refine rO rfl (Ope.fld rfl rfl ?_)
      refine rO rfl (oL rfl rfl ?_)
      refine rO rfl (Ope.len (m:=ru.length) rfl (by simp) ?_)
      refine rO rfl (Ope.lt rfl rfl ?_)
      refine rI (rC rfl (fun hc=>?_) fun hc=>?_)
      ·refine Run.skip (rS (Run.block (rS ?_)))
       have hlt:i < ru.length:=by omega
       refine rN (cx_ok _ _ _) (rO rfl (Ope.fld rfl rfl ?_))
       refine rO rfl (oL rfl rfl ?_)
       refine rO rfl (oM rfl ?_)
       refine rO rfl (Ope.idxM (m:=i) (f:=Rul.v) rfl rfl rfl hlt (fun _=>rfl) ?_)
       refine rO rfl (oL rfl rfl ?_)
       refine rO rfl (Ope.newL rfl ?_)
       refine Reg.op0 (Ope.store rfl rfl hget_hd rfl rfl rfl ?_)
       refine rI (rS (Run.frz (d:=4) true rfl hget_hd rfl ?_))
       refine Run.wide (m:=m+1) (l':=[]) (Nat.le_refl _) trivial ?_
       have hrb:=@rulB_iff ru[i]
       have q1:=hin ru[i].ba 0 1000
       have q2:=hin ru[i].st 0 1000
       have q3:=hin ru[i].mo 0 1000
       have q4:=hin ru[i].wi 0 144
       rw [← @inB_iff ru[i].ba 0 1000,← @inB_iff ru[i].st 0 1000,← @inB_iff ru[i].mo 0 1000,← @inB_iff ru[i].wi 0 144] at hrb
       generalize inB ru[i].ba 0 1000=p1 at *
       generalize inB ru[i].st 0 1000=p2 at *
       generalize inB ru[i].mo 0 1000=p3 at *
       generalize inB ru[i].wi 0 144=p4 at *
       refine rN (cx_ok _ _ _) (rO rfl (Ope.fld rfl rfl ?_))
       refine rO rfl (oL rfl rfl ?_)
       refine rO rfl (Ope.cf rfl rfl (q1) rfl ?_)
       refine rO rfl (Ope.not rfl ?_)
       refine rO rfl (oM rfl ?_)
       refine Reg.splitX rfl rfl (fun hg=>?_) fun hg=>?_
       ·refine Reg.off rfl rfl rfl (Reg.off rfl rfl rfl (Reg.off rfl rfl rfl (Reg.off rfl rfl rfl (rO rfl (Ope.pickT rfl rfl ?_)))))
        refine rO rfl (oM rfl ?_)
        refine Reg.off rfl rfl rfl (Reg.off rfl rfl rfl (Reg.off rfl rfl rfl (Reg.off rfl rfl rfl (rO rfl (Ope.pickT rfl rfl ?_)))))
        refine rO rfl (oM rfl ?_)
        refine Reg.off rfl rfl rfl (Reg.off rfl rfl rfl (Reg.off rfl rfl rfl (Reg.off rfl rfl rfl (rO rfl (Ope.pickT rfl rfl ?_)))))
        refine rI (Run.condT rfl (rS (rN (cx_ok _ _ _) (rO rfl (oA rfl ?_)))))
        refine rI (Run.ret (Jmp.retB (Jmp.code (Jmp.round (Jmp.retB (Jmp.code (fin_ret (.tmp rfl .nil) rfl ?_)))))))
        first
        | (refine pone_no (hbig ?_);omega)
        | (refine pone_no (hbn ?_);omega)
        | (refine pone_no (hbn fun h6=>?_);have h7:=hu.2 (by omega);simp_all;done)
        | (refine pone_no (hsu hlt (no_of fun hb=>?_));have h9:=hrb.1 hb;simp_all;done)
        | (refine pone_no (hjo hlt (no_of fun hb=>?_));have h9:=hob.1 hb;omega)
        | (refine pone_no (hjo hlt (no_of fun hb=>?_));have h9:=hob.1 hb;have h10:=i1.2 (by omega);have h11:=i2.2 (by omega);simp_all;done)
        | (exact pone_yes (hyes (by omega) (by omega) (by omega) (fun k hk=>hall k hk hk) (fun k hk=>hallj k hk (by omega))))
       ·refine Reg.on rfl rfl rfl (Ope.fld rfl rfl ?_)
        refine Reg.on rfl rfl rfl (oL rfl rfl ?_)
        refine Reg.on rfl rfl rfl (Ope.cf rfl rfl (q2) rfl ?_)
        refine Reg.on rfl rfl rfl (Ope.not rfl ?_)
        refine rO rfl (Ope.pickF rfl rfl ?_)
        refine rO rfl (oM rfl ?_)
        refine Reg.splitX rfl rfl (fun hg=>?_) fun hg=>?_
        ·refine Reg.off rfl rfl rfl (Reg.off rfl rfl rfl (Reg.off rfl rfl rfl (Reg.off rfl rfl rfl (rO rfl (Ope.pickT rfl rfl ?_)))))
         refine rO rfl (oM rfl ?_)
         refine Reg.off rfl rfl rfl (Reg.off rfl rfl rfl (Reg.off rfl rfl rfl (Reg.off rfl rfl rfl (rO rfl (Ope.pickT rfl rfl ?_)))))
         refine rI (Run.condT rfl (rS (rN (cx_ok _ _ _) (rO rfl (oA rfl ?_)))))
         refine rI (Run.ret (Jmp.retB (Jmp.code (Jmp.round (Jmp.retB (Jmp.code (fin_ret (.tmp rfl .nil) rfl ?_)))))))
         first
         | (refine pone_no (hbig ?_);omega)
         | (refine pone_no (hbn ?_);omega)
         | (refine pone_no (hbn fun h6=>?_);have h7:=hu.2 (by omega);simp_all;done)
         | (refine pone_no (hsu hlt (no_of fun hb=>?_));have h9:=hrb.1 hb;simp_all;done)
         | (refine pone_no (hjo hlt (no_of fun hb=>?_));have h9:=hob.1 hb;omega)
         | (refine pone_no (hjo hlt (no_of fun hb=>?_));have h9:=hob.1 hb;have h10:=i1.2 (by omega);have h11:=i2.2 (by omega);simp_all;done)
         | (exact pone_yes (hyes (by omega) (by omega) (by omega) (fun k hk=>hall k hk hk) (fun k hk=>hallj k hk (by omega))))
        ·refine Reg.on rfl rfl rfl (Ope.fld rfl rfl ?_)
         refine Reg.on rfl rfl rfl (oL rfl rfl ?_)
         refine Reg.on rfl rfl rfl (Ope.cf rfl rfl (q3) rfl ?_)
         refine Reg.on rfl rfl rfl (Ope.not rfl ?_)
         refine rO rfl (Ope.pickF rfl rfl ?_)
         refine rO rfl (oM rfl ?_)
         refine Reg.splitX rfl rfl (fun hg=>?_) fun hg=>?_
         ·refine Reg.off rfl rfl rfl (Reg.off rfl rfl rfl (Reg.off rfl rfl rfl (Reg.off rfl rfl rfl (rO rfl (Ope.pickT rfl rfl ?_)))))
          refine rI (Run.condT rfl (rS (rN (cx_ok _ _ _) (rO rfl (oA rfl ?_)))))
          refine rI (Run.ret (Jmp.retB (Jmp.code (Jmp.round (Jmp.retB (Jmp.code (fin_ret (.tmp rfl .nil) rfl ?_)))))))
          first
          | (refine pone_no (hbig ?_);omega)
          | (refine pone_no (hbn ?_);omega)
          | (refine pone_no (hbn fun h6=>?_);have h7:=hu.2 (by omega);simp_all;done)
          | (refine pone_no (hsu hlt (no_of fun hb=>?_));have h9:=hrb.1 hb;simp_all;done)
          | (refine pone_no (hjo hlt (no_of fun hb=>?_));have h9:=hob.1 hb;omega)
          | (refine pone_no (hjo hlt (no_of fun hb=>?_));have h9:=hob.1 hb;have h10:=i1.2 (by omega);have h11:=i2.2 (by omega);simp_all;done)
          | (exact pone_yes (hyes (by omega) (by omega) (by omega) (fun k hk=>hall k hk hk) (fun k hk=>hallj k hk (by omega))))
         ·refine Reg.on rfl rfl rfl (Ope.fld rfl rfl ?_)
          refine Reg.on rfl rfl rfl (oL rfl rfl ?_)
          refine Reg.on rfl rfl rfl (Ope.cf rfl rfl (q4) rfl ?_)
          refine Reg.on rfl rfl rfl (Ope.not rfl ?_)
          refine rO rfl (Ope.pickF rfl rfl ?_)
          refine rI (rC rfl (fun hc=>?_) fun hc=>?_)
          ·refine rS (rN (cx_ok _ _ _) (rO rfl (oA rfl ?_)))
           refine rI (Run.ret (Jmp.retB (Jmp.code (Jmp.round (Jmp.retB (Jmp.code (fin_ret (.tmp rfl .nil) rfl ?_)))))))
           first
           | (refine pone_no (hbig ?_);omega)
           | (refine pone_no (hbn ?_);omega)
           | (refine pone_no (hbn fun h6=>?_);have h7:=hu.2 (by omega);simp_all;done)
           | (refine pone_no (hsu hlt (no_of fun hb=>?_));have h9:=hrb.1 hb;simp_all;done)
           | (refine pone_no (hjo hlt (no_of fun hb=>?_));have h9:=hob.1 hb;omega)
           | (refine pone_no (hjo hlt (no_of fun hb=>?_));have h9:=hob.1 hb;have h10:=i1.2 (by omega);have h11:=i2.2 (by omega);simp_all;done)
           | (exact pone_yes (hyes (by omega) (by omega) (by omega) (fun k hk=>hall k hk hk) (fun k hk=>hallj k hk (by omega))))
          ·refine Run.skip (Run.bend (rN (cx_ok _ _ _) (rO rfl (oM rfl ?_))))
           refine rO rfl (Ope.add rfl rfl (by omega) ?_)
           refine rO rfl (oA rfl ?_)
           refine rI ?_
           exact Run.lend ⟨(i+1,m+1),by show ru.length - (i+1) < ru.length - i;omega,⟨by show i+1≤ru.length;omega,fun k hk hki=>by
             by_cases hkk:k=i
             · subst hkk;exact hrb.2 (by simp_all)
             · exact hall k hk (by simp only at hki;omega)⟩,⟨rfl,rfl,trivial⟩,rfl,rfl⟩
      ·refine Run.exit (Jmp.code (Jmp.round (Jmp.here (rS (rS ?_)))))
       obtain rfl:i=ru.length:=by omega
       refine rN (cx_ok _ _ _) (rO rfl (oA rfl ?_))
       refine rI (Run.block (Run.loop (α:=Nat×Nat) (fun t=>[(1,.fp (.agg [.sl t1 (ru.map Rul.v),I n,.sl t2 (li.map Ofc.v)])),(5,I t.1)]) (fun t=>HE t.2 []) (fun t=>t.1≤li.length∧∀ k (hk:k < li.length),k < t.1→(li[k]).B ru.length n=true) (fun t=>li.length - t.1) (0,m) ⟨rfl,rfl,trivial⟩ rfl ⟨Nat.zero_le _,fun k _ hk=>absurd hk (Nat.not_lt_zero _)⟩ (fun t ht=>?_)))
       obtain ⟨i,m⟩:=t
       obtain ⟨hi,hallj⟩:=ht
       simp only at hi hallj
       refine rS (rS (rN (cx_ok _ _ _) (rO rfl (oM rfl ?_))))
       refine rO rfl (Ope.fld rfl rfl ?_)
       refine rO rfl (oL rfl rfl ?_)
       refine rO rfl (Ope.len (m:=li.length) rfl (by simp) ?_)
       refine rO rfl (Ope.lt rfl rfl ?_)
       refine rI (rC rfl (fun hc=>?_) fun hc=>?_)
       ·refine Run.skip (rS (Run.block (rS ?_)))
        have hlt:i < li.length:=by omega
        refine rN (cx_ok _ _ _) (rO rfl (Ope.fld rfl rfl ?_))
        refine rO rfl (oL rfl rfl ?_)
        refine rO rfl (oM rfl ?_)
        refine rO rfl (Ope.idxM (m:=i) (f:=Ofc.v) rfl rfl rfl hlt (fun _=>rfl) ?_)
        refine rO rfl (oL rfl rfl ?_)
        refine rO rfl (Ope.newL rfl ?_)
        refine Reg.op0 (Ope.store rfl rfl hget_hd rfl rfl rfl ?_)
        refine rI (rS (rS (Run.frz (d:=6) true rfl hget_hd rfl ?_)))
        refine Run.wide (m:=m+1) (l':=[]) (Nat.le_refl _) trivial ?_
        obtain ⟨k,rfl⟩:∃ k:Nat,n=(k:Int):=⟨n.toNat,by omega⟩
        have hk6:k≤6:=by omega
        have hpw:=f62 k (by omega)
        have hp:2 ^ k≤2 ^ 6:=Nat.pow_le_pow_right (by decide) hk6
        have e2:(2:Int) ^ ((k:Nat):Int).toNat=((2 ^ k:Nat):Int):=by rw [Int.toNat_natCast];push_cast;rfl
        have hob:=@ofcB_iff li[i] ru.length k
        rw [e2] at hob
        generalize 2 ^ k=w at *
        have q1:=hin li[i].kd 0 ((ru.length:Int) - 1)
        have q2:=hin li[i].ri 1 ((w:Int) - 1)
        have i1:=@inB_iff li[i].kd 0 ((ru.length:Int) - 1)
        have i2:=@inB_iff li[i].ri 1 ((w:Int) - 1)
        generalize inB li[i].kd 0 ((ru.length:Int) - 1)=p1 at *
        generalize inB li[i].ri 1 ((w:Int) - 1)=p2 at *
        refine Run.draw (cx_ok _ _ _) [(0,true),(1,true),(2,true),(3,true),(4,true),(5,true),(6,true),(7,true),(8,true),(9,true),(10,false),(11,true),(12,true),(13,true),(14,true),(15,true),(16,true),(17,true)] (by kernel_rfl) (dO rfl rfl rfl .sure (Ope.fld rfl rfl ?_))
        refine dO rfl rfl rfl .sure (oL rfl rfl ?_)
        refine dO rfl rfl rfl .sure (Ope.fld rfl rfl ?_)
        refine dO rfl rfl rfl .sure (oL rfl rfl ?_)
        refine dO rfl rfl rfl .sure (Ope.len (m:=ru.length) rfl (by simp) ?_)
        refine dO rfl rfl rfl .sure (Ope.sub rfl rfl (by omega) ?_)
        refine dO rfl rfl rfl .sure (Ope.cf rfl rfl (q1) rfl ?_)
        refine dO rfl rfl rfl .sure (Ope.not rfl ?_)
        refine dO rfl rfl rfl .sure (oM rfl ?_)
        refine Dra.splitX rfl rfl rfl rfl (fun hg=>?_) fun hg=>?_
        ·refine dF rfl rfl rfl (.inl rfl) rfl (dF rfl rfl rfl (.inl rfl) rfl (dF rfl rfl rfl (.inl rfl) rfl (dF rfl rfl rfl (.inl rfl) rfl (dF rfl rfl rfl (.inl rfl) rfl (dF rfl rfl rfl (.inl rfl) rfl (dF rfl rfl rfl (.inl rfl) rfl (dF rfl rfl rfl (.inl rfl) rfl (dO rfl rfl rfl .sure (Ope.pickT rfl rfl ?_)))))))))
         refine Dra.nil (Run.condT rfl (rS (rN (cx_ok _ _ _) (rO rfl (oA rfl ?_)))))
         refine rI (Run.ret (Jmp.code (Jmp.retB (Jmp.code (Jmp.round (Jmp.retB (Jmp.code (fin_ret (.tmp rfl .nil) rfl ?_))))))))
         first
         | (refine pone_no (hbig ?_);omega)
         | (refine pone_no (hbn ?_);omega)
         | (refine pone_no (hbn fun h6=>?_);have h7:=hu.2 (by omega);simp_all;done)
         | (refine pone_no (hsu hlt (no_of fun hb=>?_));have h9:=hrb.1 hb;simp_all;done)
         | (refine pone_no (hjo hlt (no_of fun hb=>?_));have h9:=hob.1 hb;omega)
         | (refine pone_no (hjo hlt (no_of fun hb=>?_));have h9:=hob.1 hb;have h10:=i1.2 (by omega);have h11:=i2.2 (by omega);simp_all;done)
         | (exact pone_yes (hyes (by omega) (by omega) (by omega) (fun k hk=>hall k hk hk) (fun k hk=>hallj k hk (by omega))))
        ·refine Dra.on' rfl rfl rfl rfl rfl .sure (Ope.fld rfl rfl ?_)
         refine Dra.on' rfl rfl rfl rfl rfl (.load rfl) (oL rfl rfl ?_)
         refine Dra.on' rfl rfl rfl rfl rfl .sure (Ope.fld rfl rfl ?_)
         refine Dra.on' rfl rfl rfl rfl rfl .sure (oL rfl rfl ?_)
         refine Dra.on' rfl rfl rfl rfl rfl .sure (Ope.cf rfl rfl (hpw) rfl ?_)
         refine Dra.on' rfl rfl rfl rfl rfl .sure (Ope.sub rfl rfl (by omega) ?_)
         refine Dra.on' rfl rfl rfl rfl rfl .sure (Ope.cf rfl rfl (q2) rfl ?_)
         refine Dra.on' rfl rfl rfl rfl rfl .sure (Ope.not rfl ?_)
         refine dO rfl rfl rfl .sure (Ope.pickF rfl rfl ?_)
         refine Dra.nil (rC rfl (fun hc=>?_) fun hc=>?_)
         ·refine rS (rN (cx_ok _ _ _) (rO rfl (oA rfl ?_)))
          refine rI (Run.ret (Jmp.code (Jmp.retB (Jmp.code (Jmp.round (Jmp.retB (Jmp.code (fin_ret (.tmp rfl .nil) rfl ?_))))))))
          first
          | (refine pone_no (hbig ?_);omega)
          | (refine pone_no (hbn ?_);omega)
          | (refine pone_no (hbn fun h6=>?_);have h7:=hu.2 (by omega);simp_all;done)
          | (refine pone_no (hsu hlt (no_of fun hb=>?_));have h9:=hrb.1 hb;simp_all;done)
          | (refine pone_no (hjo hlt (no_of fun hb=>?_));have h9:=hob.1 hb;omega)
          | (refine pone_no (hjo hlt (no_of fun hb=>?_));have h9:=hob.1 hb;have h10:=i1.2 (by omega);have h11:=i2.2 (by omega);simp_all;done)
          | (exact pone_yes (hyes (by omega) (by omega) (by omega) (fun k hk=>hall k hk hk) (fun k hk=>hallj k hk (by omega))))
         ·refine Run.skip (rS (rN (cx_ok _ _ _) (rO rfl (Ope.fld rfl rfl ?_))))
          refine rO rfl (oL rfl rfl ?_)
          refine rO rfl (Ope.newL rfl ?_)
          refine Reg.op0 (Ope.store rfl rfl hget_hd rfl rfl rfl ?_)
          refine rI (rS (Run.frz (d:=7) true rfl hget_hd rfl ?_))
          refine Run.wide (m:=m+1+1) (l':=[]) (Nat.le_refl _) trivial ?_
          refine rN (cx_ok _ _ _) (rO rfl (Ope.fld rfl rfl ?_))
          refine rO rfl (oL rfl rfl ?_)
          refine rO rfl (Ope.lt rfl rfl ?_)
          refine rO rfl (oM rfl ?_)
          refine Reg.splitX rfl rfl (fun hg=>?_) fun hg=>?_
          ·refine Reg.off rfl rfl rfl (Reg.off rfl rfl rfl (Reg.off rfl rfl rfl (Reg.off rfl rfl rfl (Reg.off rfl rfl rfl (rO rfl (Ope.pickT rfl rfl ?_))))))
           refine rO rfl (oM rfl ?_)
           refine Reg.off rfl rfl rfl (Reg.off rfl rfl rfl (Reg.off rfl rfl rfl (rO rfl (Ope.pickT rfl rfl ?_))))
           refine rO rfl (oM rfl ?_)
           refine Reg.off rfl rfl rfl (Reg.off rfl rfl rfl (Reg.off rfl rfl rfl (Reg.off rfl rfl rfl (Reg.off rfl rfl rfl (Reg.off rfl rfl rfl (rO rfl (Ope.pickT rfl rfl ?_)))))))
           refine rI (Run.condT rfl (rS (rN (cx_ok _ _ _) (rO rfl (oA rfl ?_)))))
           refine rI (Run.ret (Jmp.retB (Jmp.code (Jmp.round (Jmp.retB (Jmp.code (fin_ret (.tmp rfl .nil) rfl ?_)))))))
           first
           | (refine pone_no (hbig ?_);omega)
           | (refine pone_no (hbn ?_);omega)
           | (refine pone_no (hbn fun h6=>?_);have h7:=hu.2 (by omega);simp_all;done)
           | (refine pone_no (hsu hlt (no_of fun hb=>?_));have h9:=hrb.1 hb;simp_all;done)
           | (refine pone_no (hjo hlt (no_of fun hb=>?_));have h9:=hob.1 hb;omega)
           | (refine pone_no (hjo hlt (no_of fun hb=>?_));have h9:=hob.1 hb;have h10:=i1.2 (by omega);have h11:=i2.2 (by omega);simp_all;done)
           | (exact pone_yes (hyes (by omega) (by omega) (by omega) (fun k hk=>hall k hk hk) (fun k hk=>hallj k hk (by omega))))
          ·refine Reg.on rfl rfl rfl (Ope.fld rfl rfl ?_)
           refine Reg.on rfl rfl rfl (oL rfl rfl ?_)
           refine Reg.on rfl rfl rfl (Ope.fld rfl rfl ?_)
           refine Reg.on rfl rfl rfl (oL rfl rfl ?_)
           refine Reg.on rfl rfl rfl (Ope.gt rfl rfl ?_)
           refine rO rfl (Ope.pickF rfl rfl ?_)
           refine rO rfl (oM rfl ?_)
           refine Reg.splitX rfl rfl (fun hg=>?_) fun hg=>?_
           ·refine Reg.off rfl rfl rfl (Reg.off rfl rfl rfl (Reg.off rfl rfl rfl (rO rfl (Ope.pickT rfl rfl ?_))))
            refine rO rfl (oM rfl ?_)
            refine Reg.off rfl rfl rfl (Reg.off rfl rfl rfl (Reg.off rfl rfl rfl (Reg.off rfl rfl rfl (Reg.off rfl rfl rfl (Reg.off rfl rfl rfl (rO rfl (Ope.pickT rfl rfl ?_)))))))
            refine rI (Run.condT rfl (rS (rN (cx_ok _ _ _) (rO rfl (oA rfl ?_)))))
            refine rI (Run.ret (Jmp.retB (Jmp.code (Jmp.round (Jmp.retB (Jmp.code (fin_ret (.tmp rfl .nil) rfl ?_)))))))
            first
            | (refine pone_no (hbig ?_);omega)
            | (refine pone_no (hbn ?_);omega)
            | (refine pone_no (hbn fun h6=>?_);have h7:=hu.2 (by omega);simp_all;done)
            | (refine pone_no (hsu hlt (no_of fun hb=>?_));have h9:=hrb.1 hb;simp_all;done)
            | (refine pone_no (hjo hlt (no_of fun hb=>?_));have h9:=hob.1 hb;omega)
            | (refine pone_no (hjo hlt (no_of fun hb=>?_));have h9:=hob.1 hb;have h10:=i1.2 (by omega);have h11:=i2.2 (by omega);simp_all;done)
            | (exact pone_yes (hyes (by omega) (by omega) (by omega) (fun k hk=>hall k hk hk) (fun k hk=>hallj k hk (by omega))))
           ·refine Reg.on rfl rfl rfl (Ope.fld rfl rfl ?_)
            refine Reg.on rfl rfl rfl (oL rfl rfl ?_)
            refine Reg.on rfl rfl rfl (Ope.gt rfl rfl ?_)
            refine rO rfl (Ope.pickF rfl rfl ?_)
            refine rO rfl (oM rfl ?_)
            refine Reg.splitX rfl rfl (fun hg=>?_) fun hg=>?_
            ·refine Reg.off rfl rfl rfl (Reg.off rfl rfl rfl (Reg.off rfl rfl rfl (Reg.off rfl rfl rfl (Reg.off rfl rfl rfl (Reg.off rfl rfl rfl (rO rfl (Ope.pickT rfl rfl ?_)))))))
             refine rI (Run.condT rfl (rS (rN (cx_ok _ _ _) (rO rfl (oA rfl ?_)))))
             refine rI (Run.ret (Jmp.retB (Jmp.code (Jmp.round (Jmp.retB (Jmp.code (fin_ret (.tmp rfl .nil) rfl ?_)))))))
             first
             | (refine pone_no (hbig ?_);omega)
             | (refine pone_no (hbn ?_);omega)
             | (refine pone_no (hbn fun h6=>?_);have h7:=hu.2 (by omega);simp_all;done)
             | (refine pone_no (hsu hlt (no_of fun hb=>?_));have h9:=hrb.1 hb;simp_all;done)
             | (refine pone_no (hjo hlt (no_of fun hb=>?_));have h9:=hob.1 hb;omega)
             | (refine pone_no (hjo hlt (no_of fun hb=>?_));have h9:=hob.1 hb;have h10:=i1.2 (by omega);have h11:=i2.2 (by omega);simp_all;done)
             | (exact pone_yes (hyes (by omega) (by omega) (by omega) (fun k hk=>hall k hk hk) (fun k hk=>hallj k hk (by omega))))
            ·refine Reg.on rfl rfl rfl (Ope.fld rfl rfl ?_)
             refine Reg.on rfl rfl rfl (oL rfl rfl ?_)
             refine Reg.on rfl rfl rfl (Ope.fld rfl rfl ?_)
             refine Reg.on rfl rfl rfl (oL rfl rfl ?_)
             refine Reg.on rfl rfl rfl (Ope.sub rfl rfl (by omega) ?_)
             refine Reg.on rfl rfl rfl (Ope.gt rfl rfl ?_)
             refine rO rfl (Ope.pickF rfl rfl ?_)
             refine rI (rC rfl (fun hc=>?_) fun hc=>?_)
             ·refine rS (rN (cx_ok _ _ _) (rO rfl (oA rfl ?_)))
              refine rI (Run.ret (Jmp.retB (Jmp.code (Jmp.round (Jmp.retB (Jmp.code (fin_ret (.tmp rfl .nil) rfl ?_)))))))
              first
              | (refine pone_no (hbig ?_);omega)
              | (refine pone_no (hbn ?_);omega)
              | (refine pone_no (hbn fun h6=>?_);have h7:=hu.2 (by omega);simp_all;done)
              | (refine pone_no (hsu hlt (no_of fun hb=>?_));have h9:=hrb.1 hb;simp_all;done)
              | (refine pone_no (hjo hlt (no_of fun hb=>?_));have h9:=hob.1 hb;omega)
              | (refine pone_no (hjo hlt (no_of fun hb=>?_));have h9:=hob.1 hb;have h10:=i1.2 (by omega);have h11:=i2.2 (by omega);simp_all;done)
              | (exact pone_yes (hyes (by omega) (by omega) (by omega) (fun k hk=>hall k hk hk) (fun k hk=>hallj k hk (by omega))))
             ·refine Run.skip (Run.bend (rN (cx_ok _ _ _) (rO rfl (oM rfl ?_))))
              refine rO rfl (Ope.add rfl rfl (by omega) ?_)
              refine rO rfl (oA rfl ?_)
              refine rI ?_
              exact Run.lend ⟨(i+1,m+1+1),by show li.length - (i+1) < li.length - i;omega,⟨by show i+1≤li.length;omega,fun k hk hki=>by
                by_cases hkk:k=i
                · subst hkk;exact hob.2 ⟨by have:=i1.1 (by simp_all);omega,by have:=i2.1 (by simp_all);omega,by omega,by omega,by omega,by omega⟩
                · exact hallj k hk (by simp only at hki;omega)⟩,⟨rfl,rfl,trivial⟩,rfl,rfl⟩
       ·refine Run.exit (Jmp.code (Jmp.round (Jmp.here (rS (rN (cx_ok _ _ _) (rO rfl (oA rfl ?_)))))))
        refine rI (Run.ret (fin_ret (.tmp rfl .nil) rfl ?_))
        first
        | (refine pone_no (hbig ?_);omega)
        | (refine pone_no (hbn ?_);omega)
        | (refine pone_no (hbn fun h6=>?_);have h7:=hu.2 (by omega);simp_all;done)
        | (refine pone_no (hsu hlt (no_of fun hb=>?_));have h9:=hrb.1 hb;simp_all;done)
        | (refine pone_no (hjo hlt (no_of fun hb=>?_));have h9:=hob.1 hb;omega)
        | (refine pone_no (hjo hlt (no_of fun hb=>?_));have h9:=hob.1 hb;have h10:=i1.2 (by omega);have h11:=i2.2 (by omega);simp_all;done)
        | (exact pone_yes (hyes (by omega) (by omega) (by omega) (fun k hk=>hall k hk hk) (fun k hk=>hallj k hk (by omega))))
end
theorem f28 (tb:Tail) (xs:List Nat) (n:Nat) (l:HL):PCall P0 28 [.sl tb (xs.map U16)] (HE n l) (fun v h'=>v=.fn (.func 63) [] [.ptr n 0,.fp (.sl tb (xs.map U16))]∧h'=HE (n+1) ((n,some (.cells [I 0]))::l)) fun _ _=>False:=by
  refine PCall.ofH (C:=c28) (cx_ok _ _ _) rfl (fn:=Tryz.f28) (by kernel_rfl) (c:=_) rfl rfl rfl (fun hok=>?_)
  refine rS (rN (cx_ok _ _ _) (rO rfl (Ope.boxF rfl rfl ?_)))
  refine rO rfl (oA rfl ?_)
  refine rI (rS (rN (cx_ok _ _ _) (rO rfl (Ope.newL rfl ?_))))
  refine Reg.op0 (Ope.store rfl rfl hget_hd rfl rfl rfl ?_)
  refine rI (rS (rN (cx_ok _ _ _) (rO rfl (Ope.mkf rfl rfl ?_))))
  refine rO rfl (oA rfl ?_)
  refine rI (Run.ret ?_)
  exact finH_ret (.tmp rfl .nil) (Nat.le_refl _) (l':=(n,some (.cells [I 0]))::l) (fun x b h=>by
    by_cases hx:x=n
    · subst hx
      exact hget_hd.trans (hget_hd.symm.trans h)
    · rw [hget_tl hx] at h
      exact (hget_tl hx).trans ((hget_tl hx).trans h)) ⟨rfl,rfl⟩
theorem f63 (tb:Tail) (xs:List Nat) (hx:∀ x∈xs,x < 65536) (c n:Nat) (hn:0 < n∧n≤1000) (k:Nat) (hk:k≤100000) (m:Nat) (l:HL) (hl:hget l c=some (.cells [I k])) :
    PCall P0 63 [I n,.ptr c 0,.fp (.sl tb (xs.map U16))] (HE m l) (fun v h'=>∃ d:Nat,d < n∧v=I d∧h'=HE m ((c,some (.cells [I ((k+1:Nat):Int)]))::l)) fun _ _=>False:=by
  have hk1:((k:Int)+1)=((k+1:Nat):Int):=by omega
  by_cases h0:xs=[]
  · subst h0
    refine PCall.ofH (C:=c63) (cx_ok _ _ _) rfl (fn:=Tryz.f63) (by kernel_rfl) (c:=_) rfl rfl rfl (fun hok=>?_)
    refine rS (rN (cx_ok _ _ _) (rO rfl (oA rfl ?_)))
    refine rI (rS (rN (cx_ok _ _ _) (rO rfl (Ope.loadH rfl hl rfl ?_))))
    refine rO rfl (Ope.add rfl rfl (by omega) ?_)
    rw [hk1]
    refine Reg.op0 (Ope.store rfl rfl hl rfl rfl rfl ?_)
    refine rI (rS (rS (rN (cx_ok _ _ _) (rO rfl (oL rfl rfl ?_)))))
    refine rO rfl (Ope.len (m:=0) rfl rfl ?_)
    refine rO rfl (Ope.eq rfl rfl ?_)
    refine rI (rC rfl (fun hc=>?_) fun hc=>?_)
    ·refine rS (rN (cx_ok _ _ _) (rO rfl (Ope.loadH rfl hget_hd rfl ?_)))
     refine rO rfl (oM rfl ?_)
     refine rO rfl (Ope.remN (p:=k+1) (q:=n) rfl rfl rfl rfl hn.1 ?_)
     refine rO rfl (oA rfl ?_)
     exact rI (Run.ret (Jmp.code (finH_ret (.tmp rfl .nil) (Nat.le_refl _) hs_refl ⟨_,Nat.mod_lt _ hn.1,rfl,rfl⟩)))
    ·(exfalso;omega)
  · have hpos : 0 < xs.length := List.length_pos_iff.2 h0
    have hlt:(k+1) % xs.length < xs.length:=Nat.mod_lt _ hpos
    have hxl:=hx _ (List.getElem_mem hlt)
    have hmu:(61:Int) * ((k+1:Nat):Int)=((61 * (k+1):Nat):Int):=by omega
    have hsum:(((xs[(k+1) % xs.length]:Nat):Int)+61 * ((k+1:Nat):Int))=((xs[(k+1) % xs.length]+61 * (k+1):Nat):Int):=by omega
    refine PCall.ofH (C:=c63) (cx_ok _ _ _) rfl (fn:=Tryz.f63) (by kernel_rfl) (c:=_) rfl rfl rfl (fun hok=>?_)
    refine rS (rN (cx_ok _ _ _) (rO rfl (oA rfl ?_)))
    refine rI (rS (rN (cx_ok _ _ _) (rO rfl (Ope.loadH rfl hl rfl ?_))))
    refine rO rfl (Ope.add rfl rfl (by omega) ?_)
    rw [hk1]
    refine Reg.op0 (Ope.store rfl rfl hl rfl rfl rfl ?_)
    refine rI (rS (rS (rN (cx_ok _ _ _) (rO rfl (oL rfl rfl ?_)))))
    refine rO rfl (Ope.len (m:=xs.length) rfl (by simp) ?_)
    refine rO rfl (Ope.eq rfl rfl ?_)
    refine rI (rC rfl (fun hc=>?_) fun hc=>?_)
    ·(exfalso;omega)
    ·refine Run.skip (rS (Run.draw (cx_ok _ _ _) [(0,true),(1,true),(2,true),(3,true),(4,true),(5,true),(6,true),(7,true),(8,true),(9,true),(10,true),(11,true),(12,true),(13,true)] (by kernel_rfl) (dO rfl rfl rfl .sure (oL rfl rfl ?_))))
     refine dO rfl rfl rfl .sure (Ope.loadH rfl hget_hd rfl ?_)
     refine dO rfl rfl rfl .sure (oL rfl rfl ?_)
     refine dO rfl rfl rfl .sure (Ope.len (m:=xs.length) rfl (by simp) ?_)
     refine dO rfl rfl rfl .sure (Ope.remN (p:=k+1) (q:=xs.length) rfl rfl rfl rfl hpos ?_)
     refine dO rfl rfl rfl .sure (Ope.idxM (m:=(k+1) % xs.length) (f:=U16) rfl rfl rfl hlt (fun _=>rfl) ?_)
     refine dO rfl rfl rfl .sure (oL rfl rfl ?_)
     refine dO rfl rfl rfl .sure (Ope.convN (p:=xs[(k+1) % xs.length]) rfl rfl (by show _ < 2 ^ 63;omega) ?_)
     refine dO rfl rfl rfl .sure (Ope.loadH rfl hget_hd rfl ?_)
     refine dO rfl rfl rfl .sure (Ope.mul rfl rfl (by omega) ?_)
     refine dO rfl rfl rfl .sure (Ope.add rfl rfl (by omega) ?_)
     rw [hsum]
     refine dO rfl rfl rfl .sure (oM rfl ?_)
     refine dO rfl rfl rfl .sure (Ope.remN (p:=xs[(k+1) % xs.length]+61 * (k+1)) (q:=n) rfl rfl rfl rfl hn.1 ?_)
     refine dO rfl rfl rfl .sure (oA rfl ?_)
     exact Dra.nil (Run.ret (finH_ret (.tmp rfl .nil) (Nat.le_refl _) hs_refl ⟨_,Nat.mod_lt _ hn.1,rfl,rfl⟩))
end Go.Pv
