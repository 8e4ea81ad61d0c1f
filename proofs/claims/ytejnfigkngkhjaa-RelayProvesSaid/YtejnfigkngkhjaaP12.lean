/- Parts of the proof: Pv49, Pv50, Pv51, Pv52, Pv53, Pv55 -/
import Derived.Test.YtejnfigkngkhjaaP11
set_option linter.unusedVariables false
set_option linter.unusedSimpArgs false
set_option linter.unusedSectionVars false
namespace Go.Pv
open Go.Am Go.RowKit
theorem lin_step {ops:Array Oper} (fl tp:Nat) (listed:Array Bool):(Region.linearise.go .any ops (fl+1) tp listed []=[]∧Region.ready .any ops listed=[]) ∨
  ∃ i tp',i∈Region.ready .any ops listed∧Region.linearise.go .any ops (fl+1) tp listed []=i::Region.linearise.go .any ops fl tp' (listed.setIfInBounds i true) []:=by
 simp only [Region.linearise.go]
 cases hi:(Region.ready .any ops listed)[tp % (Region.ready .any ops listed).length]? with
 |none =>
  have hnil:Region.ready .any ops listed=[]:=by
   cases hr:Region.ready .any ops listed with
   |nil=>rfl
   |cons x xs =>
    rw [hr] at hi
    have hlt:tp % (x::xs).length < (x::xs).length:=Nat.mod_lt _ (by simp)
    simp at hi
    simp at hlt
    omega
  have hi2:=hi
  unfold Region.ready at hi2
  rw [hi2]
  exact .inl ⟨rfl,hnil⟩
 |some i =>
  have hi2:=hi
  unfold Region.ready at hi2
  rw [hi2]
  simp only []
  rw [linearise_go_acc,List.reverse_singleton,List.singleton_append]
  exact .inr ⟨i,_,List.mem_of_getElem? hi,rfl⟩
theorem lin_spec {ops : Array Oper} {an : T Nat} (hG : PEdge ops.toList an) : ∀ (fl tp : Nat) (listed : Array Bool), listed.size = ops.size → listed.toList.count false ≤ fl →
  (∀ a i c,Region.linearise.go .any ops fl tp listed []=a++i::c→∃ o,ops[i]?=some o∧listed[i]?=some false∧i ∉ a∧∀ e∈o.after.toList,Region.binds .any e=true→listed.getD e.on false=true∨e.on∈a) ∧
  ∀ j,j < ops.size→listed[j]?=some true∨j∈Region.linearise.go .any ops fl tp listed []
 |0,tp,listed,hsz,hc=>by
  simp only [Region.linearise.go,List.reverse_nil]
  refine ⟨fun a i c e=>by simp at e,fun j hj=>.inl ?_⟩
  have h0:listed.toList.count false=0:=by omega
  have hj':j < listed.size:=by omega
  rw [Array.getElem?_eq_getElem hj']
  cases hv:listed[j] with
  |true=>rfl
  |false =>
   have:false∈listed.toList:=by rw [← hv];simp
   exact absurd this (List.count_eq_zero.1 h0)
 |fl + 1, tp, listed, hsz, hc => by
  rcases lin_step (ops:=ops) fl tp listed with ⟨h,hnil⟩ | ⟨i,tp',hi,h⟩
  ·rw [h]
   refine ⟨fun a i c e=>by simp at e,fun j=>?_⟩
   induction j using Nat.strongRecOn with
   |_ j ihj =>
    intro hj
    refine .inl ?_
    have ho:=Array.getElem?_eq_getElem hj
    have hj':j < listed.size:=by omega
    rw [Array.getElem?_eq_getElem hj']
    cases hv:listed[j] with
    |true=>rfl
    |false =>
     exfalso
     have hlj:listed[j]?=some false:=by rw [Array.getElem?_eq_getElem hj',hv]
     have:j∈Region.ready .any ops listed:=by
      refine ready_mem' ho (by rw [Array.getD_eq_getD_getElem?,hlj];rfl) fun e he hb=>?_
      have h1:=hG.edge j _ (by rw [Array.getElem?_toList];exact ho) e he hb
      rcases ihj e.on h1 (by omega) with h2 | h2
      ·rw [Array.getD_eq_getD_getElem?,h2]
       rfl
      ·cases h2
     rw [hnil] at this
     cases this
  ·obtain ⟨r1,r2,o,r3,r4⟩:=ready_spec' hi
   have hi':i < listed.size:=by omega
   have hli:listed[i]?=some false:=by
    rw [Array.getD_eq_getD_getElem?,Array.getElem?_eq_getElem hi'] at r2
    rw [Array.getElem?_eq_getElem hi']
    simpa using r2
   have hc':(listed.setIfInBounds i true).toList.count false≤fl:=by
    have h1:=count_set' (l:=listed.toList) (i:=i) (by rw [Array.getElem?_toList];exact hli)
    rw [Array.toList_setIfInBounds]
    omega
   obtain ⟨p1,p2⟩:=lin_spec hG fl tp' (listed.setIfInBounds i true) (by simpa using hsz) hc'
   rw [h]
   refine ⟨fun a x c e=>?_,fun j hj=>?_⟩
   ·cases a with
    |nil =>
     simp only [List.nil_append,List.cons.injEq] at e
     obtain ⟨rfl,_⟩:=e
     exact ⟨o,r3,hli,by simp,fun e he hb=>.inl (r4 e he hb)⟩
    |cons y a =>
     simp only [List.cons_append,List.cons.injEq] at e
     obtain ⟨rfl,e⟩:=e
     obtain ⟨o',q1,q2,q3,q4⟩:=p1 a x c e
     have hne:i≠x:=fun hc=>by
      subst hc
      rw [Array.getElem?_setIfInBounds_self_of_lt hi'] at q2
      cases q2
     rw [Array.getElem?_setIfInBounds_ne hne] at q2
     refine ⟨o',q1,q2,fun hm=>?_,fun e he hb=>?_⟩
     ·rcases List.mem_cons.1 hm with h1 | h1
      ·exact hne h1.symm
      ·exact q3 h1
     ·rcases q4 e he hb with h1 | h1
      ·by_cases hie:i=e.on
       ·exact .inr (by rw [← hie];simp)
       ·rw [Array.getD_eq_getD_getElem?,Array.getElem?_setIfInBounds_ne hie,← Array.getD_eq_getD_getElem?] at h1
        exact .inl h1
      ·exact .inr (List.mem_cons_of_mem _ h1)
   ·by_cases hij:i=j
    ·exact .inr (by rw [hij];simp)
    ·rcases p2 j hj with h1 | h1
     ·rw [Array.getElem?_setIfInBounds_ne hij] at h1
      exact .inl h1
     ·exact .inr (List.mem_cons_of_mem _ h1)
theorem nodup_split:∀ {L:List Nat},(∀ a i c,L=a++i::c→i ∉ a)→L.Nodup
 |[],_=>List.nodup_nil
 |x::xs,h=>by
  refine List.nodup_cons.2 ⟨fun hx=>?_,nodup_split fun a i c e hm=>h (x::a) i c (by rw [e];rfl) (List.mem_cons_of_mem _ hm)⟩
  obtain ⟨a,c,e⟩:=List.append_of_mem hx
  exact h (x::a) x c (by rw [e];rfl) (by simp)
theorem split_uniq {i:Nat}:∀ {x x' y y':List Nat},x++i::y=x'++i::y'→i ∉ x→i ∉ x'→x=x'
 |[],[],_,_,_,_,_=>rfl
 |[],z::x',_,_,e,_,h=>by
  simp only [List.nil_append,List.cons_append,List.cons.injEq] at e
  exact absurd (by rw [e.1];simp) h
 |z::x,[],_,_,e,h,_=>by
  simp only [List.nil_append,List.cons_append,List.cons.injEq] at e
  exact absurd (by rw [e.1];simp) h
 |z::x,z'::x',y,y',e,h,h'=>by
  simp only [List.cons_append,List.cons.injEq] at e
  rw [e.1,split_uniq e.2 (fun hm=>h (List.mem_cons_of_mem _ hm)) fun hm=>h' (List.mem_cons_of_mem _ hm)]
theorem lin_anc {ops:Array Oper} {an:T Nat} (hG:PEdge ops.toList an) {L:List Nat} (hL:∀ a i c,L=a++i::c→∃ o,ops[i]?=some o∧∀ e∈o.after.toList,Region.binds .any e=true→e.on∈a) :
  ∀ (n:Nat) (a:List Nat) (i:Nat) (c:List Nat),a.length≤n→L=a++i::c→∀ j,(anc an i).testBit j=true→j∈a:=by
 intro n
 induction n with
 |zero =>
  intro a i c hn e j hj
  obtain ⟨o,h1,h2⟩:=hL a i c e
  obtain ⟨ed,e1,e2,e3⟩:=hG.back i o (by rw [Array.getElem?_toList];exact h1) j hj
  have:=h2 ed e1 e2
  rw [List.eq_nil_of_length_eq_zero (by omega:a.length=0)] at this
  cases this
 |succ n ih =>
  intro a i c hn e j hj
  obtain ⟨o,h1,h2⟩:=hL a i c e
  obtain ⟨ed,e1,e2,e3⟩:=hG.back i o (by rw [Array.getElem?_toList];exact h1) j hj
  have hm:=h2 ed e1 e2
  rcases e3 with rfl | e3
  ·exact hm
  ·obtain ⟨a1,a2,rfl⟩:=List.append_of_mem hm
   have:=ih a1 ed.on (a2++i::c) (by simp at hn;omega) (by rw [e];simp) j e3
   exact List.mem_append_left _ this
section
variable {A:AP} {P:Program} {E:Eqs} {w0:Base} {M:Nat→Bool} {sz:Nat} {an:T Nat} {ord:List Nat} {K:T PV→PH→Prop} {X:PV→PH→Prop}
theorem draw_list (hA:A.Ok P) (hE:E.Ok P) {ops:Array Oper} (hO:Ord M an ops.toList ord) (hS:PStat M ops.toList an) {b:Frame} {k:List Item} {cs:List Frame} {dl:List Deferred} (hm:b.mode=.run) :
  ∀ (L : List Nat) (s : St) (arr : Array Value) (Dn : Nat → Prop) (pre rest : List Nat) (rds : List (Nat × Oper × PV)) (t : T PV), DInv A E P M sz an ops.toList ord K X w0 s arr Dn pre rest rds t →
   (∀ a i c,L=a++i::c→(∃ o,ops[i]?=some o)∧¬ Dn i∧i ∉ a∧∀ j,(anc an i).testBit j=true→Dn j∨j∈a) →
   (∃ s' arr' Dn' pre' rest' rds' t', Ext s s' ∧ DInv A E P M sz an ops.toList ord K X w0 s' arr' Dn' pre' rest' rds' t' ∧ (∀ j, Dn j ∨ j ∈ L → Dn' j) ∧
    Steps P (lone (on b arr dl (.inRegion ops L::k)) cs s.w) (lone (on b arr' dl (.inRegion ops []::k)) cs s'.w)) ∨
   ∃ x v s' arr' todo,PW w0 s'∧Ext s s'∧RV s' v x∧X v s'.h∧(arr'.size=sz∧∀ i,(∀ o∈ops.toList,o.dst≠some i)→arr'[i]?=arr[i]?) ∧
    Steps P (lone (on b arr dl (.inRegion ops L::k)) cs s.w) (lone { on b arr' dl todo with mode:=.panicking [{ v:=x,recovered:=false }] } cs s'.w)
 |[],s,arr,Dn,pre,rest,rds,t,I,_=>.inl ⟨s,arr,Dn,pre,rest,rds,t,Ext.refl s,I,fun j hj=>hj.elim id fun h=>by (cases h),.refl _ _⟩
 |i :: L, s, arr, Dn, pre, rest, rds, t, I, hL => by
  obtain ⟨⟨o,ho⟩,hn,_,hanc⟩:=hL [] i L rfl
  have hanc':∀ j,(anc an i).testBit j=true→Dn j:=fun j hj=>(hanc j hj).elim id fun h=>by cases h
  rcases I.one hA hE hO hS rfl hm ho hn hanc' (k:=k) (cs:=cs) (dl:=dl) L with ⟨s1,arr1,pre1,rest1,rds1,t1,u1,u2,uk,u3⟩ | ⟨x,v,s1,todo,u1,u2,u3,u4,u5⟩
  ·have hL':∀ a x c,L=a++x::c→(∃ o,ops[x]?=some o)∧¬ (Dn x∨x=i)∧x ∉ a∧∀ j,(anc an x).testBit j=true→(Dn j∨j=i)∨j∈a:=by
    intro a x c e
    obtain ⟨h1,h2,h3,h4⟩:=hL (i::a) x c (by rw [e];rfl)
    refine ⟨h1,fun hc=>hc.elim h2 fun hxi=>h3 (by simp [hxi]),fun hm=>h3 (List.mem_cons_of_mem _ hm),fun j hj=>?_⟩
    rcases h4 j hj with h | h
    ·exact .inl (.inl h)
    ·rcases List.mem_cons.1 h with h | h
     ·exact .inl (.inr h)
     ·exact .inr h
   rcases draw_list hA hE hO hS hm L s1 arr1 _ pre1 rest1 rds1 t1 u2 hL' with ⟨s2,arr2,Dn2,pre2,rest2,rds2,t2,v1,v2,v3,v4⟩ | ⟨x,v,s2,arr2,todo,v1,v2,v3,v4,v5,v6⟩
   ·refine .inl ⟨s2,arr2,Dn2,pre2,rest2,rds2,t2,u1.trans v1,v2,fun j hj=>v3 j ?_,u3.trans v4⟩
    rcases hj with hj | hj
    ·exact .inl (.inl hj)
    ·rcases List.mem_cons.1 hj with hj | hj
     ·exact .inl (.inr hj)
     ·exact .inr hj
   ·exact .inr ⟨x,v,s2,arr2,todo,v1,u1.trans v2,v3,v4,⟨v5.1,fun y hy=>(v5.2 y hy).trans (uk y (hy o (List.mem_of_getElem? (by rw [Array.getElem?_toList];exact ho))))⟩,u3.trans v6⟩
  ·exact .inr ⟨x,v,s1,arr,todo,u1,u2,u3,u4,⟨I.size,fun _ _=>rfl⟩,u5⟩
theorem PWP.drawL (hA:A.Ok P) (hE:E.Ok P) (hP:P.follows .mixedOrders=true) {id:Nat} {ops:Array Oper} {rnd:Option Nat} {fi:FuncId} {Q:PQ} {X:T PV→List Nat→PV→PH→Prop} {t:T PV} {ds:List Nat} {h:PH} {fls:List (List (Nat×Bool))}
  (hd:drwL M ops.toList=some fls) (hp:∀ fl∈fls,pdra A E P M sz ops.toList fl t h (fun t h=>Q .normal t ds h) (X (tless t ops.toList) ds)):PWP P fi sz rnd (.region id ops true) Q X t ds h:=by
 intro w0 s arr b k cs a1 a2 a3 a4 a5 a6 a7 a8 a9
 subst a2
 unfold drwL at hd
 split at hd
 ·cases hd
 next an hst =>
 have hS:=pstat_ok hst
 have hG:=pstat_edge hst
 have hstep:Steps P (lone (on b arr (dls s ds) (.code (.region id ops true)::k)) cs s.w)
   (lone (on b arr (dls s ds) (.inRegion ops (Region.linearise.go .any ops ops.size (s.w.tape s.w.drawn (.order b.fn id)) (Array.replicate ops.size false) [])::k)) cs s.w.drew):=by
  refine .one (step_lone_go ?_)
  rw [stepG_run (fr:=on b arr (dls s ds) (.code (.region id ops true)::k)) a6]
  simp [stepG.exec,choose,Sem.run,Question.forced,Question.cut,Region.schedule,hP,Region.linearise,on]
 obtain ⟨l1,l2⟩:=lin_spec hG ops.size (s.w.tape s.w.drawn (.order b.fn id)) (Array.replicate ops.size false) (by simp) (by simp [List.count_replicate])
 generalize Region.linearise.go .any ops ops.size (s.w.tape s.w.drawn (.order b.fn id)) (Array.replicate ops.size false) []=L at hstep l1 l2
 have hno:∀ j,(Array.replicate ops.size false).getD j false=false:=fun j=>by
  rw [Array.getD_eq_getD_getElem?,Array.getElem?_replicate]
  split<;>rfl
 have lsp:∀ a i c,L=a++i::c→∃ o,ops[i]?=some o∧∀ e∈o.after.toList,Region.binds .any e=true→e.on∈a:=fun a i c e=>by
  obtain ⟨o,h1,_,_,h4⟩:=l1 a i c e
  refine ⟨o,h1,fun e he hb=>(h4 e he hb).elim (fun h=>?_) fun h=>h⟩
  rw [hno] at h
  cases h
 have lmem:∀ j,j < ops.size→j∈L:=fun j hj=>(l2 j hj).elim (fun h=>by rw [Array.getElem?_replicate] at h;split at h<;>cases h) fun h=>h
 have lnot:∀ a i c,L=a++i::c→i ∉ a:=fun a i c e=>(l1 a i c e).elim fun o h=>h.2.2.1
 have lnd:=nodup_split lnot
 have lanc:∀ a i c,L=a++i::c→∀ j,(anc an i).testBit j=true→j∈a:=fun a i c e=>lin_anc hG lsp a.length a i c (Nat.le_refl _) e
 have llt:∀ i∈L,i < ops.size:=fun i hi=>by
  obtain ⟨a,c,e⟩:=List.append_of_mem hi
  obtain ⟨o,h1,_⟩:=lsp a i c e
  exact (Array.getElem?_eq_some_iff.1 h1).1
 have hlo:L.filter (loudI M ops.toList)∈lexts an (loudsOf M ops.toList).length (loudsOf M ops.toList):=by
  refine lexts_mem _ _ _ (Nat.le_refl _) (lnd.filter _) (fun i=>?_) (fun a i c e j hj hb hji=>?_)
  ·simp only [loudsOf,List.mem_filter,List.mem_range,Array.length_toList]
   exact ⟨fun ⟨h1,h2⟩=>⟨llt i h1,h2⟩,fun ⟨h1,h2⟩=>⟨lmem i h1,h2⟩⟩
  ·have hiL:i∈L.filter (loudI M ops.toList):=by rw [e];simp
   obtain ⟨hiL,hli⟩:=List.mem_filter.1 hiL
   obtain ⟨a',c',e'⟩:=List.append_of_mem hiL
   have e2:a'.filter (loudI M ops.toList)++i::c'.filter (loudI M ops.toList)=a++i::c:=by
    rw [← e,e',List.filter_append,List.filter_cons,if_pos hli]
   have hia:i ∉ a:=by
    have:=lnd.filter (loudI M ops.toList)
    rw [e] at this
    exact fun hm=>(List.nodup_append.1 this).2.2 i hm i (by simp) rfl
   have:=split_uniq e2 (fun hm=>lnot a' i c' e' (List.mem_filter.1 hm).1) hia
   rw [← this]
   exact List.mem_filter.2 ⟨lanc a' i c' e' j hb,(List.mem_filter.1 hj).2⟩
 obtain ⟨fl,hfl1,hfl2⟩:=drwAll_mem hd _ hlo
 unfold drw1 at hfl2
 split at hfl2
 case h_2=>cases hfl2
 next hok =>
 simp only [Bool.and_eq_true] at hok
 generalize asapL M an ops.toList ops.toList.length 0 (L.filter (loudI M ops.toList))=ord at hok hfl2
 have hOL:=ordL_of hok.1
 have hlou:=listEq_eq hok.2
 have hO:=hOL.ord
 have hS':=hOL.stat hS
 have hF:=dra_drawF hO hS' hfl2 fl [] [] t s.h rfl (fun r hr=>by cases hr) (hp fl hfl1)
 rw [(flagK_spec _ _ hfl2).1] at hF
 have hfull : ∀ a i c, L = a ++ i :: c → (∃ o, ops[i]? = some o) ∧ ¬ False ∧ i ∉ a ∧ ∀ j, (anc (anL M an ops.toList ord) i).testBit j = true → False ∨ j ∈ a := by
  intro a i c e
  obtain ⟨o,h1,_⟩:=lsp a i c e
  refine ⟨⟨o,h1⟩,fun h=>h,lnot a i c e,fun j hj=>.inr ?_⟩
  have hi:i < ops.toList.length:=by
   have:=(Array.getElem?_eq_some_iff.1 h1).1
   simpa using this
  obtain ⟨p,q,e',hip⟩:=hOL.split hi
  have loudsEq:∀ (a c p q:List Nat) (l:Nat),L=a++l::c→ord=p++l::q→loudI M ops.toList l=true→p.filter (loudI M ops.toList)=a.filter (loudI M ops.toList):=by
   intro a c p q l e1 e2 hl
   have h2:p.filter (loudI M ops.toList)++l::q.filter (loudI M ops.toList)=a.filter (loudI M ops.toList)++l::c.filter (loudI M ops.toList):=by
    have:=hlou
    rw [e1,e2,List.filter_append,List.filter_append,List.filter_cons,List.filter_cons,if_pos hl,if_pos hl] at this
    exact this
   exact split_uniq h2 (fun hm=>(hOL.at_ p l q e2).2.1 (List.mem_filter.1 hm).1) fun hm=>lnot a l c e1 (List.mem_filter.1 hm).1
  have hlouds : ∀ l ∈ p, loudI M ops.toList l = true → l ∈ a := by
   intro l hl hll
   cases hli:loudI M ops.toList i with
   |true =>
    have:=loudsEq a c p q i e e' hli
    exact (List.mem_filter.1 (by rw [← this];exact List.mem_filter.2 ⟨hl,hll⟩)).1
   |false =>
    have hlast : ∀ (p : List Nat), (∃ l ∈ p, loudI M ops.toList l = true) → ∃ p1 m p2, p = p1 ++ m :: p2 ∧ loudI M ops.toList m = true ∧ ∀ x ∈ p2, loudI M ops.toList x = false := by
     intro p
     induction p with
     |nil=>rintro ⟨l,hl,_⟩;cases hl
     |cons y p ih =>
      intro hex
      by_cases hp:∃ l∈p,loudI M ops.toList l=true
      ·obtain ⟨p1,m,p2,rfl,h1,h2⟩:=ih hp
       exact ⟨y::p1,m,p2,rfl,h1,h2⟩
      ·obtain ⟨l,hl,hll⟩:=hex
       rcases List.mem_cons.1 hl with rfl | hl
       ·exact ⟨[],l,p,rfl,hll,fun x hx=>by
         cases hb:loudI M ops.toList x with
         |false=>rfl
         |true=>exact absurd ⟨x,hx,hb⟩ hp⟩
       ·exact absurd ⟨l,hl,hll⟩ hp
    obtain ⟨p1,m,p2,hp12,hm1,hm2⟩:=hlast p ⟨l,hl,hll⟩
    have hmi:=(hOL.at_ p i q e').2.2.2 hli p1 m p2 hp12 hm1 hm2
    have hma:=lanc a i c e m hmi
    obtain ⟨b1,b2,hb⟩:=List.append_of_mem hma
    have heq:=loudsEq b1 (b2++i::c) p1 (p2++i::q) m (by rw [e,hb];simp) (by rw [e',hp12];simp) hm1
    rw [hp12] at hl
    rcases List.mem_append.1 hl with hl | hl
    ·have:l∈b1:=(List.mem_filter.1 (by rw [← heq];exact List.mem_filter.2 ⟨hl,hll⟩)).1
     rw [hb]
     exact List.mem_append_left _ this
    ·rcases List.mem_cons.1 hl with rfl | hl
     ·exact hma
     ·rw [hm2 l hl] at hll
      cases hll
  rcases (anL_bit hi e' hip).1 hj with h | ⟨l,g1,g2,rfl | g3⟩
  ·exact lanc a i c e j h
  ·exact hlouds j g1 g2
  ·have hla:=hlouds l g1 g2
   obtain ⟨b1,b2,hb⟩:=List.append_of_mem hla
   have:=lanc b1 l (b2++i::c) (by rw [e,hb];simp) j g3
   rw [hb]
   exact List.mem_append_left _ this
 have hx0:=Ext.drew s
 obtain ⟨pre,rest,rds,t1,q1,q2,q3,q4,q5,q6,q7⟩:=absorb (E:=E) (sz:=sz) hO hS' (fun _=>False) ord [] [] t rfl hF (fun i hi=>by cases hi)
 have I:DInv A E P M sz (anL M an ops.toList ord) ops.toList ord (fun t h=>Q .normal t ds h) (X (tless t ops.toList) ds) w0 (s.wat s.w.drew) arr (fun _=>False) pre rest rds t1:=by
  refine ⟨a1.drew,q1,q3,q4,fun _ hc=>hc.elim,fun i hi hl=>(by have:=q6 i hi hl;cases this),fun _ hc=>hc.elim,q5,fun x v hx hw=>?_,a4⟩
  rw [q7 x fun i hi _ o ho hd=>(hw i o ho hd).elim (fun h=>h) fun h=>h hi] at hx
  obtain ⟨y,y1,y2⟩:=a3 x v hx
  exact ⟨y,y1,(R2.ext hx0 v).1 _ y2⟩
 rcases draw_list (k:=k) (cs:=cs) (dl:=dls s ds) hA hE hO hS' a6 L _ arr _ pre rest rds t1 I hfull with
  ⟨s',arr',Dn',pre',rest',rds',t',u1,u2,u3,u4⟩ | ⟨x,v,s',arr',todo,u1,u2,u3,u4,u5,u6⟩
 ·have hxs:=hx0.trans u1
  have hall:∀ (j:Nat) (o:Oper),ops.toList[j]?=some o→Dn' j:=fun j o ho=>u3 j (.inr (lmem j (by simpa using (List.getElem?_eq_some_iff.1 ho).1)))
  have hrest:rest'=[]:=by
   cases rest' with
   |nil=>rfl
   |cons i r =>
    have h1:=hO.at_ pre' i r u2.split
    exact absurd (u2.dnIn i (u3 i (.inr (lmem i (by simpa using h1.1))))) h1.2.1
  subst hrest
  have hF':=u2.F
  simp only [pdrawF] at hF'
  refine ⟨s',arr',ds,u2.pw,hxs,u2.size,fun i hi=>Nat.lt_of_lt_of_le (a5 i hi) hxs.next,.inl ⟨t',hF',fun x v hx=>u2.tm x v hx fun j o ho _=>.inl (hall j o ho),?_⟩⟩
  rw [dls_ext hxs a5]
  exact (hstep.trans u4).trans (step_on a6 (by simp [stepG.exec,on]))
 ·have hxs:=hx0.trans u2
  refine ⟨s',arr',ds,u1,hxs,u5.1,fun i hi=>Nat.lt_of_lt_of_le (a5 i hi) hxs.next,.inr (.inr ⟨tless t ops.toList,v,x,todo,u4,u3,fun i u hi=>?_,?_⟩)⟩
  ·obtain ⟨g1,g2⟩:=tless_get _ _ _ _ hi
   obtain ⟨y,y1,y2⟩:=a3 i u g1
   exact ⟨y,(u5.2 i g2).trans y1,(R2.ext hxs u).1 _ y2⟩
  ·rw [dls_ext hxs a5]
   exact hstep.trans u6
end
section
variable {C:Cx} {F:EQ} {X:EX} {k:List KI} {e:EL} {ds:List Nat} {h:PH}
def Dras (C:Cx) (F:EQ) (X:EX) (k:List KI) (all:List Oper) (e:EL) (ds:List Nat) (h:PH):List (List (Nat×Bool))→Prop
 |[]=>True
 |fl::fls=>Dra C F X k all fl e ds h∧Dras C F X k all e ds h fls
theorem Dras.mem {all:List Oper}:∀ {fls:List (List (Nat×Bool))},Dras C F X k all e ds h fls→∀ fl∈fls,Dra C F X k all fl e ds h
 |[],_,fl,hm=>by cases hm
 |x::fls,hd,fl,hm=>by
  rcases List.mem_cons.1 hm with rfl | hm
  ·exact hd.1
  ·exact Dras.mem hd.2 fl hm
theorem Run.drawL (hC:C.Ok) {id:Nat} {ops:Array Oper} (fls:List (List (Nat×Bool))) (hd:drwL C.M ops.toList=some fls) (hr:Dras C F X k ops.toList e ds h fls):Run C F X (.c (.region id ops true)::k) e ds h:=by
 refine Run.intro (PWP.drawL (M:=C.M) hC.A hC.E hC.f hd fun fl hfl=>?_)
 have:=hr.mem fl hfl
 unfold Dra at this
 exact this (TE e) (TE_getf e)
end
end Go.Pv
namespace Go.Pv
open Go.Am Go.RowKit
section
variable {C:Cx} {F:EQ} {X:EX} {k:List KI} {e:EL} {ds:List Nat} {h:PH} {n m:Nat} {l l':HL} {K:PV→PH→Prop}
variable {d:Option Nat} {type:TypeId} {pos:String} {after:Array Edge} {guard:Option (Nat×Bool)}
end
end Go.Pv
namespace Go.Pv
open Go.Am Go.RowKit
section
variable {C:Cx} {X:EX} {e:EL} {ds:List Nat} {h:PH} {K:PV→PH→Prop}
variable {d:Option Tmp} {type:TypeId} {pos:String} {after:Array Edge} {guard:Option (Nat×Bool)}
theorem Ope.remN {t t':TypeId} {x y:Operand} {kk:IntKind} {a b:Int} {p q:Nat} (hx:pev (lget e) x=some (.lit (.int kk a))) (hy:pev (lget e) y=some (.lit (.int kk b))) (ha:a=(p:Int)) (hb:b=(q:Int)) (hq:0 < q) (hK:K (.lit (.int kk ((p % q:Nat):Int))) h) :
  Ope C X { dst:=d,op:=.binOp .rem t x y t',type,pos,after,guard } e ds h K:=by
 subst ha hb
 refine Ope.bin hx hy (v:=.lit (.int kk ((p % q:Nat):Int))) ?_ hK
 have h0:decide ((q:Int)=0)=false:=decide_eq_false (by omega)
 have e1:(p:Int).tmod (q:Int)=((p % q:Nat):Int):=rfl
 simp only [abin,aint,h0,plit,e1]
 rfl
end
end Go.Pv
namespace Go.Pv
open Go.Am Go.RowKit
section
variable {C:Cx} {X:EX} {e:EL} {ds:List Nat} {n:Nat} {l:HL} {h:PH} {K:PV→PH→Prop}
variable {d:Option Tmp} {type:TypeId} {pos:String} {after:Array Edge} {guard:Option (Nat×Bool)}
end
end Go.Pv
namespace Go.Pv
open Go.Am Go.RowKit
section
variable {C:Cx} {X:EX} {e:EL} {ds:List Nat} {n:Nat} {l:HL} {h:PH} {K:PV→PH→Prop}
variable {d:Option Tmp} {type:TypeId} {pos:String} {after:Array Edge} {guard:Option (Nat×Bool)}
theorem Ope.eqV {t t':TypeId} {x y:Operand} {p q:PV} {b:Bool} (hx:pev (lget e) x=some p) (hy:pev (lget e) y=some q) (hb:pbin C.A C.E .eql t x y p q=some (B b)) (hK:K (B b) h) :
  Ope C X { dst:=d,op:=.binOp .eql t x y t',type,pos,after,guard } e ds h K:=by
 refine Ope.quiet rfl ?_ hK
 simp only [pquiet,hx,hy,hb]
theorem Ope.quoN {t t':TypeId} {x y:Operand} {kk:IntKind} {a b:Int} {p q:Nat} (hx:pev (lget e) x=some (.lit (.int kk a))) (hy:pev (lget e) y=some (.lit (.int kk b))) (ha:a=(p:Int)) (hb:b=(q:Int)) (hq:0 < q) (hp:p < 2 ^ (kk.bits - 1)) (hK:K (.lit (.int kk ((p / q:Nat):Int))) h) :
  Ope C X { dst:=d,op:=.binOp .quo t x y t',type,pos,after,guard } e ds h K:=by
 subst ha hb
 refine Ope.bin hx hy (v:=.lit (.int kk ((p / q:Nat):Int))) ?_ hK
 have h0:decide ((q:Int)=0)=false:=decide_eq_false (by omega)
 have e1:(p:Int).tdiv (q:Int)=((p / q:Nat):Int):=rfl
 have e2:fwrap kk ((p / q:Nat):Int)=((p / q:Nat):Int):=by
  rw [fwrap_eq]
  exact wrap_nat (Nat.lt_of_le_of_lt (Nat.div_le_self _ _) hp)
 simp only [abin,aint,h0,e1,e2,plit]
 rfl
end
end Go.Pv
namespace Go.Pv
open Go.Am Go.RowKit
theorem PCall.wide {P:Program} {g:FuncId} {args args':List PV} {h h':PH} {R X:PV→PH→Prop} (hn:h.next≤h'.next) (hs:∀ i b,h'.get i=some b→h.get i=some b) (ha:∀ (s:St) (xs:List Value),RVs s args xs→RVs s args' xs) (hp:PCall P g args' h' R X):PCall P g args h R X:=by
 refine ⟨hp.1,fun w0 s xs hw hh hx=>?_⟩
 subst hh
 have hx2:=Ext.wide (s:=s) hn
 refine (hp.2 w0 (s.wide h') xs (hw.wide hn hs) rfl ((R2s.ext hx2 _).1 _ (ha s _ hx))).mono fun e w' he=>?_
 obtain ⟨s',e1,e2,e3,e4⟩:=he
 exact ⟨s',e1,e2,hx2.trans e3,e4⟩
section
variable {C:Cx} {F:EQ} {X:EX} {e:EL} {ds:List Nat} {n m m':Nat} {l l':HL} {K:PV→PH→Prop}
variable {d:Option Tmp} {type:TypeId} {pos:String} {after:Array Edge} {guard:Option (Nat×Bool)}
end
end Go.Pv
