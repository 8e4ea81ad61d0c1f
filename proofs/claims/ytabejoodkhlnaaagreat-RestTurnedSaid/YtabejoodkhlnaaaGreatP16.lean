/- Parts of the proof: Pv49, T25, Pv50, T26, T27, Pv51 -/
import Derived.Test.YtabejoodkhlnaaaGreatP15
set_option linter.unusedVariables false
set_option linter.unusedSimpArgs false
namespace Go.Pv
open Go.Am Go.RowKit
theorem lin_step {ops:Array Oper} (fl tp:Nat) (listed:Array Bool):(Region.linearise.go .any ops (fl+1) tp listed []=[]∧Region.ready .any ops listed=[]) ∨
  ∃ i tp',i∈Region.ready .any ops listed∧Region.linearise.go .any ops (fl+1) tp listed []=i::Region.linearise.go .any ops fl tp' (listed.setIfInBounds i true) []:=by
 simp only [Region.linearise.go]
 cases hi:(Region.ready .any ops listed)[tp % (Region.ready .any ops listed).length]? with
 |none =>
  have hnil:Region.ready .any ops listed=[]:=by
   cases hr:Region.ready .any ops listed with
   |nil=>rfl
   |cons x xs =>
    rw [hr] at hi
    have hlt:tp % (x::xs).length < (x::xs).length:=Nat.mod_lt _ (by simp)
    simp at hi
    simp at hlt
    omega
  have hi2:=hi
  unfold Region.ready at hi2
  rw [hi2]
  exact .inl ⟨rfl,hnil⟩
 |some i =>
  have hi2:=hi
  unfold Region.ready at hi2
  rw [hi2]
  simp only []
  rw [linearise_go_acc,List.reverse_singleton,List.singleton_append]
  exact .inr ⟨i,_,List.mem_of_getElem? hi,rfl⟩
theorem lin_spec {ops : Array Oper} {an : T Nat} (hG : PEdge ops.toList an) : ∀ (fl tp : Nat) (listed : Array Bool), listed.size = ops.size → listed.toList.count false ≤ fl →
  (∀ a i c,Region.linearise.go .any ops fl tp listed []=a++i::c→∃ o,ops[i]?=some o∧listed[i]?=some false∧i ∉ a∧∀ e∈o.after.toList,Region.binds .any e=true→listed.getD e.on false=true∨e.on∈a) ∧
  ∀ j,j < ops.size→listed[j]?=some true∨j∈Region.linearise.go .any ops fl tp listed []
 |0,tp,listed,hsz,hc=>by
  simp only [Region.linearise.go,List.reverse_nil]
  refine ⟨fun a i c e=>by simp at e,fun j hj=>.inl ?_⟩
  have h0:listed.toList.count false=0:=by omega
  have hj':j < listed.size:=by omega
  rw [Array.getElem?_eq_getElem hj']
  cases hv:listed[j] with
  |true=>rfl
  |false =>
   have:false∈listed.toList:=by rw [← hv];simp
   exact absurd this (List.count_eq_zero.1 h0)
 |fl + 1, tp, listed, hsz, hc => by
  rcases lin_step (ops:=ops) fl tp listed with ⟨h,hnil⟩ | ⟨i,tp',hi,h⟩
  ·rw [h]
   refine ⟨fun a i c e=>by simp at e,fun j=>?_⟩
   induction j using Nat.strongRecOn with
   |_ j ihj =>
    intro hj
    refine .inl ?_
    have ho:=Array.getElem?_eq_getElem hj
    have hj':j < listed.size:=by omega
    rw [Array.getElem?_eq_getElem hj']
    cases hv:listed[j] with
    |true=>rfl
    |false =>
     exfalso
     have hlj:listed[j]?=some false:=by rw [Array.getElem?_eq_getElem hj',hv]
     have:j∈Region.ready .any ops listed:=by
      refine ready_mem' ho (by rw [Array.getD_eq_getD_getElem?,hlj];rfl) fun e he hb=>?_
      have h1:=hG.edge j _ (by rw [Array.getElem?_toList];exact ho) e he hb
      rcases ihj e.on h1 (by omega) with h2 | h2
      ·rw [Array.getD_eq_getD_getElem?,h2]
       rfl
      ·cases h2
     rw [hnil] at this
     cases this
  ·obtain ⟨r1,r2,o,r3,r4⟩:=ready_spec' hi
   have hi':i < listed.size:=by omega
   have hli:listed[i]?=some false:=by
    rw [Array.getD_eq_getD_getElem?,Array.getElem?_eq_getElem hi'] at r2
    rw [Array.getElem?_eq_getElem hi']
    simpa using r2
   have hc':(listed.setIfInBounds i true).toList.count false≤fl:=by
    have h1:=count_set' (l:=listed.toList) (i:=i) (by rw [Array.getElem?_toList];exact hli)
    rw [Array.toList_setIfInBounds]
    omega
   obtain ⟨p1,p2⟩:=lin_spec hG fl tp' (listed.setIfInBounds i true) (by simpa using hsz) hc'
   rw [h]
   refine ⟨fun a x c e=>?_,fun j hj=>?_⟩
   ·cases a with
    |nil =>
     simp only [List.nil_append,List.cons.injEq] at e
     obtain ⟨rfl,_⟩:=e
     exact ⟨o,r3,hli,by simp,fun e he hb=>.inl (r4 e he hb)⟩
    |cons y a =>
     simp only [List.cons_append,List.cons.injEq] at e
     obtain ⟨rfl,e⟩:=e
     obtain ⟨o',q1,q2,q3,q4⟩:=p1 a x c e
     have hne:i≠x:=fun hc=>by
      subst hc
      rw [Array.getElem?_setIfInBounds_self_of_lt hi'] at q2
      cases q2
     rw [Array.getElem?_setIfInBounds_ne hne] at q2
     refine ⟨o',q1,q2,fun hm=>?_,fun e he hb=>?_⟩
     ·rcases List.mem_cons.1 hm with h1 | h1
      ·exact hne h1.symm
      ·exact q3 h1
     ·rcases q4 e he hb with h1 | h1
      ·by_cases hie:i=e.on
       ·exact .inr (by rw [← hie];simp)
       ·rw [Array.getD_eq_getD_getElem?,Array.getElem?_setIfInBounds_ne hie,← Array.getD_eq_getD_getElem?] at h1
        exact .inl h1
      ·exact .inr (List.mem_cons_of_mem _ h1)
   ·by_cases hij:i=j
    ·exact .inr (by rw [hij];simp)
    ·rcases p2 j hj with h1 | h1
     ·rw [Array.getElem?_setIfInBounds_ne hij] at h1
      exact .inl h1
     ·exact .inr (List.mem_cons_of_mem _ h1)
theorem nodup_split:∀ {L:List Nat},(∀ a i c,L=a++i::c→i ∉ a)→L.Nodup
 |[],_=>List.nodup_nil
 |x::xs,h=>by
  refine List.nodup_cons.2 ⟨fun hx=>?_,nodup_split fun a i c e hm=>h (x::a) i c (by rw [e];rfl) (List.mem_cons_of_mem _ hm)⟩
  obtain ⟨a,c,e⟩:=List.append_of_mem hx
  exact h (x::a) x c (by rw [e];rfl) (by simp)
theorem split_uniq {i:Nat}:∀ {x x' y y':List Nat},x++i::y=x'++i::y'→i ∉ x→i ∉ x'→x=x'
 |[],[],_,_,_,_,_=>rfl
 |[],z::x',_,_,e,_,h=>by
  simp only [List.nil_append,List.cons_append,List.cons.injEq] at e
  exact absurd (by rw [e.1];simp) h
 |z::x,[],_,_,e,h,_=>by
  simp only [List.nil_append,List.cons_append,List.cons.injEq] at e
  exact absurd (by rw [e.1];simp) h
 |z::x,z'::x',y,y',e,h,h'=>by
  simp only [List.cons_append,List.cons.injEq] at e
  rw [e.1,split_uniq e.2 (fun hm=>h (List.mem_cons_of_mem _ hm)) fun hm=>h' (List.mem_cons_of_mem _ hm)]
theorem lin_anc {ops:Array Oper} {an:T Nat} (hG:PEdge ops.toList an) {L:List Nat} (hL:∀ a i c,L=a++i::c→∃ o,ops[i]?=some o∧∀ e∈o.after.toList,Region.binds .any e=true→e.on∈a) :
  ∀ (n:Nat) (a:List Nat) (i:Nat) (c:List Nat),a.length≤n→L=a++i::c→∀ j,(anc an i).testBit j=true→j∈a:=by
 intro n
 induction n with
 |zero =>
  intro a i c hn e j hj
  obtain ⟨o,h1,h2⟩:=hL a i c e
  obtain ⟨ed,e1,e2,e3⟩:=hG.back i o (by rw [Array.getElem?_toList];exact h1) j hj
  have:=h2 ed e1 e2
  rw [List.eq_nil_of_length_eq_zero (by omega:a.length=0)] at this
  cases this
 |succ n ih =>
  intro a i c hn e j hj
  obtain ⟨o,h1,h2⟩:=hL a i c e
  obtain ⟨ed,e1,e2,e3⟩:=hG.back i o (by rw [Array.getElem?_toList];exact h1) j hj
  have hm:=h2 ed e1 e2
  rcases e3 with rfl | e3
  ·exact hm
  ·obtain ⟨a1,a2,rfl⟩:=List.append_of_mem hm
   have:=ih a1 ed.on (a2++i::c) (by simp at hn;omega) (by rw [e];simp) j e3
   exact List.mem_append_left _ this
section
variable {A:AP} {P:Program} {E:Eqs} {w0:Base} {M:Nat→Bool} {sz:Nat} {an:T Nat} {ord:List Nat} {K:T PV→PH→Prop} {X:PV→PH→Prop}
theorem draw_list (hA:A.Ok P) (hE:E.Ok P) {ops:Array Oper} (hO:Ord M an ops.toList ord) (hS:PStat M ops.toList an) {b:Frame} {k:List Item} {cs:List Frame} {dl:List Deferred} (hm:b.mode=.run) :
  ∀ (L : List Nat) (s : St) (arr : Array Value) (Dn : Nat → Prop) (pre rest : List Nat) (rds : List (Nat × Oper × PV)) (t : T PV), DInv A E P M sz an ops.toList ord K X w0 s arr Dn pre rest rds t →
   (∀ a i c,L=a++i::c→(∃ o,ops[i]?=some o)∧¬ Dn i∧i ∉ a∧∀ j,(anc an i).testBit j=true→Dn j∨j∈a) →
   (∃ s' arr' Dn' pre' rest' rds' t', Ext s s' ∧ DInv A E P M sz an ops.toList ord K X w0 s' arr' Dn' pre' rest' rds' t' ∧ (∀ j, Dn j ∨ j ∈ L → Dn' j) ∧
    Steps P (lone (on b arr dl (.inRegion ops L::k)) cs s.w) (lone (on b arr' dl (.inRegion ops []::k)) cs s'.w)) ∨
   ∃ x v s' arr' todo,PW w0 s'∧Ext s s'∧RV s' v x∧X v s'.h∧(arr'.size=sz∧∀ i,(∀ o∈ops.toList,o.dst≠some i)→arr'[i]?=arr[i]?) ∧
    Steps P (lone (on b arr dl (.inRegion ops L::k)) cs s.w) (lone { on b arr' dl todo with mode:=.panicking [{ v:=x,recovered:=false }] } cs s'.w)
 |[],s,arr,Dn,pre,rest,rds,t,I,_=>.inl ⟨s,arr,Dn,pre,rest,rds,t,Ext.refl s,I,fun j hj=>hj.elim id fun h=>by (cases h),.refl _ _⟩
 |i :: L, s, arr, Dn, pre, rest, rds, t, I, hL => by
  obtain ⟨⟨o,ho⟩,hn,_,hanc⟩:=hL [] i L rfl
  have hanc':∀ j,(anc an i).testBit j=true→Dn j:=fun j hj=>(hanc j hj).elim id fun h=>by cases h
  rcases I.one hA hE hO hS rfl hm ho hn hanc' (k:=k) (cs:=cs) (dl:=dl) L with ⟨s1,arr1,pre1,rest1,rds1,t1,u1,u2,uk,u3⟩ | ⟨x,v,s1,todo,u1,u2,u3,u4,u5⟩
  ·have hL':∀ a x c,L=a++x::c→(∃ o,ops[x]?=some o)∧¬ (Dn x∨x=i)∧x ∉ a∧∀ j,(anc an x).testBit j=true→(Dn j∨j=i)∨j∈a:=by
    intro a x c e
    obtain ⟨h1,h2,h3,h4⟩:=hL (i::a) x c (by rw [e];rfl)
    refine ⟨h1,fun hc=>hc.elim h2 fun hxi=>h3 (by simp [hxi]),fun hm=>h3 (List.mem_cons_of_mem _ hm),fun j hj=>?_⟩
    rcases h4 j hj with h | h
    ·exact .inl (.inl h)
    ·rcases List.mem_cons.1 h with h | h
     ·exact .inl (.inr h)
     ·exact .inr h
   rcases draw_list hA hE hO hS hm L s1 arr1 _ pre1 rest1 rds1 t1 u2 hL' with ⟨s2,arr2,Dn2,pre2,rest2,rds2,t2,v1,v2,v3,v4⟩ | ⟨x,v,s2,arr2,todo,v1,v2,v3,v4,v5,v6⟩
   ·refine .inl ⟨s2,arr2,Dn2,pre2,rest2,rds2,t2,u1.trans v1,v2,fun j hj=>v3 j ?_,u3.trans v4⟩
    rcases hj with hj | hj
    ·exact .inl (.inl hj)
    ·rcases List.mem_cons.1 hj with hj | hj
     ·exact .inl (.inr hj)
     ·exact .inr hj
   ·exact .inr ⟨x,v,s2,arr2,todo,v1,u1.trans v2,v3,v4,⟨v5.1,fun y hy=>(v5.2 y hy).trans (uk y (hy o (List.mem_of_getElem? (by rw [Array.getElem?_toList];exact ho))))⟩,u3.trans v6⟩
  ·exact .inr ⟨x,v,s1,arr,todo,u1,u2,u3,u4,⟨I.size,fun _ _=>rfl⟩,u5⟩
theorem PWP.drawL (hA:A.Ok P) (hE:E.Ok P) (hP:P.follows .mixedOrders=true) {id:Nat} {ops:Array Oper} {rnd:Option Nat} {fi:FuncId} {Q:PQ} {X:T PV→List Nat→PV→PH→Prop} {t:T PV} {ds:List Nat} {h:PH} {fls:List (List (Nat×Bool))}
  (hd:drwL M ops.toList=some fls) (hp:∀ fl∈fls,pdra A E P M sz ops.toList fl t h (fun t h=>Q .normal t ds h) (X (tless t ops.toList) ds)):PWP P fi sz rnd (.region id ops true) Q X t ds h:=by
 intro w0 s arr b k cs a1 a2 a3 a4 a5 a6 a7 a8 a9
 subst a2
 unfold drwL at hd
 split at hd
 ·cases hd
 next an hst =>
 have hS:=pstat_ok hst
 have hG:=pstat_edge hst
 have hstep:Steps P (lone (on b arr (dls s ds) (.code (.region id ops true)::k)) cs s.w)
   (lone (on b arr (dls s ds) (.inRegion ops (Region.linearise.go .any ops ops.size (s.w.tape s.w.drawn (.order b.fn id)) (Array.replicate ops.size false) [])::k)) cs s.w.drew):=by
  refine .one (step_lone_go ?_)
  rw [stepG_run (fr:=on b arr (dls s ds) (.code (.region id ops true)::k)) a6]
  simp [stepG.exec,choose,Sem.run,Question.forced,Question.cut,Region.schedule,hP,Region.linearise,on]
 obtain ⟨l1,l2⟩:=lin_spec hG ops.size (s.w.tape s.w.drawn (.order b.fn id)) (Array.replicate ops.size false) (by simp) (by simp [List.count_replicate])
 generalize Region.linearise.go .any ops ops.size (s.w.tape s.w.drawn (.order b.fn id)) (Array.replicate ops.size false) []=L at hstep l1 l2
 have hno:∀ j,(Array.replicate ops.size false).getD j false=false:=fun j=>by
  rw [Array.getD_eq_getD_getElem?,Array.getElem?_replicate]
  split<;>rfl
 have lsp:∀ a i c,L=a++i::c→∃ o,ops[i]?=some o∧∀ e∈o.after.toList,Region.binds .any e=true→e.on∈a:=fun a i c e=>by
  obtain ⟨o,h1,_,_,h4⟩:=l1 a i c e
  refine ⟨o,h1,fun e he hb=>(h4 e he hb).elim (fun h=>?_) fun h=>h⟩
  rw [hno] at h
  cases h
 have lmem:∀ j,j < ops.size→j∈L:=fun j hj=>(l2 j hj).elim (fun h=>by rw [Array.getElem?_replicate] at h;split at h<;>cases h) fun h=>h
 have lnot:∀ a i c,L=a++i::c→i ∉ a:=fun a i c e=>(l1 a i c e).elim fun o h=>h.2.2.1
 have lnd:=nodup_split lnot
 have lanc:∀ a i c,L=a++i::c→∀ j,(anc an i).testBit j=true→j∈a:=fun a i c e=>lin_anc hG lsp a.length a i c (Nat.le_refl _) e
 have llt:∀ i∈L,i < ops.size:=fun i hi=>by
  obtain ⟨a,c,e⟩:=List.append_of_mem hi
  obtain ⟨o,h1,_⟩:=lsp a i c e
  exact (Array.getElem?_eq_some_iff.1 h1).1
 have hlo:L.filter (loudI M ops.toList)∈lexts an (loudsOf M ops.toList).length (loudsOf M ops.toList):=by
  refine lexts_mem _ _ _ (Nat.le_refl _) (lnd.filter _) (fun i=>?_) (fun a i c e j hj hb hji=>?_)
  ·simp only [loudsOf,List.mem_filter,List.mem_range,Array.length_toList]
   exact ⟨fun ⟨h1,h2⟩=>⟨llt i h1,h2⟩,fun ⟨h1,h2⟩=>⟨lmem i h1,h2⟩⟩
  ·have hiL:i∈L.filter (loudI M ops.toList):=by rw [e];simp
   obtain ⟨hiL,hli⟩:=List.mem_filter.1 hiL
   obtain ⟨a',c',e'⟩:=List.append_of_mem hiL
   have e2:a'.filter (loudI M ops.toList)++i::c'.filter (loudI M ops.toList)=a++i::c:=by
    rw [← e,e',List.filter_append,List.filter_cons,if_pos hli]
   have hia:i ∉ a:=by
    have:=lnd.filter (loudI M ops.toList)
    rw [e] at this
    exact fun hm=>(List.nodup_append.1 this).2.2 i hm i (by simp) rfl
   have:=split_uniq e2 (fun hm=>lnot a' i c' e' (List.mem_filter.1 hm).1) hia
   rw [← this]
   exact List.mem_filter.2 ⟨lanc a' i c' e' j hb,(List.mem_filter.1 hj).2⟩
 obtain ⟨fl,hfl1,hfl2⟩:=drwAll_mem hd _ hlo
 unfold drw1 at hfl2
 split at hfl2
 case h_2=>cases hfl2
 next hok =>
 simp only [Bool.and_eq_true] at hok
 generalize asapL M an ops.toList ops.toList.length 0 (L.filter (loudI M ops.toList))=ord at hok hfl2
 have hOL:=ordL_of hok.1
 have hlou:=listEq_eq hok.2
 have hO:=hOL.ord
 have hS':=hOL.stat hS
 have hF:=dra_drawF hO hS' hfl2 fl [] [] t s.h rfl (fun r hr=>by cases hr) (hp fl hfl1)
 rw [(flagK_spec _ _ hfl2).1] at hF
 have hfull : ∀ a i c, L = a ++ i :: c → (∃ o, ops[i]? = some o) ∧ ¬ False ∧ i ∉ a ∧ ∀ j, (anc (anL M an ops.toList ord) i).testBit j = true → False ∨ j ∈ a := by
  intro a i c e
  obtain ⟨o,h1,_⟩:=lsp a i c e
  refine ⟨⟨o,h1⟩,fun h=>h,lnot a i c e,fun j hj=>.inr ?_⟩
  have hi:i < ops.toList.length:=by
   have:=(Array.getElem?_eq_some_iff.1 h1).1
   simpa using this
  obtain ⟨p,q,e',hip⟩:=hOL.split hi
  have loudsEq:∀ (a c p q:List Nat) (l:Nat),L=a++l::c→ord=p++l::q→loudI M ops.toList l=true→p.filter (loudI M ops.toList)=a.filter (loudI M ops.toList):=by
   intro a c p q l e1 e2 hl
   have h2:p.filter (loudI M ops.toList)++l::q.filter (loudI M ops.toList)=a.filter (loudI M ops.toList)++l::c.filter (loudI M ops.toList):=by
    have:=hlou
    rw [e1,e2,List.filter_append,List.filter_append,List.filter_cons,List.filter_cons,if_pos hl,if_pos hl] at this
    exact this
   exact split_uniq h2 (fun hm=>(hOL.at_ p l q e2).2.1 (List.mem_filter.1 hm).1) fun hm=>lnot a l c e1 (List.mem_filter.1 hm).1
  have hlouds : ∀ l ∈ p, loudI M ops.toList l = true → l ∈ a := by
   intro l hl hll
   cases hli:loudI M ops.toList i with
   |true =>
    have:=loudsEq a c p q i e e' hli
    exact (List.mem_filter.1 (by rw [← this];exact List.mem_filter.2 ⟨hl,hll⟩)).1
   |false =>
    have hlast : ∀ (p : List Nat), (∃ l ∈ p, loudI M ops.toList l = true) → ∃ p1 m p2, p = p1 ++ m :: p2 ∧ loudI M ops.toList m = true ∧ ∀ x ∈ p2, loudI M ops.toList x = false := by
     intro p
     induction p with
     |nil=>rintro ⟨l,hl,_⟩;cases hl
     |cons y p ih =>
      intro hex
      by_cases hp:∃ l∈p,loudI M ops.toList l=true
      ·obtain ⟨p1,m,p2,rfl,h1,h2⟩:=ih hp
       exact ⟨y::p1,m,p2,rfl,h1,h2⟩
      ·obtain ⟨l,hl,hll⟩:=hex
       rcases List.mem_cons.1 hl with rfl | hl
       ·exact ⟨[],l,p,rfl,hll,fun x hx=>by
         cases hb:loudI M ops.toList x with
         |false=>rfl
         |true=>exact absurd ⟨x,hx,hb⟩ hp⟩
       ·exact absurd ⟨l,hl,hll⟩ hp
    obtain ⟨p1,m,p2,hp12,hm1,hm2⟩:=hlast p ⟨l,hl,hll⟩
    have hmi:=(hOL.at_ p i q e').2.2.2 hli p1 m p2 hp12 hm1 hm2
    have hma:=lanc a i c e m hmi
    obtain ⟨b1,b2,hb⟩:=List.append_of_mem hma
    have heq:=loudsEq b1 (b2++i::c) p1 (p2++i::q) m (by rw [e,hb];simp) (by rw [e',hp12];simp) hm1
    rw [hp12] at hl
    rcases List.mem_append.1 hl with hl | hl
    ·have:l∈b1:=(List.mem_filter.1 (by rw [← heq];exact List.mem_filter.2 ⟨hl,hll⟩)).1
     rw [hb]
     exact List.mem_append_left _ this
    ·rcases List.mem_cons.1 hl with rfl | hl
     ·exact hma
     ·rw [hm2 l hl] at hll
      cases hll
  rcases (anL_bit hi e' hip).1 hj with h | ⟨l,g1,g2,rfl | g3⟩
  ·exact lanc a i c e j h
  ·exact hlouds j g1 g2
  ·have hla:=hlouds l g1 g2
   obtain ⟨b1,b2,hb⟩:=List.append_of_mem hla
   have:=lanc b1 l (b2++i::c) (by rw [e,hb];simp) j g3
   rw [hb]
   exact List.mem_append_left _ this
 have hx0:=Ext.drew s
 obtain ⟨pre,rest,rds,t1,q1,q2,q3,q4,q5,q6,q7⟩:=absorb (E:=E) (sz:=sz) hO hS' (fun _=>False) ord [] [] t rfl hF (fun i hi=>by cases hi)
 have I:DInv A E P M sz (anL M an ops.toList ord) ops.toList ord (fun t h=>Q .normal t ds h) (X (tless t ops.toList) ds) w0 (s.wat s.w.drew) arr (fun _=>False) pre rest rds t1:=by
  refine ⟨a1.drew,q1,q3,q4,fun _ hc=>hc.elim,fun i hi hl=>(by have:=q6 i hi hl;cases this),fun _ hc=>hc.elim,q5,fun x v hx hw=>?_,a4⟩
  rw [q7 x fun i hi _ o ho hd=>(hw i o ho hd).elim (fun h=>h) fun h=>h hi] at hx
  obtain ⟨y,y1,y2⟩:=a3 x v hx
  exact ⟨y,y1,(R2.ext hx0 v).1 _ y2⟩
 rcases draw_list (k:=k) (cs:=cs) (dl:=dls s ds) hA hE hO hS' a6 L _ arr _ pre rest rds t1 I hfull with
  ⟨s',arr',Dn',pre',rest',rds',t',u1,u2,u3,u4⟩ | ⟨x,v,s',arr',todo,u1,u2,u3,u4,u5,u6⟩
 ·have hxs:=hx0.trans u1
  have hall:∀ (j:Nat) (o:Oper),ops.toList[j]?=some o→Dn' j:=fun j o ho=>u3 j (.inr (lmem j (by simpa using (List.getElem?_eq_some_iff.1 ho).1)))
  have hrest:rest'=[]:=by
   cases rest' with
   |nil=>rfl
   |cons i r =>
    have h1:=hO.at_ pre' i r u2.split
    exact absurd (u2.dnIn i (u3 i (.inr (lmem i (by simpa using h1.1))))) h1.2.1
  subst hrest
  have hF':=u2.F
  simp only [pdrawF] at hF'
  refine ⟨s',arr',ds,u2.pw,hxs,u2.size,fun i hi=>Nat.lt_of_lt_of_le (a5 i hi) hxs.next,.inl ⟨t',hF',fun x v hx=>u2.tm x v hx fun j o ho _=>.inl (hall j o ho),?_⟩⟩
  rw [dls_ext hxs a5]
  exact (hstep.trans u4).trans (step_on a6 (by simp [stepG.exec,on]))
 ·have hxs:=hx0.trans u2
  refine ⟨s',arr',ds,u1,hxs,u5.1,fun i hi=>Nat.lt_of_lt_of_le (a5 i hi) hxs.next,.inr (.inr ⟨tless t ops.toList,v,x,todo,u4,u3,fun i u hi=>?_,?_⟩)⟩
  ·obtain ⟨g1,g2⟩:=tless_get _ _ _ _ hi
   obtain ⟨y,y1,y2⟩:=a3 i u g1
   exact ⟨y,(u5.2 i g2).trans y1,(R2.ext hxs u).1 _ y2⟩
  ·rw [dls_ext hxs a5]
   exact hstep.trans u6
end
section
variable {C:Cx} {F:EQ} {X:EX} {k:List KI} {e:EL} {ds:List Nat} {h:PH}
def Dras (C:Cx) (F:EQ) (X:EX) (k:List KI) (all:List Oper) (e:EL) (ds:List Nat) (h:PH):List (List (Nat×Bool))→Prop
 |[]=>True
 |fl::fls=>Dra C F X k all fl e ds h∧Dras C F X k all e ds h fls
theorem Dras.mem {all:List Oper}:∀ {fls:List (List (Nat×Bool))},Dras C F X k all e ds h fls→∀ fl∈fls,Dra C F X k all fl e ds h
 |[],_,fl,hm=>by cases hm
 |x::fls,hd,fl,hm=>by
  rcases List.mem_cons.1 hm with rfl | hm
  ·exact hd.1
  ·exact Dras.mem hd.2 fl hm
theorem Run.drawL (hC:C.Ok) {id:Nat} {ops:Array Oper} (fls:List (List (Nat×Bool))) (hd:drwL C.M ops.toList=some fls) (hr:Dras C F X k ops.toList e ds h fls):Run C F X (.c (.region id ops true)::k) e ds h:=by
 refine Run.intro (PWP.drawL (M:=C.M) hC.A hC.E hC.f hd fun fl hfl=>?_)
 have:=hr.mem fl hfl
 unfold Dra at this
 exact this (TE e) (TE_getf e)
end
end Go.Pv
namespace Go.Pv
open Go.Proofs Go.Am
set_option maxRecDepth 10000
def MemoV (V:Rid→List PV) (es:List (AV×PV×Nat)):Prop:=∀ e∈es,∃ d:Rid,e.1=keyA d∧∃ tl:Tail,tl.isOwn=false∧e.2.1=.sl tl (V d)
section
variable {V:Rid→List PV} {es:List (AV×PV×Nat)} {d:Rid} {tl:Tail}
theorem MemoV.find (d:Rid):∀ (es:List (AV×PV×Nat)) (i:Nat),MemoV V es→∃ r,pfind A0 E0 148 (keyA d) es i=some r∧∀ j v,r=some (j,v)→i≤j∧∃ e,es[j - i]?=some e∧e.1=keyA d∧e.2.1=v
  | [],i,_=>⟨none,rfl,fun j v h=>by cases h⟩
  | e :: es, i, hm => by
    obtain ⟨d',hd',_⟩:=hm e (by simp)
    obtain ⟨b,hb1,hb2⟩:=keyA_eq d d'
    simp only [pfind,hd',hb1]
    cases b with
    | true=>exact ⟨_,rfl,fun j v h=>by cases h;exact ⟨Nat.le_refl _,e,by simp,hd'.trans (hb2 rfl),rfl⟩⟩
    | false =>
      obtain ⟨r,hr1,hr2⟩:=MemoV.find d es (i+1) fun x hx=>hm x (List.mem_cons_of_mem _ hx)
      refine ⟨r,hr1,fun j v h=>?_⟩
      obtain ⟨h1,e',h2,h3⟩:=hr2 j v h
      refine ⟨by omega,e',?_,h3⟩
      rw [show j - i=(j - (i+1))+1 from by omega]
      simpa using h2
theorem MemoV.val {v:PV} (hm:MemoV V es) (he:∃ e∈es,e.1=keyA d∧e.2.1=v):∃ tl:Tail,tl.isOwn=false∧v=.sl tl (V d):=by
  obtain ⟨e,h1,h2,rfl⟩:=he
  obtain ⟨d',h3,tl,h4,h5⟩:=hm e h1
  have:=keyA_inj (h2.symm.trans h3)
  subst this
  exact ⟨tl,h4,h5⟩
theorem MemoV.bd {n:Nat} (hV:∀ d,PV.bds n (V d)=true) (hm:MemoV V es):∀ e∈es,e.2.1.bd n=true:=by
  intro e he
  obtain ⟨d,_,tl,htl,h⟩:=hm e he
  rw [h]
  cases tl<;>simp only [Tail.isOwn,Bool.true_eq_false] at htl<;>simp [PV.bd,hV]
theorem MemoV.app {clock:Nat} (hm:MemoV V es) (htl:tl.isOwn=false):MemoV V (es++[(keyA d,.sl tl (V d),clock)]):=by
  intro e he
  rcases List.mem_append.1 he with he | he
  · exact hm e he
  · simp only [List.mem_singleton] at he
    subst he
    exact ⟨d,rfl,tl,htl,rfl⟩
theorem MemoV.set {j:Nat} (hm:MemoV V es) (htl:tl.isOwn=false):MemoV V (psetAt es j (keyA d) (.sl tl (V d))):=by
  intro e he
  rcases mem_psetAt he with he | ⟨h1,h2⟩
  · exact hm e he
  · exact ⟨d,h1,tl,htl,h2⟩
theorem MemoV.has (d : Rid) : ∀ (es : List (AV × PV × Nat)) (i : Nat), MemoV V es → (∃ e ∈ es, e.1 = keyA d) → ∃ j v, pfind A0 E0 148 (keyA d) es i = some (some (j, v)) ∧ ∃ e ∈ es, e.1 = keyA d ∧ e.2.1 = v
  | [],i,_,h=>by obtain ⟨e,he,_⟩:=h;cases he
  | e :: es, i, hm, h => by
    obtain ⟨d',hd',_⟩:=hm e (by simp)
    have hself:aeqv A0 E0 20 148 (keyA d) (keyA d)=some true:=by
      rw [keyA_chain]
      simp [chain]
    by_cases he:e.1=keyA d
    · refine ⟨i, e.2.1, ?_, e, by simp, he, rfl⟩
      simp only [pfind,he,hself]
    · obtain ⟨b, hb1, hb2⟩ := keyA_eq d d'
      have hbf:b=false:=by
        cases b with
        | false=>rfl
        | true=>exact absurd (hd'.trans (hb2 rfl)) he
      subst hbf
      have h':∃ e∈es,e.1=keyA d:=by
        obtain ⟨e',h1,h2⟩:=h
        rcases List.mem_cons.1 h1 with rfl | h1
        · exact absurd h2 he
        · exact ⟨e',h1,h2⟩
      obtain ⟨j,v,h1,e2,h2,h3⟩:=MemoV.has d es (i+1) (fun x hx=>hm x (List.mem_cons_of_mem _ hx)) h'
      refine ⟨j,v,?_,e2,List.mem_cons_of_mem _ h2,h3⟩
      simp only [pfind,hd',hb1]
      exact h1
end
abbrev eV (p:Nat×Nat):PV:=.agg [I p.1,I p.2]
def set2 (x:Int) (h:Nat) (p:Nat×Nat):Nat×Nat:=if x=0 then (p.1 ||| 1 * 2 ^ h,p.2) else (p.1,p.2 ||| 1 * 2 ^ h)
def and2 (p q:Nat×Nat):Nat×Nat:=(p.1 &&& q.1,p.2 &&& q.2)
def join2 (p q:Option (Nat×Nat)):Option (Nat×Nat) :=
  match p,q with
  | some a,some b=>some (and2 a b)
  | some a,none=>some a
  | none,q=>q
def mst (R:Rst):Nat→Rid→Option (Nat×Nat)
  | 0,_=>some (0,0)
  | k+1,d=>join2 (if R.brk d 0=0 then (mst R k (d.then 0)).map (set2 0 (d.a+d.b).toNat) else none) (if R.brk d 1=0 then (mst R k (d.then 1)).map (set2 1 (d.a+d.b).toNat) else none)
def bnd (p:Nat×Nat):Prop:=p.1 < 2 ^ 16∧p.2 < 2 ^ 16
theorem set2_bnd {x:Int} {h:Nat} {p:Nat×Nat} (hp:bnd p) (hh:h < 16):bnd (set2 x h p):=by
  have h1:1 * 2 ^ h < 2 ^ 16:=by rw [Nat.one_mul];exact Nat.pow_lt_pow_right (by decide) hh
  unfold set2
  split
  · exact ⟨Nat.or_lt_two_pow hp.1 h1,hp.2⟩
  · exact ⟨hp.1,Nat.or_lt_two_pow hp.2 h1⟩
theorem and2_bnd {p q:Nat×Nat} (hp:bnd p):bnd (and2 p q):=⟨Nat.lt_of_le_of_lt Nat.and_le_left hp.1,Nat.lt_of_le_of_lt Nat.and_le_left hp.2⟩
theorem mst_bnd (R : Rst) : ∀ (k : Nat) (d : Rid) (p : Nat × Nat), 0 ≤ d.a + d.b → (d.a + d.b).toNat + k ≤ 16 → mst R k d = some p → bnd p
  | 0, d, p, _, _, h => by
    simp only [mst,Option.some.injEq] at h
    subst h
    exact ⟨by decide,by decide⟩
  | k + 1, d, p, h0, hk, h => by
    have key:∀ x:Int,x=0∨x=1→∀ q,(if R.brk d x=0 then (mst R k (d.then x)).map (set2 x (d.a+d.b).toNat) else none)=some q→bnd q:=by
      intro x hx q hq
      split at hq
      · obtain ⟨q', h1, rfl⟩ := Option.map_eq_some_iff.1 hq
        have:=mst_bnd R k (d.then x) q' (by rcases hx with rfl | rfl<;>simp [Rid.then]<;>omega) (by rcases hx with rfl | rfl<;>simp [Rid.then]<;>omega) h1
        exact set2_bnd this (by omega)
      · cases hq
    simp only [mst] at h
    cases ha:(if R.brk d 0=0 then (mst R k (d.then 0)).map (set2 0 (d.a+d.b).toNat) else none) with
    | none=>rw [ha] at h;exact key 1 (.inr rfl) _ h
    | some a =>
      rw [ha] at h
      have hba:=key 0 (.inl rfl) _ ha
      cases hb:(if R.brk d 1=0 then (mst R k (d.then 1)).map (set2 1 (d.a+d.b).toNat) else none) with
      | none =>
        rw [hb] at h
        simp only [join2,Option.some.injEq] at h
        subst h
        exact hba
      | some b =>
        rw [hb] at h
        simp only [join2,Option.some.injEq] at h
        subst h
        exact and2_bnd hba
abbrev qM:List PV:=[.fn (.func 135) [] [],.fn (.func 136) [] [],.fn (.func 137) [] []]
theorem f75:Fn P0 75 [] (.agg qM):=by
  refine PFun.of (C:=c75) (cx_ok _ _ _) rfl (fn:=Tryz.f75) (by kernel_rfl) (c:=_) rfl rfl rfl ?_
  refine Run.seq (Run.region (cx_ok _ _ _) (Reg.op rfl (Ope.newL rfl ?_)))
  refine Reg.nil (Run.seq (Run.region (cx_ok _ _ _) (Reg.op rfl (Ope.bld rfl rfl ?_))))
  refine Reg.op0 (Ope.store rfl rfl rfl rfl rfl rfl ?_)
  exact Reg.nil (Run.ret (fin_ret (.cell rfl rfl .nil) rfl rfl))
theorem f135 (d:Rid):Fn P0 135 [.agg d.cells] (eV (0,0)):=by
  refine PFun.of (C:=c135) (cx_ok _ _ _) rfl (fn:=Tryz.f135) (by kernel_rfl) (c:=_) rfl rfl rfl ?_
  refine Run.seq (Run.region (cx_ok _ _ _) (Reg.op rfl (Ope.boxF rfl rfl ?_)))
  refine Reg.op rfl (Ope.newL rfl ?_)
  refine Reg.nil (Run.seq (Run.region (cx_ok _ _ _) (Reg.op rfl (Ope.bld rfl rfl ?_))))
  refine Reg.op0 (Ope.store rfl rfl rfl rfl rfl rfl ?_)
  exact Reg.nil (Run.ret (fin_ret (.cell rfl rfl .nil) rfl rfl))
theorem f136 (d:Rid) (hd:d.ok 16) (x:Int) (hx:x=0∨x=1) (p:Nat×Nat) (hp:bnd p) (hh16:d.a+d.b < 16):Fn P0 136 [rideV d x,eV p] (eV (set2 x (d.a+d.b).toNat p)):=by
  obtain ⟨⟨hd1,hd2⟩,⟨hd3,hd4⟩,hd5,hd6⟩:=hd
  obtain ⟨hh,hhe⟩:∃ hh:Nat,d.a+d.b=(hh:Int):=⟨(d.a+d.b).toNat,by omega⟩
  have htn:(d.a+d.b).toNat=hh:=by omega
  rw [htn]
  have hpw:=pow16 (show hh≤16 by omega)
  obtain ⟨hp1,hp2⟩:=hp
  rcases hx with rfl | rfl
  all_goals
    refine PFun.of (C:=c136) (cx_ok _ _ _) rfl (fn:=Tryz.f136) (by kernel_rfl) (c:=_) rfl rfl rfl ?_
    refine Run.seq (Run.region (cx_ok _ _ _) (Reg.op rfl (Ope.boxF rfl rfl ?_)))
    refine Reg.op rfl (Ope.boxL rfl rfl ?_)
    refine Reg.op rfl (Ope.newL rfl ?_)
    refine Reg.nil (Run.seq (Run.drawB (cx_ok _ _ _) 0 [(0,true,false),(1,true,false),(2,true,false),(3,false,false),(4,true,false),(5,false,false),(6,true,false),(7,true,true),(8,true,false),(9,true,false),(10,true,false),(11,true,false)] (by kernel_rfl) (DraS.opQ rfl rfl rfl (Ope.fld rfl rfl ?_))))
    refine DraS.opQ rfl rfl rfl (Ope.fld rfl rfl ?_)
    refine DraS.opQ rfl rfl rfl (Ope.fld rfl rfl ?_)
    refine DraS.opR rfl rfl rfl rfl (StabS.frozen rfl) (Ope.load rfl rfl ?_)
    refine DraS.opQ rfl rfl rfl (Ope.idxA rfl rfl rfl rfl ?_)
    refine DraS.opR rfl rfl rfl rfl (StabS.at rfl) (Ope.load rfl rfl ?_)
    refine DraS.opQ rfl rfl rfl (Ope.load rfl rfl ?_)
    refine DraS.opS rfl rfl rfl (Ope.cf rfl rfl (f107 _ _ _ _ _ _ _ _ (by omega) (by omega)) rfl ?_)
    refine ⟨rfl,?_⟩
    refine DraS.opQ rfl rfl rfl (Ope.shlN (p:=1) (m:=hh) rfl rfl rfl hhe (by omega) (by omega) ?_)
    refine DraS.opQ rfl rfl rfl (Ope.orN rfl rfl rfl rfl (by show _ < 2 ^ 63;omega) (by show _ < 2 ^ 63;omega) ?_)
    refine DraS.opQ rfl rfl rfl (Ope.idxA rfl rfl rfl rfl ?_)
    refine DraS.opQ rfl rfl rfl (Ope.store rfl rfl rfl rfl rfl rfl ?_)
    refine DraS.nil (Run.seq (Run.region (cx_ok _ _ _) (Reg.op rfl (Ope.load rfl rfl ?_))))
    refine Reg.op0 (Ope.store rfl rfl rfl rfl rfl rfl ?_)
    refine Reg.nil (Run.ret (fin_ret (.cell rfl rfl .nil) rfl ?_))
    rfl
theorem f137 (p q:Nat×Nat) (hp:bnd p) (hq:bnd q):Fn P0 137 [eV p,eV q] (eV (and2 p q)):=by
  obtain ⟨hp1,hp2⟩:=hp
  obtain ⟨hq1,hq2⟩:=hq
  refine PFun.of (C:=c137) (cx_ok _ _ _) rfl (fn:=Tryz.f137) (by kernel_rfl) (c:=_) rfl rfl rfl ?_
  refine Run.seq (Run.region (cx_ok _ _ _) (Reg.op rfl (Ope.boxF rfl rfl ?_)))
  refine Reg.op rfl (Ope.boxF rfl rfl ?_)
  refine Reg.op rfl (Ope.newL rfl ?_)
  refine Reg.nil (Run.seq (Run.region (cx_ok _ _ _) (Reg.op rfl (Ope.idxA rfl rfl rfl rfl ?_))))
  refine Reg.op rfl (Ope.load rfl rfl ?_)
  refine Reg.op rfl (Ope.idxA rfl rfl rfl rfl ?_)
  refine Reg.op rfl (Ope.load rfl rfl ?_)
  refine Reg.op rfl (Ope.andN rfl rfl rfl rfl (by show _ < 2 ^ 64;omega) (by show _ < 2 ^ 63;omega) ?_)
  refine Reg.op rfl (Ope.idxA rfl rfl rfl rfl ?_)
  refine Reg.op rfl (Ope.load rfl rfl ?_)
  refine Reg.op rfl (Ope.idxA rfl rfl rfl rfl ?_)
  refine Reg.op rfl (Ope.load rfl rfl ?_)
  refine Reg.op rfl (Ope.andN rfl rfl rfl rfl (by show _ < 2 ^ 64;omega) (by show _ < 2 ^ 63;omega) ?_)
  refine Reg.op rfl (Ope.bld rfl rfl ?_)
  refine Reg.op0 (Ope.store rfl rfl rfl rfl rfl rfl ?_)
  refine Reg.nil (Run.ret (fin_ret (.cell rfl rfl .nil) rfl ?_))
  rfl
end Go.Pv
namespace Go.Pv
open Go.Am Go.RowKit
section
variable {C:Cx} {F:EQ} {X:EX} {k:List KI} {e:EL} {ds:List Nat} {h:PH} {n m:Nat} {l l':HL} {K:PV→PH→Prop}
variable {d:Option Nat} {type:TypeId} {pos:String} {after:Array Edge} {guard:Option (Nat×Bool)}
theorem HE_cut4 {a c:Option PBlk} (h0:hget l 0=none) (h1:hget l 1=a) (h2:hget l 2=none) (h3:hget l 3=c):(HE n l).cut 4=HE 4 [(1,a),(3,c)]:=by
 unfold PH.cut HE
 congr 1
 funext i
 match i with
 |0=>exact h0
 |1=>exact h1
 |2=>exact h2
 |3=>exact h3
 |i+4=>rfl
theorem HE_over4 {a c:Option PBlk} (h0:hget l 0=none) (h2:hget l 2=none) (h3:hget l 3=c):(HE n l).over 4 (HE 4 [(1,a),(3,c)])=HE n ((1,a)::l):=by
 unfold PH.over HE
 congr 1
 funext i
 match i with
 |0=>exact h0.symm
 |1=>rfl
 |2=>exact h2.symm
 |3=>exact h3.symm
 |i+4=>rfl
theorem ok4 {es:List (AV×PV×Nat)} {clock:Nat} {clo:PBlk} (hes:∀ e∈es,e.2.1.bd 4=true) (hclo:clo.bd 4):(HE 4 [(1,some (.map es clock)),(3,some clo)]).Ok:=by
 intro i b hb
 match i with
 |0=>cases (show (none:Option PBlk)=some b from hb)
 |1 =>
  cases (show some (PBlk.map es clock)=some b from hb)
  exact ⟨by show 1 < 4;decide,hes⟩
 |2=>cases (show (none:Option PBlk)=some b from hb)
 |3 =>
  cases (show some clo=some b from hb)
  exact ⟨by show 3 < 4;decide,hclo⟩
 |i+4=>cases (show (none:Option PBlk)=some b from hb)
theorem PCall.clo4 {P:Program} {g:Nat} {args:List PV} {clo:PBlk} {es:List (AV×PV×Nat)} {clock:Nat} {Q:PV→List (AV×PV×Nat)→Nat→Prop}
  (h0:hget l 0=none) (h1:hget l 1=some (.map es clock)) (h2:hget l 2=none) (h3:hget l 3=some clo) (hn:4≤n) (hb:PV.bds 4 args=true) (hes:∀ e∈es,e.2.1.bd 4=true) (hclo:clo.bd 4)
  (hc:PCall P g args (HE 4 [(1,some (.map es clock)),(3,some clo)]) (fun v h'=>∃ es' clock',h'=HE 4 [(1,some (.map es' clock')),(3,some clo)]∧Q v es' clock') fun _ _=>False) :
  PCall P g args (HE n l) (fun v h'=>∃ es' clock',h'=HE n ((1,some (.map es' clock'))::l)∧Q v es' clock') fun _ _=>False:=by
 have hcut:=HE_cut4 (n:=n) h0 h1 h2 h3
 refine (PCall.frame (n:=4) (h:=HE n l) hn hb (fun _=>by rw [hcut];exact ok4 hes hclo) (by rw [hcut];exact hc) ?_ ?_).mono ?_ ?_
 ·rintro v h' ⟨es',clock',rfl,_⟩;rfl
 ·intro v h' hx;exact hx.elim
 ·rintro v h'' ⟨h',⟨es',clock',rfl,hq⟩,rfl⟩
  rw [HE_over4 h0 h2 h3]
  exact ⟨es',clock',rfl,hq⟩
 ·rintro v h'' ⟨h',hx,_⟩;exact hx
theorem Ope.callM4 {f:Operand} {args:Array Operand} {tys:Array TypeId} {g:Nat} {fs ar cp:List PV} {clo:PBlk} {es:List (AV×PV×Nat)} {clock:Nat} {Q:PV→List (AV×PV×Nat)→Nat→Prop} (hf:pev (lget e) f=some (.fn (.func g) fs cp)) (ha:pargs (pev (lget e)) args.toList=some ar)
  (h0:hget l 0=none) (h1:hget l 1=some (.map es clock)) (h2:hget l 2=none) (h3:hget l 3=some clo) (hn:4≤n) (hb:PV.bds 4 (fs++ar++cp)=true) (hes:∀ e∈es,e.2.1.bd 4=true) (hclo:clo.bd 4)
  (hc:PCall C.P g (fs++ar++cp) (HE 4 [(1,some (.map es clock)),(3,some clo)]) (fun v h'=>∃ es' clock',h'=HE 4 [(1,some (.map es' clock')),(3,some clo)]∧Q v es' clock') fun _ _=>False)
  (hK:∀ v es' clock',Q v es' clock'→K v (HE n ((1,some (.map es' clock'))::l))):Ope C X { dst:=d,op:=.call { callee:=.value f,args,argTypes:=tys },type,pos,after,guard } e ds (HE n l) K:=by
 refine Ope.call hf ha rfl ?_
 refine (PCall.clo4 h0 h1 h2 h3 hn hb hes hclo hc).mono ?_ ?_
 ·rintro v h' ⟨es',clock',rfl,hq⟩
  exact hK v es' clock' hq
 ·intro v h' hx;exact hx.elim
theorem Ope.callM4h {f:Operand} {args:Array Operand} {tys:Array TypeId} {g:Nat} {fs ar cp:List PV} {b0 clo:PBlk} {es:List (AV×PV×Nat)} {clock:Nat} {Q:PV→List (AV×PV×Nat)→Nat→Prop} (hf:pev (lget e) f=some (.fn (.func g) fs cp)) (ha:pargs (pev (lget e)) args.toList=some ar)
  (h0:hget l 0=some b0) (hb0:b0.isOwn=false) (h1:hget l 1=some (.map es clock)) (h2:hget l 2=none) (h3:hget l 3=some clo) (hn:4≤n) (hb:PV.bds 4 (fs++ar++cp)=true) (hes:∀ e∈es,e.2.1.bd 4=true) (hclo:clo.bd 4)
  (hc:PCall C.P g (fs++ar++cp) (HE 4 [(1,some (.map es clock)),(3,some clo)]) (fun v h'=>∃ es' clock',h'=HE 4 [(1,some (.map es' clock')),(3,some clo)]∧Q v es' clock') fun _ _=>False)
  (hK:∀ v es' clock',Q v es' clock'→K v (HE n ((1,some (.map es' clock'))::l))):Ope C X { dst:=d,op:=.call { callee:=.value f,args,argTypes:=tys },type,pos,after,guard } e ds (HE n l) K:=by
 refine Ope.call hf ha rfl ?_
 have hhide:(HE n l).hide (fun i=>Nat.beq i 0)=HE n ((0,none)::l):=by
  unfold PH.hide HE
  congr 1
  funext i
  match i with
  |0=>rfl
  |i+1=>rfl
 refine (PCall.frameO (O:=fun i=>Nat.beq i 0) (h:=HE n l) (R:=fun v h'=>∃ es' clock',h'=HE n ((1,some (.map es' clock'))::(0,none)::l)∧Q v es' clock') (X:=fun _ _=>False) (fun i hi=>?_) ?_).mono ?_ ?_
 ·have:=Nat.eq_of_beq_eq_true hi
  subst this
  exact ⟨b0,h0,hb0⟩
 ·rw [hhide]
  exact PCall.clo4 (l:=(0,none)::l) rfl ((hget_tl (by decide)).trans h1) ((hget_tl (by decide)).trans h2) ((hget_tl (by decide)).trans h3) hn hb hes hclo hc
 ·rintro v h' ⟨h1',⟨es',clock',rfl,hq⟩,_,rfl⟩
  have hg:(HE n ((1,some (.map es' clock'))::(0,none)::l)).give (HE n l) (fun i=>Nat.beq i 0)=HE n ((1,some (.map es' clock'))::l):=by
   unfold PH.give HE
   congr 1
   funext i
   match i with
   |0=>rfl
   |1=>rfl
   |i+2=>rfl
  rw [hg]
  exact hK v es' clock' hq
 ·rintro v h' ⟨h1',hx,_⟩;exact hx.elim
end
end Go.Pv
namespace Go.Pv
open Go.Proofs Go.Am
set_option maxRecDepth 10000
instance:Mpt A0 214 148 (.sl .ex []):=⟨by kernel_rfl⟩
theorem f181a (tl:Tail) (htl:tl.isOwn=false) (xs:List (Nat×Nat)) (hl:xs.length < 2):Fn P0 181 [.fn (.func 137) [] [],.sl tl (xs.map eV)] (.sl tl (xs.map eV)):=by
  refine PFun.of (C:=c181) (cx_ok _ _ _) rfl (fn:=Tryz.f181) (by kernel_rfl) (c:=_) rfl rfl rfl ?_
  refine Run.seq (Run.region (cx_ok _ _ _) (Reg.op rfl (Ope.asg rfl ?_)))
  refine Reg.nil (Run.seq (Run.seq (Run.region (cx_ok _ _ _) (Reg.op rfl (Ope.mov rfl ?_)))))
  first | refine Reg.op rfl (Ope.len rfl (List.length_map _) ?_) | refine Reg.op rfl (Ope.len rfl rfl ?_) | refine Reg.op rfl (Ope.lenL rfl ?_)
  refine Reg.op rfl (Ope.lt rfl rfl ?_)
  refine Reg.nil (Run.condX rfl (fun hc=>?_) fun hc=>?_)
  ·refine Run.seq (Run.region (cx_ok _ _ _) (Reg.op rfl (Ope.mov rfl ?_)))
   refine Reg.op rfl (Ope.asg rfl ?_)
   refine Reg.nil (Run.ret (Jmp.code (fin_ret (.tmp rfl .nil) (bd_sl (f:=eV) htl (fun _=>rfl) _) ?_)))
   rfl
  ·exfalso;omega
theorem f181b (tl:Tail) (htl:tl.isOwn=false) (p q:Nat×Nat) (hp:bnd p) (hq:bnd q):Fn P0 181 [.fn (.func 137) [] [],.sl tl [eV p,eV q]] (.sl .ex [eV (and2 p q)]):=by
  refine PFun.of (C:=c181) (cx_ok _ _ _) rfl (fn:=Tryz.f181) (by kernel_rfl) (c:=_) rfl rfl rfl ?_
  refine Run.seq (Run.region (cx_ok _ _ _) (Reg.op rfl (Ope.asg rfl ?_)))
  refine Reg.nil (Run.seq (Run.seq (Run.region (cx_ok _ _ _) (Reg.op rfl (Ope.mov rfl ?_)))))
  refine Reg.op rfl (Ope.len (m:=2) rfl rfl ?_)
  refine Reg.op rfl (Ope.lt rfl rfl ?_)
  refine Reg.nil (Run.condX rfl (fun hc=>?_) fun hc=>?_)
  ·exfalso;omega
  ·refine Run.skip (Run.seq (Run.region (cx_ok _ _ _) (Reg.op rfl (Ope.mov rfl ?_))))
   refine Reg.op rfl (Ope.idxS (m:=0) rfl rfl rfl rfl rfl ?_)
   refine Reg.op rfl (Ope.load rfl rfl ?_)
   refine Reg.op rfl (Ope.newL rfl ?_)
   refine Reg.op0 (Ope.store rfl rfl rfl rfl rfl rfl ?_)
   refine Reg.nil (Run.seq (Run.seq (Run.wide (l':=[(0,some (.cells [I p.1,I p.2]))]) (Nat.le_refl _) ⟨rfl,trivial⟩ ?_)))
   refine Run.region (cx_ok _ _ _) (Reg.op rfl (Ope.mov rfl ?_))
   refine Reg.op rfl (Ope.slD (m:=1) rfl rfl rfl (by show 1≤2;decide) (by intro v hv;simp at hv;rcases hv with rfl | rfl<;>rfl) ?_)
   refine Reg.op rfl (Ope.len (m:=1) rfl rfl ?_)
   refine Reg.op rfl (Ope.mov rfl ?_)
   refine Reg.nil (Run.block (Run.loop (α:=Nat) (fun k=>[(0,.fn (.func 137) [] []),(5,.ptr 0 0),(16,.sl (stail tl 2 2) [eV q]),(17,I 1),(18,I k)]) (pick2 (HE 1 [(0,some (.cells [I p.1,I p.2]))]) (HE 2 [(0,some (.cells [I (and2 p q).1,I (and2 p q).2]))])) (fun k=>k≤1) (fun k=>1 - k) 0 ⟨rfl,rfl,rfl,rfl,rfl,trivial⟩ rfl (by decide) (fun k hk=>?_)))
   rcases (by omega:k=0∨k=1) with rfl | rfl
   ·refine Run.seq (Run.region (cx_ok _ _ _) (Reg.op rfl (Ope.lt rfl rfl ?_)))
    refine Reg.nil (Run.seq (Run.condX rfl (fun hc=>?_) fun hc=>?_))
    ·refine Run.skip (Run.seq (Run.block (Run.seq (Run.region (cx_ok _ _ _) (Reg.op rfl (Ope.idxS (m:=0) rfl rfl rfl rfl rfl ?_))))))
     refine Reg.op rfl (Ope.load rfl rfl ?_)
     refine Reg.op rfl (Ope.newL rfl ?_)
     refine Reg.op0 (Ope.store rfl rfl hget_hd rfl rfl rfl ?_)
     refine Reg.nil (Run.frz (d:=7) true rfl hget_hd rfl ?_)
     refine Run.region (cx_ok _ _ _) (Reg.op rfl (Ope.mov rfl ?_))
     refine Reg.op rfl (Ope.load rfl rfl ?_)
     refine Reg.op rfl (Ope.load rfl rfl ?_)
     refine Reg.op rfl (Ope.cf rfl rfl (f137 p q hp hq) rfl ?_)
     refine Reg.op0 (Ope.store rfl rfl rfl rfl rfl rfl ?_)
     refine Reg.nil (Run.bend (Run.wide (m:=2) (l':=[(0,some (.cells [I (and2 p q).1,I (and2 p q).2]))]) (Nat.le_refl _) ⟨rfl,trivial⟩ ?_))
     refine Run.region (cx_ok _ _ _) (Reg.op rfl (Ope.add rfl rfl (by omega) ?_))
     refine Reg.op rfl (Ope.mov rfl ?_)
     exact Reg.nil (Run.lend ⟨1,by decide,by decide,⟨rfl,rfl,rfl,rfl,rfl,trivial⟩,rfl,rfl⟩)
    ·exfalso;omega
   ·refine Run.seq (Run.region (cx_ok _ _ _) (Reg.op rfl (Ope.lt rfl rfl ?_)))
    refine Reg.nil (Run.seq (Run.condX rfl (fun hc=>?_) fun hc=>?_))
    ·exfalso;omega
    ·refine Run.exit (Jmp.code (Jmp.round (Jmp.here (Run.seq (Run.region (cx_ok _ _ _) (Reg.op rfl (Ope.load rfl rfl ?_)))))))
     refine Reg.op rfl (Ope.bsl rfl rfl rfl rfl ?_)
     refine Reg.op rfl (Ope.asg rfl ?_)
     refine Reg.nil (Run.ret (fin_ret (.tmp rfl .nil) rfl ?_))
     rfl
def VM (R:Rst) (d:Rid):List PV:=(mst R (R.m - (d.a+d.b).toNat) d).toList.map eV
theorem VM_at {R:Rst} {d:Rid} {k:Nat} (hk:d.a+d.b+k=R.m) (h0:0≤d.a+d.b:=by omega):VM R d=(mst R k d).toList.map eV:=by
  unfold VM
  rw [show R.m - (d.a+d.b).toNat=k from by omega]
theorem bds_eV:∀ xs:List (Nat×Nat),PV.bds 4 (xs.map eV)=true
  | []=>rfl
  | x :: xs => by
    simp only [List.map_cons,PV.bds,bds_eV xs,Bool.and_true]
    rfl
theorem VM_bd (R:Rst) (d:Rid):PV.bds 4 (VM R d)=true:=bds_eV _
theorem VM_bd4 {R:Rst} {d:Rid} {tl:Tail} (htl:tl.isOwn=false):(PV.sl tl (VM R d)).bd 4=true:=by
  cases tl<;>simp only [Tail.isOwn,Bool.true_eq_false] at htl<;>simp [PV.bd,VM_bd]
def stepsM (R:Rst) (k:Nat) (d:Rid) (i:Nat):List (Nat×Nat):=((nextX R d 0).take i).flatMap fun x=>((mst R k (d.then x)).map (set2 x (d.a+d.b).toNat)).toList
theorem stepsM_succ {R:Rst} {k:Nat} {d:Rid} {i:Nat} {x:Int} (h:(nextX R d 0)[i]?=some x):stepsM R k d (i+1)=stepsM R k d i++((mst R k (d.then x)).map (set2 x (d.a+d.b).toNat)).toList:=by
  obtain ⟨hlt,hx⟩:=List.getElem?_eq_some_iff.1 h
  simp only [stepsM,List.take_succ_eq_append_getElem hlt,hx,List.flatMap_append,List.flatMap_cons,List.flatMap_nil,List.append_nil]
theorem opt_len {α:Type} (o:Option α):o.toList.length≤1:=by cases o<;>simp
theorem stepsM_len (R : Rst) (k : Nat) (d : Rid) : ∀ i, (stepsM R k d i).length ≤ i
  | 0=>by simp [stepsM]
  | i + 1 => by
    cases h:(nextX R d 0)[i]? with
    | none =>
      have:stepsM R k d (i+1)=stepsM R k d i:=by
        have hl:=List.getElem?_eq_none_iff.1 h
        simp only [stepsM]
        rw [List.take_of_length_le (by omega),List.take_of_length_le (by omega)]
      rw [this]
      exact Nat.le_succ_of_le (stepsM_len R k d i)
    | some x =>
      rw [stepsM_succ h,List.length_append]
      have:=stepsM_len R k d i
      have:=opt_len ((mst R k (d.then x)).map (set2 x (d.a+d.b).toNat))
      omega
theorem joinedM_ok (R:Rst) (hm16:R.m≤16) (k:Nat) (d:Rid) (h0:0≤d.a+d.b) (hk:d.a+d.b+(k+1:Nat)=R.m):∃ tl:Tail,tl.isOwn=false∧Fn P0 181 [.fn (.func 137) [] [],.sl .no ((stepsM R k d (nextX R d 0).length).map eV)] (.sl tl (VM R d)):=by
  rw [VM_at hk]
  have hall:stepsM R k d (nextX R d 0).length=(if R.brk d 0=0 then (mst R k (d.then 0)).map (set2 0 (d.a+d.b).toNat) else none).toList++(if R.brk d 1=0 then (mst R k (d.then 1)).map (set2 1 (d.a+d.b).toNat) else none).toList:=by
    simp only [stepsM,List.take_length,nextX]
    split<;>split<;>simp
  have key:∀ x:Int,x=0∨x=1→∀ q,(if R.brk d x=0 then (mst R k (d.then x)).map (set2 x (d.a+d.b).toNat) else none)=some q→bnd q:=by
    intro x hx q hq
    split at hq
    · obtain ⟨q', h1, rfl⟩ := Option.map_eq_some_iff.1 hq
      have:=mst_bnd R k (d.then x) q' (by rcases hx with rfl | rfl<;>simp [Rid.then]<;>omega) (by rcases hx with rfl | rfl<;>simp [Rid.then]<;>omega) h1
      exact set2_bnd this (by omega)
    · cases hq
  rw [hall]
  simp only [mst]
  cases ha:(if R.brk d 0=0 then (mst R k (d.then 0)).map (set2 0 (d.a+d.b).toNat) else none) with
  | none=>exact ⟨.no,rfl,f181a .no rfl _ (by have:=opt_len (if R.brk d 1=0 then (mst R k (d.then 1)).map (set2 1 (d.a+d.b).toNat) else none);simp only [Option.toList_none,List.nil_append];omega)⟩
  | some a =>
    cases hb:(if R.brk d 1=0 then (mst R k (d.then 1)).map (set2 1 (d.a+d.b).toNat) else none) with
    | none=>exact ⟨.no,rfl,f181a .no rfl [a] (by simp)⟩
    | some b=>exact ⟨.ex,rfl,f181b .no rfl a b (key 0 (.inl rfl) _ ha) (key 1 (.inr rfl) _ hb)⟩
def tlP:Option Nat→Tail
  | none=>.ex
  | some j=>.own (j+7)
def ownP:Option Nat→HL
  | none=>[]
  | some j=>[(j+7,some .own)]
def nxP:Option Nat→Nat
  | none=>7
  | some j=>j+8
theorem hs_round6 {m:Nat} {a b c d:Option PBlk} {rest:HL} (hm5:m≠6) (h5:hget rest 6=none) (hm:hget rest m=none):∀ i x,hget ((6,d)::rest) i=some x→hget ((m,none)::(6,d)::(m,a)::(m,b)::(6,c)::rest) i=some x:=by
  intro i x h
  by_cases h1:i=m
  · subst h1
    rw [hget_tl hm5,hm] at h
    cases h
  · rw [hget_tl h1]
    by_cases h2:i=6
    · subst h2
      rw [hget_hd] at h ⊢
      exact h
    · rw [hget_tl h2] at h ⊢
      rw [hget_tl h1,hget_tl h1,hget_tl h2]
      exact h
abbrev capsM (R:Rst):List PV:=[.fp (.agg R.cells),.fp (.agg qM),.fp (.mp 1),.ptr 3 0]
abbrev cloM (R:Rst):PBlk:=.cells [.fn (.func 180) [] (capsM R)]
theorem f180z (R:Rst) (hR:R.ok) (i:Nat) (d:Rid) (es:List (AV×PV×Nat)) (clock:Nat) (hd:d.ok i) (hi:i≤16) (hk:d.a+d.b=R.m) (hm:MemoV (VM R) es) :
    PCall P0 180 (.agg d.cells::capsM R) (HE 4 [(1,some (.map es clock)),(3,some (cloM R))]) (fun v h'=>∃ es' clock',h'=HE 4 [(1,some (.map es' clock')),(3,some (cloM R))]∧(MemoV (VM R) es'∧∃ tl:Tail,tl.isOwn=false∧v=.sl tl (VM R d))) fun _ _=>False:=by
  obtain ⟨⟨hd1,hd2⟩,⟨hd3,hd4⟩,hd5,hd6⟩:=hd
  refine PCall.ofH (C:=c180) (cx_ok _ _ _) rfl (fn:=Tryz.f180) (by kernel_rfl) (c:=_) rfl rfl rfl (fun hok=>?_)
  refine Run.seq (Run.region (cx_ok _ _ _) (Reg.op rfl (Ope.boxF rfl rfl ?_)))
  refine Reg.op rfl (Ope.asg rfl ?_)
  refine Reg.nil (Run.seq (Run.seq (Run.draw (cx_ok _ _ _) [(0,true),(2,true),(3,true),(4,false),(1,true),(5,true)] (by kernel_rfl) (Dra.op' rfl rfl rfl .sure (Ope.load rfl rfl ?_)))))
  refine Dra.op' rfl rfl rfl .sure (Ope.fld rfl rfl ?_)
  refine Dra.op' rfl rfl rfl .sure (Ope.fld rfl rfl ?_)
  refine Dra.op' rfl rfl rfl (.load rfl) (Ope.load rfl rfl ?_)
  refine Dra.op' rfl rfl rfl .sure (Ope.cf rfl rfl (f164 _ _ _ _ (by omega) (by omega)) rfl ?_)
  refine Dra.op' rfl rfl rfl .sure (Ope.eq rfl rfl ?_)
  refine Dra.nil (Run.condX rfl (fun hc=>?_) fun hc=>?_)
  ·refine Run.seq (Run.region (cx_ok _ _ _) (Reg.op rfl (Ope.fld rfl rfl ?_)))
   refine Reg.op rfl (Ope.load rfl rfl ?_)
   refine Reg.op rfl (Ope.load rfl rfl ?_)
   refine Reg.op rfl (Ope.cf rfl rfl (f135 d) rfl ?_)
   refine Reg.op rfl (Ope.bsl rfl rfl rfl rfl ?_)
   refine Reg.op rfl (Ope.asg rfl ?_)
   exact Reg.nil (Run.ret (Jmp.code (finC_ret (.tmp rfl .nil) rfl (by rw [HE_cut4 rfl rfl rfl rfl];exact ok4 (MemoV.bd (VM_bd R) hm) rfl) ⟨es,clock,HE_cut4 rfl rfl rfl rfl,hm,.ex,rfl,by rw [VM_at (k:=0) (by simpa using hk)];rfl⟩)))
  ·exfalso;omega
theorem f180s (R : Rst) (hR : R.ok) (k i : Nat)
    (ih:∀ (d:Rid) (es:List (AV×PV×Nat)) (clock:Nat),d.ok (i+1)→d.a+d.b+k=R.m→MemoV (VM R) es→PCall P0 180 (.agg d.cells::capsM R) (HE 4 [(1,some (.map es clock)),(3,some (cloM R))]) (fun v h'=>∃ es' clock',h'=HE 4 [(1,some (.map es' clock')),(3,some (cloM R))]∧(MemoV (VM R) es'∧∃ tl:Tail,tl.isOwn=false∧v=.sl tl (VM R d))) fun _ _=>False)
    (d:Rid) (es:List (AV×PV×Nat)) (clock:Nat) (hd:d.ok i) (hi:i+(k+1)≤16) (hk:d.a+d.b+(k+1:Nat)=R.m) (hm:MemoV (VM R) es) :
    PCall P0 180 (.agg d.cells::capsM R) (HE 4 [(1,some (.map es clock)),(3,some (cloM R))]) (fun v h'=>∃ es' clock',h'=HE 4 [(1,some (.map es' clock')),(3,some (cloM R))]∧(MemoV (VM R) es'∧∃ tl:Tail,tl.isOwn=false∧v=.sl tl (VM R d))) fun _ _=>False:=by
  have hdo:=hd
  obtain ⟨⟨hd1,hd2⟩,⟨hd3,hd4⟩,hd5,hd6⟩:=hd
  have hm16:=hR.1
  have hd16:d.ok 16:=⟨⟨hd1,by omega⟩,⟨hd3,by omega⟩,hd5,by omega⟩
  refine PCall.ofH (C:=c180) (cx_ok _ _ _) rfl (fn:=Tryz.f180) (by kernel_rfl) (c:=_) rfl rfl rfl (fun hok=>?_)
  refine Run.seq (Run.region (cx_ok _ _ _) (Reg.op rfl (Ope.boxF rfl rfl ?_)))
  refine Reg.op rfl (Ope.asg rfl ?_)
  refine Reg.nil (Run.seq (Run.seq (Run.draw (cx_ok _ _ _) [(0,true),(2,true),(3,true),(4,false),(1,true),(5,true)] (by kernel_rfl) (Dra.op' rfl rfl rfl .sure (Ope.load rfl rfl ?_)))))
  refine Dra.op' rfl rfl rfl .sure (Ope.fld rfl rfl ?_)
  refine Dra.op' rfl rfl rfl .sure (Ope.fld rfl rfl ?_)
  refine Dra.op' rfl rfl rfl (.load rfl) (Ope.load rfl rfl ?_)
  refine Dra.op' rfl rfl rfl .sure (Ope.cf rfl rfl (f164 _ _ _ _ (by omega) (by omega)) rfl ?_)
  refine Dra.op' rfl rfl rfl .sure (Ope.eq rfl rfl ?_)
  refine Dra.nil (Run.condX rfl (fun hc=>?_) fun hc=>?_)
  ·exfalso;omega
  ·refine Run.skip (Run.seq (Run.seq ?_))
   obtain ⟨r,hr1,hr2⟩:=MemoV.find d es 0 hm
   refine Run.region (cx_ok _ _ _) (Reg.op rfl (Ope.load rfl rfl ?_))
   refine Reg.op rfl (Ope.load rfl rfl ?_)
   rcases r with _ | ⟨jj,vv⟩
   all_goals refine Reg.op rfl (Ope.look rfl rfl (keyA_of d) rfl (keyA_check d) hr1 ?_)
   ·refine Reg.op rfl (Ope.mov rfl ?_)
    refine Reg.op rfl (Ope.ext rfl rfl ?_)
    refine Reg.op rfl (Ope.ext rfl rfl ?_)
    refine Reg.op rfl (Ope.asg rfl ?_)
    refine Reg.op rfl (Ope.asg rfl ?_)
    refine Reg.nil (Run.seq (Run.region (cx_ok _ _ _) (Reg.op rfl (Ope.mov rfl ?_))))
    refine Reg.nil (Run.condX rfl (fun hc=>?_) fun hc=>?_)
    ·(cases hc;done)
    ·refine Run.skip (Run.seq (Run.region (cx_ok _ _ _) (Reg.op rfl (Ope.newL rfl ?_))))
     refine Reg.nil (Run.seq (Run.seq (Run.region (cx_ok _ _ _) (Reg.op rfl (Ope.load rfl rfl ?_)))))
     refine Reg.op rfl (Ope.load rfl rfl ?_)
     refine Reg.op rfl (Ope.cf rfl rfl (f166 R d) rfl ?_)
     refine Reg.nil ?_
     refine Run.block (Run.rangeF (cx_ok _ _ _) rfl (α:=List (AV×PV×Nat)×Nat×List (Nat×Nat)×Option Nat) (fun s=>(4,some (.cells [.sl (tlP s.2.2.2) (s.2.2.1.map eV)]))::(ownP s.2.2.2++[(1,some (.map s.1 s.2.1)),(0,none),(2,none),(3,some (cloM R))])) (fun s=>nxP s.2.2.2) (fun q s=>MemoV (VM R) s.1∧s.2.2.1=stepsM R k d q∧(s.2.2.2=none↔s.2.2.1=[])) rfl (f192 R hR d hd16 (by omega)) rfl rfl ⟨Tryz.f180,by kernel_rfl⟩ (es,clock,[],none) ⟨hm,by simp [stepsM],by simp⟩ (Hsub.cons rfl (Hsub.cons rfl (Hsub.cons rfl (Hsub.cons rfl (Hsub.cons rfl Hsub.nil))))) (by rintro ⟨_,_,_,_ | j⟩ p hp<;>simp [ownP] at hp<;>rcases hp with rfl | rfl | rfl | rfl | rfl | rfl<;>simp) (by intro p hp;simp [ownP] at hp;rcases hp with rfl | rfl | rfl | rfl | rfl<;>simp) (by simp [nxP]) (fun q s v hv hI m hm1 hm2 lb=>?_) (fun s hI m hm1 hm2=>?_))
     ·obtain ⟨es1,clock1,st,ow⟩:=s
      obtain ⟨hI1,hI2,hI3⟩:=hI
      simp only at hm1 hI1 hI2 hI3
      obtain ⟨μ,rfl⟩:∃ μ,m=μ+7:=⟨m - 7,by omega⟩
      obtain ⟨x,hx,rfl⟩:∃ x,(nextX R d 0)[q]?=some x∧v=rideV d x:=by
        rw [List.getElem?_map] at hv
        cases hq:(nextX R d 0)[q]? with
        | none=>rw [hq] at hv;cases hv
        | some x=>rw [hq] at hv;cases hv;exact ⟨x,rfl,rfl⟩
      obtain ⟨hx01,hbx⟩:=nextX_mem (List.mem_of_getElem? hx)
      have hq2:q < 2:=by
        have:=(List.getElem?_eq_some_iff.1 hx).1
        have:=nextX_len R d
        omega
      have hst:st.length≤q:=by rw [hI2];exact stepsM_len R k d q
      have hsucc:=stepsM_succ (k:=k) hx
      have ihx:=ih (d.then x) es1 clock1 (Rid.ok_then hdo) (by rcases hx01 with rfl | rfl<;>simp [Rid.then]<;>omega) hI1
      show Run _ _ _ _ _ [] (HE (μ+7) ((6,some lb)::(5,some .dfr)::(4,some (.cells [.sl (tlP ow) (st.map eV)]))::(ownP ow++[(1,some (.map es1 clock1)),(0,none),(2,none),(3,some (cloM R))])))
      rcases hcn:mst R k (d.then x) with _ | b<;>rcases ow with _ | j<;>(have hVx:VM R (d.then x)=_:=VM_at (k:=k) (by rcases hx01 with rfl | rfl<;>simp [Rid.then]<;>omega) (by rcases hx01 with rfl | rfl<;>simp [Rid.then]<;>omega))<;>rw [hVx,hcn] at ihx<;>rw [hcn] at hsucc<;>simp only [nxP] at hm1<;>first | (obtain rfl:st=[]:=hI3.1 rfl) | skip
      ·refine Run.region (Cx.Ok.rnd (cx_ok _ _ _)) (Reg.op rfl (Ope.newL rfl ?_))
       refine Reg.op0 (Ope.store rfl rfl hget_hd rfl rfl rfl ?_)
       refine Reg.nil (Run.done ⟨rfl,rfl,_,_,rfl,(hget_tl (by omega)).trans ((hget_tl (by omega)).trans hget_hd),fun lb2=>?_⟩)
       refine Run.block (Run.seq (Run.frz (d:=10) true rfl ((hget_tl (by omega)).trans hget_hd) rfl ?_))
       refine Run.wideS (m:=μ+8) (Nat.le_refl _) (hs_round6 (by omega) (by rfl) (by repeat (first | rfl | refine (hget_tl (by omega)).trans ?_))) ?_
       refine Run.region (Cx.Ok.rnd (cx_ok _ _ _)) (Reg.op rfl (Ope.loadH rfl rfl rfl ?_))
       refine Reg.op rfl (Ope.fld rfl rfl ?_)
       refine Reg.op rfl (Ope.load rfl rfl ?_)
       refine Reg.op rfl (Ope.callM4 (clo:=cloM R) rfl rfl rfl rfl rfl rfl (by omega) rfl (MemoV.bd (VM_bd R) hI1) rfl ihx (fun v es2 clock2 hq=>?_))
       obtain ⟨hq1,tl,htl,rfl⟩:=hq
       first
         | refine Reg.op rfl (Ope.len (m:=0) rfl rfl ?_)
         | refine Reg.op rfl (Ope.len (m:=1) rfl rfl ?_)
       refine Reg.op rfl (Ope.mov rfl ?_)
       refine Reg.nil (Run.block ?_)
       first
         | refine Run.loop (α:=Nat) (fun z=>[(2,.fp (.agg qM)),(9,.ptr 4 0),(10,.fp (rideV d x)),(39,.sl tl []),(40,I ((0:Nat):Int)),(41,I z)]) (Function.const Nat _) (fun z=>z=0) (fun _=>0) 0 ⟨rfl,rfl,rfl,rfl,rfl,rfl,trivial⟩ rfl rfl (fun z hz=>?_)
         | refine Run.loop (α:=Nat) (fun z=>[(2,.fp (.agg qM)),(9,.ptr 4 0),(10,.fp (rideV d x)),(39,.sl tl [eV b]),(40,I ((1:Nat):Int)),(41,I z)]) (pick2 _ (HE (μ+10) [(4,some (.cells [.sl (.own (μ+9)) ((st++[set2 x (d.a+d.b).toNat b]).map eV)])),(μ+9,some .own),(1,some (.map es2 clock2)),(6,some lb2),(5,some .dfr),(0,none),(2,none),(3,some (cloM R))])) (fun z=>z≤1) (fun z=>1 - z) 0 ⟨rfl,rfl,rfl,rfl,rfl,rfl,trivial⟩ rfl (by decide) (fun z hz=>?_)
         | refine Run.loop (α:=Nat) (fun z=>[(2,.fp (.agg qM)),(9,.ptr 4 0),(10,.fp (rideV d x)),(39,.sl tl [eV b]),(40,I ((1:Nat):Int)),(41,I z)]) (pick2 _ (HE (μ+10) [(4,some (.cells [.sl (.own (μ+9)) (([]++[set2 x (d.a+d.b).toNat b]).map eV)])),(μ+9,some .own),(1,some (.map es2 clock2)),(6,some lb2),(5,some .dfr),(0,none),(2,none),(3,some (cloM R))])) (fun z=>z≤1) (fun z=>1 - z) 0 ⟨rfl,rfl,rfl,rfl,rfl,rfl,trivial⟩ rfl (by decide) (fun z hz=>?_)
       rcases (by omega:z=0∨z=1) with rfl | rfl
       ·refine Run.seq (Run.region (Cx.Ok.rnd (cx_ok _ _ _)) (Reg.op rfl (Ope.lt rfl rfl ?_)))
        refine Reg.nil (Run.seq (Run.condX rfl (fun hc=>?_) fun hc=>?_))
        ·(exfalso;omega)
        ·refine Run.exit (Jmp.code (Jmp.round (Jmp.here (Run.bend ?_))))
         first
           | exact Run.done ⟨rfl,_,_,rfl,by omega,rfl,(es2,clock2,[],none),by show 7≤_;omega,(Hsub.cons rfl (Hsub.cons rfl (Hsub.cons rfl (Hsub.cons rfl (Hsub.cons rfl (Hsub.cons rfl Hsub.nil)))))),hq1,by rw [hsucc,← hI2];rfl,by simp⟩
           | exact Run.done ⟨rfl,_,_,rfl,by omega,rfl,(es2,clock2,st,some j),by show j+8≤_;omega,(Hsub.cons rfl (Hsub.cons rfl (Hsub.cons ((hget_tl (by omega)).trans ((hget_tl (by omega)).trans ((hget_tl (by omega)).trans ((hget_tl (by omega)).trans hget_hd)))) (Hsub.cons rfl (Hsub.cons rfl (Hsub.cons rfl (Hsub.cons rfl Hsub.nil))))))),hq1,by rw [hsucc,← hI2];exact (List.append_nil st).symm,hI3⟩
           | exact Run.done ⟨rfl,_,_,rfl,by omega,rfl,(es2,clock2,[]++[set2 x (d.a+d.b).toNat b],some (μ+2)),by show μ+2+8≤μ+10;omega,(Hsub.cons rfl (Hsub.cons rfl (Hsub.cons ((hget_tl (by omega)).trans hget_hd) (Hsub.cons rfl (Hsub.cons rfl (Hsub.cons rfl (Hsub.cons rfl Hsub.nil))))))),hq1,by rw [hsucc,← hI2];rfl,by simp⟩
           | exact Run.done ⟨rfl,_,_,rfl,by omega,rfl,(es2,clock2,st++[set2 x (d.a+d.b).toNat b],some (μ+2)),by show μ+2+8≤μ+10;omega,(Hsub.cons rfl (Hsub.cons rfl (Hsub.cons ((hget_tl (by omega)).trans hget_hd) (Hsub.cons rfl (Hsub.cons rfl (Hsub.cons rfl (Hsub.cons rfl Hsub.nil))))))),hq1,by rw [hsucc,← hI2];rfl,by simp⟩
       ·refine Run.seq (Run.region (Cx.Ok.rnd (cx_ok _ _ _)) (Reg.op rfl (Ope.lt rfl rfl ?_)))
        refine Reg.nil (Run.seq (Run.condX rfl (fun hc=>?_) fun hc=>?_))
        ·(exfalso;omega)
        ·(exfalso;omega)
      ·refine Run.region (Cx.Ok.rnd (cx_ok _ _ _)) (Reg.op rfl (Ope.newL rfl ?_))
       refine Reg.op0 (Ope.store rfl rfl hget_hd rfl rfl rfl ?_)
       refine Reg.nil (Run.done ⟨rfl,rfl,_,_,rfl,(hget_tl (by omega)).trans ((hget_tl (by omega)).trans hget_hd),fun lb2=>?_⟩)
       refine Run.block (Run.seq (Run.frz (d:=10) true rfl ((hget_tl (by omega)).trans hget_hd) rfl ?_))
       refine Run.wideS (m:=μ+8) (Nat.le_refl _) (hs_round6 (by omega) (by rfl) (by repeat (first | rfl | refine (hget_tl (by omega)).trans ?_))) ?_
       refine Run.region (Cx.Ok.rnd (cx_ok _ _ _)) (Reg.op rfl (Ope.loadH rfl rfl rfl ?_))
       refine Reg.op rfl (Ope.fld rfl rfl ?_)
       refine Reg.op rfl (Ope.load rfl rfl ?_)
       refine Reg.op rfl (Ope.callM4 (clo:=cloM R) rfl rfl rfl rfl rfl rfl (by omega) rfl (MemoV.bd (VM_bd R) hI1) rfl ihx (fun v es2 clock2 hq=>?_))
       obtain ⟨hq1,tl,htl,rfl⟩:=hq
       first
         | refine Reg.op rfl (Ope.len (m:=0) rfl rfl ?_)
         | refine Reg.op rfl (Ope.len (m:=1) rfl rfl ?_)
       refine Reg.op rfl (Ope.mov rfl ?_)
       refine Reg.nil (Run.block ?_)
       first
         | refine Run.loop (α:=Nat) (fun z=>[(2,.fp (.agg qM)),(9,.ptr 4 0),(10,.fp (rideV d x)),(39,.sl tl []),(40,I ((0:Nat):Int)),(41,I z)]) (Function.const Nat _) (fun z=>z=0) (fun _=>0) 0 ⟨rfl,rfl,rfl,rfl,rfl,rfl,trivial⟩ rfl rfl (fun z hz=>?_)
         | refine Run.loop (α:=Nat) (fun z=>[(2,.fp (.agg qM)),(9,.ptr 4 0),(10,.fp (rideV d x)),(39,.sl tl [eV b]),(40,I ((1:Nat):Int)),(41,I z)]) (pick2 _ (HE (μ+10) [(4,some (.cells [.sl (.own (μ+9)) ((st++[set2 x (d.a+d.b).toNat b]).map eV)])),(μ+9,some .own),(1,some (.map es2 clock2)),(6,some lb2),(5,some .dfr),(0,none),(2,none),(3,some (cloM R))])) (fun z=>z≤1) (fun z=>1 - z) 0 ⟨rfl,rfl,rfl,rfl,rfl,rfl,trivial⟩ rfl (by decide) (fun z hz=>?_)
         | refine Run.loop (α:=Nat) (fun z=>[(2,.fp (.agg qM)),(9,.ptr 4 0),(10,.fp (rideV d x)),(39,.sl tl [eV b]),(40,I ((1:Nat):Int)),(41,I z)]) (pick2 _ (HE (μ+10) [(4,some (.cells [.sl (.own (μ+9)) (([]++[set2 x (d.a+d.b).toNat b]).map eV)])),(μ+9,some .own),(1,some (.map es2 clock2)),(6,some lb2),(5,some .dfr),(0,none),(2,none),(3,some (cloM R))])) (fun z=>z≤1) (fun z=>1 - z) 0 ⟨rfl,rfl,rfl,rfl,rfl,rfl,trivial⟩ rfl (by decide) (fun z hz=>?_)
       rcases (by omega:z=0∨z=1) with rfl | rfl
       ·refine Run.seq (Run.region (Cx.Ok.rnd (cx_ok _ _ _)) (Reg.op rfl (Ope.lt rfl rfl ?_)))
        refine Reg.nil (Run.seq (Run.condX rfl (fun hc=>?_) fun hc=>?_))
        ·(exfalso;omega)
        ·refine Run.exit (Jmp.code (Jmp.round (Jmp.here (Run.bend ?_))))
         first
           | exact Run.done ⟨rfl,_,_,rfl,by omega,rfl,(es2,clock2,[],none),by show 7≤_;omega,(Hsub.cons rfl (Hsub.cons rfl (Hsub.cons rfl (Hsub.cons rfl (Hsub.cons rfl (Hsub.cons rfl Hsub.nil)))))),hq1,by rw [hsucc,← hI2];rfl,by simp⟩
           | exact Run.done ⟨rfl,_,_,rfl,by omega,rfl,(es2,clock2,st,some j),by show j+8≤_;omega,(Hsub.cons rfl (Hsub.cons rfl (Hsub.cons ((hget_tl (by omega)).trans ((hget_tl (by omega)).trans ((hget_tl (by omega)).trans ((hget_tl (by omega)).trans hget_hd)))) (Hsub.cons rfl (Hsub.cons rfl (Hsub.cons rfl (Hsub.cons rfl Hsub.nil))))))),hq1,by rw [hsucc,← hI2];exact (List.append_nil st).symm,hI3⟩
           | exact Run.done ⟨rfl,_,_,rfl,by omega,rfl,(es2,clock2,[]++[set2 x (d.a+d.b).toNat b],some (μ+2)),by show μ+2+8≤μ+10;omega,(Hsub.cons rfl (Hsub.cons rfl (Hsub.cons ((hget_tl (by omega)).trans hget_hd) (Hsub.cons rfl (Hsub.cons rfl (Hsub.cons rfl (Hsub.cons rfl Hsub.nil))))))),hq1,by rw [hsucc,← hI2];rfl,by simp⟩
           | exact Run.done ⟨rfl,_,_,rfl,by omega,rfl,(es2,clock2,st++[set2 x (d.a+d.b).toNat b],some (μ+2)),by show μ+2+8≤μ+10;omega,(Hsub.cons rfl (Hsub.cons rfl (Hsub.cons ((hget_tl (by omega)).trans hget_hd) (Hsub.cons rfl (Hsub.cons rfl (Hsub.cons rfl (Hsub.cons rfl Hsub.nil))))))),hq1,by rw [hsucc,← hI2];rfl,by simp⟩
       ·refine Run.seq (Run.region (Cx.Ok.rnd (cx_ok _ _ _)) (Reg.op rfl (Ope.lt rfl rfl ?_)))
        refine Reg.nil (Run.seq (Run.condX rfl (fun hc=>?_) fun hc=>?_))
        ·(exfalso;omega)
        ·(exfalso;omega)
      ·refine Run.region (Cx.Ok.rnd (cx_ok _ _ _)) (Reg.op rfl (Ope.newL rfl ?_))
       refine Reg.op0 (Ope.store rfl rfl hget_hd rfl rfl rfl ?_)
       refine Reg.nil (Run.done ⟨rfl,rfl,_,_,rfl,(hget_tl (by omega)).trans ((hget_tl (by omega)).trans hget_hd),fun lb2=>?_⟩)
       refine Run.block (Run.seq (Run.frz (d:=10) true rfl ((hget_tl (by omega)).trans hget_hd) rfl ?_))
       refine Run.wideS (m:=μ+8) (Nat.le_refl _) (hs_round6 (by omega) (by rfl) (by repeat (first | rfl | refine (hget_tl (by omega)).trans ?_))) ?_
       refine Run.region (Cx.Ok.rnd (cx_ok _ _ _)) (Reg.op rfl (Ope.loadH rfl rfl rfl ?_))
       refine Reg.op rfl (Ope.fld rfl rfl ?_)
       refine Reg.op rfl (Ope.load rfl rfl ?_)
       refine Reg.op rfl (Ope.callM4 (clo:=cloM R) rfl rfl rfl rfl rfl rfl (by omega) rfl (MemoV.bd (VM_bd R) hI1) rfl ihx (fun v es2 clock2 hq=>?_))
       obtain ⟨hq1,tl,htl,rfl⟩:=hq
       first
         | refine Reg.op rfl (Ope.len (m:=0) rfl rfl ?_)
         | refine Reg.op rfl (Ope.len (m:=1) rfl rfl ?_)
       refine Reg.op rfl (Ope.mov rfl ?_)
       refine Reg.nil (Run.block ?_)
       first
         | refine Run.loop (α:=Nat) (fun z=>[(2,.fp (.agg qM)),(9,.ptr 4 0),(10,.fp (rideV d x)),(39,.sl tl []),(40,I ((0:Nat):Int)),(41,I z)]) (Function.const Nat _) (fun z=>z=0) (fun _=>0) 0 ⟨rfl,rfl,rfl,rfl,rfl,rfl,trivial⟩ rfl rfl (fun z hz=>?_)
         | refine Run.loop (α:=Nat) (fun z=>[(2,.fp (.agg qM)),(9,.ptr 4 0),(10,.fp (rideV d x)),(39,.sl tl [eV b]),(40,I ((1:Nat):Int)),(41,I z)]) (pick2 _ (HE (μ+10) [(4,some (.cells [.sl (.own (μ+9)) ((st++[set2 x (d.a+d.b).toNat b]).map eV)])),(μ+9,some .own),(1,some (.map es2 clock2)),(6,some lb2),(5,some .dfr),(0,none),(2,none),(3,some (cloM R))])) (fun z=>z≤1) (fun z=>1 - z) 0 ⟨rfl,rfl,rfl,rfl,rfl,rfl,trivial⟩ rfl (by decide) (fun z hz=>?_)
         | refine Run.loop (α:=Nat) (fun z=>[(2,.fp (.agg qM)),(9,.ptr 4 0),(10,.fp (rideV d x)),(39,.sl tl [eV b]),(40,I ((1:Nat):Int)),(41,I z)]) (pick2 _ (HE (μ+10) [(4,some (.cells [.sl (.own (μ+9)) (([]++[set2 x (d.a+d.b).toNat b]).map eV)])),(μ+9,some .own),(1,some (.map es2 clock2)),(6,some lb2),(5,some .dfr),(0,none),(2,none),(3,some (cloM R))])) (fun z=>z≤1) (fun z=>1 - z) 0 ⟨rfl,rfl,rfl,rfl,rfl,rfl,trivial⟩ rfl (by decide) (fun z hz=>?_)
       rcases (by omega:z=0∨z=1) with rfl | rfl
       ·refine Run.seq (Run.region (Cx.Ok.rnd (cx_ok _ _ _)) (Reg.op rfl (Ope.lt rfl rfl ?_)))
        refine Reg.nil (Run.seq (Run.condX rfl (fun hc=>?_) fun hc=>?_))
        ·refine Run.skip (Run.seq (Run.block (Run.seq (Run.region (Cx.Ok.rnd (cx_ok _ _ _)) (Reg.op rfl (Ope.idxS (m:=0) rfl rfl rfl rfl rfl ?_))))))
         refine Reg.op rfl (Ope.load rfl rfl ?_)
         refine Reg.op rfl (Ope.newL rfl ?_)
         refine Reg.op0 (Ope.store rfl rfl hget_hd rfl rfl rfl ?_)
         refine Reg.nil (Run.frz (d:=12) true rfl hget_hd rfl ?_)
         have hb:=mst_bnd R k (d.then x) b (by rcases hx01 with rfl | rfl<;>simp [Rid.then]<;>omega) (by rcases hx01 with rfl | rfl<;>simp [Rid.then]<;>omega) hcn
         refine Run.drawB (Cx.Ok.rnd (cx_ok _ _ _)) 4 [(0,false,false),(1,true,false),(2,true,false),(3,true,false),(4,true,false),(5,true,true),(6,true,false),(7,true,false),(8,true,false)] (by kernel_rfl) (DraS.opR rfl rfl rfl rfl (StabS.at rfl) (Ope.loadH rfl rfl rfl ?_))
         refine DraS.opQ rfl rfl rfl (Ope.fld rfl rfl ?_)
         refine DraS.opQ rfl rfl rfl (Ope.load rfl rfl ?_)
         refine DraS.opQ rfl rfl rfl (Ope.load rfl rfl ?_)
         refine DraS.opQ rfl rfl rfl (Ope.load rfl rfl ?_)
         refine DraS.opS rfl rfl rfl (Ope.cf rfl rfl (f136 d hd16 x hx01 b hb (by omega)) rfl ?_)
         refine ⟨rfl,?_⟩
         refine DraS.opQ rfl rfl rfl (Ope.bsl rfl rfl rfl rfl ?_)
         first
           | refine DraS.opQ rfl rfl rfl (Ope.apO rfl rfl (by simp) (by simp) (by simp) (by decide) (by simp) (by intro v hv;simp only [List.mem_singleton] at hv;subst hv;exact ⟨rfl,rfl⟩) ?_)
           | refine DraS.opQ rfl rfl rfl (Ope.apP (j:=j+7) rfl rfl (by simp) (by simpa using fun h=>absurd (hI3.2 h) (by simp)) (by repeat (first | exact hget_hd | refine (hget_tl (by omega)).trans ?_)) (by simp;omega) (by simp;omega) (by decide) (by intro v hv;obtain ⟨_,_,rfl⟩:=List.mem_map.1 hv;rfl) (by intro v hv;simp only [List.mem_singleton] at hv;subst hv;exact ⟨rfl,rfl⟩) ?_)
         refine DraS.opQ rfl rfl rfl (Ope.store rfl rfl ((hget_tl (by omega)).trans (by first | rfl | exact (hget_tl (by omega)).trans rfl)) rfl rfl rfl ?_)
         refine DraS.nil (Run.bend ?_)
         first
           | refine Run.wide (m:=μ+10) (l':=[(4,some (.cells [.sl (.own (μ+9)) (([]++[set2 x (d.a+d.b).toNat b]).map eV)])),(μ+9,some .own),(1,some (.map es2 clock2)),(6,some lb2),(5,some .dfr),(0,none),(2,none),(3,some (cloM R))]) (Nat.le_refl _) (Hsub.cons rfl (Hsub.cons ((hget_tl (by omega)).trans hget_hd) (Hsub.cons rfl (Hsub.cons rfl (Hsub.cons rfl (Hsub.cons rfl (Hsub.cons rfl (Hsub.cons rfl Hsub.nil)))))))) ?_
           | refine Run.wide (m:=μ+10) (l':=[(4,some (.cells [.sl (.own (μ+9)) ((st++[set2 x (d.a+d.b).toNat b]).map eV)])),(μ+9,some .own),(1,some (.map es2 clock2)),(6,some lb2),(5,some .dfr),(0,none),(2,none),(3,some (cloM R))]) (Nat.le_refl _) (Hsub.cons (by rw [List.map_append];rfl) (Hsub.cons ((hget_tl (by omega)).trans hget_hd) (Hsub.cons rfl (Hsub.cons rfl (Hsub.cons rfl (Hsub.cons rfl (Hsub.cons rfl (Hsub.cons rfl Hsub.nil)))))))) ?_
         refine Run.region (Cx.Ok.rnd (cx_ok _ _ _)) (Reg.op rfl (Ope.add rfl rfl (by omega) ?_))
         refine Reg.op rfl (Ope.mov rfl ?_)
         exact Reg.nil (Run.lend ⟨1,by decide,by decide,⟨rfl,rfl,rfl,rfl,rfl,rfl,trivial⟩,rfl,rfl⟩)
        ·(exfalso;omega)
       ·refine Run.seq (Run.region (Cx.Ok.rnd (cx_ok _ _ _)) (Reg.op rfl (Ope.lt rfl rfl ?_)))
        refine Reg.nil (Run.seq (Run.condX rfl (fun hc=>?_) fun hc=>?_))
        ·(exfalso;omega)
        ·refine Run.exit (Jmp.code (Jmp.round (Jmp.here (Run.bend ?_))))
         first
           | exact Run.done ⟨rfl,_,_,rfl,by omega,rfl,(es2,clock2,[],none),by show 7≤_;omega,(Hsub.cons rfl (Hsub.cons rfl (Hsub.cons rfl (Hsub.cons rfl (Hsub.cons rfl (Hsub.cons rfl Hsub.nil)))))),hq1,by rw [hsucc,← hI2];rfl,by simp⟩
           | exact Run.done ⟨rfl,_,_,rfl,by omega,rfl,(es2,clock2,st,some j),by show j+8≤_;omega,(Hsub.cons rfl (Hsub.cons rfl (Hsub.cons ((hget_tl (by omega)).trans ((hget_tl (by omega)).trans ((hget_tl (by omega)).trans ((hget_tl (by omega)).trans hget_hd)))) (Hsub.cons rfl (Hsub.cons rfl (Hsub.cons rfl (Hsub.cons rfl Hsub.nil))))))),hq1,by rw [hsucc,← hI2];exact (List.append_nil st).symm,hI3⟩
           | exact Run.done ⟨rfl,_,_,rfl,by omega,rfl,(es2,clock2,[]++[set2 x (d.a+d.b).toNat b],some (μ+2)),by show μ+2+8≤μ+10;omega,(Hsub.cons rfl (Hsub.cons rfl (Hsub.cons ((hget_tl (by omega)).trans hget_hd) (Hsub.cons rfl (Hsub.cons rfl (Hsub.cons rfl (Hsub.cons rfl Hsub.nil))))))),hq1,by rw [hsucc,← hI2];rfl,by simp⟩
           | exact Run.done ⟨rfl,_,_,rfl,by omega,rfl,(es2,clock2,st++[set2 x (d.a+d.b).toNat b],some (μ+2)),by show μ+2+8≤μ+10;omega,(Hsub.cons rfl (Hsub.cons rfl (Hsub.cons ((hget_tl (by omega)).trans hget_hd) (Hsub.cons rfl (Hsub.cons rfl (Hsub.cons rfl (Hsub.cons rfl Hsub.nil))))))),hq1,by rw [hsucc,← hI2];rfl,by simp⟩
      ·refine Run.region (Cx.Ok.rnd (cx_ok _ _ _)) (Reg.op rfl (Ope.newL rfl ?_))
       refine Reg.op0 (Ope.store rfl rfl hget_hd rfl rfl rfl ?_)
       refine Reg.nil (Run.done ⟨rfl,rfl,_,_,rfl,(hget_tl (by omega)).trans ((hget_tl (by omega)).trans hget_hd),fun lb2=>?_⟩)
       refine Run.block (Run.seq (Run.frz (d:=10) true rfl ((hget_tl (by omega)).trans hget_hd) rfl ?_))
       refine Run.wideS (m:=μ+8) (Nat.le_refl _) (hs_round6 (by omega) (by rfl) (by repeat (first | rfl | refine (hget_tl (by omega)).trans ?_))) ?_
       refine Run.region (Cx.Ok.rnd (cx_ok _ _ _)) (Reg.op rfl (Ope.loadH rfl rfl rfl ?_))
       refine Reg.op rfl (Ope.fld rfl rfl ?_)
       refine Reg.op rfl (Ope.load rfl rfl ?_)
       refine Reg.op rfl (Ope.callM4 (clo:=cloM R) rfl rfl rfl rfl rfl rfl (by omega) rfl (MemoV.bd (VM_bd R) hI1) rfl ihx (fun v es2 clock2 hq=>?_))
       obtain ⟨hq1,tl,htl,rfl⟩:=hq
       first
         | refine Reg.op rfl (Ope.len (m:=0) rfl rfl ?_)
         | refine Reg.op rfl (Ope.len (m:=1) rfl rfl ?_)
       refine Reg.op rfl (Ope.mov rfl ?_)
       refine Reg.nil (Run.block ?_)
       first
         | refine Run.loop (α:=Nat) (fun z=>[(2,.fp (.agg qM)),(9,.ptr 4 0),(10,.fp (rideV d x)),(39,.sl tl []),(40,I ((0:Nat):Int)),(41,I z)]) (Function.const Nat _) (fun z=>z=0) (fun _=>0) 0 ⟨rfl,rfl,rfl,rfl,rfl,rfl,trivial⟩ rfl rfl (fun z hz=>?_)
         | refine Run.loop (α:=Nat) (fun z=>[(2,.fp (.agg qM)),(9,.ptr 4 0),(10,.fp (rideV d x)),(39,.sl tl [eV b]),(40,I ((1:Nat):Int)),(41,I z)]) (pick2 _ (HE (μ+10) [(4,some (.cells [.sl (.own (μ+9)) ((st++[set2 x (d.a+d.b).toNat b]).map eV)])),(μ+9,some .own),(1,some (.map es2 clock2)),(6,some lb2),(5,some .dfr),(0,none),(2,none),(3,some (cloM R))])) (fun z=>z≤1) (fun z=>1 - z) 0 ⟨rfl,rfl,rfl,rfl,rfl,rfl,trivial⟩ rfl (by decide) (fun z hz=>?_)
         | refine Run.loop (α:=Nat) (fun z=>[(2,.fp (.agg qM)),(9,.ptr 4 0),(10,.fp (rideV d x)),(39,.sl tl [eV b]),(40,I ((1:Nat):Int)),(41,I z)]) (pick2 _ (HE (μ+10) [(4,some (.cells [.sl (.own (μ+9)) (([]++[set2 x (d.a+d.b).toNat b]).map eV)])),(μ+9,some .own),(1,some (.map es2 clock2)),(6,some lb2),(5,some .dfr),(0,none),(2,none),(3,some (cloM R))])) (fun z=>z≤1) (fun z=>1 - z) 0 ⟨rfl,rfl,rfl,rfl,rfl,rfl,trivial⟩ rfl (by decide) (fun z hz=>?_)
       rcases (by omega:z=0∨z=1) with rfl | rfl
       ·refine Run.seq (Run.region (Cx.Ok.rnd (cx_ok _ _ _)) (Reg.op rfl (Ope.lt rfl rfl ?_)))
        refine Reg.nil (Run.seq (Run.condX rfl (fun hc=>?_) fun hc=>?_))
        ·refine Run.skip (Run.seq (Run.block (Run.seq (Run.region (Cx.Ok.rnd (cx_ok _ _ _)) (Reg.op rfl (Ope.idxS (m:=0) rfl rfl rfl rfl rfl ?_))))))
         refine Reg.op rfl (Ope.load rfl rfl ?_)
         refine Reg.op rfl (Ope.newL rfl ?_)
         refine Reg.op0 (Ope.store rfl rfl hget_hd rfl rfl rfl ?_)
         refine Reg.nil (Run.frz (d:=12) true rfl hget_hd rfl ?_)
         have hb:=mst_bnd R k (d.then x) b (by rcases hx01 with rfl | rfl<;>simp [Rid.then]<;>omega) (by rcases hx01 with rfl | rfl<;>simp [Rid.then]<;>omega) hcn
         refine Run.drawB (Cx.Ok.rnd (cx_ok _ _ _)) 4 [(0,false,false),(1,true,false),(2,true,false),(3,true,false),(4,true,false),(5,true,true),(6,true,false),(7,true,false),(8,true,false)] (by kernel_rfl) (DraS.opR rfl rfl rfl rfl (StabS.at rfl) (Ope.loadH rfl rfl rfl ?_))
         refine DraS.opQ rfl rfl rfl (Ope.fld rfl rfl ?_)
         refine DraS.opQ rfl rfl rfl (Ope.load rfl rfl ?_)
         refine DraS.opQ rfl rfl rfl (Ope.load rfl rfl ?_)
         refine DraS.opQ rfl rfl rfl (Ope.load rfl rfl ?_)
         refine DraS.opS rfl rfl rfl (Ope.cf rfl rfl (f136 d hd16 x hx01 b hb (by omega)) rfl ?_)
         refine ⟨rfl,?_⟩
         refine DraS.opQ rfl rfl rfl (Ope.bsl rfl rfl rfl rfl ?_)
         first
           | refine DraS.opQ rfl rfl rfl (Ope.apO rfl rfl (by simp) (by simp) (by simp) (by decide) (by simp) (by intro v hv;simp only [List.mem_singleton] at hv;subst hv;exact ⟨rfl,rfl⟩) ?_)
           | refine DraS.opQ rfl rfl rfl (Ope.apP (j:=j+7) rfl rfl (by simp) (by simpa using fun h=>absurd (hI3.2 h) (by simp)) (by repeat (first | exact hget_hd | refine (hget_tl (by omega)).trans ?_)) (by simp;omega) (by simp;omega) (by decide) (by intro v hv;obtain ⟨_,_,rfl⟩:=List.mem_map.1 hv;rfl) (by intro v hv;simp only [List.mem_singleton] at hv;subst hv;exact ⟨rfl,rfl⟩) ?_)
         refine DraS.opQ rfl rfl rfl (Ope.store rfl rfl ((hget_tl (by omega)).trans (by first | rfl | exact (hget_tl (by omega)).trans rfl)) rfl rfl rfl ?_)
         refine DraS.nil (Run.bend ?_)
         first
           | refine Run.wide (m:=μ+10) (l':=[(4,some (.cells [.sl (.own (μ+9)) (([]++[set2 x (d.a+d.b).toNat b]).map eV)])),(μ+9,some .own),(1,some (.map es2 clock2)),(6,some lb2),(5,some .dfr),(0,none),(2,none),(3,some (cloM R))]) (Nat.le_refl _) (Hsub.cons rfl (Hsub.cons ((hget_tl (by omega)).trans hget_hd) (Hsub.cons rfl (Hsub.cons rfl (Hsub.cons rfl (Hsub.cons rfl (Hsub.cons rfl (Hsub.cons rfl Hsub.nil)))))))) ?_
           | refine Run.wide (m:=μ+10) (l':=[(4,some (.cells [.sl (.own (μ+9)) ((st++[set2 x (d.a+d.b).toNat b]).map eV)])),(μ+9,some .own),(1,some (.map es2 clock2)),(6,some lb2),(5,some .dfr),(0,none),(2,none),(3,some (cloM R))]) (Nat.le_refl _) (Hsub.cons (by rw [List.map_append];rfl) (Hsub.cons ((hget_tl (by omega)).trans hget_hd) (Hsub.cons rfl (Hsub.cons rfl (Hsub.cons rfl (Hsub.cons rfl (Hsub.cons rfl (Hsub.cons rfl Hsub.nil)))))))) ?_
         refine Run.region (Cx.Ok.rnd (cx_ok _ _ _)) (Reg.op rfl (Ope.add rfl rfl (by omega) ?_))
         refine Reg.op rfl (Ope.mov rfl ?_)
         exact Reg.nil (Run.lend ⟨1,by decide,by decide,⟨rfl,rfl,rfl,rfl,rfl,rfl,trivial⟩,rfl,rfl⟩)
        ·(exfalso;omega)
       ·refine Run.seq (Run.region (Cx.Ok.rnd (cx_ok _ _ _)) (Reg.op rfl (Ope.lt rfl rfl ?_)))
        refine Reg.nil (Run.seq (Run.condX rfl (fun hc=>?_) fun hc=>?_))
        ·(exfalso;omega)
        ·refine Run.exit (Jmp.code (Jmp.round (Jmp.here (Run.bend ?_))))
         first
           | exact Run.done ⟨rfl,_,_,rfl,by omega,rfl,(es2,clock2,[],none),by show 7≤_;omega,(Hsub.cons rfl (Hsub.cons rfl (Hsub.cons rfl (Hsub.cons rfl (Hsub.cons rfl (Hsub.cons rfl Hsub.nil)))))),hq1,by rw [hsucc,← hI2];rfl,by simp⟩
           | exact Run.done ⟨rfl,_,_,rfl,by omega,rfl,(es2,clock2,st,some j),by show j+8≤_;omega,(Hsub.cons rfl (Hsub.cons rfl (Hsub.cons ((hget_tl (by omega)).trans ((hget_tl (by omega)).trans ((hget_tl (by omega)).trans ((hget_tl (by omega)).trans hget_hd)))) (Hsub.cons rfl (Hsub.cons rfl (Hsub.cons rfl (Hsub.cons rfl Hsub.nil))))))),hq1,by rw [hsucc,← hI2];exact (List.append_nil st).symm,hI3⟩
           | exact Run.done ⟨rfl,_,_,rfl,by omega,rfl,(es2,clock2,[]++[set2 x (d.a+d.b).toNat b],some (μ+2)),by show μ+2+8≤μ+10;omega,(Hsub.cons rfl (Hsub.cons rfl (Hsub.cons ((hget_tl (by omega)).trans hget_hd) (Hsub.cons rfl (Hsub.cons rfl (Hsub.cons rfl (Hsub.cons rfl Hsub.nil))))))),hq1,by rw [hsucc,← hI2];rfl,by simp⟩
           | exact Run.done ⟨rfl,_,_,rfl,by omega,rfl,(es2,clock2,st++[set2 x (d.a+d.b).toNat b],some (μ+2)),by show μ+2+8≤μ+10;omega,(Hsub.cons rfl (Hsub.cons rfl (Hsub.cons ((hget_tl (by omega)).trans hget_hd) (Hsub.cons rfl (Hsub.cons rfl (Hsub.cons rfl (Hsub.cons rfl Hsub.nil))))))),hq1,by rw [hsucc,← hI2];rfl,by simp⟩
     ·obtain ⟨es1,clock1,st,ow⟩:=s
      obtain ⟨hI1,hI2,hI3⟩:=hI
      simp only at hI1 hI2 hI3
      rw [List.length_map] at hI2
      subst hI2
      obtain ⟨tl,htl,hj⟩:=joinedM_ok R hm16 k d (by omega) hk
      refine Run.bend (Run.seq ?_)
      refine Run.wideS (m:=m) (l':=[(5,some .dfr),(4,some (.cells [.sl (tlP ow) ((stepsM R k d (nextX R d 0).length).map eV)])),(1,some (.map es1 clock1)),(0,none),(2,none),(3,some (cloM R))]) (Nat.le_refl _) (by cases ow with
          | none=>exact hs_refl
          | some j=>exact hs_keep (hs_keep (hs_skip hs_refl rfl))) ?_
      refine Run.weakS (i:=4) rfl ?_
      refine Run.drawS (cx_ok _ _ _) (fun _=>True) [(0,false,false),(1,false,false),(2,true,false),(3,true,false),(4,true,false),(5,true,true),(6,true,false)] (by kernel_rfl) (DraS.opR rfl rfl rfl trivial (StabS.frozen rfl) (Ope.load rfl rfl ?_))
      refine DraS.opR rfl rfl rfl trivial (StabS.frozen rfl) (Ope.load rfl rfl ?_)
      refine DraS.opQ rfl rfl rfl (Ope.fld rfl rfl ?_)
      refine DraS.opQ rfl rfl rfl (Ope.load rfl rfl ?_)
      refine DraS.opQ rfl rfl rfl (Ope.load rfl rfl ?_)
      refine DraS.opS rfl rfl rfl (Ope.cf rfl rfl hj (by simp only [List.nil_append,List.append_nil,PV.bds,bd_sl (f:=eV) (tl:=.no) rfl (fun _=>rfl),Bool.and_true];rfl) ?_)
      refine ⟨trivial,?_⟩
      obtain ⟨r,hr3,hr4⟩:=MemoV.find d es1 0 hI1
      refine DraS.opQ rfl rfl rfl (Ope.mset rfl rfl rfl (keyA_of d) rfl (keyA_check d) hr3 (fun j v hjv=>by obtain ⟨_,e,h1,h2,_⟩:=hr4 j v hjv;exact ⟨e,by simpa using h1,by rw [h2];exact keyA_same d⟩) (fun j v hjv=>?_) (fun hnn=>?_))
      ·refine DraS.nil (Run.seq ?_)
       obtain ⟨es3,he3,hmem,hhas⟩:∃ es3,es3=_∧MemoV (VM R) es3∧∃ e∈es3,e.1=keyA d:=by
         first
           | exact ⟨_,rfl,MemoV.set (j:=j) hI1 htl,psetAt_has (by obtain ⟨_,e,h1,_⟩:=hr4 j v hjv;have:=(List.getElem?_eq_some_iff.1 h1).1;omega)⟩
           | exact ⟨_,rfl,MemoV.app (clock:=clock1) hI1 htl,_,List.mem_append_right _ (List.mem_singleton.2 rfl),rfl⟩
       obtain ⟨jj,vv,hf1,hf2⟩:=MemoV.has d _ 0 hmem hhas
       obtain ⟨tl2,htl2,rfl⟩:=MemoV.val hmem hf2
       rw [he3] at hf1 hmem
       refine Run.region (cx_ok _ _ _) (Reg.op rfl (Ope.load rfl rfl ?_))
       refine Reg.op rfl (Ope.load rfl rfl ?_)
       refine Reg.op rfl (Ope.look rfl rfl (keyA_of d) rfl (keyA_check d) hf1 ?_)
       refine Reg.op rfl (Ope.asg rfl ?_)
       refine Reg.nil (Run.ret ?_)
       first
         | exact finC_retD rfl (.tmp rfl .nil) (VM_bd4 htl2) (by rw [HE_cut4 rfl rfl rfl rfl];exact ok4 (MemoV.bd (VM_bd R) hmem) rfl) ⟨_,_,HE_cut4 rfl rfl rfl rfl,hmem,tl2,htl2,rfl⟩
         | obtain ⟨_, e0, he1, he2, he3⟩ := hr2 jj vv rfl
           obtain ⟨tl,htl,rfl⟩:=MemoV.val hm ⟨e0,List.mem_of_getElem? he1,he2,he3⟩
           exact finC_ret (.tmp rfl .nil) (VM_bd4 htl) (by rw [HE_cut4 rfl rfl rfl rfl];exact ok4 (MemoV.bd (VM_bd R) hm) rfl) ⟨es,clock,HE_cut4 rfl rfl rfl rfl,hm,tl,htl,rfl⟩
      ·refine DraS.nil (Run.seq ?_)
       obtain ⟨es3,he3,hmem,hhas⟩:∃ es3,es3=_∧MemoV (VM R) es3∧∃ e∈es3,e.1=keyA d:=by
         first
           | exact ⟨_,rfl,MemoV.set (j:=j) hI1 htl,psetAt_has (by obtain ⟨_,e,h1,_⟩:=hr4 j v hjv;have:=(List.getElem?_eq_some_iff.1 h1).1;omega)⟩
           | exact ⟨_,rfl,MemoV.app (clock:=clock1) hI1 htl,_,List.mem_append_right _ (List.mem_singleton.2 rfl),rfl⟩
       obtain ⟨jj,vv,hf1,hf2⟩:=MemoV.has d _ 0 hmem hhas
       obtain ⟨tl2,htl2,rfl⟩:=MemoV.val hmem hf2
       rw [he3] at hf1 hmem
       refine Run.region (cx_ok _ _ _) (Reg.op rfl (Ope.load rfl rfl ?_))
       refine Reg.op rfl (Ope.load rfl rfl ?_)
       refine Reg.op rfl (Ope.look rfl rfl (keyA_of d) rfl (keyA_check d) hf1 ?_)
       refine Reg.op rfl (Ope.asg rfl ?_)
       refine Reg.nil (Run.ret ?_)
       first
         | exact finC_retD rfl (.tmp rfl .nil) (VM_bd4 htl2) (by rw [HE_cut4 rfl rfl rfl rfl];exact ok4 (MemoV.bd (VM_bd R) hmem) rfl) ⟨_,_,HE_cut4 rfl rfl rfl rfl,hmem,tl2,htl2,rfl⟩
         | obtain ⟨_, e0, he1, he2, he3⟩ := hr2 jj vv rfl
           obtain ⟨tl,htl,rfl⟩:=MemoV.val hm ⟨e0,List.mem_of_getElem? he1,he2,he3⟩
           exact finC_ret (.tmp rfl .nil) (VM_bd4 htl) (by rw [HE_cut4 rfl rfl rfl rfl];exact ok4 (MemoV.bd (VM_bd R) hm) rfl) ⟨es,clock,HE_cut4 rfl rfl rfl rfl,hm,tl,htl,rfl⟩
   ·refine Reg.op rfl (Ope.mov rfl ?_)
    refine Reg.op rfl (Ope.ext rfl rfl ?_)
    refine Reg.op rfl (Ope.ext rfl rfl ?_)
    refine Reg.op rfl (Ope.asg rfl ?_)
    refine Reg.op rfl (Ope.asg rfl ?_)
    refine Reg.nil (Run.seq (Run.region (cx_ok _ _ _) (Reg.op rfl (Ope.mov rfl ?_))))
    refine Reg.nil (Run.condX rfl (fun hc=>?_) fun hc=>?_)
    ·refine Run.seq (Run.region (cx_ok _ _ _) (Reg.op rfl (Ope.mov rfl ?_)))
     refine Reg.op rfl (Ope.asg rfl ?_)
     refine Reg.nil (Run.ret (Jmp.code ?_))
     first
       | exact finC_retD rfl (.tmp rfl .nil) (VM_bd4 htl2) (by rw [HE_cut4 rfl rfl rfl rfl];exact ok4 (MemoV.bd (VM_bd R) hmem) rfl) ⟨_,_,HE_cut4 rfl rfl rfl rfl,hmem,tl2,htl2,rfl⟩
       | obtain ⟨_, e0, he1, he2, he3⟩ := hr2 jj vv rfl
         obtain ⟨tl,htl,rfl⟩:=MemoV.val hm ⟨e0,List.mem_of_getElem? he1,he2,he3⟩
         exact finC_ret (.tmp rfl .nil) (VM_bd4 htl) (by rw [HE_cut4 rfl rfl rfl rfl];exact ok4 (MemoV.bd (VM_bd R) hm) rfl) ⟨es,clock,HE_cut4 rfl rfl rfl rfl,hm,tl,htl,rfl⟩
    ·(cases hc;done)
theorem f180 (R:Rst) (hR:R.ok):∀ (k i:Nat) (d:Rid) (es:List (AV×PV×Nat)) (clock:Nat),d.ok i→i+k≤16→d.a+d.b+k=R.m→MemoV (VM R) es →
    PCall P0 180 (.agg d.cells::capsM R) (HE 4 [(1,some (.map es clock)),(3,some (cloM R))]) (fun v h'=>∃ es' clock',h'=HE 4 [(1,some (.map es' clock')),(3,some (cloM R))]∧(MemoV (VM R) es'∧∃ tl:Tail,tl.isOwn=false∧v=.sl tl (VM R d))) fun _ _=>False
  | 0,i,d,es,clock,hd,hi,hk,hm=>f180z R hR i d es clock hd (by omega) (by simpa using hk) hm
  | k+1,i,d,es,clock,hd,hi,hk,hm=>f180s R hR k i (fun d' es' c' h1 h2 h3=>f180 R hR k (i+1) d' es' c' h1 (by omega) h2 h3) d es clock hd hi hk hm
end Go.Pv
namespace Go.Pv
open Go.Proofs Go.Am
set_option maxRecDepth 10000
def Rst.must (R:Rst):Option (Nat×Nat):=mst R R.m zeroRid
def mustV:Option (Nat×Nat)→PV
  | none=>.tup [eV (0,0),B false]
  | some p=>.tup [eV p,B true]
theorem f134 (R:Rst) (hR:R.ok):Fn P0 134 [.agg R.cells,.agg qM] (mustV R.must):=by
  have h180:=f180 R hR R.m 0 zeroRid [] 0 (by simp [Rid.ok,zeroRid]) (by have:=hR.1;omega) (by simp [zeroRid]) (fun e he=>by cases he)
  have hVz:VM R zeroRid=R.must.toList.map eV:=VM_at (k:=R.m) (by simp [zeroRid]) (by decide)
  rw [hVz] at h180
  generalize R.must=c at *
  rcases c with _ | c
  all_goals
    refine PFun.of (C:=c134) (cx_ok _ _ _) rfl (fn:=Tryz.f134) (by kernel_rfl) (c:=_) rfl rfl rfl ?_
    refine Run.seq (Run.region (cx_ok _ _ _) (Reg.op rfl (Ope.boxF rfl rfl ?_)))
    refine Reg.op rfl (Ope.boxF rfl rfl ?_)
    refine Reg.op rfl (Ope.newL rfl ?_)
    refine Reg.op rfl (Ope.asg rfl ?_)
    refine Reg.nil (Run.seq (Run.region (cx_ok _ _ _) (Reg.op rfl (Ope.mmap ?_))))
    refine Reg.op rfl (Ope.newL rfl ?_)
    refine Reg.op0 (Ope.store rfl rfl hget_hd rfl rfl rfl ?_)
    refine Reg.nil (Run.seq (Run.frz (d:=6) false rfl hget_hd rfl ?_))
    refine Run.region (cx_ok _ _ _) (Reg.op rfl (Ope.newL rfl ?_))
    refine Reg.nil (Run.seq (Run.region (cx_ok _ _ _) (Reg.op rfl (Ope.mkf rfl rfl ?_))))
    refine Reg.op0 (Ope.store rfl rfl hget_hd rfl rfl rfl ?_)
    refine Reg.nil (Run.seq (Run.seq (Run.region (cx_ok _ _ _) (Reg.op rfl (Ope.loadH rfl rfl rfl ?_)))))
    refine Reg.op rfl (Ope.bld rfl rfl ?_)
    refine Reg.op rfl (Ope.callM4h (clo:=cloM R) (es:=[]) (clock:=0) rfl rfl rfl rfl rfl rfl rfl (by omega) rfl (fun e he=>by cases he) rfl h180 (fun v es2 clock2 hq=>?_))
    obtain ⟨hq1,tl,htl,rfl⟩:=hq
    first
      | refine Reg.op rfl (Ope.len (m:=0) rfl rfl ?_)
      | refine Reg.op rfl (Ope.len (m:=1) rfl rfl ?_)
    refine Reg.op rfl (Ope.mov rfl ?_)
    refine Reg.nil (Run.block ?_)
    first
      | refine Run.loop (α:=Nat) (fun z=>[(4,.ptr 0 0),(5,B false),(14,.sl tl []),(15,I ((0:Nat):Int)),(16,I z)]) (Function.const Nat _) (fun z=>z=0) (fun _=>0) 0 ⟨rfl,rfl,rfl,rfl,rfl,trivial⟩ rfl rfl (fun z hz=>?_)
      | refine Run.loop (α:=Nat) (fun z=>[(4,.ptr 0 0),(5,B false),(14,.sl tl [eV c]),(15,I ((1:Nat):Int)),(16,I z)]) (Function.const Nat _) (fun z=>z=0) (fun _=>0) 0 ⟨rfl,rfl,rfl,rfl,rfl,trivial⟩ rfl rfl (fun z hz=>?_)
    subst hz
    refine Run.seq (Run.region (cx_ok _ _ _) (Reg.op rfl (Ope.lt rfl rfl ?_)))
    refine Reg.nil (Run.seq (Run.condX rfl (fun hc=>?_) fun hc=>?_))
    ·first
     |(exfalso;omega)
     |refine Run.skip (Run.seq (Run.block (Run.seq (Run.region (cx_ok _ _ _) (Reg.op rfl (Ope.idxS (m:=0) rfl rfl rfl rfl rfl ?_))))))
      refine Reg.op rfl (Ope.load rfl rfl ?_)
      refine Reg.op rfl (Ope.newL rfl ?_)
      refine Reg.op0 (Ope.store rfl rfl hget_hd rfl rfl rfl ?_)
      refine Reg.nil (Run.seq (Run.region (cx_ok _ _ _) (Reg.op rfl (Ope.load rfl rfl ?_))))
      refine Reg.op0 (Ope.store rfl rfl rfl rfl rfl rfl ?_)
      refine Reg.op rfl (Ope.asg rfl ?_)
      exact Reg.nil (Run.ret (Jmp.retB (Jmp.code (Jmp.round (Jmp.retB (Jmp.code (fin_ret (.cell rfl rfl (.tmp rfl .nil)) rfl rfl)))))))
    ·first
     |(exfalso;omega)
     |refine Run.exit (Jmp.code (Jmp.round (Jmp.here (Run.seq (Run.region (cx_ok _ _ _) (Reg.op rfl (Ope.load rfl rfl ?_)))))))
      refine Reg.op0 (Ope.store rfl rfl rfl rfl rfl rfl ?_)
      refine Reg.op rfl (Ope.asg rfl ?_)
      exact Reg.nil (Run.ret (fin_ret (.cell rfl rfl (.tmp rfl .nil)) rfl rfl))
theorem d179n {n:Nat} {l:HL} {K:PH→Prop} (hK:K (HE n l)):PDefer A0 P0 179 [.ptr 1 0] (.lit .nilifc) (HE n l) K:=by
  refine PDefer.of (C:=c179) (fd:=Tryz.f179) (by kernel_rfl) rfl rfl rfl rfl rfl rfl rfl rfl rfl rfl ?_
  refine Run.block (Run.seq (Run.region (cx_ok _ _ _) ?_))
  first | refine Reg.op rfl (Ope.eq rfl rfl ?_) | refine Reg.op rfl (Ope.eqI rfl rfl ?_) | refine Reg.op rfl (Ope.eqN rfl rfl rfl ?_)
  refine Reg.nil (Run.condX rfl (fun hc=>?_) fun hc=>?_)
  ·first
   |exact absurd hc (by decide)
   |refine Run.region (cx_ok _ _ _) (Reg.op rfl (Ope.asg rfl ?_))
    exact Reg.nil (Run.bend (Run.done ⟨.inl rfl,trivial,hK⟩))
  ·first
   |exact absurd hc (by decide)
   |refine Run.seq (Run.region (cx_ok _ _ _) ?_)
    first | refine Reg.op rfl (Ope.tasY rfl rfl ?_) | refine Reg.op rfl (Ope.tasN rfl rfl ?_)
    refine Reg.op rfl (Ope.ext rfl rfl ?_)
    refine Reg.op rfl (Ope.ext rfl rfl ?_)
    refine Reg.nil (Run.condX rfl (fun hc=>?_) fun hc=>?_)
    ·first
     |exact absurd hc (by decide)
     |refine Run.seq (Run.region (cx_ok _ _ _) (Reg.op rfl (Ope.asg rfl ?_)))
      refine Reg.nil (Run.region (cx_ok _ _ _) (Reg.op rfl (Ope.mov rfl ?_)))
      refine Reg.op0 (Ope.store rfl rfl rfl rfl rfl rfl ?_)
      exact Reg.nil (Run.bend (Run.done ⟨.inl rfl,trivial,hK⟩))
    ·first
     |exact absurd hc (by decide)
     |refine Run.seq (Run.region (cx_ok _ _ _) (Reg.op rfl (Ope.asg rfl ?_)))
      refine Reg.nil (Run.region (cx_ok _ _ _) (Reg.op0 (Ope.store rfl rfl rfl rfl rfl rfl ?_)))
      exact Reg.nil (Run.bend (Run.done ⟨.inl rfl,trivial,hK⟩))
theorem d179e {n:Nat} {l:HL} {K:PH→Prop} {k z:Int} (hz:hget l 1=some (.cells [I z])) (hK:K (HE n ((1,some (.cells [I k]))::l))):PDefer A0 P0 179 [.ptr 1 0] (.ifc 30 (I k)) (HE n l) K:=by
  refine PDefer.of (C:=c179) (fd:=Tryz.f179) (by kernel_rfl) rfl rfl rfl rfl rfl rfl rfl rfl rfl rfl ?_
  refine Run.block (Run.seq (Run.region (cx_ok _ _ _) ?_))
  first | refine Reg.op rfl (Ope.eq rfl rfl ?_) | refine Reg.op rfl (Ope.eqI rfl rfl ?_) | refine Reg.op rfl (Ope.eqN rfl rfl rfl ?_)
  refine Reg.nil (Run.condX rfl (fun hc=>?_) fun hc=>?_)
  ·first
   |exact absurd hc (by decide)
   |refine Run.region (cx_ok _ _ _) (Reg.op rfl (Ope.asg rfl ?_))
    exact Reg.nil (Run.bend (Run.done ⟨.inl rfl,trivial,hK⟩))
  ·first
   |exact absurd hc (by decide)
   |refine Run.seq (Run.region (cx_ok _ _ _) ?_)
    first | refine Reg.op rfl (Ope.tasY rfl rfl ?_) | refine Reg.op rfl (Ope.tasN rfl rfl ?_)
    refine Reg.op rfl (Ope.ext rfl rfl ?_)
    refine Reg.op rfl (Ope.ext rfl rfl ?_)
    refine Reg.nil (Run.condX rfl (fun hc=>?_) fun hc=>?_)
    ·first
     |exact absurd hc (by decide)
     |refine Run.seq (Run.region (cx_ok _ _ _) (Reg.op rfl (Ope.asg rfl ?_)))
      refine Reg.nil (Run.region (cx_ok _ _ _) (Reg.op rfl (Ope.mov rfl ?_)))
      refine Reg.op0 (Ope.store rfl rfl hz rfl rfl rfl ?_)
      exact Reg.nil (Run.bend (Run.done ⟨.inl rfl,trivial,hK⟩))
    ·first
     |exact absurd hc (by decide)
     |refine Run.seq (Run.region (cx_ok _ _ _) (Reg.op rfl (Ope.asg rfl ?_)))
      refine Reg.nil (Run.region (cx_ok _ _ _) (Reg.op0 (Ope.store rfl rfl rfl rfl rfl rfl ?_)))
      exact Reg.nil (Run.bend (Run.done ⟨.inl rfl,trivial,hK⟩))
theorem f132ok {fa:Nat} {caps:List PV} {a b:Int} (hf:Fn P0 fa caps (.agg [I a,I b])) (hb:PV.bds 0 caps=true):Fn P0 132 [.fn (.func fa) [] caps] (.tup [.agg [I a,I b],I 0]):=by
  unfold Fn PFun
  show PCall P0 132 _ (HE 0 []) _ _
  refine PCall.ofT (C:=c132) (cx_ok _ _ _) (fn:=Tryz.f132) (by kernel_rfl) (c:=_) rfl rfl ?_
  refine Til.seq rfl rfl ?_
  refine Run.region (cx_ok _ _ _) ?_
  refine Reg.op rfl (Ope.newL rfl ?_)
  refine Reg.op rfl (Ope.newL rfl ?_)
  refine Reg.nil ?_
  refine Run.done ⟨rfl,rfl,?_⟩
  refine Til.defer (cx_ok _ _ _) rfl rfl (by kernel_rfl) [(2,.ptr 0 0),(3,.ptr 1 0)] rfl rfl rfl rfl rfl rfl rfl rfl (Ope.mkf rfl rfl ⟨rfl,rfl⟩) rfl rfl ⟨rfl,rfl,trivial⟩ ?_
  refine Reg.op rfl (Ope.mov rfl ?_)
  refine Reg.op rfl (Ope.cf rfl rfl (by simpa using hf) (by simpa using hb) ?_)
  refine Reg.op0 (Ope.store rfl rfl rfl rfl rfl rfl ?_)
  refine Reg.op0 (Ope.store rfl rfl rfl rfl rfl rfl ?_)
  refine Reg.nil ?_
  refine Run.done ⟨rfl,trivial,d179n ?_⟩
  exact ResE.ofF (.cell rfl rfl (.cell rfl rfl .nil)) rfl rfl
theorem f132er {fa:Nat} {caps:List PV} {k:Int} (hf:Pan P0 fa caps (.ifc 30 (I k))) (hb:PV.bds 0 caps=true):Fn P0 132 [.fn (.func fa) [] caps] (.tup [.agg [I 0,I 0],I k]):=by
  unfold Fn PFun
  show PCall P0 132 _ (HE 0 []) _ _
  refine PCall.ofT (C:=c132) (cx_ok _ _ _) (fn:=Tryz.f132) (by kernel_rfl) (c:=_) rfl rfl ?_
  refine Til.seq rfl rfl ?_
  refine Run.region (cx_ok _ _ _) ?_
  refine Reg.op rfl (Ope.newL rfl ?_)
  refine Reg.op rfl (Ope.newL rfl ?_)
  refine Reg.nil ?_
  refine Run.done ⟨rfl,rfl,?_⟩
  refine Til.defer (cx_ok _ _ _) rfl rfl (by kernel_rfl) [(2,.ptr 0 0),(3,.ptr 1 0)] rfl rfl rfl rfl rfl rfl rfl rfl (Ope.mkf rfl rfl ⟨rfl,rfl⟩) rfl rfl ⟨rfl,rfl,trivial⟩ ?_
  refine Reg.op rfl (Ope.mov rfl ?_)
  refine Reg.op rfl (Ope.cp rfl rfl (by simpa using hf) (by simpa using hb) ⟨trivial,d179e rfl ?_⟩)
  exact ResE.ofF (.cell rfl rfl (.cell rfl rfl .nil)) rfl rfl
theorem f133b (R:Rst) (hR:R.ok) (hv:validR R.m R.o0 R.t0 R.r0 R.f0 R.o1 R.t1 R.r1 R.f1=true) (hn:R.must=none):Pan P0 133 [.fp (.agg R.cells),.fp (B true),.fp (.agg qM)] (.ifc 30 (I 4)):=by
  have h134:=f134 R hR
  rw [hn] at h134
  refine PFun.of (C:=c133) (cx_ok _ _ _) rfl (fn:=Tryz.f133) (by kernel_rfl) (c:=_) rfl rfl rfl ?_
  refine Run.seq (Run.region (cx_ok _ _ _) (Reg.op rfl (Ope.newL rfl ?_)))
  refine Reg.nil (Run.seq (Run.region (cx_ok _ _ _) (Reg.op rfl (Ope.load rfl rfl ?_))))
  refine Reg.op rfl (Ope.cf rfl rfl (f54t _ _ _ _ _ _ _ _ _ hv) rfl ?_)
  refine Reg.op rfl (Ope.newL rfl ?_)
  refine Reg.op0 (Ope.store rfl rfl hget_hd rfl rfl rfl ?_)
  refine Reg.nil (Run.seq (Run.region (cx_ok _ _ _) (Reg.op rfl (Ope.load rfl rfl ?_))))
  refine Reg.op rfl (Ope.cf rfl rfl (f55t' _ rfl) rfl ?_)
  refine Reg.nil (Run.seq (Run.region (cx_ok _ _ _) (Reg.op rfl (Ope.load rfl rfl ?_))))
  refine Reg.op rfl (Ope.load rfl rfl ?_)
  refine Reg.op rfl (Ope.cf rfl rfl (h134) rfl ?_)
  refine Reg.op rfl (Ope.mov rfl ?_)
  refine Reg.op rfl (Ope.ext rfl rfl ?_)
  refine Reg.op rfl (Ope.ext rfl rfl ?_)
  refine Reg.op rfl (Ope.newL rfl ?_)
  refine Reg.op0 (Ope.store rfl rfl hget_hd rfl rfl rfl ?_)
  refine Reg.op rfl (Ope.asg rfl ?_)
  refine Reg.nil (Run.seq (Run.region (cx_ok _ _ _) (Reg.op rfl (Ope.mov rfl ?_))))
  refine Reg.op rfl (Ope.cp rfl rfl (f55f' _ rfl) rfl (fin_panic rfl rfl))
theorem f133c (R:Rst) (hR:R.ok) (hv:validR R.m R.o0 R.t0 R.r0 R.f0 R.o1 R.t1 R.r1 R.f1=true) (p:Nat×Nat) (hn:R.must=some p):Fn P0 133 [.fp (.agg R.cells),.fp (B true),.fp (.agg qM)] (eV p):=by
  have h134:=f134 R hR
  rw [hn] at h134
  refine PFun.of (C:=c133) (cx_ok _ _ _) rfl (fn:=Tryz.f133) (by kernel_rfl) (c:=_) rfl rfl rfl ?_
  refine Run.seq (Run.region (cx_ok _ _ _) (Reg.op rfl (Ope.newL rfl ?_)))
  refine Reg.nil (Run.seq (Run.region (cx_ok _ _ _) (Reg.op rfl (Ope.load rfl rfl ?_))))
  refine Reg.op rfl (Ope.cf rfl rfl (f54t _ _ _ _ _ _ _ _ _ hv) rfl ?_)
  refine Reg.op rfl (Ope.newL rfl ?_)
  refine Reg.op0 (Ope.store rfl rfl hget_hd rfl rfl rfl ?_)
  refine Reg.nil (Run.seq (Run.region (cx_ok _ _ _) (Reg.op rfl (Ope.load rfl rfl ?_))))
  refine Reg.op rfl (Ope.cf rfl rfl (f55t' _ rfl) rfl ?_)
  refine Reg.nil (Run.seq (Run.region (cx_ok _ _ _) (Reg.op rfl (Ope.load rfl rfl ?_))))
  refine Reg.op rfl (Ope.load rfl rfl ?_)
  refine Reg.op rfl (Ope.cf rfl rfl (h134) rfl ?_)
  refine Reg.op rfl (Ope.mov rfl ?_)
  refine Reg.op rfl (Ope.ext rfl rfl ?_)
  refine Reg.op rfl (Ope.ext rfl rfl ?_)
  refine Reg.op rfl (Ope.newL rfl ?_)
  refine Reg.op0 (Ope.store rfl rfl hget_hd rfl rfl rfl ?_)
  refine Reg.op rfl (Ope.asg rfl ?_)
  refine Reg.nil (Run.seq (Run.region (cx_ok _ _ _) (Reg.op rfl (Ope.mov rfl ?_))))
  refine Reg.op rfl (Ope.cf rfl rfl (f55t' _ rfl) rfl ?_)
  refine Reg.nil (Run.seq (Run.region (cx_ok _ _ _) (Reg.op rfl (Ope.load rfl rfl ?_))))
  refine Reg.op0 (Ope.store rfl rfl rfl rfl rfl rfl ?_)
  exact Reg.nil (Run.ret (fin_ret (.cell rfl rfl .nil) rfl rfl))
theorem f74 (h a0 b0 c0 d0 a1 b1 c1 d1:Int) (a b k:Int) (hf:Fn P0 132 [.fn (.func 133) [] [.fp (.agg [I h,I a0,I b0,I c0,I d0,I a1,I b1,I c1,I d1]),.fp (B true),.fp (.agg qM)]] (.tup [.agg [I a,I b],I k])) :
    Fn P0 74 [.agg [I h,I a0,I b0,I c0,I d0,I a1,I b1,I c1,I d1],B true,.agg qM] (.tup [.agg [I a,I b],I k]):=by
  refine PFun.of (C:=c74) (cx_ok _ _ _) rfl (fn:=Tryz.f74) (by kernel_rfl) (c:=_) rfl rfl rfl ?_
  refine Run.seq (Run.region (cx_ok _ _ _) (Reg.op rfl (Ope.boxF rfl rfl ?_)))
  refine Reg.op rfl (Ope.boxF rfl rfl ?_)
  refine Reg.op rfl (Ope.boxF rfl rfl ?_)
  refine Reg.op rfl (Ope.newL rfl ?_)
  refine Reg.op rfl (Ope.asg rfl ?_)
  refine Reg.nil (Run.seq (Run.region (cx_ok _ _ _) (Reg.op rfl (Ope.mkf rfl rfl ?_))))
  refine Reg.op rfl (Ope.cf rfl rfl (hf) rfl ?_)
  refine Reg.op rfl (Ope.ext rfl rfl ?_)
  refine Reg.op rfl (Ope.ext rfl rfl ?_)
  refine Reg.op0 (Ope.store rfl rfl rfl rfl rfl rfl ?_)
  refine Reg.op rfl (Ope.asg rfl ?_)
  exact Reg.nil (Run.ret (fin_ret (.cell rfl rfl (.tmp rfl .nil)) rfl rfl))
theorem f29 (h a0 b0 c0 d0 a1 b1 c1 d1:Int) (a b k:Int) (hf:Fn P0 132 [.fn (.func 133) [] [.fp (.agg [I h,I a0,I b0,I c0,I d0,I a1,I b1,I c1,I d1]),.fp (B true),.fp (.agg qM)]] (.tup [.agg [I a,I b],I k])) :
    Fn P0 29 [.agg [I h,I a0,I b0,I c0,I d0,I a1,I b1,I c1,I d1]] (.tup [I a,I b,I k]):=by
  refine PFun.of (C:=c29) (cx_ok _ _ _) rfl (fn:=Tryz.f29) (by kernel_rfl) (c:=_) rfl rfl rfl ?_
  refine Run.seq (Run.region (cx_ok _ _ _) (Reg.op rfl (Ope.boxF rfl rfl ?_)))
  refine Reg.op rfl (Ope.asg rfl ?_)
  refine Reg.op rfl (Ope.asg rfl ?_)
  refine Reg.op rfl (Ope.asg rfl ?_)
  refine Reg.nil (Run.seq (Run.drawL (cx_ok _ _ _) [[(0,false),(1,true),(2,true),(3,true),(4,true),(5,true),(6,true),(7,true),(8,true)],[(0,false),(1,true),(6,true),(2,true),(3,true),(4,true),(5,true),(7,true),(8,true)],[(0,false),(6,true),(1,true),(2,true),(3,true),(4,true),(5,true),(7,true),(8,true)]] (by kernel_rfl) ⟨?_,?_,?_,trivial⟩))
  ·refine Dra.op' rfl rfl rfl (.load rfl) (Ope.load rfl rfl ?_)
   refine Dra.op' rfl rfl rfl .sure (Ope.cf rfl rfl (f75) rfl ?_)
   refine Dra.op' rfl rfl rfl .sure (Ope.cf rfl rfl (f74 _ _ _ _ _ _ _ _ _ _ _ _ hf) rfl ?_)
   refine Dra.op' rfl rfl rfl .sure (Ope.mov rfl ?_)
   refine Dra.op' rfl rfl rfl .sure (Ope.ext rfl rfl ?_)
   refine Dra.op' rfl rfl rfl .sure (Ope.ext rfl rfl ?_)
   refine Dra.op' rfl rfl rfl .sure (Ope.newL rfl ?_)
   refine Dra.op' rfl rfl rfl .sure (Ope.store rfl rfl rfl rfl rfl rfl ?_)
   refine Dra.op' rfl rfl rfl .sure (Ope.asg rfl ?_)
   refine Dra.nil (Run.seq (Run.draw (cx_ok _ _ _) [(0,true),(1,true),(2,true),(3,true),(4,true),(5,true),(6,true),(7,true)] (by kernel_rfl) (Dra.op' rfl rfl rfl .sure (Ope.idxA rfl rfl rfl rfl ?_))))
   refine Dra.op' rfl rfl rfl .sure (Ope.load rfl rfl ?_)
   refine Dra.op' rfl rfl rfl .sure (Ope.idxA rfl rfl rfl rfl ?_)
   refine Dra.op' rfl rfl rfl .sure (Ope.load rfl rfl ?_)
   refine Dra.op' rfl rfl rfl .sure (Ope.mov rfl ?_)
   refine Dra.op' rfl rfl rfl .sure (Ope.asg rfl ?_)
   refine Dra.op' rfl rfl rfl .sure (Ope.asg rfl ?_)
   refine Dra.op' rfl rfl rfl .sure (Ope.asg rfl ?_)
   exact Dra.nil (Run.ret (fin_ret (.tmp rfl (.tmp rfl (.tmp rfl .nil))) rfl rfl))
  ·refine Dra.op' rfl rfl rfl (.load rfl) (Ope.load rfl rfl ?_)
   refine Dra.op' rfl rfl rfl .sure (Ope.cf rfl rfl (f75) rfl ?_)
   refine Dra.op' rfl rfl rfl .sure (Ope.newL rfl ?_)
   refine Dra.op' rfl rfl rfl .sure (Ope.cf rfl rfl (f74 _ _ _ _ _ _ _ _ _ _ _ _ hf) rfl ?_)
   refine Dra.op' rfl rfl rfl .sure (Ope.mov rfl ?_)
   refine Dra.op' rfl rfl rfl .sure (Ope.ext rfl rfl ?_)
   refine Dra.op' rfl rfl rfl .sure (Ope.ext rfl rfl ?_)
   refine Dra.op' rfl rfl rfl .sure (Ope.store rfl rfl rfl rfl rfl rfl ?_)
   refine Dra.op' rfl rfl rfl .sure (Ope.asg rfl ?_)
   refine Dra.nil (Run.seq (Run.draw (cx_ok _ _ _) [(0,true),(1,true),(2,true),(3,true),(4,true),(5,true),(6,true),(7,true)] (by kernel_rfl) (Dra.op' rfl rfl rfl .sure (Ope.idxA rfl rfl rfl rfl ?_))))
   refine Dra.op' rfl rfl rfl .sure (Ope.load rfl rfl ?_)
   refine Dra.op' rfl rfl rfl .sure (Ope.idxA rfl rfl rfl rfl ?_)
   refine Dra.op' rfl rfl rfl .sure (Ope.load rfl rfl ?_)
   refine Dra.op' rfl rfl rfl .sure (Ope.mov rfl ?_)
   refine Dra.op' rfl rfl rfl .sure (Ope.asg rfl ?_)
   refine Dra.op' rfl rfl rfl .sure (Ope.asg rfl ?_)
   refine Dra.op' rfl rfl rfl .sure (Ope.asg rfl ?_)
   exact Dra.nil (Run.ret (fin_ret (.tmp rfl (.tmp rfl (.tmp rfl .nil))) rfl rfl))
  ·refine Dra.op' rfl rfl rfl (.load rfl) (Ope.load rfl rfl ?_)
   refine Dra.op' rfl rfl rfl .sure (Ope.newL rfl ?_)
   refine Dra.op' rfl rfl rfl .sure (Ope.cf rfl rfl (f75) rfl ?_)
   refine Dra.op' rfl rfl rfl .sure (Ope.cf rfl rfl (f74 _ _ _ _ _ _ _ _ _ _ _ _ hf) rfl ?_)
   refine Dra.op' rfl rfl rfl .sure (Ope.mov rfl ?_)
   refine Dra.op' rfl rfl rfl .sure (Ope.ext rfl rfl ?_)
   refine Dra.op' rfl rfl rfl .sure (Ope.ext rfl rfl ?_)
   refine Dra.op' rfl rfl rfl .sure (Ope.store rfl rfl rfl rfl rfl rfl ?_)
   refine Dra.op' rfl rfl rfl .sure (Ope.asg rfl ?_)
   refine Dra.nil (Run.seq (Run.draw (cx_ok _ _ _) [(0,true),(1,true),(2,true),(3,true),(4,true),(5,true),(6,true),(7,true)] (by kernel_rfl) (Dra.op' rfl rfl rfl .sure (Ope.idxA rfl rfl rfl rfl ?_))))
   refine Dra.op' rfl rfl rfl .sure (Ope.load rfl rfl ?_)
   refine Dra.op' rfl rfl rfl .sure (Ope.idxA rfl rfl rfl rfl ?_)
   refine Dra.op' rfl rfl rfl .sure (Ope.load rfl rfl ?_)
   refine Dra.op' rfl rfl rfl .sure (Ope.mov rfl ?_)
   refine Dra.op' rfl rfl rfl .sure (Ope.asg rfl ?_)
   refine Dra.op' rfl rfl rfl .sure (Ope.asg rfl ?_)
   refine Dra.op' rfl rfl rfl .sure (Ope.asg rfl ?_)
   exact Dra.nil (Run.ret (fin_ret (.tmp rfl (.tmp rfl (.tmp rfl .nil))) rfl rfl))
end Go.Pv
namespace Go.Pv
open Go.Am Go.RowKit
section
variable {C:Cx} {X:EX} {e:EL} {ds:List Nat} {h:PH} {K:PV→PH→Prop}
variable {d:Option Tmp} {type:TypeId} {pos:String} {after:Array Edge} {guard:Option (Nat×Bool)}
theorem Ope.remN {t t':TypeId} {x y:Operand} {kk:IntKind} {a b:Int} {p q:Nat} (hx:pev (lget e) x=some (.lit (.int kk a))) (hy:pev (lget e) y=some (.lit (.int kk b))) (ha:a=(p:Int)) (hb:b=(q:Int)) (hq:0 < q) (hK:K (.lit (.int kk ((p % q:Nat):Int))) h) :
  Ope C X { dst:=d,op:=.binOp .rem t x y t',type,pos,after,guard } e ds h K:=by
 subst ha hb
 refine Ope.bin hx hy (v:=.lit (.int kk ((p % q:Nat):Int))) ?_ hK
 have h0:decide ((q:Int)=0)=false:=decide_eq_false (by omega)
 have e1:(p:Int).tmod (q:Int)=((p % q:Nat):Int):=rfl
 simp only [abin,aint,h0,plit,e1]
 rfl
end
end Go.Pv
