/- Parts of the proof: Am35, Am36, Am37, Am38, Am39, Am40 -/
import Derived.Test.YtabejoodkhlnaaaGreatP11
set_option linter.unusedVariables false
set_option linter.unusedSimpArgs false
namespace Go.Am
open Go.RowKit
def AFr.at (fr:AFr) (t:T AV) (x:KX) (todo:List AItem):AFr:={ fr with tmps:=t,defers:=x.ds,rnd:=x.rnd,todo,mode:=.run }
def Thru (j:Code) (pre:List AItem):Prop :=
 match j with
 |.ret=>True
 |.exit id=>∀ k,aexitTo id (pre++k)=aexitTo id k
 |_=>False
def COk (P:Program) (f:FuncId) (sz:Nat) (items:List AItem) (K:KC):Prop :=
 ∀ (t:T AV) (x:KX) (H:Heap) (kn:T AV→KX→Heap→KR) (ka:Code→T AV→KX→Heap→KR) (r:AV×Heap),K.run t x H kn ka=some r →
  (∃ t' x' H',kn t' x' H'=some r∧x'.rnd=x.rnd∧∀ (fr:AFr) (cs:List AFr) (k:List AItem),fr.sz=sz→fr.fn=f→Lz P ⟨fr.at t x (items++k),cs,H⟩ ⟨fr.at t' x' k,cs,H'⟩) ∨
  (∃ j t' x' H' pre,ka j t' x' H'=some r∧x'.rnd=x.rnd∧Thru j pre∧∀ (fr:AFr) (cs:List AFr) (k:List AItem),fr.sz=sz→fr.fn=f→Lz P ⟨fr.at t x (items++k),cs,H⟩ ⟨fr.at t' x' (.code j::(pre++k)),cs,H'⟩)
section
variable {A:AP} {E:Eqs} {P:Program} {B:KB} {f:FuncId} {sz:Nat}
theorem kfin_ok {o:Oper} {t:T AV} {v:AV} {k:T AV→KR} {r:AV×Heap} (h:(kfin o sz).go t v k=some r) :
  ∃ t',k t'=some r∧dput sz t o.dst v=some t':=by
 unfold kfin KU.go at h
 unfold dput
 split at h
 ·next hd=>rw [hd];exact ⟨t,h,rfl⟩
 ·next d hd =>
  rw [hd]
  simp only []
  split at h
  ·next hlt =>
   rw [kput_eq] at h
   rw [hlt]
   exact ⟨_,h,rfl⟩
  ·cases h
theorem fin_ops {fr:AFr} {all os:List Oper} {o:Oper} {k:List AItem} {x:KX} {t t':T AV} {v:AV} (hsz:fr.sz=sz) (hp:dput sz t o.dst v=some t') :
  (fr.at t x (.ops all (o::os)::k)).fin v=some (fr.at t' x (.ops all os::k)):=by
 unfold dput at hp
 simp only [AFr.fin,AFr.at]
 split at hp
 ·next d hd =>
  try rw [hd]
  simp only [hsz]
  split at hp
  ·next hlt=>cases hp;first | rw [hlt] | rfl
  ·cases hp
 ·next hd=>cases hp;first | rw [hd] | rfl
theorem kdo_ok (hA:A.Ok P) (hE:E.Ok P) (hB:BOk A P B) {all os:List Oper} {o:Oper} {K:KC} (hK:COk P f sz [.ops all os] K) {t:T AV} (hg:aguard all t o.guard=some true)
  {x:KX} {H:Heap} {kn:T AV→KX→Heap→KR} {ka:Code→T AV→KX→Heap→KR} {r:AV×Heap} (h:kdo (kval A E B o) (kfin o sz) K t x H kn ka=some r) :
  (∃ t' x' H',kn t' x' H'=some r∧x'.rnd=x.rnd∧∀ (fr:AFr) (cs:List AFr) (k:List AItem),fr.sz=sz→fr.fn=f→Lz P ⟨fr.at t x (.ops all (o::os)::k),cs,H⟩ ⟨fr.at t' x' k,cs,H'⟩) ∨
  (∃ j t' x' H' pre,ka j t' x' H'=some r∧x'.rnd=x.rnd∧Thru j pre∧∀ (fr:AFr) (cs:List AFr) (k:List AItem),fr.sz=sz→fr.fn=f→Lz P ⟨fr.at t x (.ops all (o::os)::k),cs,H⟩ ⟨fr.at t' x' (.code j::(pre++k)),cs,H'⟩):=by
 obtain ⟨v,H1,h1,h2⟩:=kval_ok hA hE hB h
 obtain ⟨t1,h3,h4⟩:=kfin_ok h1
 have one:∀ (fr:AFr) (cs:List AFr) (k:List AItem),fr.sz=sz→Lz P ⟨fr.at t x (.ops all (o::os)::k),cs,H⟩ ⟨fr.at t1 x (.ops all os::k),cs,H1⟩:=by
  intro fr cs k hsz
  refine Does.lz (D:=noD) hA hE noD_ok (fr:=fr.at t x (.ops all (o::os)::k)) h2 ?_ (fin_ops hsz h4)
  intro out hout
  have hout':aop A E H (evT t) o=some out:=hout
  simp only [astep,AFr.at,arun1,hg,ev_eq,hout']
 rcases hK t1 x H1 kn ka r h3 with ⟨t',x',H',k1,k2,k3⟩ | ⟨j,t',x',H',pre,k1,k2,k3,k4⟩
 ·exact .inl ⟨t',x',H',k1,k2,fun fr cs k hsz hf=>(one fr cs k hsz).trans (k3 fr cs k hsz hf)⟩
 ·exact .inr ⟨j,t',x',H',pre,k1,k2,k3,fun fr cs k hsz hf=>(one fr cs k hsz).trans (k4 fr cs k hsz hf)⟩
theorem kskip_ok (hA:A.Ok P) (hE:E.Ok P) {all os:List Oper} {o:Oper} {K:KC} (hK:COk P f sz [.ops all os] K) {t:T AV} (hg:aguard all t o.guard=some false)
  {x:KX} {H:Heap} {kn:T AV→KX→Heap→KR} {ka:Code→T AV→KX→Heap→KR} {r:AV×Heap} (h:kskip o sz K t x H kn ka=some r) :
  (∃ t' x' H',kn t' x' H'=some r∧x'.rnd=x.rnd∧∀ (fr:AFr) (cs:List AFr) (k:List AItem),fr.sz=sz→fr.fn=f→Lz P ⟨fr.at t x (.ops all (o::os)::k),cs,H⟩ ⟨fr.at t' x' k,cs,H'⟩) ∨
  (∃ j t' x' H' pre,ka j t' x' H'=some r∧x'.rnd=x.rnd∧Thru j pre∧∀ (fr:AFr) (cs:List AFr) (k:List AItem),fr.sz=sz→fr.fn=f→Lz P ⟨fr.at t x (.ops all (o::os)::k),cs,H⟩ ⟨fr.at t' x' (.code j::(pre++k)),cs,H'⟩):=by
 obtain ⟨t1,h3,h4⟩:=kfin_ok h
 have one:∀ (fr:AFr) (cs:List AFr) (k:List AItem),fr.sz=sz→Lz P ⟨fr.at t x (.ops all (o::os)::k),cs,H⟩ ⟨fr.at t1 x (.ops all os::k),cs,H⟩:=by
  intro fr cs k hsz
  refine Lz.step hA hE noD_ok ?_
  have:=fin_ops (fr:=fr) (all:=all) (os:=os) (k:=k) (x:=x) hsz h4
  simp only [AFr.at] at this
  simp only [astep,AFr.at,arun1,hg,this]
 rcases hK t1 x H kn ka r h3 with ⟨t',x',H',k1,k2,k3⟩ | ⟨j,t',x',H',pre,k1,k2,k3,k4⟩
 ·exact .inl ⟨t',x',H',k1,k2,fun fr cs k hsz hf=>(one fr cs k hsz).trans (k3 fr cs k hsz hf)⟩
 ·exact .inr ⟨j,t',x',H',pre,k1,k2,k3,fun fr cs k hsz hf=>(one fr cs k hsz).trans (k4 fr cs k hsz hf)⟩
theorem kops_ok (hA:A.Ok P) (hE:E.Ok P) (hB:BOk A P B) (all:List Oper):∀ (l:List Oper),COk P f sz [.ops all l] (kops A E B sz all l)
 |[]=>fun t x H kn ka r h=>.inl ⟨t,x,H,h,rfl,fun fr cs k _ _=>Lz.step hA hE noD_ok (by simp only [astep,AFr.at,arun1,List.cons_append,List.nil_append])⟩
 |o :: os => by
  intro t x H kn ka r h
  have ih:=kops_ok hA hE hB all os
  unfold kops at h
  split at h
  ·next hg=>exact kdo_ok hA hE hB ih (by rw [hg];rfl) h
  ·next j want hg =>
   split at h
   ·next p hp =>
    split at h
    ·next d hd =>
     simp only [kat_eq] at h
     obtain ⟨b,hb,h⟩:=Option.bind_eq_some_iff.1 h
     split at h
     ·next b =>
      split at h
      ·next hbw=>exact kdo_ok hA hE hB ih (by simp only [hg,aguard,hp,hd,hb,hbw]) h
      ·next hbw=>exact kskip_ok hA hE ih (by simp only [hg,aguard,hp,hd,hb,hbw]) h
     ·next hn =>
      refine kskip_ok hA hE ih ?_ h
      simp only [hg,aguard,hp,hd,hb]
    ·next hd=>exact kskip_ok hA hE ih (by simp only [hg,aguard,hp,hd]) h
   ·next hp=>exact kskip_ok hA hE ih (by simp only [hg,aguard,hp]) h
theorem kone_ok (hA:A.Ok P) (hE:E.Ok P) (hB:BOk A P B):ROk P (kone A E B):=by
 intro B0 w0 Z base S m fr cs w v H' hS h
 obtain ⟨afr,acs,H⟩:=S
 unfold kone at h
 split at h
 case h_2=>cases h
 next all o hcs htd =>
 simp only at hcs htd h
 subst hcs
 split at h
 case h_2=>cases h
 next hg =>
 obtain ⟨v',H1,h1,h2⟩:=kval_ok hA hE hB h
 cases h1
 have hm:afr.mode=.run:=by
  rcases hS.fr with h1 | ⟨z,_,h1⟩
  ·have:=h1.todo
   simp only [htd] at this
   obtain ⟨_,_,_,h3,_⟩:=this
   exact h3.elim
  ·exact h1.mode
 have hl:Lz P ⟨afr,[],H⟩ ⟨{ afr with todo:=[.don v] },[],H'⟩:=by
  refine Does.lz (D:=noD) hA hE noD_ok h2 ?_ ?_
  ·intro out hout
   simp only [astep,hm,arun1,htd,hg,ev_eq,hout]
  ·simp only [AFr.fin,htd]
 obtain ⟨m',fr',cs',w',s1,s2,s3⟩:=hl B0 w0 (some Z) m fr cs base w hS
 have hnil:cs'=[]:=s3.cs
 subst hnil
 rcases s3.fr with h1 | ⟨z,hz,h1⟩
 ·have:=h1.todo
  obtain ⟨_,_,_,h3,_⟩:=this
  exact h3.elim
 ·cases hz
  rcases h1.todo with ⟨o',h3,_⟩ | ⟨u,x,h3,h4,h5⟩
  ·cases h3
  ·cases h3
   refine ⟨m',w',x,?_,s2,h4,s3.H⟩
   rw [← h5]
   exact s1
end
end Go.Am
namespace Go.Am
open Go.RowKit
section
variable {A:AP} {E:Eqs} {P:Program} {B:KB} {f:FuncId} {sz:Nat}
theorem aargs_congr {ρ ρ':Operand→Option AV}:∀ (l:List Operand),(∀ x∈l,ρ x=ρ' x)→aargs ρ l=aargs ρ' l
 |[],_=>rfl
 |x::xs,h=>by
  simp only [aargs,h x (List.mem_cons_self ..),aargs_congr xs fun y hy=>h y (List.mem_cons_of_mem _ hy)]
theorem aparts_congr {ρ ρ':Operand→Option AV}:∀ (l:List (Nat×Operand)),(∀ x∈l.map (·.2),ρ x=ρ' x)→aparts ρ l=aparts ρ' l
 |[],_=>rfl
 |x::xs,h=>by
  simp only [aparts,h x.2 (by simp),aparts_congr xs fun y hy=>h y (by simp only [List.map_cons,List.mem_cons];exact .inr hy)]
theorem aop_congr {ρ ρ':Operand→Option AV} {H:Heap} {o:Oper} (hq:quietOp o.op=true) (h:∀ x∈o.op.operands.toList,ρ x=ρ' x):aop A E H ρ o=aop A E H ρ' o:=by
 unfold aop
 cases ho:o.op<;>simp only [ho] at hq h ⊢<;>simp only [quietOp,Bool.false_eq_true] at hq
 case move x=>rw [h x (by simp [Op.operands])]
 case assign x=>rw [h x (by simp [Op.operands])]
 case pick c a b=>rw [h c (by simp [Op.operands]),h a (by simp [Op.operands]),h b (by simp [Op.operands])]
 case build ty ps=>rw [aparts_congr ps.toList fun x hx=>h x (by simpa [Op.operands] using hx)]
 case load ty a=>rw [h a (by simp [Op.operands])]
 case nilCheck x=>rw [h x (by simp [Op.operands])]
 case binOp op ty x y yt=>rw [h x (by simp [Op.operands]),h y (by simp [Op.operands])]
 case unOp op ty x=>rw [h x (by simp [Op.operands])]
 case convert s d x=>rw [h x (by simp [Op.operands])]
 case makeInterface ty x=>rw [h x (by simp [Op.operands])]
 case makeFunc fn a b =>
  rw [aargs_congr a.toList fun x hx=>h x (by simp only [Op.operands,Array.toList_append,List.mem_append];exact .inl hx),aargs_congr b.toList fun x hx=>h x (by simp only [Op.operands,Array.toList_append,List.mem_append];exact .inr hx)]
 case slice ty x lo hi mx =>
  have hlo:aopt ρ lo=aopt ρ' lo:=by
   cases lo with
   |none=>rfl
   |some y=>simp only [aopt];rw [h y (by simp [Op.operands])]
  have hhi:aopt ρ hi=aopt ρ' hi:=by
   cases hi with
   |none=>rfl
   |some y=>simp only [aopt];rw [h y (by simp [Op.operands])]
  rw [h x (by simp [Op.operands]),hlo,hhi]
  cases mx with
  |none=>cases ρ' x<;>cases aopt ρ' lo<;>cases aopt ρ' hi<;>rfl
  |some y =>
   have hy:=h y (by simp [Op.operands])
   cases ρ' x<;>cases aopt ρ' lo<;>(try cases aopt ρ' hi)<;>(try rfl)
   next u=>cases u<;>simp only [hy]
 case fieldAddr ty x i=>rw [h x (by simp [Op.operands])]
 case field ty x i=>rw [h x (by simp [Op.operands])]
 case indexAddr ty x i=>rw [h x (by simp [Op.operands]),h i (by simp [Op.operands])]
 case index ty x i=>rw [h x (by simp [Op.operands]),h i (by simp [Op.operands])]
 case lookup ty x i ok=>rw [h x (by simp [Op.operands]),h i (by simp [Op.operands])]
 case typeAssert x ty ty' ok=>rw [h x (by simp [Op.operands])]
 case extract x i=>rw [h x (by simp [Op.operands])]
 case call c =>
  have ha:aargs ρ c.args.toList=aargs ρ' c.args.toList:=aargs_congr _ fun x hx=>h x (by simp only [Op.operands,Call.operands,Array.toList_append,List.mem_append];exact .inr hx)
  unfold acall
  rw [ha]
  cases hc:c.callee<;>simp only [hc] at hq ⊢
  all_goals cases hq
theorem anew_congr {ρ ρ':Operand→Option AV} {n:Nat} {o:Op} (h:∀ x∈o.operands.toList,ρ x=ρ' x):anew A ρ n o=anew A ρ' n o:=by
 unfold anew
 split
 ·rfl
 ·next ty x=>rw [h x (by simp [Op.operands])]
 ·next ty len ps=>rw [aparts_congr ps.toList fun x hx=>h x (by simpa [Op.operands] using hx)]
 ·rfl
 ·rfl
theorem mem_looks {all:List Oper} {o:Oper} {y:Tmp} (h:Operand.tmp y∈o.op.operands.toList):y∈looks all o:=by
 have h1:y∈tmpsOf o.op.operands.toList:=List.mem_filterMap.2 ⟨_,h,rfl⟩
 unfold looks
 split
 ·split
  ·split
   ·exact List.mem_cons_of_mem _ h1
   ·exact h1
  ·exact h1
 ·exact h1
theorem ev_restr {all:List Oper} {o:Oper} {t:T AV}:∀ x∈o.op.operands.toList,evT t x=evT (restr t (looks all o)) x:=by
 intro x hx
 cases x with
 |tmp y=>simp only [evT,get_restr,if_pos (mem_looks hx)]
 |const v=>rfl
 |«global» g => rfl
 |func f=>rfl
theorem guard_restr {all:List Oper} {o:Oper} {t:T AV}:aguard all (restr t (looks all o)) o.guard=aguard all t o.guard:=by
 unfold aguard
 split
 ·rfl
 ·next j want hg =>
  split
  ·next p hp =>
   split
   ·next d hd =>
    have:d∈looks all o:=by
     unfold looks
     rw [hg]
     simp only [hp,hd]
     exact List.mem_cons_self ..
    rw [get_restr,if_pos this]
   ·rfl
  ·rfl
theorem krestr_eq:∀ (l:List Tmp) (t:T AV) (k:T AV→KR) (r:AV×Heap),krestr l t k=some r→k (restr t l)=some r
 |[],_,_,_,h=>h
 |x::xs,t,k,r,h=>by
  simp only [krestr] at h
  have:=krestr_eq xs t _ r h
  simp only [kat_eq,kput_eq] at this
  obtain ⟨v,hv,this⟩:=Option.bind_eq_some_iff.1 this
  simp only [restr,hv]
  exact this
theorem quiet_of {o:Op} (h:kin o=.quiet):quietOp o=true:=by
 unfold kin at h
 split at h
 ·next e=>exact e
 ·split at h<;>cases h
theorem read_quiet {o:Op} (h:readOp o=true):quietOp o=true:=by
 cases o<;>simp only [readOp,Bool.false_eq_true] at h<;>try rfl
 next c =>
  simp only [quietOp]
  revert h
  cases c.callee with
  |builtin b=>cases b<;>simp
  |_=>simp
theorem kdskip_ok {all:List Oper} {an:T Nat} {i:Nat} {o:Oper} {S:DSt} {k:DSt→KR} {r:AV×Heap} (hg:aguard all S.t o.guard=some false)
  (h:(kdskip sz o).run S k=some r):∃ S',(∀ fr:AFr,fr.sz=sz→dstep A E (kone A E B) fr all an i o S=some S')∧k S'=some r:=by
 obtain ⟨t,vs,H,Hs,lev,wait,next⟩:=S
 unfold kdskip at h
 split at h
 ·next hk =>
  obtain ⟨t',h1,h2⟩:=kfin_ok h
  simp only [fNat_eq,kput_eq] at h1
  refine ⟨_,fun fr hsz=>?_,h1⟩
  unfold dstep
  rw [guard_restr]
  simp only [hg,hsz,h2,hk]
 ·next hk =>
  obtain ⟨t',h1,h2⟩:=kfin_ok h
  refine ⟨_,fun fr hsz=>?_,h1⟩
  unfold dstep
  rw [guard_restr]
  simp only [hg,hsz,h2]
theorem kdrun_ok {all:List Oper} {an:T Nat} {i:Nat} {o:Oper} {S:DSt} {k:DSt→KR} {r:AV×Heap} (hg:aguard all S.t o.guard=some true)
  (h:(kdrun A E B sz all ((an.get i).getD 0) i o).run S k=some r):∃ S',(∀ fr:AFr,fr.sz=sz→dstep A E (kone A E B) fr all an i o S=some S')∧k S'=some r:=by
 obtain ⟨t,vs,H,Hs,lev,wait,next⟩:=S
 unfold kdrun at h
 split at h
 ·next hk =>
  obtain ⟨v,H1,h1,h2⟩:=kq_ok h
  rw [aop_congr (quiet_of hk) (ev_restr (all:=all))] at h1
  obtain ⟨t',h3,h4⟩:=kfin_ok h2
  simp only [kput_eq] at h3
  refine ⟨_,fun fr hsz=>?_,h3⟩
  subst hsz
  unfold dstep
  rw [guard_restr]
  simp only [hg,ev_eq,h1,h4,hk]
 ·next hk =>
  simp only [KN.go,knew_eq] at h
  obtain ⟨⟨v,b⟩,h1,h2⟩:=Option.bind_eq_some_iff.1 h
  rw [anew_congr (ev_restr (all:=all))] at h1
  obtain ⟨t',h3,h4⟩:=kfin_ok h2
  simp only [fNat_eq] at h3
  refine ⟨_,fun fr hsz=>?_,h3⟩
  subst hsz
  unfold dstep
  rw [guard_restr]
  simp only [hg,ev_eq,h1,h4,hk]
 ·next hk =>
  simp only [] at h
  cases hp:parted ((an.get i).getD 0) wait with
  |mk now wait' =>
   simp only [hp] at h
   have h1:=krestr_eq _ _ _ _ h
   split at h1
   ·next v H' hv =>
    obtain ⟨t',h3,h4⟩:=kfin_ok h1
    simp only [fHeap_eq,fNat_eq,kput_eq] at h3
    refine ⟨_,fun fr hsz=>?_,h3⟩
    subst hsz
    have hone:kone A E B { fr:={ fr with tmps:=restr t (looks all o),todo:=[.one all o],defers:=[],mode:=.run },cs:=[],H:=layAll now H }=some (v,H'):=by
     simp only [kone,guard_restr,hg]
     exact hv
    unfold dstep
    rw [guard_restr]
    simp only [hg,ev_eq,hk,hp,hone,h4]
   ·cases h1
theorem kdstep_ok {all:List Oper} {an:T Nat} {i:Nat} {o:Oper} {S:DSt} {k:DSt→KR} {r:AV×Heap}
  (h:(kdstep A E B sz all ((an.get i).getD 0) i o).run S k=some r):∃ S',(∀ fr:AFr,fr.sz=sz→dstep A E (kone A E B) fr all an i o S=some S')∧k S'=some r:=by
 unfold kdstep at h
 split at h
 ·next hg=>exact kdrun_ok (by rw [hg];rfl) h
 ·next j want hg =>
  split at h
  ·next p hp =>
   split at h
   ·next d hd =>
    obtain ⟨t,vs,H,Hs,lev,wait,next⟩:=S
    simp only [kat_eq] at h
    obtain ⟨b,hb,h⟩:=Option.bind_eq_some_iff.1 h
    split at h
    ·next b =>
     split at h
     ·next hbw=>exact kdrun_ok (by simp only [hg,aguard,hp,hd,hb,hbw]) h
     ·next hbw=>exact kdskip_ok (by simp only [hg,aguard,hp,hd,hb,hbw]) h
    ·next hn=>exact kdskip_ok (by simp only [hg,aguard,hp,hd,hb]) h
   ·next hd=>exact kdskip_ok (by simp only [hg,aguard,hp,hd]) h
  ·next hp=>exact kdskip_ok (by simp only [hg,aguard,hp]) h
theorem kdcanon_ok {all:List Oper} {an:T Nat}:∀ (l:List Oper) (i:Nat) (S:DSt) (k:DSt→KR) (r:AV×Heap),(kdcanon A E B sz all an l i).run S k=some r→∃ S',(∀ fr:AFr,fr.sz=sz→dcanon A E (kone A E B) fr all an l i S=some S')∧k S'=some r
 |[],_,S,_,_,h=>⟨S,fun _ _=>rfl,h⟩
 |o::os,i,S,k,r,h=>by
  obtain ⟨S1,h1,h2⟩:=kdstep_ok h
  obtain ⟨S2,h3,h4⟩:=kdcanon_ok os (i+1) S1 k r h2
  exact ⟨S2,fun fr hsz=>by simp only [dcanon,h1 fr hsz,h3 fr hsz],h4⟩
theorem ksames_ok {all:List Oper} {o:Oper} (hq:quietOp o.op=true) {t:T AV} {v:AV} {Hs:T Heap}:∀ (n l:Nat) (k:Unit→KR) (r:AV×Heap),ksames A E o Hs t v l n k=some r →
  sameIn A E (evT (restr t (looks all o))) o v Hs l n=true∧k ()=some r
 |0,_,_,_,h=>⟨rfl,h⟩
 |n+1,l,k,r,h=>by
  simp only [ksames,kat_eq] at h
  obtain ⟨H,hH,h⟩:=Option.bind_eq_some_iff.1 h
  obtain ⟨u,H1,h1,h2⟩:=kq_ok h
  rw [aop_congr hq (ev_restr (all:=all))] at h1
  simp only [sameIn,hH,h1]
  split at h2
  ·next hb =>
   rw [hb]
   exact ksames_ok hq n (l+1) k r h2
  ·cases h2
theorem kreads_ok {fr:AFr} {all:List Oper} {an:T Nat} {S:DSt}:∀ (l:List Oper) (i:Nat) (k:Unit→KR) (r:AV×Heap),(kreads A E all an l i).run S.t S.vs S.Hs k=some r →
  readsOk A E fr an all S l i=true∧k ()=some r
 |[],_,_,_,h=>⟨rfl,h⟩
 |o :: os, i, k, r, h => by
  unfold kreads at h
  unfold readsOk
  split at h
  ·next hr =>
   rw [hr]
   cases hv:S.vs.get i with
   |none =>
    simp only [hv] at h
    exact kreads_ok os (i+1) k r h
   |some v =>
    simp only [hv] at h
    obtain ⟨h1,h2⟩:=ksames_ok (all:=all) (read_quiet hr) _ _ _ _ h
    simp only [ev_eq,h1]
    exact kreads_ok os (i+1) k r h2
  ·next hr =>
   rw [hr]
   exact kreads_ok os (i+1) k r h
theorem kregion_draw {t:T AV} {ops:Array Oper} {x:KX} {H:Heap} {kn:T AV→KX→Heap→KR} {ka:Code→T AV→KX→Heap→KR} {r:AV×Heap}
  (h:(kregion A E B sz ops.toList).run t x H kn ka=some r):∃ t' H',(∀ fr:AFr,fr.sz=sz→fr.tmps=t→drawR A E (kone A E B) fr ops H=some (t',H'))∧kn t' x H'=some r:=by
 obtain ⟨blks,next,fams⟩:=H
 unfold kregion at h
 split at h
 ·cases h
 ·next an han =>
  simp only [fNat_eq,kput_eq] at h
  obtain ⟨S,h1,h2⟩:=kdcanon_ok _ _ _ _ _ h
  obtain ⟨t',vs,H',Hs,lev,wait,nx⟩:=S
  have h4:=(kreads_ok (fr:={ fn:=0,sz,tmps:=t,todo:=[],defers:=[],mode:=.run,kind:=.normal,rnd:=none }) (S:=⟨t',vs,H',Hs,lev,wait,nx⟩) _ _ _ _ h2).2
  simp only [fHeap_eq] at h4
  refine ⟨_,_,fun fr hsz ht=>?_,h4⟩
  have h3:=(kreads_ok (fr:=fr) (S:=⟨t',vs,H',Hs,lev,wait,nx⟩) _ _ _ _ h2).1
  unfold drawR
  simp only [han,ht,h1 fr hsz,h3]
end
end Go.Am
namespace Go.Am
open Go.RowKit
section
variable {A:AP} {E:Eqs} {P:Program} {B:KB} {f:FuncId} {sz:Nat}
theorem Thru.snoc {j:Code} {pre:List AItem} {it:AItem} (h:Thru j pre) (hi:∀ id k,j=.exit id→aexitTo id (it::k)=aexitTo id k):Thru j (pre++[it]):=by
 cases j<;>first
  |exact h
  |(next id =>
    intro k
    rw [List.append_assoc]
    exact (h _).trans (hi id k rfl))
theorem COk.before {items items':List AItem} {K:KC} (h:COk P f sz items K)
  (hs:∀ (fr:AFr) (t:T AV) (x:KX) (cs:List AFr) (k:List AItem) (H:Heap),fr.sz=sz→fr.fn=f→Lz P ⟨fr.at t x (items'++k),cs,H⟩ ⟨fr.at t x (items++k),cs,H⟩):COk P f sz items' K:=by
 intro t x H kn ka r e
 rcases h t x H kn ka r e with ⟨t',x',H',k1,k2,k3⟩ | ⟨j,t',x',H',pre,k1,k2,k3,k4⟩
 ·exact .inl ⟨t',x',H',k1,k2,fun fr cs k h1 h2=>(hs fr t x cs k H h1 h2).trans (k3 fr cs k h1 h2)⟩
 ·exact .inr ⟨j,t',x',H',pre,k1,k2,k3,fun fr cs k h1 h2=>(hs fr t x cs k H h1 h2).trans (k4 fr cs k h1 h2)⟩
theorem kloop_ok (hA:A.Ok P) (hE:E.Ok P) {body:Code} {K:KC} (hK:COk P f sz [.code body] K):∀ (n:Nat) (t:T AV) (x:KX) (H:Heap) (ka:Code→T AV→KX→Heap→KR) (r:AV×Heap),kloop K n t x H ka=some r→∃ j t' x' H' pre,ka j t' x' H'=some r∧x'.rnd=x.rnd∧Thru j pre ∧
   ∀ (fr:AFr) (cs:List AFr) (k:List AItem),fr.sz=sz→fr.fn=f→Lz P ⟨fr.at t x (.code body::.inLoop body::k),cs,H⟩ ⟨fr.at t' x' (.code j::(pre++k)),cs,H'⟩
 |0,_,_,_,_,_,h=>by cases h
 |n+1,t,x,H,ka,r,h=>by
  rcases hK t x H _ _ r h with ⟨t1,x1,H1,k1,k2,k3⟩ | ⟨j,t1,x1,H1,pre,k1,k2,k3,k4⟩
  ·obtain ⟨j,t',x',H',pre,u1,u2,u3,u4⟩:=kloop_ok hA hE hK n t1 x1 H1 ka r k1
   refine ⟨j,t',x',H',pre,u1,u2.trans k2,u3,fun fr cs k h1 h2=>((k3 fr cs (.inLoop body::k) h1 h2).trans ?_).trans (u4 fr cs k h1 h2)⟩
   exact Lz.step hA hE noD_ok rfl
  ·refine ⟨j,t1,x1,H1,pre++[.inLoop body],k1,k2,k3.snoc fun _ _ _=>rfl,fun fr cs k h1 h2=>?_⟩
   have:=k4 fr cs (.inLoop body::k) h1 h2
   rw [List.append_assoc]
   exact this
theorem kendRF_ok (hA:A.Ok P) (hE:E.Ok P) {l:Nat} {t:T AV} {x:KX} {H:Heap} {kn:T AV→KX→Heap→KR} {ka:Code→T AV→KX→Heap→KR} {r:AV×Heap} (h:kendRF l t x H kn ka=some r) :
  (∃ H',kn t x H'=some r∧∀ (fr:AFr) (cs:List AFr) (k:List AItem),Lz P ⟨fr.at t x (.endRF l::k),cs,H⟩ ⟨fr.at t x k,cs,H'⟩) ∨
  (∃ j H',ka j t x H'=some r∧Thru j []∧∀ (fr:AFr) (cs:List AFr) (k:List AItem),Lz P ⟨fr.at t x (.endRF l::k),cs,H⟩ ⟨fr.at t x (.code j::k),cs,H'⟩):=by
 simp only [kendRF,kblk_eq] at h
 obtain ⟨b,hb,h⟩:=Option.bind_eq_some_iff.1 h
 split at h
 case h_2=>cases h
 next st pend fn s tmps ps asg body d =>
 split at h
 ·cases h
 ·next hst =>
  simp only [kblkPut_eq] at h
  have stepN:pend=none→∀ (fr:AFr) (cs:List AFr) (k:List AItem),astep A E noD ⟨fr.at t x (.endRF l::k),cs,H⟩ =
    some ⟨fr.at t x k,cs,{ H with blks:=H.blks.set l (.loop .exhausted pend fn s tmps ps asg body d) }⟩:=by
   intro e fr cs k
   subst e
   simp only [astep,AFr.at,arun1,hb]
  have stepS:∀ c,pend=some c→∀ (fr:AFr) (cs:List AFr) (k:List AItem),astep A E noD ⟨fr.at t x (.endRF l::k),cs,H⟩ =
    some ⟨fr.at t x (.code c::k),cs,{ H with blks:=H.blks.set l (.loop .exhausted pend fn s tmps ps asg body d) }⟩:=by
   intro c e fr cs k
   subst e
   simp only [astep,AFr.at,arun1,hb]
  split at h
  ·exact .inl ⟨_,h,fun fr cs k=>Lz.step hA hE noD_ok (stepN rfl fr cs k)⟩
  ·split at h
   ·exact .inr ⟨.ret,_,h,trivial,fun fr cs k=>Lz.step hA hE noD_ok (stepS _ rfl fr cs k)⟩
   ·next id=>exact .inr ⟨.exit id,_,h,fun _=>rfl,fun fr cs k=>Lz.step hA hE noD_ok (stepS _ rfl fr cs k)⟩
   ·cases h
theorem kcallRF_ok (hA:A.Ok P) (hE:E.Ok P) (hB:BOk A P B) {fn:Fn} {first cap:List AV} {l:Nat} {t:T AV} {x:KX} {H:Heap} {kn:T AV→KX→Heap→KR} {ka:Code→T AV→KX→Heap→KR} {r:AV×Heap}
  (h:kcallRF A B fn first cap l t x H kn ka=some r):∃ g args fr1,acallFn A H fn cap (first++[.yld l])=some (.enter g args)∧AFr.enter A g args .normal=some fr1 ∧
  ((∃ H',kn t x H'=some r∧∀ (fr:AFr) (cs:List AFr) (k:List AItem),Lz P ⟨fr1,fr.at t x (.inRF l::k)::cs,H⟩ ⟨fr.at t x k,cs,H'⟩) ∨
  (∃ j H',ka j t x H'=some r∧Thru j []∧∀ (fr:AFr) (cs:List AFr) (k:List AItem),Lz P ⟨fr1,fr.at t x (.inRF l::k)::cs,H⟩ ⟨fr.at t x (.code j::k),cs,H'⟩)):=by
 unfold kcallRF at h
 split at h
 case h_2=>cases h
 next g args hg =>
 obtain ⟨v,H1,fr1,h1,h2,hback⟩:=hB.fn g args H _ r h
 have b:∀ (fr:AFr) (cs:List AFr) (k:List AItem),Lz P ⟨fr1,fr.at t x (.inRF l::k)::cs,H⟩ ⟨fr.at t x (.endRF l::k),cs,H1⟩:=fun fr cs k=>hback _ _ _ rfl
 refine ⟨g,args,fr1,hg,h2,?_⟩
 rcases kendRF_ok (P:=P) hA hE h1 with ⟨H',k1,k2⟩ | ⟨j,H',k1,k2,k3⟩
 ·exact .inl ⟨H',k1,fun fr cs k=>(b fr cs k).trans (k2 fr cs k)⟩
 ·exact .inr ⟨j,H',k1,k2,fun fr cs k=>(b fr cs k).trans (k3 fr cs k)⟩
theorem krange_ok (hA:A.Ok P) (hE:E.Ok P) (hB:BOk A P B) {g:Operand} {ps:Array Tmp} {asg body:Code} :
  COk P f sz [.code (.rangeFunc g ps asg body)] ⟨fun t x H kn ka=>(kev g).run t fun v=>krange A B f sz ps asg body v t x H kn ka⟩:=by
 intro t x H kn ka r h
 simp only [kev_eq] at h
 obtain ⟨v,hv,h⟩:=Option.bind_eq_some_iff.1 h
 unfold krange at h
 split at h
 case h_2=>cases h
 next fn first cap =>
 obtain ⟨ds,rnd⟩:=x
 cases rnd with
 |none =>
  obtain ⟨blks,d,fams⟩:=H
  simp only [fNat_eq,kput_eq] at h
  obtain ⟨g',args,fr1,h1,h2,h3⟩:=kcallRF_ok hA hE hB h
  have step:∀ (fr:AFr) (cs:List AFr) (k:List AItem),fr.sz=sz→fr.fn=f→astep A E noD ⟨fr.at t ⟨ds,none⟩ ([.code (.rangeFunc g ps asg body)]++k),cs,⟨blks,d,fams⟩⟩ =
    some ⟨fr1,fr.at t ⟨.collected d::ds,none⟩ (.inRF (d+1)::k)::cs,⟨(blks.set d (.dfr (some []))).set (d+1) (.loop .ready none f sz t ps asg body d),d+1+1,fams⟩⟩:=by
   intro fr cs k e1 e2
   subst e1 e2
   simp only [astep,AFr.at,arun1,List.cons_append,List.nil_append,acode,arange,ev_eq,hv,h1,h2]
  rcases h3 with ⟨H',k1,k2⟩ | ⟨j,H',k1,k2,k3⟩
  ·exact .inl ⟨t,_,H',k1,rfl,fun fr cs k e1 e2=>(Lz.step hA hE noD_ok (step fr cs k e1 e2)).trans (k2 fr cs k)⟩
  ·exact .inr ⟨j,t,_,H',[],k1,rfl,k2,fun fr cs k e1 e2=>(Lz.step hA hE noD_ok (step fr cs k e1 e2)).trans (k3 fr cs k)⟩
 |some l0 =>
  simp only [kblk_eq] at h
  obtain ⟨b,hb,h⟩:=Option.bind_eq_some_iff.1 h
  split at h
  case h_2=>cases h
  next st pend fn0 s0 tmps0 ps0 asg0 body0 d =>
  obtain ⟨blks,l,fams⟩:=H
  simp only [fNat_eq,kput_eq] at h
  obtain ⟨g',args,fr1,h1,h2,h3⟩:=kcallRF_ok hA hE hB h
  have step:∀ (fr:AFr) (cs:List AFr) (k:List AItem),fr.sz=sz→fr.fn=f→astep A E noD ⟨fr.at t ⟨ds,some l0⟩ ([.code (.rangeFunc g ps asg body)]++k),cs,⟨blks,l,fams⟩⟩ =
    some ⟨fr1,fr.at t ⟨ds,some l0⟩ (.inRF l::k)::cs,⟨blks.set l (.loop .ready none f sz t ps asg body d),l+1,fams⟩⟩:=by
   intro fr cs k e1 e2
   subst e1 e2
   simp only [astep,AFr.at,arun1,List.cons_append,List.nil_append,acode,arange,ev_eq,hv,hb,h1,h2]
  rcases h3 with ⟨H',k1,k2⟩ | ⟨j,H',k1,k2,k3⟩
  ·exact .inl ⟨t,_,H',k1,rfl,fun fr cs k e1 e2=>(Lz.step hA hE noD_ok (step fr cs k e1 e2)).trans (k2 fr cs k)⟩
  ·exact .inr ⟨j,t,_,H',[],k1,rfl,k2,fun fr cs k e1 e2=>(Lz.step hA hE noD_ok (step fr cs k e1 e2)).trans (k3 fr cs k)⟩
theorem kcode_ok (hA : A.Ok P) (hE : E.Ok P) (hP : P.follows .mixedOrders = true) (hB : BOk A P B) : ∀ (c : Code), COk P f sz [.code c] (kcode A E B f sz c)
 |.skip=>fun t x H kn ka r h=>.inl ⟨t,x,H,h,rfl,fun fr cs k _ _=>Lz.step hA hE noD_ok rfl⟩
 |.label _=>fun t x H kn ka r h=>.inl ⟨t,x,H,h,rfl,fun fr cs k _ _=>Lz.step hA hE noD_ok rfl⟩
 |.ret=>fun t x H kn ka r h=>.inr ⟨.ret,t,x,H,[],h,rfl,trivial,fun fr cs k _ _=>Lz.refl _⟩
 |.exit id=>fun t x H kn ka r h=>.inr ⟨.exit id,t,x,H,[],h,rfl,fun _=>rfl,fun fr cs k _ _=>Lz.refl _⟩
 |.seq a b=>by
  intro t x H kn ka r h
  have s0:∀ (fr:AFr) (cs:List AFr) (k:List AItem),Lz P ⟨fr.at t x ([.code (.seq a b)]++k),cs,H⟩ ⟨fr.at t x ([.code a]++(.code b::k)),cs,H⟩:=fun fr cs k=>Lz.step hA hE noD_ok rfl
  rcases kcode_ok hA hE hP hB a t x H _ _ r h with ⟨t1,x1,H1,k1,k2,k3⟩ | ⟨j,t1,x1,H1,pre,k1,k2,k3,k4⟩
  ·rcases kcode_ok hA hE hP hB b t1 x1 H1 _ _ r k1 with ⟨t2,x2,H2,u1,u2,u3⟩ | ⟨j,t2,x2,H2,pre,u1,u2,u3,u4⟩
   ·exact .inl ⟨t2,x2,H2,u1,u2.trans k2,fun fr cs k h1 h2=>((s0 fr cs k).trans (k3 fr cs (.code b::k) h1 h2)).trans (u3 fr cs k h1 h2)⟩
   ·exact .inr ⟨j,t2,x2,H2,pre,u1,u2.trans k2,u3,fun fr cs k h1 h2=>((s0 fr cs k).trans (k3 fr cs (.code b::k) h1 h2)).trans (u4 fr cs k h1 h2)⟩
  ·refine .inr ⟨j,t1,x1,H1,pre++[.code b],k1,k2,k3.snoc fun _ _ _=>rfl,fun fr cs k h1 h2=>(s0 fr cs k).trans ?_⟩
   rw [List.append_assoc]
   exact k4 fr cs (.code b::k) h1 h2
 |.cond c a b=>by
  intro t x H kn ka r h
  simp only [kcode,kev_eq] at h
  obtain ⟨v,hv,h⟩:=Option.bind_eq_some_iff.1 h
  split at h
  case h_2=>cases h
  next q =>
  cases q with
  |true =>
   have s0:∀ (fr:AFr) (cs:List AFr) (k:List AItem),Lz P ⟨fr.at t x ([.code (.cond c a b)]++k),cs,H⟩ ⟨fr.at t x ([.code a]++k),cs,H⟩:=fun fr cs k =>
    Lz.step hA hE noD_ok (by simp only [astep,AFr.at,arun1,List.cons_append,List.nil_append,acode,ev_eq,hv])
   rcases kcode_ok hA hE hP hB a t x H _ _ r h with ⟨t1,x1,H1,k1,k2,k3⟩ | ⟨j,t1,x1,H1,pre,k1,k2,k3,k4⟩
   ·exact .inl ⟨t1,x1,H1,k1,k2,fun fr cs k h1 h2=>(s0 fr cs k).trans (k3 fr cs k h1 h2)⟩
   ·exact .inr ⟨j,t1,x1,H1,pre,k1,k2,k3,fun fr cs k h1 h2=>(s0 fr cs k).trans (k4 fr cs k h1 h2)⟩
  |false =>
   have s0:∀ (fr:AFr) (cs:List AFr) (k:List AItem),Lz P ⟨fr.at t x ([.code (.cond c a b)]++k),cs,H⟩ ⟨fr.at t x ([.code b]++k),cs,H⟩:=fun fr cs k =>
    Lz.step hA hE noD_ok (by simp only [astep,AFr.at,arun1,List.cons_append,List.nil_append,acode,ev_eq,hv])
   rcases kcode_ok hA hE hP hB b t x H _ _ r h with ⟨t1,x1,H1,k1,k2,k3⟩ | ⟨j,t1,x1,H1,pre,k1,k2,k3,k4⟩
   ·exact .inl ⟨t1,x1,H1,k1,k2,fun fr cs k h1 h2=>(s0 fr cs k).trans (k3 fr cs k h1 h2)⟩
   ·exact .inr ⟨j,t1,x1,H1,pre,k1,k2,k3,fun fr cs k h1 h2=>(s0 fr cs k).trans (k4 fr cs k h1 h2)⟩
 |.block id body=>by
  intro t x H kn ka r h
  have s0:∀ (fr:AFr) (cs:List AFr) (k:List AItem),Lz P ⟨fr.at t x ([.code (.block id body)]++k),cs,H⟩ ⟨fr.at t x ([.code body]++(.inBlock id::k)),cs,H⟩:=fun fr cs k=>Lz.step hA hE noD_ok rfl
  rcases kcode_ok hA hE hP hB body t x H _ _ r h with ⟨t1,x1,H1,k1,k2,k3⟩ | ⟨j,t1,x1,H1,pre,k1,k2,k3,k4⟩
  ·exact .inl ⟨t1,x1,H1,k1,k2,fun fr cs k h1 h2=>((s0 fr cs k).trans (k3 fr cs (.inBlock id::k) h1 h2)).trans (Lz.step hA hE noD_ok rfl)⟩
  ·unfold kout at k1
   split at k1
   ·next i =>
    split at k1
    ·next hi =>
     have hid:i=id:=Nat.eq_of_beq_eq_true hi
     subst hid
     refine .inl ⟨t1,x1,H1,k1,k2,fun fr cs k h1 h2=>((s0 fr cs k).trans (k4 fr cs (.inBlock i::k) h1 h2)).trans (Lz.step hA hE noD_ok ?_)⟩
     have hx:aexitTo i (pre++(.inBlock i::k))=some k:=by
      rw [show aexitTo i (pre++(.inBlock i::k))=aexitTo i (.inBlock i::k) from k3 _]
      simp [aexitTo]
     simp only [astep,AFr.at,arun1,acode,hx]
    ·next hi =>
     refine .inr ⟨.exit i,t1,x1,H1,pre++[.inBlock id],k1,k2,k3.snoc ?_,fun fr cs k h1 h2=>(s0 fr cs k).trans ?_⟩
     ·intro i' k e
      cases e
      have:Nat.beq id i=false:=by
       cases hb:Nat.beq id i with
       |false=>rfl
       |true =>
        have:=Nat.eq_of_beq_eq_true hb
        subst this
        simp at hi
      simp only [aexitTo,this]
     ·rw [List.append_assoc]
      exact k4 fr cs (.inBlock id::k) h1 h2
   ·next hj =>
    refine .inr ⟨j,t1,x1,H1,pre++[.inBlock id],k1,k2,k3.snoc fun i k e=>absurd e (hj i),fun fr cs k h1 h2=>(s0 fr cs k).trans ?_⟩
    rw [List.append_assoc]
    exact k4 fr cs (.inBlock id::k) h1 h2
 |.loop body=>by
  intro t x H kn ka r h
  obtain ⟨j,t',x',H',pre,k1,k2,k3,k4⟩:=kloop_ok hA hE (kcode_ok hA hE hP hB body) _ t x H ka r h
  exact .inr ⟨j,t',x',H',pre,k1,k2,k3,fun fr cs k h1 h2=>(Lz.step hA hE noD_ok rfl).trans (k4 fr cs k h1 h2)⟩
 |.region id ops false=>(kops_ok hA hE hB ops.toList ops.toList).before fun fr t x cs k H _ _=>Lz.step hA hE noD_ok rfl
 |.region id ops true=>by
  intro t x H kn ka r h
  obtain ⟨t',H',h1,h2⟩:=kregion_draw h
  refine .inl ⟨t',x,H',h2,rfl,fun fr cs k e1 e2=>Lz.step hA hE (drawR_ok hA hE hP (kone_ok hA hE hB)) ?_⟩
  have h3:=h1 (fr.at t x ([AItem.code (Code.region id ops true)]++k)) e1 rfl
  show (match drawR A E (kone A E B) (fr.at t x ([AItem.code (Code.region id ops true)]++k)) ops H with
   |some (t,H)=>some (⟨{ fr.at t x ([AItem.code (Code.region id ops true)]++k) with tmps:=t,todo:=k },cs,H⟩:ASt)
   |none=>none)=_
  rw [h3]
  rfl
 |.rangeFunc g ps asg body=>krange_ok hA hE hB
 |.scope _=>fun t x H kn ka r h=>by cases h
 |.goto _=>fun t x H kn ka r h=>by cases h
 |.refuse _=>fun t x H kn ka r h=>by cases h
end
end Go.Am
namespace Go.Am
open Go.RowKit
section
variable {A:AP} {E:Eqs} {P:Program} {B:KB}
theorem kres_ok {t:T AV} {H:Heap}:∀ (l:List ResultVar) (k:List AV→KR) (r:AV×Heap),kres A t H l k=some r→∃ vs,aresults A H t l=some vs∧k vs=some r
 |[],_,_,h=>⟨[],rfl,h⟩
 |x :: xs, k, r, h => by
  unfold kres at h
  split at h
  ·next y =>
   rw [kat_eq] at h
   obtain ⟨v,hv,h⟩:=Option.bind_eq_some_iff.1 h
   obtain ⟨vs,h1,h2⟩:=kres_ok xs _ r h
   exact ⟨v::vs,by simp only [aresults,aresult,hv,h1],h2⟩
  ·next a ty =>
   split at h
   ·next v hv =>
    obtain ⟨vs,h1,h2⟩:=kres_ok xs _ r h
    exact ⟨v::vs,by simp only [aresults,hv,h1],h2⟩
   ·cases h
theorem kunw_ok (hA:A.Ok P) (hE:E.Ok P):∀ (ds:List ADef) (H:Heap) (k:Heap→KR) (r:AV×Heap),kunw ds H k=some r →
  ∃ H',k H'=some r∧∀ (fr:AFr) (cs:List AFr),fr.mode=.returning→Lz P ⟨{ fr with defers:=ds },cs,H⟩ ⟨{ fr with defers:=[] },cs,H'⟩
 |[],H,_,_,h=>⟨H,h,fun _ _ _=>Lz.refl _⟩
 |d::ds,H,k,r,h=>by
  unfold kunw at h
  split at h
  case h_2=>cases h
  next b =>
  rw [kblk_eq] at h
  obtain ⟨o,ho,h⟩:=Option.bind_eq_some_iff.1 h
  split at h
  case h_2=>cases h
  rw [kblkPut_eq] at h
  obtain ⟨H',h1,h2⟩:=kunw_ok hA hE ds _ k r h
  refine ⟨H',h1,fun fr cs hm=>(Lz.step hA hE noD_ok ?_).trans (h2 fr cs hm)⟩
  simp only [astep,hm,aunwind,ho,List.nil_append]
theorem kback_ok (hA:A.Ok P) (hE:E.Ok P) {l:List ResultVar} {t:T AV} {x:KX} {H:Heap} {k:AV→Heap→KR} {r:AV×Heap} (h:kback A l t x H k=some r) :
  ∃ v H',k v H'=some r∧∀ (fr:AFr) (fn:Func),fr.mode=.returning→fr.kind=.normal→fr.defers=x.ds→fr.tmps=t→A.funcs.get fr.fn=some fn→fn.results.toList=l →
   ∃ fr',RetV A fr' H' v∧fr'.fn=fr.fn∧Lz P ⟨fr,[],H⟩ ⟨fr',[],H'⟩:=by
 obtain ⟨ds,rnd⟩:=x
 simp only [kback] at h
 obtain ⟨H',h1,h2⟩:=kunw_ok hA hE ds H _ r h
 obtain ⟨vs,h3,h4⟩:=kres_ok l _ r h1
 refine ⟨aone vs,H',h4,fun fr fn e1 e2 e3 e4 e5 e6=>⟨{ fr with defers:=[] },⟨e1,rfl,e2,fn,vs,e5,?_,rfl⟩,rfl,?_⟩⟩
 ·rw [e6]
  show aresults A H' fr.tmps l=some vs
  rw [e4]
  exact h3
 ·have:=h2 fr [] e1
  obtain ⟨f1,f2,f3,f4,f5,f6,f7,f8⟩:=fr
  simp only at e3
  subst e3
  exact this
def FRes (A:AP) (P:Program) (f:FuncId) (args:List AV) (H:Heap) (k:AV→Heap→KR) (r:AV×Heap):Prop :=
 ∃ v H' fr fr',k v H'=some r∧AFr.enter A f args .normal=some fr∧RetV A fr' H' v∧fr'.fn=f∧Lz P ⟨fr,[],H⟩ ⟨fr',[],H'⟩
theorem kfast_ok (hA:A.Ok P) (hE:E.Ok P) (hP:P.follows .mixedOrders=true) (hB:BOk A P B) {f:FuncId} {fn:Func} {c:Code} (hf:A.funcs.get f=some fn) (hc:fn.body=some c)
  {args:List AV} {H:Heap} {k:AV→Heap→KR} {r:AV×Heap} (h:(kfast A E B f fn c).run args H k=some r):FRes A P f args H k r:=by
 simp only [kfast] at h
 split at h
 case h_2=>cases h
 next hle =>
 have hle':args.length≤fn.ntmps:=Nat.le_of_ble_eq_true hle
 rw [kfill_eq] at h
 have hent:AFr.enter A f args .normal=some { fn:=f,sz:=fn.ntmps,tmps:=T.ofList args 0 .nil,todo:=[.code c],defers:=[],mode:=.run,kind:=.normal,rnd:=none }:=by
  simp only [AFr.enter,hf,hc]
  rw [show args.length+(fn.ntmps - args.length)=fn.ntmps from by omega]
 rcases kcode_ok (f:=f) (sz:=fn.ntmps) hA hE hP hB c _ _ _ _ _ r h with ⟨t1,x1,H1,k1,k2,k3⟩ | ⟨j,t1,x1,H1,pre,k1,k2,k3,k4⟩
 ·obtain ⟨v,H',h1,h2⟩:=kback_ok (P:=P) hA hE k1
  have l0:=k3 { fn:=f,sz:=fn.ntmps,tmps:=T.ofList args 0 .nil,todo:=[.code c],defers:=[],mode:=.run,kind:=.normal,rnd:=none } [] [] rfl rfl
  obtain ⟨fr',u1,u2,u3⟩:=h2 { fn:=f,sz:=fn.ntmps,tmps:=t1,todo:=[],defers:=x1.ds,mode:=.returning,kind:=.normal,rnd:=x1.rnd } fn rfl rfl rfl rfl hf rfl
  refine ⟨v,H',_,fr',h1,hent,u1,u2,(l0.trans (Lz.step hA hE noD_ok ?_)).trans u3⟩
  simp only at k2
  simp only [astep,AFr.at,arun1,aleave,k2]
 ·unfold kbackJ at k1
  split at k1
  case h_2=>cases k1
  obtain ⟨v,H',h1,h2⟩:=kback_ok (P:=P) hA hE k1
  have l0:=k4 { fn:=f,sz:=fn.ntmps,tmps:=T.ofList args 0 .nil,todo:=[.code c],defers:=[],mode:=.run,kind:=.normal,rnd:=none } [] [] rfl rfl
  obtain ⟨fr',u1,u2,u3⟩:=h2 { fn:=f,sz:=fn.ntmps,tmps:=t1,todo:=.code .ret::(pre++[]),defers:=x1.ds,mode:=.returning,kind:=.normal,rnd:=x1.rnd } fn rfl rfl rfl rfl hf rfl
  refine ⟨v,H',_,fr',h1,hent,u1,u2,(l0.trans (Lz.step hA hE noD_ok ?_)).trans u3⟩
  simp only at k2
  simp only [astep,AFr.at,arun1,acode,aleave,k2]
theorem kleave_ok (hA:A.Ok P) (hE:E.Ok P) {l:Nat} {jump:Option Code} {H:Heap} {k:AV→Heap→KR} {r:AV×Heap} (h:kleave l jump H k=some r) :
  ∃ v H',k v H'=some r∧∀ (fr c c':AFr) (cs:List AFr),fr.rnd=some l→fr.kind=.normal→c.fin v=some c'→aleave ⟨fr,c::cs,H⟩ jump=some ⟨c',cs,H'⟩:=by
 unfold kleave at h
 rw [kblk_eq] at h
 obtain ⟨b,hb,h⟩:=Option.bind_eq_some_iff.1 h
 split at h
 case h_2=>cases h
 cases jump with
 |none =>
  simp only [kblkPut_eq] at h
  refine ⟨_,_,h,fun fr c c' cs e1 e2 e3=>?_⟩
  simp only [aleave,e1,hb,adoReturn,e2,Option.isNone,e3,if_true]
 |some j =>
  simp only [kblkPut_eq] at h
  refine ⟨_,_,h,fun fr c c' cs e1 e2 e3=>?_⟩
  simp only [aleave,e1,hb,adoReturn,e2,Option.isNone,e3]
  rfl
theorem kround_ok (hA:A.Ok P) (hE:E.Ok P) (hP:P.follows .mixedOrders=true) (hB:BOk A P B) {f:FuncId} {sz:Nat} {asg body:Code} {l:Nat} {t:T AV} {H:Heap} {k:AV→Heap→KR} {r:AV×Heap}
  (h:(kround A E B f sz asg body).run l t H k=some r) :
  ∃ v H',k v H'=some r∧Back P { fn:=f,sz,tmps:=t,todo:=[.code asg,.beginRound,.code body],defers:=[],mode:=.run,kind:=.normal,rnd:=some l } H v H':=by
 simp only [kround] at h
 rcases kcode_ok (f:=f) (sz:=sz) hA hE hP hB asg _ _ _ _ _ r h with ⟨t1,x1,H1,k1,k2,k3⟩ | ⟨j,t1,x1,H1,pre,k1,k2,k3,k4⟩
 case inr=>cases k1
 have g0:∀ (cs:List AFr),Lz P ⟨{ fn:=f,sz,tmps:=t,todo:=[.code asg,.beginRound,.code body],defers:=[],mode:=.run,kind:=.normal,rnd:=some l },cs,H⟩
   ⟨({ fn:=f,sz,tmps:=t,todo:=[],defers:=[],mode:=.run,kind:=.normal,rnd:=some l }:AFr).at t1 x1 [.beginRound,.code body],cs,H1⟩ :=
  fun cs=>k3 { fn:=f,sz,tmps:=t,todo:=[],defers:=[],mode:=.run,kind:=.normal,rnd:=some l } cs [.beginRound,.code body] rfl rfl
 simp only at k2
 unfold kbegin at k1
 rw [kblk_eq] at k1
 obtain ⟨b,hb,k1⟩:=Option.bind_eq_some_iff.1 k1
 split at k1
 case h_2=>cases k1
 next st pend fn0 s0 tmps0 ps0 asg0 body0 d =>
 split at k1
 case h_2=>cases k1
 rw [kblkPut_eq] at k1
 have g1:∀ (cs:List AFr),Lz P ⟨({ fn:=f,sz,tmps:=t,todo:=[],defers:=[],mode:=.run,kind:=.normal,rnd:=some l }:AFr).at t1 x1 [.beginRound,.code body],cs,H1⟩
   ⟨({ fn:=f,sz,tmps:=t,todo:=[],defers:=[],mode:=.run,kind:=.normal,rnd:=some l }:AFr).at t1 x1 [.code body],cs,{ H1 with blks:=H1.blks.set l (.loop .busy pend fn0 s0 tmps0 ps0 asg0 body0 d) }⟩:=by
  intro cs
  refine Lz.step hA hE noD_ok ?_
  simp only [astep,AFr.at,arun1,k2,hb]
 rcases kcode_ok (f:=f) (sz:=sz) hA hE hP hB body _ _ _ _ _ r k1 with ⟨t2,x2,H2,u1,u2,u3⟩ | ⟨j,t2,x2,H2,pre,u1,u2,u3,u4⟩
 ·obtain ⟨v,H',h1,h2⟩:=kleave_ok hA hE u1
  refine ⟨v,H',h1,fun c cs c' hc=>(((g0 _).trans (g1 _)).trans (u3 { fn:=f,sz,tmps:=t,todo:=[],defers:=[],mode:=.run,kind:=.normal,rnd:=some l } (c::cs) [] rfl rfl)).trans (Lz.step hA hE noD_ok ?_)⟩
  have:=h2 (({ fn:=f,sz,tmps:=t,todo:=[],defers:=[],mode:=.run,kind:=.normal,rnd:=some l }:AFr).at t2 x2 []) c c' cs (u2.trans k2) rfl hc
  exact this
 ·obtain ⟨v,H',h1,h2⟩:=kleave_ok hA hE u1
  refine ⟨v,H',h1,fun c cs c' hc=>(((g0 _).trans (g1 _)).trans (u4 { fn:=f,sz,tmps:=t,todo:=[],defers:=[],mode:=.run,kind:=.normal,rnd:=some l } (c::cs) [] rfl rfl)).trans (Lz.step hA hE noD_ok ?_)⟩
  have h3:=h2 (({ fn:=f,sz,tmps:=t,todo:=[],defers:=[],mode:=.run,kind:=.normal,rnd:=some l }:AFr).at t2 x2 (.code j::(pre++[]))) c c' cs (u2.trans k2) rfl hc
  cases j<;>first
   |exact h3
   |(next id =>
     have hx:aexitTo id (pre++[])=none:=u3 []
     simp only [astep,AFr.at,arun1,acode,hx]
     exact h3)
   |exact u3.elim
end
end Go.Am
namespace Go.Am
open Go.RowKit
section
variable {A:AP} {E:Eqs} {P:Program} {B:KB} {slow:T Unit}
theorem mcall_ok (hA:A.Ok P) (hE:E.Ok P) (hB:BOk A P B) {S S':ASt} {all:List Oper} {o:Oper} {els:Unit→Option ASt}
  (hst:aguard all S.fr.tmps o.guard=some true→∀ out,aop A E S.H (evT S.fr.tmps) o=some out→astep A E noD S=aout A S out)
  (h:mcall A E slow B.fn S all o els=some S'):els ()=some S'∨Lz P S S':=by
 unfold mcall at h
 split at h
 case h_2=>exact .inl h
 split at h
 case h_2=>exact .inl h
 next hg =>
 split at h
 case h_2=>exact .inl h
 next f args ho =>
 split at h
 case h_1=>exact .inl h
 split at h
 case h_2=>cases h
 next v H hr =>
 split at h
 case h_2=>cases h
 next fr hf =>
 cases h
 rw [ev_eq] at ho
 obtain ⟨v',H',fr0,h1,h2,h3⟩:=hB.fn f args S.H _ _ hr
 cases h1
 refine .inr ?_
 obtain ⟨sfr,scs,sH⟩:=S
 exact Does.lz (D:=noD) hA hE noD_ok (.enter f args fr0 ho h2 h3) (hst hg) hf
theorem mstep_ok (hA:A.Ok P) (hE:E.Ok P) (hB:BOk A P B) {D:Drawer} (hD:DSound P D) {S S':ASt} (h:mstep A E D slow B.fn S=some S'):Lz P S S':=by
 unfold mstep at h
 split at h
 case h_2=>exact Lz.step hA hE hD h
 next hm =>
 split at h
 ·next all o rest k htd =>
  rcases mcall_ok (P:=P) hA hE hB (by
   intro hg out hout
   simp only [astep,hm,arun1,htd,hg,ev_eq,hout]) h with h1 | h1
  ·exact Lz.step hA hE hD h1
  ·exact h1
 ·next all o rest htd =>
  rcases mcall_ok (P:=P) hA hE hB (by
   intro hg out hout
   simp only [astep,hm,arun1,htd,hg,ev_eq,hout]) h with h1 | h1
  ·exact Lz.step hA hE hD h1
  ·exact h1
 ·exact Lz.step hA hE hD h
theorem mfinal_ok {f:FuncId} {S:ASt} {v:AV} {H:Heap} (h:mfinal A f S=some (v,H)):RetV A S.fr H v∧S.fr.fn=f∧S=⟨S.fr,[],H⟩:=by
 unfold mfinal at h
 split at h
 case h_2=>cases h
 next hk =>
 split at h
 case h_2=>cases h
 next hf =>
 unfold afinal at h
 split at h
 case h_2=>cases h
 next hm hd hc =>
 split at h
 case h_2=>cases h
 next fn hfn =>
 split at h
 case h_2=>cases h
 next vs hvs =>
 cases h
 obtain ⟨fr,cs,H⟩:=S
 simp only at hc
 subst hc
 exact ⟨⟨hm,hd,hk,fn,vs,hfn,hvs,rfl⟩,Nat.eq_of_beq_eq_true hf,rfl⟩
theorem mrun_ok (hA:A.Ok P) (hE:E.Ok P) (hB:BOk A P B) {D:Drawer} (hD:DSound P D) {f:FuncId}:∀ (n:Nat) (S:ASt) (v:AV) (H':Heap),mrun A E D slow B.fn f n S=some (v,H') →
  ∃ fr',RetV A fr' H' v∧fr'.fn=f∧Lz P S ⟨fr',[],H'⟩
 |0,_,_,_,h=>by cases h
 |n+1,S,v,H',h=>by
  unfold mrun at h
  split at h
  ·next r hr =>
   cases h
   obtain ⟨h1,h2,h3⟩:=mfinal_ok hr
   refine ⟨S.fr,h1,h2,?_⟩
   rw [← h3]
   exact Lz.refl _
  ·split at h
   case h_2=>cases h
   next S1 hS =>
   rw [ASt.force_eq] at h
   obtain ⟨fr',h1,h2,h3⟩:=mrun_ok hA hE hB hD n S1 v H' h
   exact ⟨fr',h1,h2,(mstep_ok hA hE hB hD hS).trans h3⟩
theorem kslow_ok (hA:A.Ok P) (hE:E.Ok P) (hB:BOk A P B) {D:Drawer} (hD:DSound P D) {L:Nat} {f:FuncId} {args:List AV} {H:Heap} {k:AV→Heap→KR} {r:AV×Heap}
  (h:(kslow A E L D slow B.fn f).run args H k=some r):FRes A P f args H k r:=by
 simp only [kslow] at h
 split at h
 case h_2=>cases h
 next fr hfr =>
 split at h
 case h_2=>cases h
 next v H' hr =>
 simp only [fAV_eq,fHeap_eq] at h
 obtain ⟨fr',h1,h2,h3⟩:=mrun_ok hA hE hB hD L _ v H' hr
 exact ⟨v,H',fr,fr',h,hfr,h1,h2,h3⟩
theorem mone_rok (hA:A.Ok P) (hE:E.Ok P) (hB:BOk A P B) {D:Drawer} (hD:DSound P D) (n:Nat):ROk P (mone A E D slow B.fn n):=by
 induction n with
 |zero=>intro B0 w0 Z base S m fr cs w v H' hS e;cases e
 |succ n ih =>
  intro B0 w0 Z base S m fr cs w v H' hS e
  unfold mone at e
  split at e
  ·next u hcs htd =>
   cases e
   have h2:=hS.cs
   rw [hcs] at h2
   simp only [FrRs] at h2
   subst h2
   rcases hS.fr with h1 | ⟨z,hz,h1⟩
   ·have:=h1.todo
    rw [htd] at this
    obtain ⟨y,ys,_,h3,_⟩:=this
    exact h3.elim
   ·cases hz
    rcases h1.todo with ⟨o,h3,_⟩ | ⟨v',x,h3,h4,h5⟩
    ·rw [htd] at h3
     cases h3
    ·rw [htd] at h3
     cases h3
     exact ⟨m,w,x,by rw [← h5];exact .refl _ _,m.le_refl,h4,hS.H⟩
  ·split at e
   case h_2=>cases e
   next S' hS' =>
   rw [ASt.force_eq] at e
   obtain ⟨m1,fr1,cs1,w1,s1,s2,s3⟩:=mstep_ok hA hE hB hD hS' B0 w0 (some Z) m fr cs base w hS
   obtain ⟨m',w',x,r1,r2,r3,r4⟩:=ih (base:=base) S' m1 fr1 cs1 w1 v H' s3 e
   exact ⟨m',w',x,s1.trans r1,Env.le_trans s2 r2,r3,r4⟩
theorem kfn_ok (hA:A.Ok P) (hE:E.Ok P) (hP:P.follows .mixedOrders=true) (hB:BOk A P B) {L:Nat} {f:FuncId} {args:List AV} {H:Heap} {k:AV→Heap→KR} {r:AV×Heap}
  (h:(kfn A E L slow B f).run args H k=some r):FRes A P f args H k r:=by
 unfold kfn at h
 split at h
 ·exact kslow_ok hA hE hB hB.dr h
 ·split at h
  ·next fn hfn =>
   split at h
   ·next c hc=>exact kfast_ok hA hE hP hB hfn hc h
   ·cases h
  ·cases h
theorem RetV.final {fr:AFr} {H:Heap} {v:AV} (h:RetV A fr H v):afinal A ⟨fr,[],H⟩=some (v,H):=by
 obtain ⟨h1,h2,h3,fn,vs,h4,h5,rfl⟩:=h
 simp only [afinal,h1,h2,h4,h5]
theorem Lz.leads {S S':ASt} (h:Lz P S S'):Leads P S S':=fun B0 w0 m fr cs base w hS=>h B0 w0 none m fr cs base w hS
end
end Go.Am
namespace Go.Am
open Go.RowKit
mutual
def ren (σ:Nat→Nat):AV→AV
 |.ptr a o=>.ptr (σ a) o
 |.sl a o n c=>.sl (σ a) o n c
 |.map a=>.map (σ a)
 |.fn f a b=>.fn f (rens σ a) (rens σ b)
 |.yld a=>.yld (σ a)
 |.ifc t v=>.ifc t (ren σ v)
 |.agg l=>.agg (rens σ l)
 |.tup l=>.tup (rens σ l)
 |.bool b=>.bool b
 |.int k n=>.int k n
 |.str s=>.str s
 |.nilptr=>.nilptr
 |.zptr=>.zptr
 |.nilsl=>.nilsl
 |.nilmap=>.nilmap
 |.nilfn=>.nilfn
 |.nilifc=>.nilifc
def rens (σ:Nat→Nat):List AV→List AV
 |[]=>[]
 |v::vs=>ren σ v::rens σ vs
end
section
variable {m m':Env} {σ:Nat→Nat}
mutual
theorem VR.ren (h:∀ a l,m a=some l→m' (σ a)=some l):∀ (v:AV) (x:Value),VR m v x→VR m' (ren σ v) x
 |.bool _,_,e=>by simpa only [Am.ren,VR] using e
 |.int _ _,_,e=>by simpa only [Am.ren,VR] using e
 |.str _,_,e=>by simpa only [Am.ren,VR] using e
 |.nilptr,_,e=>by simpa only [Am.ren,VR] using e
 |.zptr,_,e=>by simpa only [Am.ren,VR] using e
 |.nilsl,_,e=>by simpa only [Am.ren,VR] using e
 |.nilmap,_,e=>by simpa only [Am.ren,VR] using e
 |.nilfn,_,e=>by simpa only [Am.ren,VR] using e
 |.nilifc,_,e=>by simpa only [Am.ren,VR] using e
 |.ptr _ _,_,e=>by
  simp only [Am.ren,VR] at e ⊢
  obtain ⟨l,h1,h2⟩:=e
  exact ⟨l,h _ _ h1,h2⟩
 |.sl a o n c,_,e=>by
  simp only [Am.ren,VR] at e ⊢
  obtain ⟨l,p,cc,h1,h2⟩:=e
  exact ⟨l,p,cc,h _ _ h1,h2⟩
 |.map _,_,e=>by
  simp only [Am.ren,VR] at e ⊢
  obtain ⟨l,h1,h2⟩:=e
  exact ⟨l,h _ _ h1,h2⟩
 |.yld _,_,e=>by
  simp only [Am.ren,VR] at e ⊢
  obtain ⟨l,h1,h2⟩:=e
  exact ⟨l,h _ _ h1,h2⟩
 |.fn _ a b,_,e=>by
  simp only [Am.ren,VR] at e ⊢
  obtain ⟨x,y,h1,h2,h3⟩:=e
  exact ⟨x,y,h1,VRs.ren h a _ h2,VRs.ren h b _ h3⟩
 |.ifc _ a,_,e=>by
  simp only [Am.ren,VR] at e ⊢
  obtain ⟨x,h1,h2⟩:=e
  exact ⟨x,h1,VR.ren h a _ h2⟩
 |.agg l,_,e=>by
  simp only [Am.ren,VR] at e ⊢
  obtain ⟨x,h1,h2⟩:=e
  exact ⟨x,h1,VRs.ren h l _ h2⟩
 |.tup l,_,e=>by
  simp only [Am.ren,VR] at e ⊢
  obtain ⟨x,h1,h2⟩:=e
  exact ⟨x,h1,VRs.ren h l _ h2⟩
theorem VRs.ren (h:∀ a l,m a=some l→m' (σ a)=some l):∀ (v:List AV) (x:List Value),VRs m v x→VRs m' (rens σ v) x
 |[],_,e=>by simpa only [rens,VRs] using e
 |a::as,_,e=>by
  simp only [rens,VRs] at e ⊢
  obtain ⟨y,ys,h1,h2,h3⟩:=e
  exact ⟨y,ys,h1,VR.ren h a _ h2,VRs.ren h as _ h3⟩
end
mutual
theorem VR.unren:∀ (v:AV) (x:Value),VR m (ren σ v) x→VR (fun a=>m (σ a)) v x
 |.bool _,_,e=>by simpa only [Am.ren,VR] using e
 |.int _ _,_,e=>by simpa only [Am.ren,VR] using e
 |.str _,_,e=>by simpa only [Am.ren,VR] using e
 |.nilptr,_,e=>by simpa only [Am.ren,VR] using e
 |.zptr,_,e=>by simpa only [Am.ren,VR] using e
 |.nilsl,_,e=>by simpa only [Am.ren,VR] using e
 |.nilmap,_,e=>by simpa only [Am.ren,VR] using e
 |.nilfn,_,e=>by simpa only [Am.ren,VR] using e
 |.nilifc,_,e=>by simpa only [Am.ren,VR] using e
 |.ptr _ _,_,e=>by simpa only [Am.ren,VR] using e
 |.sl a o n c,_,e=>by simpa only [Am.ren,VR] using e
 |.map _,_,e=>by simpa only [Am.ren,VR] using e
 |.yld _,_,e=>by simpa only [Am.ren,VR] using e
 |.fn _ a b,_,e=>by
  simp only [Am.ren,VR] at e ⊢
  obtain ⟨x,y,h1,h2,h3⟩:=e
  exact ⟨x,y,h1,VRs.unren a _ h2,VRs.unren b _ h3⟩
 |.ifc _ a,_,e=>by
  simp only [Am.ren,VR] at e ⊢
  obtain ⟨x,h1,h2⟩:=e
  exact ⟨x,h1,VR.unren a _ h2⟩
 |.agg l,_,e=>by
  simp only [Am.ren,VR] at e ⊢
  obtain ⟨x,h1,h2⟩:=e
  exact ⟨x,h1,VRs.unren l _ h2⟩
 |.tup l,_,e=>by
  simp only [Am.ren,VR] at e ⊢
  obtain ⟨x,h1,h2⟩:=e
  exact ⟨x,h1,VRs.unren l _ h2⟩
theorem VRs.unren:∀ (v:List AV) (x:List Value),VRs m (rens σ v) x→VRs (fun a=>m (σ a)) v x
 |[],_,e=>by simpa only [rens,VRs] using e
 |a::as,_,e=>by
  simp only [rens,VRs] at e ⊢
  obtain ⟨y,ys,h1,h2,h3⟩:=e
  exact ⟨y,ys,h1,VR.unren a _ h2,VRs.unren as _ h3⟩
end
def rene (σ:Nat→Nat):List (AV×AV×Nat)→List (AV×AV×Nat)
 |[]=>[]
 |(k,v,n)::es=>(ren σ k,ren σ v,n)::rene σ es
theorem ER.ren (h:∀ a l,m a=some l→m' (σ a)=some l):∀ (e:List (AV×AV×Nat)) (x:List MapEntry),ER m e x→ER m' (rene σ e) x
 |[],_,e=>e
 |(k,v,n)::es,_,⟨y,ys,h1,h2,h3,h4,h5⟩=>⟨y,ys,h1,VR.ren h _ _ h2,VR.ren h _ _ h3,h4,ER.ren h es _ h5⟩
theorem ER.unren:∀ (e:List (AV×AV×Nat)) (x:List MapEntry),ER m (rene σ e) x→ER (fun a=>m (σ a)) e x
 |[],_,e=>e
 |(k,v,n)::es,_,⟨y,ys,h1,h2,h3,h4,h5⟩=>⟨y,ys,h1,VR.unren _ _ h2,VR.unren _ _ h3,h4,ER.unren es _ h5⟩
inductive Lit where
 |cells (t:TypeId) (cs:List AV)
 |map (es:List (AV×AV×Nat)) (clock:Nat)
def Lit.ren (σ:Nat→Nat):Lit→Lit
 |.cells t cs=>.cells t (rens σ cs)
 |.map es clock=>.map (rene σ es) clock
def Lit.blk (a:Nat):Lit→ABlk
 |.cells t cs=>.cells t a cs.length (T.ofList cs 0 .nil)
 |.map es clock=>.map es clock
theorem rens_length (σ:Nat→Nat):∀ (l:List AV),(rens σ l).length=l.length
 |[]=>rfl
 |_::l=>by simp only [rens,List.length_cons,rens_length σ l]
theorem rens_get (σ:Nat→Nat):∀ (l:List AV) (i:Nat),(rens σ l)[i]?=l[i]?.map (ren σ)
 |[],_=>rfl
 |_::l,0=>rfl
 |_::l,i+1=>by simpa only [rens,List.getElem?_cons_succ] using rens_get σ l i
theorem get_ofList0 (l:List AV) (i:Nat):(T.ofList l 0 .nil).get i=l[i]?:=by
 rw [T.get_ofList]
 split
 ·rw [Nat.sub_zero]
 ·next h =>
  rw [T.get_nil,List.getElem?_eq_none]
  omega
theorem BR.lit_ren (h:∀ a l,m a=some l→m' (σ a)=some l) {b:Lit} {a a':Nat} {l:Loc} {o:Option Obj} (e:BR m (b.blk a) l o):BR m' ((b.ren σ).blk a') l o:=by
 cases b with
 |cells t cs =>
  obtain ⟨arr,h1,h2,h3,h4⟩:=e
  refine ⟨arr,h1,h2,by rw [rens_length];exact h3,fun i v hi=>?_⟩
  rw [get_ofList0,rens_get] at hi
  obtain ⟨u,hu,rfl⟩:=Option.map_eq_some_iff.1 hi
  obtain ⟨k1,x,k2,k3⟩:=h4 i u (by rw [get_ofList0];exact hu)
  exact ⟨by rw [rens_length];exact k1,x,k2,VR.ren h _ _ k3⟩
 |map es clock =>
  obtain ⟨arr,h1,h2⟩:=e
  exact ⟨arr,h1,ER.ren h _ _ h2⟩
theorem BR.lit_unren {b:Lit} {a a':Nat} {l:Loc} {o:Option Obj} (e:BR m ((b.ren σ).blk a') l o):BR (fun a=>m (σ a)) (b.blk a) l o:=by
 cases b with
 |cells t cs =>
  obtain ⟨arr,h1,h2,h3,h4⟩:=e
  refine ⟨arr,h1,h2,by rw [rens_length] at h3;exact h3,fun i v hi=>?_⟩
  rw [get_ofList0] at hi
  obtain ⟨k1,x,k2,k3⟩:=h4 i (Am.ren σ v) (by rw [get_ofList0,rens_get,hi];rfl)
  exact ⟨by rw [rens_length] at k1;exact k1,x,k2,VR.unren _ _ k3⟩
 |map es clock =>
  obtain ⟨arr,h1,h2⟩:=e
  exact ⟨arr,h1,ER.unren _ _ h2⟩
end
end Go.Am
