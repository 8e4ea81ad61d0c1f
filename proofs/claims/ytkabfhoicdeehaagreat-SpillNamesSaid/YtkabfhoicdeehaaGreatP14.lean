/- Parts of the proof: Pv66, Pv67, Pv68, Pv48, Pv49, Pv50 -/
import Derived.Test.YtkabfhoicdeehaaGreatP13
import Derived.Test.YtkabfhoicdeehaaGreatP10
import Derived.Test.YtkabfhoicdeehaaGreatP11
import Derived.Test.YtkabfhoicdeehaaGreatP12
set_option linter.unusedVariables false
set_option linter.unusedSimpArgs false
set_option linter.unusedSectionVars false
namespace Go.Pv
open Go.Am Go.RowKit
def TilY (C:Cx) (fn:Func) (n:Nat) (R:PV→PH→Prop) (gd:FuncId) (caps:List PV) (y:Code) (e:EL) (h:PH):Prop :=
 PWP C.P C.fi fn.ntmps none y (fun x t ds h=>match x with
  |.normal=>Undo ds h∧PDefer C.A C.P gd caps (.lit .nilifc) (unds ds h) (fun h2=>PRes C.A fn n R t h2)
  |.jump .ret=>Undo ds h∧PDefer C.A C.P gd caps (.lit .nilifc) (unds ds h) (fun h2=>PRes C.A fn n R t h2)
  |_=>False) (fun t ds v h=>Undo ds h∧PDefer C.A C.P gd caps v (unds ds h) (fun h2=>PRes C.A fn n R t h2)) (TE e) [] h
section
variable {C:Cx} {fn:Func} {n:Nat} {R X:PV→PH→Prop} {e:EL} {h:PH} {gd:FuncId} {caps:List PV}
theorem TilY.ret (hd:PDefer C.A C.P gd caps (.lit .nilifc) h (ResE C fn n R e)):TilY C fn n R gd caps .ret e h :=
 PWP.jump (j:=.ret) trivial ⟨trivial,hd.mono fun _ hres=>hres.res fun i v hi=>by rw [TE_get];exact hi⟩
end
end Go.Pv
namespace Go.Pv
open Go.Am Go.RowKit
section
variable {C:Cx} {X:EX} {e:EL} {ds:List Nat} {h:PH} {K:PV→PH→Prop}
variable {d:Option Tmp} {type:TypeId} {pos:String} {after:Array Edge} {guard:Option (Nat×Bool)}
end
end Go.Pv
namespace Go.Pv
open Go.Am Go.RowKit
def PLive (A:AP) (h:PH) (t tx:TypeId) (s x:PV) (K:PV→PH→Prop):Prop :=
 ∃ e ex ti,A.under t=some (.slice e)∧A.under tx=some (.slice ex)∧A.info e=some ti∧∃ i len cap ez tl' news l post,s=.ms i 0 len cap ez∧x=.sl tl' news∧len=l.length∧len≤cap∧h.get i=some (.cells (flat l++post)) ∧
  post.length=(cap - len) * ti.size∧Each (fun v=>v.nc=ti.size) l∧Each (fun v=>v.nc=ti.size∧PV.allOne v.cells=true) news∧(l.length+news.length) * ti.bytes≤140737488355328∧l.length+news.length≤1000000000 ∧
  (∀ n,∃ zs vs,azeros A e n=some zs∧PV.ofAVs zs=some vs) ∧
  (∀ vs,l.length+news.length≤cap→vs.length=(cap - (l.length+news.length)) * ti.size→K (.ms i 0 (l.length+news.length) cap ez) (h.put i (.cells (flat (l++news)++vs)))) ∧
  ∀ c vs,l.length+news.length≤c→vs.length=(c - (l.length+news.length)) * ti.size→K (.ms h.next 0 (l.length+news.length) c (ezOf A e)) (h.add (.cells (flat (l++news)++vs)))
section
variable {s:St} {A:AP} {P:Program} {E:Eqs} {w0:Base} {M:Nat→Bool} {sz:Nat} {b:Frame} {k:List Item} {cs:List Frame}
theorem plive_ok (hA:A.Ok P) (hw:PW w0 s) {t tx ty:TypeId} {sv xv:PV} {K:PV→PH→Prop} (h:PLive A s.h t tx sv xv K) {x y:Value} (hx:RV s sv x) (hy:RV s xv y) :
  ∃ r v s',(Builtin.append_ #[t,tx] ty #[x,y]).run P s.w=.ok r s'.w∧PW w0 s'∧Ext s s'∧RV s' v r∧K v s'.h:=by
 obtain ⟨el,ex,ti,hu,hux,hti,i,len,cap,ez,tl',news,l,post,rfl,rfl,rfl,hlc,hgi,hpl,hl,hnews,hb1,hb2,hzs,hK1,hK2⟩:=h
 have ht:=hA.under_ok hu
 have htx:=hA.under_ok hux
 have hi:=hA.info _ _ hti
 have hn1:Each (fun v=>v.nc=ti.size) news:=hnews.imp fun _ h=>h.1
 have hn2:=flat_one (hnews.imp fun _ h=>h.2)
 obtain ⟨xb,xc,ys,rfl,hxc,y1,y2⟩:=sl_first (P:=P) hy hn1
 have hyl:=y1.length
 rw [flat_len hn1] at hyl
 obtain ⟨hin,rfl⟩:=RV_ms.1 hx
 obtain ⟨arr,tt,e2,e3,_,e4⟩:=hw.cells hgi
 have hal:=e3.length
 simp only [Array.length_toList,List.length_append,flat_len hl] at hal
 rcases Nat.lt_or_ge cap (l.length+news.length) with hgrow | hcap
 ·-- a new block
  have g1:=e3.take (l.length * ti.size)
  have k1:(flat l++post).take (l.length * ti.size)=flat l:=by
   rw [List.take_append_of_le_length (by rw [flat_len hl];exact Nat.le_refl _),List.take_of_length_le (by rw [flat_len hl];exact Nat.le_refl _)]
  rw [k1] at g1
  obtain ⟨r,s',c,vs,r1,r2,r3,r4,r5,r6,r7⟩:=live_append (ty:=ty) hA hw hu hux hti hb1 hb2 (os:=arr.toList.take (l.length * ti.size)) g1 (b:=some ⟨s.e i,0,none⟩) (c:=cap) (fun w' hw'=>by
   refine run_firstCells_some w' ti.size l.length _ l.length cap _ (by have hsz:arr.toList.length=arr.size:=Array.length_toList;rw [List.length_take,hsz];omega) fun q y hq=>?_
   rw [addr_add]
   rw [List.getElem?_take] at hq
   split at hq
   ·simp only [World.cell?,hw',e2,Nat.zero_add]
    rw [← Array.getElem?_toList]
    exact hq
   ·cases hq) hgrow y1 y2 hzs
  exact ⟨r,_,s',r1,r2,r3,r6,by rw [r7];exact hK2 c vs r4 r5⟩
 ·-- in place
  have hpost:news.length * ti.size≤post.length:=by rw [hpl];exact Nat.mul_le_mul_right _ (by omega)
  have hrun0:=run_storeCells_at P (s.e i) (0+l.length * ti.size) tt ys 0 arr s.w e2 (by rw [hyl];omega) (allOne_ok' hn2 y1)
  simp only [Nat.add_zero] at hrun0
  let arr':Array Value:=(arr.toList.take (0+l.length * ti.size)++ys++arr.toList.drop (0+l.length * ti.size+ys.length)).toArray
  have hu':=upd_setRow s.w (s.e i) arr arr' tt e2
  let cs':List PV:=flat (l++news)++post.drop (news.length * ti.size)
  have hx':Ext s (s.put i (.cells cs') (s.w.setRow (s.e i) arr')):=Ext.put e4 (Nat.le_of_eq hu'.size.symm) fun k hk=>hu'.old k hk
  have hcells:RVs (s.put i (.cells cs') (s.w.setRow (s.e i) arr')) cs' arr'.toList:=by
   refine (R2s.ext hx' cs').1 _ ?_
   have g1:=e3.take (l.length * ti.size)
   have g2:=e3.drop (l.length * ti.size+news.length * ti.size)
   have k1:(flat l++post).take (l.length * ti.size)=flat l:=by
    rw [List.take_append_of_le_length (by rw [flat_len hl];exact Nat.le_refl _),List.take_of_length_le (by rw [flat_len hl];exact Nat.le_refl _)]
   have k2:(flat l++post).drop (l.length * ti.size+news.length * ti.size)=post.drop (news.length * ti.size):=by
    rw [List.drop_append,flat_len hl,List.drop_eq_nil_of_le (by rw [flat_len hl];omega),List.nil_append]
    congr 1
    omega
   rw [k1] at g1
   rw [k2] at g2
   have:=(g1.append y1).append g2
   simp only [cs',flat_append,arr',Nat.zero_add,hyl]
   exact this
  have hw1:PW w0 (s.put i (.cells cs') (s.w.setRow (s.e i) arr')):=hw.put hin e4 rfl hu' (fun _ _ _ e=>by cases e;exact Nat.le_refl _) ⟨arr',tt,hu'.new,hcells⟩
  refine ⟨.slice (some ⟨s.e i,0,none⟩) (l.length+news.length) cap,.ms i 0 (l.length+news.length) cap ez,s.put i (.cells cs') (s.w.setRow (s.e i) arr'),?_,hw1,hx',RV_ms.2 ⟨hin,rfl⟩,?_⟩
  ·refine run_append_in (w:=s.w) t tx ty el ex ti ht htx hi _ l.length cap xb news.length xc ys y2 hcap ?_
   rw [addr_add]
   exact hrun0
  ·exact hK1 _ hcap (by rw [List.length_drop,hpl,← Nat.sub_mul];congr 1;omega)
def plv (A:AP) (t:Nat→Option PV) (h:PH) (o:Oper) (K:PV→PH→Prop):Prop :=
 ∃ c ty tx sv xv,o.op=.call c∧c.callee=.builtin .append∧c.argTypes.toList=[ty,tx]∧pargs (pev t) c.args.toList=some [sv,xv]∧PLive A h ty tx sv xv K
theorem plv_ok (hA:A.Ok P) (hw:PW w0 s) {t:Nat→Option PV} {ρ':Operand→Value} (hρ:∀ x v,pev t x=some v→RV s v (ρ' x)) {o:Oper} {K X:PV→PH→Prop} (h:plv A t s.h o K) :
  Did P w0 s K X ((execOp ρ' o).run P s.w):=by
 obtain ⟨c,ty,tx,sv,xv,ho,hc,hts,hargs,hp⟩:=h
 have two:∀ (b:Builtin),c.callee=.builtin b→∃ cs,(execOp ρ' o).run P s.w=(builtin b c.argTypes o.type cs (c.args.map ρ')).run P s.w:=by
  intro b hb
  simp only [execOp,ho,resolve,hb,pure_bind,invoke]
  exact ⟨_,rfl⟩
 have args2:∃ x y,c.args.map ρ'=#[x,y]∧RV s sv x∧RV s xv y:=by
  have hx:=pargs_ok hρ _ _ hargs
  obtain ⟨y,ys,e1,e2,e3⟩:=RVs_cons.1 hx
  obtain ⟨z,zs,f1,f2,f3⟩:=RVs_cons.1 e3
  rw [RVs_nil.1 f3] at f1
  subst f1
  exact ⟨y,z,by apply Array.ext';simpa using e1,e2,f2⟩
 obtain ⟨x,y,e0,e1,e2⟩:=args2
 have htt:c.argTypes=#[ty,tx]:=by apply Array.ext';simpa using hts
 obtain ⟨cs,e3⟩:=two _ hc
 obtain ⟨r,v,s',s1,s2,s3,s4,s5⟩:=plive_ok (ty:=o.type) hA hw hp e1 e2
 exact .inl ⟨r,v,s',.inl (by rw [e3,e0,htt];simp [builtin,s1]),s2,s3,s4,s5⟩
def pzs (A:AP) (t:TypeId) (n:Nat):Option (List PV) :=
 match A.under t with
 |some (.slice e)=>match azeros A e n with
  |some zs=>PV.ofAVs zs
  |none=>none
 |_=>none
def pcl (A:AP) (t:Nat→Option PV) (h:PH) (o:Oper) (K:PV→PH→Prop):Prop :=
 ∃ c ty sv,o.op=.call c∧c.callee=.builtin .clear∧c.argTypes.toList=[ty]∧pargs (pev t) c.args.toList=some [sv] ∧
  ∃ i o' len cap ez b vs,sv=.ms i o' len cap ez∧len≠0∧pzs A ty len=some vs∧PV.allOne vs=true∧h.get i=some (.cells b)∧o'+vs.length≤b.length∧K (.tup []) (h.put i (.cells (pputs b o' vs)))
theorem pcl_ok (hA:A.Ok P) (hw:PW w0 s) {t:Nat→Option PV} {ρ':Operand→Value} (hρ:∀ x v,pev t x=some v→RV s v (ρ' x)) {o:Oper} {K X:PV→PH→Prop} (h:pcl A t s.h o K) :
  Did P w0 s K X ((execOp ρ' o).run P s.w):=by
 obtain ⟨c,ty,sv,ho,hc,hts,hargs,i,o',len,cap,ez,b,vs,rfl,hl0,hzs,hone,hgi,hle,hK⟩:=h
 have two:∀ (b:Builtin),c.callee=.builtin b→∃ cs,(execOp ρ' o).run P s.w=(builtin b c.argTypes o.type cs (c.args.map ρ')).run P s.w:=by
  intro b hb
  simp only [execOp,ho,resolve,hb,pure_bind,invoke]
  exact ⟨_,rfl⟩
 have args1:∃ x,c.args.map ρ'=#[x]∧RV s (.ms i o' len cap ez) x:=by
  have hx:=pargs_ok hρ _ _ hargs
  obtain ⟨y,ys,e1,e2,e3⟩:=RVs_cons.1 hx
  rw [RVs_nil.1 e3] at e1
  exact ⟨y,by apply Array.ext';simpa using e1,e2⟩
 obtain ⟨x,e0,e1⟩:=args1
 have htt:c.argTypes=#[ty]:=by apply Array.ext';simpa using hts
 obtain ⟨cs,e3⟩:=two _ hc
 obtain ⟨hin,rfl⟩:=RV_ms.1 e1
 obtain ⟨arr,tt,g2,g3,_,g4⟩:=hw.cells hgi
 have hal:=g3.length
 simp only [Array.length_toList] at hal
 unfold pzs at hzs
 split at hzs
 case h_2=>cases hzs
 next el hu =>
 split at hzs
 case h_2=>cases hzs
 next zs hz1 =>
 obtain ⟨ie,z,p0,p1,p2,p3,_,p5,p6⟩:=azeros_ok (m:=noEnv) hA hz1
 have hvs:RVs s vs (Builtin.zeroCells z.cells len).toList:=by
  refine PV.ofAVs_ok zs vs _ hzs ?_
  unfold Builtin.zeroCells
  rw [← p3] at p6
  exact p6
 generalize hys:(Builtin.zeroCells z.cells len).toList=ys at hvs
 have hyl:=hvs.length
 have hrun0:=run_storeCells_at P (s.e i) o' tt ys 0 arr s.w g2 (by rw [hyl];omega) (allOne_ok' hone hvs)
 simp only [Nat.add_zero] at hrun0
 let arr':Array Value:=(arr.toList.take o'++ys++arr.toList.drop (o'+ys.length)).toArray
 have hu':=upd_setRow s.w (s.e i) arr arr' tt g2
 let cs':List PV:=pputs b o' vs
 have hx':Ext s (s.put i (.cells cs') (s.w.setRow (s.e i) arr')):=Ext.put g4 (Nat.le_of_eq hu'.size.symm) fun k hk=>hu'.old k hk
 have hcells:RVs (s.put i (.cells cs') (s.w.setRow (s.e i) arr')) cs' arr'.toList:=by
  refine (R2s.ext hx' cs').1 _ ?_
  have:=((g3.take o').append hvs).append (g3.drop (o'+vs.length))
  simp only [cs',pputs,arr',hyl]
  exact this
 have hw1:PW w0 (s.put i (.cells cs') (s.w.setRow (s.e i) arr')):=hw.put hin g4 rfl hu' (fun _ _ _ e=>by cases e;exact Nat.le_refl _) ⟨arr',tt,hu'.new,hcells⟩
 refine .inl ⟨.tuple #[],.tup [],s.put i (.cells cs') (s.w.setRow (s.e i) arr'),.inl ?_,hw1,hx',RV_tup.2 ⟨#[],rfl,RVs_nil.2 rfl⟩,hK⟩
 have hlen:∀ n:Nat,len=n→n≠0:=fun n e=>by omega
 cases len with
 |zero=>exact absurd rfl hl0
 |succ m =>
  rw [e3,e0,htt]
  simp [builtin,Builtin.clear_,run_underlying (hA.under_ok hu),zeroValue,run_typeInfo' p1,p2,hys,hrun0,St.put,arr']
def pregL (A:AP) (E:Eqs) (P:Program) (M:Nat→Bool) (sz:Nat):List Oper→T PV→PH→(T PV→PH→Prop)→(PV→PH→Prop)→Prop
 |[],t,h,K,_=>K t h
 |o::os,t,h,K,X=>dstIn sz o.dst=true∧o.guard=none∧(pop A E P M t.get h o (fun v h'=>pregL A E P M sz os (tput t o.dst v) h' K X) X∨plv A t.get h o (fun v h'=>pregL A E P M sz os (tput t o.dst v) h' K X)∨pcl A t.get h o (fun v h'=>pregL A E P M sz os (tput t o.dst v) h' K X))
theorem preg_goL (hA:A.Ok P) (hE:E.Ok P) (hm:b.mode=.run) {ops:Array Oper} {Q:PQ} {X:T PV→List Nat→PV→PH→Prop} {ds:List Nat} {tl:T PV}:∀ (os:List Oper) (i:Nat) (s:St) (t:T PV) (arr:Array Value),ops.toList.drop i=os →
  pregL A E P M sz os t s.h (fun t h=>Q .normal t ds h) (X tl ds)→PW w0 s→TV s t.get arr→(TV s tl.get arr∧∀ o∈os,∀ i v,tl.get i=some v→o.dst≠some i)→arr.size=sz→(∀ i∈ds,i < s.h.next) →
  POut P w0 s sz b k cs Q X (lone (on b arr (dls s ds) (.inRegion ops ((List.range ops.size).drop i)::k)) cs s.w)
 |[],i,s,t,arr,hos,hp,hw,ht,htl,hsz,hds=>by
  have hle:ops.size≤i:=by simpa using hos
  have e0:(List.range ops.size).drop i=[]:=List.drop_eq_nil_of_le (by simpa using hle)
  rw [e0]
  exact ⟨s,arr,ds,hw,Ext.refl s,hsz,hds,.inl ⟨t,hp,ht,step_on hm (by simp [stepG.exec,on])⟩⟩
 |o :: os, i, s, t, arr, hos, hp, hw, ht, htl, hsz, hds => by
  have hlt:i < ops.size:=by
   rcases Nat.lt_or_ge i ops.size with h1 | h1
   ·exact h1
   ·rw [List.drop_eq_nil_of_le (by simpa using h1)] at hos;cases hos
  have hdr:=List.drop_eq_getElem_cons (l:=ops.toList) (i:=i) (by simpa using hlt)
  rw [hos] at hdr
  simp only [List.cons.injEq] at hdr
  obtain ⟨hd1,hd2⟩:=hdr
  have ho:ops[i]?=some o:=by rw [Array.getElem?_eq_getElem hlt,hd1];simp
  have er:(List.range ops.size).drop i=i::(List.range ops.size).drop (i+1):=by
   rw [List.drop_eq_getElem_cons (by simpa using hlt)]
   simp
  rw [er]
  obtain ⟨hdst,hg,hp⟩:=hp
  have hdst':dstIn arr.size o.dst=true:=by rw [hsz];exact hdst
  have hρ:∀ x v,pev t.get x=some v→RV s v ((on b arr (dls s ds) (.inRegion ops (i::(List.range ops.size).drop (i+1))::k)).eval x):=fun x v hx=>ev_on ht x v hx
  have hdid:Did P w0 s (fun v h'=>pregL A E P M sz os (tput t o.dst v) h' (fun t h=>Q .normal t ds h) (X tl ds)) (X tl ds) ((execOp (on b arr (dls s ds) (.inRegion ops (i::(List.range ops.size).drop (i+1))::k)).eval o).run P s.w)∧∀ c,o.op≠.defer c:=by
   rcases hp with hp | hp | hp
   ·exact ⟨pop_ok hA hE hw hρ hp,pop_nodefer hp⟩
   ·refine ⟨plv_ok hA hw hρ hp,fun c hc=>?_⟩
    obtain ⟨c',_,_,_,_,ho',_⟩:=hp
    rw [hc] at ho'
    cases ho'
   ·refine ⟨pcl_ok hA hw hρ hp,fun c hc=>?_⟩
    obtain ⟨c',_,_,ho',_⟩:=hp
    rw [hc] at ho'
    cases ho'
  rcases op_goN (b:=b) (k:=k) (cs:=cs) (dl:=dls s ds) (rest:=(List.range ops.size).drop (i+1)) hw ht hdid.1 hdid.2 ho (by simp [Region.wanted,hg]) hm with ⟨x,v,s',h1,h2,h3,h4,h5⟩ | ⟨x,v,s',todo,h1,h2,h3,h4,h5⟩
  ·refine POut.of_steps h5 (POut.ext h2 ?_)
   rw [← dls_ext h2 hds]
   exact preg_goL hA hE hm os (i+1) s' (tput t o.dst v) (putA arr o.dst x) hd2.symm h4 h1 ((ht.ext h2).put hdst' h3) ⟨(htl.1.ext h2).putNot (htl.2 o (by simp)),fun p hp=>htl.2 p (List.mem_cons_of_mem _ hp)⟩ (by rw [putA_size];exact hsz) fun j hj=>Nat.lt_of_lt_of_le (hds j hj) h2.next
  ·refine ⟨s',arr,ds,h1,h2,hsz,fun j hj=>Nat.lt_of_lt_of_le (hds j hj) h2.next,.inr (.inr ⟨tl,v,x,todo,h4,h3,htl.1.ext h2,?_⟩)⟩
   rw [dls_ext h2 hds]
   exact h5
theorem PWP.regionL (hA:A.Ok P) (hE:E.Ok P) {id:Nat} {ops:Array Oper} {rnd:Option Nat} {fi:FuncId} {Q:PQ} {X:T PV→List Nat→PV→PH→Prop} {t:T PV} {ds:List Nat} {h:PH} (hp:pregL A E P M sz ops.toList t h (fun t h=>Q .normal t ds h) (X (tless t ops.toList) ds)) :
  PWP P fi sz rnd (.region id ops false) Q X t ds h:=by
 intro w0 s arr b k cs a1 a2 a3 a4 a5 a6 a7 a8 a9
 subst a2
 refine POut.of_steps (step_on (k':=.inRegion ops (List.range ops.size)::k) a6 (by simp [stepG.exec,on])) ?_
 have:=preg_goL (k:=k) (cs:=cs) (M:=M) (b:=b) hA hE a6 ops.toList 0 s t arr rfl hp a1 a3 ⟨fun i v hi=>a3 i v (tless_get _ _ _ _ hi).1,fun o ho i v hi=>(tless_get _ _ _ _ hi).2 o ho⟩ a4 a5
 simpa using this
end
section
variable {C:Cx} {F:EQ} {X:EX} {k:List KI} {e:EL} {ds:List Nat} {h:PH} {n:Nat} {l:HL} {os:List Oper}
@[irreducible] def RegL (C:Cx) (F:EQ) (X:EX) (k:List KI) (os:List Oper) (e:EL) (ds:List Nat) (h:PH):Prop :=
 ∀ t:T PV,t.get=lget e→pregL C.A C.E C.P C.M C.sz os t h (fun t h=>Pv.toQ (Ks C F X k) .normal t ds h) (X ds)
theorem Run.regionL (hC:C.Ok) {id:Nat} {ops:Array Oper} (hr:RegL C F X k ops.toList e ds h):Run C F X (.c (.region id ops false)::k) e ds h:=by
 unfold RegL at hr
 exact Run.intro (PWP.regionL hC.A hC.E (hr (TE e) (TE_getf e)))
theorem RegL.nil (hk:Run C F X k e ds h):RegL C F X k [] e ds h:=by
 unfold RegL
 exact fun t ht=>hk.toQ fun i v hi=>by rw [ht];exact hi
theorem RegL.op {d:Nat} {op:Op} {type:TypeId} {pos:String} {after:Array Edge} (hd:Nat.blt d C.sz=true)
  (ho:Ope C X { dst:=some d,op,type,pos,after,guard:=none } e ds h fun v h'=>RegL C F X k os ((d,v)::e) ds h'):RegL C F X k ({ dst:=some d,op,type,pos,after,guard:=none }::os) e ds h:=by
 unfold RegL
 intro t ht
 refine ⟨hd,rfl,.inl ?_⟩
 unfold Ope at ho
 rw [ht]
 refine pop_mono ho (fun v h' hv=>?_) fun _ _ hx=>hx
 unfold RegL at hv
 exact hv _ (put_get ht d v)
theorem RegL.op0 {op:Op} {type:TypeId} {pos:String} {after:Array Edge}
  (ho:Ope C X { dst:=none,op,type,pos,after,guard:=none } e ds h fun _ h'=>RegL C F X k os e ds h'):RegL C F X k ({ dst:=none,op,type,pos,after,guard:=none }::os) e ds h:=by
 unfold RegL
 intro t ht
 refine ⟨rfl,rfl,.inl ?_⟩
 unfold Ope at ho
 rw [ht]
 refine pop_mono ho (fun v h' hv=>?_) fun _ _ hx=>hx
 unfold RegL at hv
 exact hv _ ht
end
end Go.Pv
namespace Go.Pv
open Go.Am Go.RowKit
def maskOf (M:Nat→Bool) (an:T Nat) (all:List Oper) (ord:List Nat) (i:Nat):Nat :=
 ((ord.takeWhile fun j=>!(Nat.beq i j)).filter (loudI M all)).foldl (fun m l=>Nat.lor (Nat.lor m (anc an l)) (2 ^ l)) (anc an i)
def anL (M:Nat→Bool) (an:T Nat) (all:List Oper) (ord:List Nat):T Nat:=T.ofList ((List.range all.length).map (maskOf M an all ord)) 0 .nil
structure OrdL (M:Nat→Bool) (an:T Nat) (all:List Oper) (ord:List Nat):Prop where
 at_:∀ a i c,ord=a++i::c→i < all.length∧i ∉ a∧(∀ j,(anc an i).testBit j=true→j∈a)∧(loudI M all i=false→∀ a1 l a2,a=a1++l::a2→loudI M all l=true→(∀ x∈a2,loudI M all x=false)→(anc an i).testBit l=true)
 mem:∀ i,i < all.length→i∈ord
theorem takeWhile_before {i:Nat}:∀ {a c:List Nat},i ∉ a→(a++i::c).takeWhile (fun j=>!(Nat.beq i j))=a
 |[],c,_=>by simp
 |x::a,c,h=>by
  have hne:i≠x:=fun e=>h (by simp [e])
  have hb:Nat.beq i x=false:=by
   cases hb:Nat.beq i x with
   |false=>rfl
   |true=>exact absurd (Nat.eq_of_beq_eq_true hb) hne
  simp only [List.cons_append,List.takeWhile_cons,hb,Bool.not_false,if_true]
  rw [takeWhile_before fun h'=>h (List.mem_cons_of_mem _ h')]
theorem bit_fold (an:T Nat) (j:Nat):∀ (ls:List Nat) (m:Nat),(ls.foldl (fun m l=>Nat.lor (Nat.lor m (anc an l)) (2 ^ l)) m).testBit j=true↔m.testBit j=true∨∃ l∈ls,j=l∨(anc an l).testBit j=true
 |[],m=>by simp
 |l::ls,m=>by
  simp only [List.foldl_cons]
  rw [bit_fold an j ls,bit_lor]
  have e:(Nat.lor m (anc an l)).testBit j=(m.testBit j || (anc an l).testBit j):=Nat.testBit_or ..
  rw [e]
  simp only [Bool.or_eq_true,decide_eq_true_eq,List.mem_cons,exists_eq_or_imp]
  constructor
  ·rintro (((h | h) | h) | h)
   ·exact .inl h
   ·exact .inr (.inl (.inr h))
   ·exact .inr (.inl (.inl h.symm))
   ·exact .inr (.inr h)
  ·rintro (h | (h | h) | h)
   ·exact .inl (.inl (.inl h))
   ·exact .inl (.inr h.symm)
   ·exact .inl (.inl (.inr h))
   ·exact .inr h
theorem anL_bit {M:Nat→Bool} {an:T Nat} {all:List Oper} {ord a c:List Nat} {i j:Nat} (hi:i < all.length) (he:ord=a++i::c) (hia:i ∉ a) :
  (anc (anL M an all ord) i).testBit j=true↔(anc an i).testBit j=true∨∃ l∈a,loudI M all l=true∧(j=l∨(anc an l).testBit j=true):=by
 have hget:(anL M an all ord).get i=some (maskOf M an all ord i):=by
  unfold anL
  rw [T.get_ofList]
  simp [hi]
 have hm:anc (anL M an all ord) i=maskOf M an all ord i:=by unfold anc;rw [hget];rfl
 rw [hm]
 unfold maskOf
 rw [he,takeWhile_before hia,bit_fold]
 simp only [List.mem_filter]
 constructor
 ·rintro (h | ⟨l,⟨h1,h2⟩,h3⟩)
  ·exact .inl h
  ·exact .inr ⟨l,h1,h2,h3⟩
 ·rintro (h | ⟨l,h1,h2,h3⟩)
  ·exact .inl h
  ·exact .inr ⟨l,⟨h1,h2⟩,h3⟩
theorem OrdL.split {M:Nat→Bool} {an:T Nat} {all:List Oper} {ord:List Nat} (hO:OrdL M an all ord) {i:Nat} (hi:i < all.length):∃ a c,ord=a++i::c∧i ∉ a:=by
 obtain ⟨a,c,e⟩:=List.append_of_mem (hO.mem i hi)
 exact ⟨a,c,e,(hO.at_ a i c e).2.1⟩
theorem loudAt_I {M:Nat→Bool} {all:List Oper} {i:Nat}:loudAt M all i=loudI M all i:=by
 unfold loudAt loudI
 rw [nthK_eq]
 cases all[i]?<;>rfl
theorem OrdL.ord {M:Nat→Bool} {an:T Nat} {all:List Oper} {ord:List Nat} (hO:OrdL M an all ord):Ord M (anL M an all ord) all ord:=by
 refine ⟨fun a i c e=>?_,hO.mem⟩
 obtain ⟨h1,h2,h3,h4⟩:=hO.at_ a i c e
 refine ⟨h1,h2,fun j hj=>?_,fun l hl hll=>?_⟩
 ·rcases (anL_bit h1 e h2).1 hj with h | ⟨l,g1,g2,rfl | g3⟩
  ·exact h3 j h
  ·exact g1
  ·obtain ⟨a1,a2,rfl⟩:=List.append_of_mem g1
   have:=(hO.at_ a1 l (a2++i::c) (by rw [e];simp)).2.2.1 j g3
   exact List.mem_append_left _ this
 ·rw [loudAt_I] at hll
  exact (anL_bit h1 e h2).2 (.inr ⟨l,hl,hll,.inl rfl⟩)
end Go.Pv
namespace Go.Pv
open Go.Am Go.RowKit
section
variable {A:AP} {P:Program} {E:Eqs} {w0:Base} {M:Nat→Bool} {sz:Nat} {an:T Nat} {ord:List Nat} {K:T PV→PH→Prop} {X:PV→PH→Prop}
end
section
variable {C:Cx} {F:EQ} {X:EX} {k:List KI} {e:EL} {ds:List Nat} {h:PH}
def Dras (C:Cx) (F:EQ) (X:EX) (k:List KI) (all:List Oper) (e:EL) (ds:List Nat) (h:PH):List (List (Nat×Bool))→Prop
 |[]=>True
 |fl::fls=>Dra C F X k all fl e ds h∧Dras C F X k all e ds h fls
theorem Dras.mem {all:List Oper}:∀ {fls:List (List (Nat×Bool))},Dras C F X k all e ds h fls→∀ fl∈fls,Dra C F X k all fl e ds h
 |[],_,fl,hm=>by cases hm
 |x::fls,hd,fl,hm=>by
  rcases List.mem_cons.1 hm with rfl | hm
  ·exact hd.1
  ·exact Dras.mem hd.2 fl hm
end
end Go.Pv
namespace Go.Pv
open Go.Am Go.RowKit
section
variable {C:Cx} {F:EQ} {X:EX} {k:List KI} {e:EL} {ds:List Nat} {h:PH} {n m:Nat} {l l':HL} {K:PV→PH→Prop}
variable {d:Option Nat} {type:TypeId} {pos:String} {after:Array Edge} {guard:Option (Nat×Bool)}
end
end Go.Pv
