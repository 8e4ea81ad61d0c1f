/- Parts of the proof: Pv64, Pv65, Pv66, Pv67, Pv68, Pv75 -/
import Derived.Test.YtejnfigkngkhjaaP22
import Derived.Test.YtejnfigkngkhjaaP14
import Derived.Test.YtejnfigkngkhjaaP10
import Derived.Test.YtejnfigkngkhjaaP11
import Derived.Test.YtejnfigkngkhjaaP20
set_option linter.unusedVariables false
set_option linter.unusedSimpArgs false
set_option linter.unusedSectionVars false
namespace Go.Pv
open Go.Am Go.RowKit
section
variable {s:St} {A:AP} {P:Program} {E:Eqs} {w0:Base} {M:Nat→Bool} {sz:Nat} {b:Frame} {k:List Item} {cs:List Frame}
end
section
variable {C:Cx} {F:EQ} {X:EX} {k:List KI} {e:EL} {ds:List Nat} {h:PH}
end
end Go.Pv
namespace Go.Pv
open Go.Am Go.RowKit
section
variable {C:Cx} {X:EX} {e:EL} {ds:List Nat} {h:PH} {K:PV→PH→Prop}
variable {d:Option Tmp} {type:TypeId} {pos:String} {after:Array Edge} {guard:Option (Nat×Bool)}
end
end Go.Pv
namespace Go.Pv
open Go.Am Go.RowKit
section
variable {C:Cx} {fn:Func} {n:Nat} {R X:PV→PH→Prop} {e:EL} {h:PH} {gd:FuncId} {caps:List PV}
end
end Go.Pv
namespace Go.Pv
open Go.Am Go.RowKit
section
variable {C:Cx} {X:EX} {e:EL} {ds:List Nat} {h:PH} {K:PV→PH→Prop}
variable {d:Option Tmp} {type:TypeId} {pos:String} {after:Array Edge} {guard:Option (Nat×Bool)}
end
end Go.Pv
namespace Go.Pv
open Go.Am Go.RowKit
def PLive (A:AP) (h:PH) (t tx:TypeId) (s x:PV) (K:PV→PH→Prop):Prop :=
 ∃ e ex ti,A.under t=some (.slice e)∧A.under tx=some (.slice ex)∧A.info e=some ti∧∃ i len cap ez tl' news l post,s=.ms i 0 len cap ez∧x=.sl tl' news∧len=l.length∧len≤cap∧h.get i=some (.cells (flat l++post)) ∧
  post.length=(cap - len) * ti.size∧Each (fun v=>v.nc=ti.size) l∧Each (fun v=>v.nc=ti.size∧PV.allOne v.cells=true) news∧(l.length+news.length) * ti.bytes≤140737488355328∧l.length+news.length≤1000000000 ∧
  (∀ n,∃ zs vs,azeros A e n=some zs∧PV.ofAVs zs=some vs) ∧
  (∀ vs,l.length+news.length≤cap→vs.length=(cap - (l.length+news.length)) * ti.size→K (.ms i 0 (l.length+news.length) cap ez) (h.put i (.cells (flat (l++news)++vs)))) ∧
  ∀ c vs,l.length+news.length≤c→vs.length=(c - (l.length+news.length)) * ti.size→K (.ms h.next 0 (l.length+news.length) c (ezOf A e)) (h.add (.cells (flat (l++news)++vs)))
section
variable {s:St} {A:AP} {P:Program} {E:Eqs} {w0:Base} {M:Nat→Bool} {sz:Nat} {b:Frame} {k:List Item} {cs:List Frame}
def plv (A:AP) (t:Nat→Option PV) (h:PH) (o:Oper) (K:PV→PH→Prop):Prop :=
 ∃ c ty tx sv xv,o.op=.call c∧c.callee=.builtin .append∧c.argTypes.toList=[ty,tx]∧pargs (pev t) c.args.toList=some [sv,xv]∧PLive A h ty tx sv xv K
def pzs (A:AP) (t:TypeId) (n:Nat):Option (List PV) :=
 match A.under t with
 |some (.slice e)=>match azeros A e n with
  |some zs=>PV.ofAVs zs
  |none=>none
 |_=>none
def pcl (A:AP) (t:Nat→Option PV) (h:PH) (o:Oper) (K:PV→PH→Prop):Prop :=
 ∃ c ty sv,o.op=.call c∧c.callee=.builtin .clear∧c.argTypes.toList=[ty]∧pargs (pev t) c.args.toList=some [sv] ∧
  ∃ i o' len cap ez b vs,sv=.ms i o' len cap ez∧len≠0∧pzs A ty len=some vs∧PV.allOne vs=true∧h.get i=some (.cells b)∧o'+vs.length≤b.length∧K (.tup []) (h.put i (.cells (pputs b o' vs)))
def pregL (A:AP) (E:Eqs) (P:Program) (M:Nat→Bool) (sz:Nat):List Oper→T PV→PH→(T PV→PH→Prop)→(PV→PH→Prop)→Prop
 |[],t,h,K,_=>K t h
 |o::os,t,h,K,X=>dstIn sz o.dst=true∧o.guard=none∧(pop A E P M t.get h o (fun v h'=>pregL A E P M sz os (tput t o.dst v) h' K X) X∨plv A t.get h o (fun v h'=>pregL A E P M sz os (tput t o.dst v) h' K X)∨pcl A t.get h o (fun v h'=>pregL A E P M sz os (tput t o.dst v) h' K X))
end
section
variable {C:Cx} {F:EQ} {X:EX} {k:List KI} {e:EL} {ds:List Nat} {h:PH} {n:Nat} {l:HL} {os:List Oper}
@[irreducible] def RegL (C:Cx) (F:EQ) (X:EX) (k:List KI) (os:List Oper) (e:EL) (ds:List Nat) (h:PH):Prop :=
 ∀ t:T PV,t.get=lget e→pregL C.A C.E C.P C.M C.sz os t h (fun t h=>Pv.toQ (Ks C F X k) .normal t ds h) (X ds)
theorem RegL.nil (hk:Run C F X k e ds h):RegL C F X k [] e ds h:=by
 unfold RegL
 exact fun t ht=>hk.toQ fun i v hi=>by rw [ht];exact hi
theorem RegL.op {d:Nat} {op:Op} {type:TypeId} {pos:String} {after:Array Edge} (hd:Nat.blt d C.sz=true)
  (ho:Ope C X { dst:=some d,op,type,pos,after,guard:=none } e ds h fun v h'=>RegL C F X k os ((d,v)::e) ds h'):RegL C F X k ({ dst:=some d,op,type,pos,after,guard:=none }::os) e ds h:=by
 unfold RegL
 intro t ht
 refine ⟨hd,rfl,.inl ?_⟩
 unfold Ope at ho
 rw [ht]
 refine pop_mono ho (fun v h' hv=>?_) fun _ _ hx=>hx
 unfold RegL at hv
 exact hv _ (put_get ht d v)
end
end Go.Pv
namespace Go.Pv
open Go.Am Go.RowKit
section
variable {C:Cx} {F:EQ} {X:EX} {k:List KI} {e:EL} {ds:List Nat} {K:PV→PH→Prop} {n:Nat} {l:HL}
variable {d:Option Tmp} {type:TypeId} {pos:String} {after:Array Edge} {guard:Option (Nat×Bool)}
theorem Ope.apLp {t tx sz bytes sz' bytes':Nat} {agg agg':Bool} {x y:Operand} {tl':Tail} {vs ws:List PV} [hs:Slc C.A t agg sz bytes] [hm:Mka C.A t] [hs':Slc C.A tx agg' sz' bytes'] (hx:pev (lget e) x=some (.sl .ex vs)) (hy:pev (lget e) y=some (.sl tl' ws)) (hne:ws≠[])
  (hb1:(vs.length+ws.length) * bytes≤140737488355328) (hb2:vs.length+ws.length≤1000000000) (h1:1≤sz) (hv:∀ v∈vs,v.nc=sz) (hw:∀ v∈ws,v.nc=sz∧PV.allOne v.cells=true)
  (hK:∀ c post ez,vs.length+ws.length≤c→post.length=(c - (vs.length+ws.length)) * sz→K (.ms n 0 (vs.length+ws.length) c ez) (HE (n+1) ((n,some (.cells (flat (vs++ws)++post)))::l))) :
  Ope C X { dst:=d,op:=.call { callee:=.builtin .append,args:=#[x,y],argTypes:=#[t,tx] },type,pos,after,guard } e ds (HE n l) K:=by
 obtain ⟨el,ti,q1,q2,q3,q4,q5⟩:=hs.get
 obtain ⟨d',ti',h4,h5,rfl,rfl⟩:=q2.get
 rw [q3] at h5
 cases h5
 subst q4
 obtain ⟨el',ti',q1',_⟩:=hs'.get
 obtain ⟨el2,r1,r4⟩:=hm.get
 rw [q1] at r1
 cases r1
 unfold Ope
 simp only [pop,pkind,ploud,pargs,hx,hy,PAppend,q1,q1',q3]
 refine .inr ⟨hne,hb1,hb2,h1,q5,Each.of hv,Each.of hw,.inr (.inr ⟨r4,fun c vs' p1 p2=>?_⟩)⟩
 rw [HE_add]
 exact hK c vs' _ p1 p2
theorem Ope.apLw {t tx sz bytes sz' bytes' j len cap:Nat} {agg agg':Bool} {ez:Option Nat} {x y:Operand} {tl':Tail} {vs post ws:List PV} [hs:Slc C.A t agg sz bytes] [hm:Mka C.A t] [hs':Slc C.A tx agg' sz' bytes'] (hx:pev (lget e) x=some (.ms j 0 len cap ez)) (hy:pev (lget e) y=some (.sl tl' ws))
  (hg:hget l j=some (.cells (flat vs++post))) (hlen:len=vs.length) (hlc:len≤cap) (hpl:post.length=(cap - len) * sz) (hb1:(vs.length+ws.length) * bytes≤140737488355328) (hb2:vs.length+ws.length≤1000000000)
  (hv:∀ v∈vs,v.nc=sz) (hw:∀ v∈ws,v.nc=sz∧PV.allOne v.cells=true)
  (hK:∀ (j' n' c:Nat) (ez':Option Nat) (post':List PV),n≤n'→(j'=j∨(n≤j'∧j' < n'))→vs.length+ws.length≤c→post'.length=(c - (vs.length+ws.length)) * sz→K (.ms j' 0 (vs.length+ws.length) c ez') (HE n' ((j',some (.cells (flat (vs++ws)++post')))::l))) :
  Ope C X { dst:=d,op:=.call { callee:=.builtin .append,args:=#[x,y],argTypes:=#[t,tx] },type,pos,after,guard } e ds (HE n l) K:=by
 obtain ⟨el,ti,q1,q2,q3,q4,q5⟩:=hs.get
 obtain ⟨d',ti',h4,h5,rfl,rfl⟩:=q2.get
 rw [q3] at h5
 cases h5
 subst q4
 obtain ⟨el',ti',q1',_⟩:=hs'.get
 obtain ⟨el2,r1,r4⟩:=hm.get
 rw [q1] at r1
 cases r1
 subst hlen
 unfold Ope
 simp only [pop,pkind,ploud,pargs,hx,hy,PAppend,q1,q1',q3]
 refine .inr ⟨vs,post,rfl,hlc,hg,hpl,Each.of hv,Each.of hw,hb1,hb2,r4,fun vs' p1 p2=>?_,fun c vs' p1 p2=>?_⟩
 ·rw [HE_put]
  exact hK j n cap ez vs' (Nat.le_refl _) (.inl rfl) p1 p2
 ·rw [HE_add]
  exact hK n (n+1) c _ vs' (Nat.le_succ _) (.inr ⟨Nat.le_refl _,Nat.lt_succ_self _⟩) p1 p2
end
end Go.Pv
