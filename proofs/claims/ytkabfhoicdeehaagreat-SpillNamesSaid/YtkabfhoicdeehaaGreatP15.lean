/- Parts of the proof: Pv51, Pv52, Pv53, Pv55, Pv56, Pv57 -/
import Derived.Test.YtkabfhoicdeehaaGreatP14
import Derived.Test.YtkabfhoicdeehaaGreatP12
set_option linter.unusedVariables false
set_option linter.unusedSimpArgs false
set_option linter.unusedSectionVars false
namespace Go.Pv
open Go.Am Go.RowKit
section
variable {C:Cx} {X:EX} {e:EL} {ds:List Nat} {h:PH} {K:PV→PH→Prop}
variable {d:Option Tmp} {type:TypeId} {pos:String} {after:Array Edge} {guard:Option (Nat×Bool)}
end
end Go.Pv
namespace Go.Pv
open Go.Am Go.RowKit
section
variable {C:Cx} {X:EX} {e:EL} {ds:List Nat} {n:Nat} {l:HL} {h:PH} {K:PV→PH→Prop}
variable {d:Option Tmp} {type:TypeId} {pos:String} {after:Array Edge} {guard:Option (Nat×Bool)}
theorem Ope.copyS {t tx sz bytes i o cap dl:Nat} {agg:Bool} {ez:Option Nat} {x y:Operand} {tl:Tail} {vs cs cs':List PV} [hs:Slc C.A t agg sz bytes] (hx:pev (lget e) x=some (.ms i o dl cap ez)) (hy:pev (lget e) y=some (.sl tl vs))
  (hg:hget l i=some (.cells cs)) (hv:∀ v∈vs,v.nc=sz∧PV.allOne v.cells=true) (hl:vs.length=dl) (ho:o+dl * sz≤cs.length) (hcs:pputs cs o (flat vs)=cs') (hK:K (I dl) (HE n ((i,some (.cells cs'))::l))) :
  Ope C X { dst:=d,op:=.call { callee:=.builtin .copy,args:=#[x,y],argTypes:=#[t,tx] },type,pos,after,guard } e ds (HE n l) K:=by
 obtain ⟨el,ti,h1,h2,h3,_,_⟩:=hs.get
 obtain ⟨d',ti',h4,h5,rfl,rfl⟩:=h2.get
 rw [h3] at h5
 cases h5
 subst hl
 unfold Ope
 simp only [pop,pkind,ploud,pargs,hx,hy,PCopy,h1,h3]
 refine ⟨cs,hg,Each.of hv,ho,?_⟩
 have hmin:Nat.min vs.length vs.length=vs.length:=Nat.min_self _
 rw [hmin,List.take_length,hcs,HE_put]
 exact hK
end
end Go.Pv
namespace Go.Pv
open Go.Am Go.RowKit
section
variable {C:Cx} {X:EX} {e:EL} {ds:List Nat} {n:Nat} {l:HL} {h:PH} {K:PV→PH→Prop}
variable {d:Option Tmp} {type:TypeId} {pos:String} {after:Array Edge} {guard:Option (Nat×Bool)}
theorem Ope.eqV {t t':TypeId} {x y:Operand} {p q:PV} {b:Bool} (hx:pev (lget e) x=some p) (hy:pev (lget e) y=some q) (hb:pbin C.A C.E .eql t x y p q=some (B b)) (hK:K (B b) h) :
  Ope C X { dst:=d,op:=.binOp .eql t x y t',type,pos,after,guard } e ds h K:=by
 refine Ope.quiet rfl ?_ hK
 simp only [pquiet,hx,hy,hb]
end
end Go.Pv
namespace Go.Pv
open Go.Am Go.RowKit
section
variable {C:Cx} {F:EQ} {X:EX} {e:EL} {ds:List Nat} {n m m':Nat} {l l':HL} {K:PV→PH→Prop}
variable {d:Option Tmp} {type:TypeId} {pos:String} {after:Array Edge} {guard:Option (Nat×Bool)}
end
end Go.Pv
namespace Go.Pv
open Go.Am Go.RowKit
section
variable {C:Cx} {F:EQ} {X:EX} {k:List KI} {e:EL} {ds:List Nat} {h:PH}
theorem Run.weakT {c:Code} {d:Nat} {tl:Tail} {vs:List PV} (hd:lget e d=some (.sl tl vs)) (hr:Run C F X (.c c::k) ((d,.sl .no vs)::e) ds h):Run C F X (.c c::k) e ds h:=by
 refine Run.ghost (fun t ht=>⟨t.set d (.sl .no vs),?_,?_⟩) hr
 ·intro j u hj
  simp only [lget] at hj
  simp only [T.get_set]
  split at hj
  ·next hb=>rw [if_pos (Nat.eq_of_beq_eq_true hb)];exact hj
  ·next hb =>
   rw [if_neg (fun c=>by subst c;simp at hb)]
   exact ht j u hj
 ·intro w0 s arr a1 a2 a3
  refine ⟨s,rfl,a1,Ext.refl s,a2,?_⟩
  intro j u hj
  simp only [T.get_set] at hj
  split at hj
  ·next hjd =>
   cases hj
   subst hjd
   obtain ⟨x,x1,x2⟩:=a3 j _ (ht j _ hd)
   exact ⟨x,x1,RV_tl_no x2⟩
  ·exact a3 j u hj
end
end Go.Pv
namespace Go.Pv
open Go.Am Go.RowKit
mutual
def PV.lone:PV→Bool
 |.lit _=>true
 |.agg l=>PV.lones l
 |.tup l=>PV.lones l
 |.ifc _ v=>PV.lone v
 |_=>false
def PV.lones:List PV→Bool
 |[]=>true
 |v::vs=>PV.lone v && PV.lones vs
end
mutual
theorem lone_rv {s s':St}:∀ (v:PV),v.lone=true→∀ x,RV s v x→RV s' v x
 |.lit a,_,x,h=>RV_lit.2 (RV_lit.1 h)
 |.agg l,hv,x,h=>by
  obtain ⟨y,rfl,h2⟩:=RV_agg.1 h
  exact RV_agg.2 ⟨y,rfl,lones_rv l (by simpa [PV.lone] using hv) _ h2⟩
 |.tup l,hv,x,h=>by
  obtain ⟨y,rfl,h2⟩:=RV_tup.1 h
  exact RV_tup.2 ⟨y,rfl,lones_rv l (by simpa [PV.lone] using hv) _ h2⟩
 |.ifc t v,hv,x,h=>by
  obtain ⟨y,rfl,h2⟩:=RV_ifc.1 h
  exact RV_ifc.2 ⟨y,rfl,lone_rv v (by simpa [PV.lone] using hv) _ h2⟩
 |.sl tl l,hv,_,_=>by simp [PV.lone] at hv
 |.fp v,hv,_,_=>by simp [PV.lone] at hv
 |.ptr i o,hv,_,_=>by simp [PV.lone] at hv
 |.ms i o a b c,hv,_,_=>by simp [PV.lone] at hv
 |.mp i,hv,_,_=>by simp [PV.lone] at hv
 |.fn f a b,hv,_,_=>by simp [PV.lone] at hv
 |.yld i,hv,_,_=>by simp [PV.lone] at hv
 |.fm ks vs,hv,_,_=>by simp [PV.lone] at hv
theorem lones_rv {s s':St}:∀ (l:List PV),PV.lones l=true→∀ xs,RVs s l xs→RVs s' l xs
 |[],_,xs,h=>RVs_nil.2 (RVs_nil.1 h)
 |v::vs,hv,xs,h=>by
  simp only [PV.lones,Bool.and_eq_true] at hv
  obtain ⟨y,ys,rfl,h1,h2⟩:=RVs_cons.1 h
  exact RVs_cons.2 ⟨y,ys,rfl,lone_rv v hv.1 _ h1,lones_rv vs hv.2 _ h2⟩
end
theorem RVs.split {s:St}:∀ {a b:List PV} {xs:List Value},RVs s (a++b) xs→∃ x y,xs=x++y∧RVs s a x∧RVs s b y
 |[],b,xs,h=>⟨[],xs,rfl,RVs_nil.2 rfl,h⟩
 |v::a,b,xs,h=>by
  rw [List.cons_append] at h
  obtain ⟨y,ys,rfl,h1,h2⟩:=RVs_cons.1 h
  obtain ⟨p,q,rfl,h3,h4⟩:=RVs.split h2
  exact ⟨y::p,q,rfl,RVs_cons.2 ⟨y,p,rfl,h1,h3⟩,h4⟩
section
variable {w0:Base} {s:St} {k n o:Nat} {l:List PV} {b:PBlk} {w':World}
end
section
variable {C:Cx} {F:EQ} {X:EX} {k:List KI} {e:EL} {ds:List Nat} {K:PV→PH→Prop} {n:Nat} {hl:HL}
variable {d:Option Tmp} {type:TypeId} {pos:String} {after:Array Edge} {guard:Option (Nat×Bool)}
end
end Go.Pv
