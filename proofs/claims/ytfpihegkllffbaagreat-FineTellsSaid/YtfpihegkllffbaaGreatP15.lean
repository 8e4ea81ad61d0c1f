/- Parts of the proof: Pv48, Pv49, Pv50, Pv51, Pv52, Pv53 -/
import Derived.Test.YtfpihegkllffbaaGreatP11
set_option linter.unusedVariables false
set_option linter.unusedSimpArgs false
set_option linter.unusedSectionVars false
namespace Go.Pv
open Go.Am Go.RowKit
def maskOf (M:Nat→Bool) (an:T Nat) (all:List Oper) (ord:List Nat) (i:Nat):Nat :=
 ((ord.takeWhile fun j=>!(Nat.beq i j)).filter (loudI M all)).foldl (fun m l=>Nat.lor (Nat.lor m (anc an l)) (2 ^ l)) (anc an i)
def anL (M:Nat→Bool) (an:T Nat) (all:List Oper) (ord:List Nat):T Nat:=T.ofList ((List.range all.length).map (maskOf M an all ord)) 0 .nil
structure OrdL (M:Nat→Bool) (an:T Nat) (all:List Oper) (ord:List Nat):Prop where
 at_:∀ a i c,ord=a++i::c→i < all.length∧i ∉ a∧(∀ j,(anc an i).testBit j=true→j∈a)∧(loudI M all i=false→∀ a1 l a2,a=a1++l::a2→loudI M all l=true→(∀ x∈a2,loudI M all x=false)→(anc an i).testBit l=true)
 mem:∀ i,i < all.length→i∈ord
theorem takeWhile_before {i:Nat}:∀ {a c:List Nat},i ∉ a→(a++i::c).takeWhile (fun j=>!(Nat.beq i j))=a
 |[],c,_=>by simp
 |x::a,c,h=>by
  have hne:i≠x:=fun e=>h (by simp [e])
  have hb:Nat.beq i x=false:=by
   cases hb:Nat.beq i x with
   |false=>rfl
   |true=>exact absurd (Nat.eq_of_beq_eq_true hb) hne
  simp only [List.cons_append,List.takeWhile_cons,hb,Bool.not_false,if_true]
  rw [takeWhile_before fun h'=>h (List.mem_cons_of_mem _ h')]
theorem bit_fold (an:T Nat) (j:Nat):∀ (ls:List Nat) (m:Nat),(ls.foldl (fun m l=>Nat.lor (Nat.lor m (anc an l)) (2 ^ l)) m).testBit j=true↔m.testBit j=true∨∃ l∈ls,j=l∨(anc an l).testBit j=true
 |[],m=>by simp
 |l::ls,m=>by
  simp only [List.foldl_cons]
  rw [bit_fold an j ls,bit_lor]
  have e:(Nat.lor m (anc an l)).testBit j=(m.testBit j || (anc an l).testBit j):=Nat.testBit_or ..
  rw [e]
  simp only [Bool.or_eq_true,decide_eq_true_eq,List.mem_cons,exists_eq_or_imp]
  constructor
  ·rintro (((h | h) | h) | h)
   ·exact .inl h
   ·exact .inr (.inl (.inr h))
   ·exact .inr (.inl (.inl h.symm))
   ·exact .inr (.inr h)
  ·rintro (h | (h | h) | h)
   ·exact .inl (.inl (.inl h))
   ·exact .inl (.inr h.symm)
   ·exact .inl (.inl (.inr h))
   ·exact .inr h
theorem anL_bit {M:Nat→Bool} {an:T Nat} {all:List Oper} {ord a c:List Nat} {i j:Nat} (hi:i < all.length) (he:ord=a++i::c) (hia:i ∉ a) :
  (anc (anL M an all ord) i).testBit j=true↔(anc an i).testBit j=true∨∃ l∈a,loudI M all l=true∧(j=l∨(anc an l).testBit j=true):=by
 have hget:(anL M an all ord).get i=some (maskOf M an all ord i):=by
  unfold anL
  rw [T.get_ofList]
  simp [hi]
 have hm:anc (anL M an all ord) i=maskOf M an all ord i:=by unfold anc;rw [hget];rfl
 rw [hm]
 unfold maskOf
 rw [he,takeWhile_before hia,bit_fold]
 simp only [List.mem_filter]
 constructor
 ·rintro (h | ⟨l,⟨h1,h2⟩,h3⟩)
  ·exact .inl h
  ·exact .inr ⟨l,h1,h2,h3⟩
 ·rintro (h | ⟨l,h1,h2,h3⟩)
  ·exact .inl h
  ·exact .inr ⟨l,⟨h1,h2⟩,h3⟩
theorem OrdL.split {M:Nat→Bool} {an:T Nat} {all:List Oper} {ord:List Nat} (hO:OrdL M an all ord) {i:Nat} (hi:i < all.length):∃ a c,ord=a++i::c∧i ∉ a:=by
 obtain ⟨a,c,e⟩:=List.append_of_mem (hO.mem i hi)
 exact ⟨a,c,e,(hO.at_ a i c e).2.1⟩
theorem loudAt_I {M:Nat→Bool} {all:List Oper} {i:Nat}:loudAt M all i=loudI M all i:=by
 unfold loudAt loudI
 rw [nthK_eq]
 cases all[i]?<;>rfl
theorem OrdL.ord {M:Nat→Bool} {an:T Nat} {all:List Oper} {ord:List Nat} (hO:OrdL M an all ord):Ord M (anL M an all ord) all ord:=by
 refine ⟨fun a i c e=>?_,hO.mem⟩
 obtain ⟨h1,h2,h3,h4⟩:=hO.at_ a i c e
 refine ⟨h1,h2,fun j hj=>?_,fun l hl hll=>?_⟩
 ·rcases (anL_bit h1 e h2).1 hj with h | ⟨l,g1,g2,rfl | g3⟩
  ·exact h3 j h
  ·exact g1
  ·obtain ⟨a1,a2,rfl⟩:=List.append_of_mem g1
   have:=(hO.at_ a1 l (a2++i::c) (by rw [e];simp)).2.2.1 j g3
   exact List.mem_append_left _ this
 ·rw [loudAt_I] at hll
  exact (anL_bit h1 e h2).2 (.inr ⟨l,hl,hll,.inl rfl⟩)
end Go.Pv
namespace Go.Pv
open Go.Am Go.RowKit
section
variable {A:AP} {P:Program} {E:Eqs} {w0:Base} {M:Nat→Bool} {sz:Nat} {an:T Nat} {ord:List Nat} {K:T PV→PH→Prop} {X:PV→PH→Prop}
end
section
variable {C:Cx} {F:EQ} {X:EX} {k:List KI} {e:EL} {ds:List Nat} {h:PH}
end
end Go.Pv
namespace Go.Pv
open Go.Am Go.RowKit
section
variable {C:Cx} {F:EQ} {X:EX} {k:List KI} {e:EL} {ds:List Nat} {h:PH} {n m:Nat} {l l':HL} {K:PV→PH→Prop}
variable {d:Option Nat} {type:TypeId} {pos:String} {after:Array Edge} {guard:Option (Nat×Bool)}
end
end Go.Pv
namespace Go.Pv
open Go.Am Go.RowKit
section
variable {C:Cx} {X:EX} {e:EL} {ds:List Nat} {h:PH} {K:PV→PH→Prop}
variable {d:Option Tmp} {type:TypeId} {pos:String} {after:Array Edge} {guard:Option (Nat×Bool)}
theorem Ope.remN {t t':TypeId} {x y:Operand} {kk:IntKind} {a b:Int} {p q:Nat} (hx:pev (lget e) x=some (.lit (.int kk a))) (hy:pev (lget e) y=some (.lit (.int kk b))) (ha:a=(p:Int)) (hb:b=(q:Int)) (hq:0 < q) (hK:K (.lit (.int kk ((p % q:Nat):Int))) h) :
  Ope C X { dst:=d,op:=.binOp .rem t x y t',type,pos,after,guard } e ds h K:=by
 subst ha hb
 refine Ope.bin hx hy (v:=.lit (.int kk ((p % q:Nat):Int))) ?_ hK
 have h0:decide ((q:Int)=0)=false:=decide_eq_false (by omega)
 have e1:(p:Int).tmod (q:Int)=((p % q:Nat):Int):=rfl
 simp only [abin,aint,h0,plit,e1]
 rfl
end
end Go.Pv
namespace Go.Pv
open Go.Am Go.RowKit
section
variable {C:Cx} {X:EX} {e:EL} {ds:List Nat} {n:Nat} {l:HL} {h:PH} {K:PV→PH→Prop}
variable {d:Option Tmp} {type:TypeId} {pos:String} {after:Array Edge} {guard:Option (Nat×Bool)}
end
end Go.Pv
namespace Go.Pv
open Go.Am Go.RowKit
section
variable {C:Cx} {X:EX} {e:EL} {ds:List Nat} {n:Nat} {l:HL} {h:PH} {K:PV→PH→Prop}
variable {d:Option Tmp} {type:TypeId} {pos:String} {after:Array Edge} {guard:Option (Nat×Bool)}
theorem Ope.slAh {t len m:Nat} {agg:Bool} {x y:Operand} {kk:IntKind} {vs:List PV} [hf:Arr C.A t len agg 1] (hx:pev (lget e) x=some (.fp (.agg vs))) (hy:pev (lget e) y=some (.lit (.int kk (m:Int)))) (hl:vs.length=len) (hm:m≤len) (hv:vs.all (fun v=>!v.isAgg)=true)
  (hK:K (.sl .no (vs.take m)) h):Ope C X { dst:=d,op:=.slice t x none (some y) none,type,pos,after,guard } e ds h K:=by
 refine Ope.quiet rfl ?_ hK
 obtain ⟨el,h1,h2⟩:=hf.get
 obtain ⟨d',ti',h4,h5,h6,h7⟩:=h2.get
 subst hl
 have hb:Nat.beq ti'.size 1=true:=by rw [h7];rfl
 have hb2:Nat.beq vs.length vs.length=true:=Nat.beq_refl _
 have hp:pbound (some (.lit (.int kk (m:Int)))) vs.length vs.length=some m:=by
  show aidx (m:Int) (vs.length+1)=some m
  show (match Nat.blt m (vs.length+1) with | true=>some m | false=>none)=some m
  rw [lt_blt (by omega)]
 simp only [pquiet,hx,hy,popt,pslice,h1,h5,hb,hb2,hv,hp]
theorem Ope.eqV {t t':TypeId} {x y:Operand} {p q:PV} {b:Bool} (hx:pev (lget e) x=some p) (hy:pev (lget e) y=some q) (hb:pbin C.A C.E .eql t x y p q=some (B b)) (hK:K (B b) h) :
  Ope C X { dst:=d,op:=.binOp .eql t x y t',type,pos,after,guard } e ds h K:=by
 refine Ope.quiet rfl ?_ hK
 simp only [pquiet,hx,hy,hb]
theorem Ope.quoN {t t':TypeId} {x y:Operand} {kk:IntKind} {a b:Int} {p q:Nat} (hx:pev (lget e) x=some (.lit (.int kk a))) (hy:pev (lget e) y=some (.lit (.int kk b))) (ha:a=(p:Int)) (hb:b=(q:Int)) (hq:0 < q) (hp:p < 2 ^ (kk.bits - 1)) (hK:K (.lit (.int kk ((p / q:Nat):Int))) h) :
  Ope C X { dst:=d,op:=.binOp .quo t x y t',type,pos,after,guard } e ds h K:=by
 subst ha hb
 refine Ope.bin hx hy (v:=.lit (.int kk ((p / q:Nat):Int))) ?_ hK
 have h0:decide ((q:Int)=0)=false:=decide_eq_false (by omega)
 have e1:(p:Int).tdiv (q:Int)=((p / q:Nat):Int):=rfl
 have e2:fwrap kk ((p / q:Nat):Int)=((p / q:Nat):Int):=by
  rw [fwrap_eq]
  exact wrap_nat (Nat.lt_of_le_of_lt (Nat.div_le_self _ _) hp)
 simp only [abin,aint,h0,e1,e2,plit]
 rfl
end
end Go.Pv
