/- Parts of the proof: Pv55, Pv56, Pv57, Pv58, M4, M5 -/
import Derived.Test.YtgpcfkpenkaipaaP14
import Derived.Test.YtgpcfkpenkaipaaP11
set_option linter.unusedVariables false
set_option linter.unusedSimpArgs false
set_option linter.unusedSectionVars false
namespace Go.Pv
open Go.Am Go.RowKit
section
variable {C:Cx} {F:EQ} {X:EX} {e:EL} {ds:List Nat} {n m m':Nat} {l l':HL} {K:PV→PH→Prop}
variable {d:Option Tmp} {type:TypeId} {pos:String} {after:Array Edge} {guard:Option (Nat×Bool)}
end
end Go.Pv
namespace Go.Pv
open Go.Am Go.RowKit
section
variable {C:Cx} {F:EQ} {X:EX} {k:List KI} {e:EL} {ds:List Nat} {h:PH}
theorem Run.weakT {c:Code} {d:Nat} {tl:Tail} {vs:List PV} (hd:lget e d=some (.sl tl vs)) (hr:Run C F X (.c c::k) ((d,.sl .no vs)::e) ds h):Run C F X (.c c::k) e ds h:=by
 refine Run.ghost (fun t ht=>⟨t.set d (.sl .no vs),?_,?_⟩) hr
 ·intro j u hj
  simp only [lget] at hj
  simp only [T.get_set]
  split at hj
  ·next hb=>rw [if_pos (Nat.eq_of_beq_eq_true hb)];exact hj
  ·next hb =>
   rw [if_neg (fun c=>by subst c;simp at hb)]
   exact ht j u hj
 ·intro w0 s arr a1 a2 a3
  refine ⟨s,rfl,a1,Ext.refl s,a2,?_⟩
  intro j u hj
  simp only [T.get_set] at hj
  split at hj
  ·next hjd =>
   cases hj
   subst hjd
   obtain ⟨x,x1,x2⟩:=a3 j _ (ht j _ hd)
   exact ⟨x,x1,RV_tl_no x2⟩
  ·exact a3 j u hj
end
end Go.Pv
namespace Go.Pv
open Go.Am Go.RowKit
mutual
def PV.lone:PV→Bool
 |.lit _=>true
 |.agg l=>PV.lones l
 |.tup l=>PV.lones l
 |.ifc _ v=>PV.lone v
 |_=>false
def PV.lones:List PV→Bool
 |[]=>true
 |v::vs=>PV.lone v && PV.lones vs
end
mutual
theorem lone_rv {s s':St}:∀ (v:PV),v.lone=true→∀ x,RV s v x→RV s' v x
 |.lit a,_,x,h=>RV_lit.2 (RV_lit.1 h)
 |.agg l,hv,x,h=>by
  obtain ⟨y,rfl,h2⟩:=RV_agg.1 h
  exact RV_agg.2 ⟨y,rfl,lones_rv l (by simpa [PV.lone] using hv) _ h2⟩
 |.tup l,hv,x,h=>by
  obtain ⟨y,rfl,h2⟩:=RV_tup.1 h
  exact RV_tup.2 ⟨y,rfl,lones_rv l (by simpa [PV.lone] using hv) _ h2⟩
 |.ifc t v,hv,x,h=>by
  obtain ⟨y,rfl,h2⟩:=RV_ifc.1 h
  exact RV_ifc.2 ⟨y,rfl,lone_rv v (by simpa [PV.lone] using hv) _ h2⟩
 |.sl tl l,hv,_,_=>by simp [PV.lone] at hv
 |.fp v,hv,_,_=>by simp [PV.lone] at hv
 |.ptr i o,hv,_,_=>by simp [PV.lone] at hv
 |.ms i o a b c,hv,_,_=>by simp [PV.lone] at hv
 |.mp i,hv,_,_=>by simp [PV.lone] at hv
 |.fn f a b,hv,_,_=>by simp [PV.lone] at hv
 |.yld i,hv,_,_=>by simp [PV.lone] at hv
 |.fm ks vs,hv,_,_=>by simp [PV.lone] at hv
theorem lones_rv {s s':St}:∀ (l:List PV),PV.lones l=true→∀ xs,RVs s l xs→RVs s' l xs
 |[],_,xs,h=>RVs_nil.2 (RVs_nil.1 h)
 |v::vs,hv,xs,h=>by
  simp only [PV.lones,Bool.and_eq_true] at hv
  obtain ⟨y,ys,rfl,h1,h2⟩:=RVs_cons.1 h
  exact RVs_cons.2 ⟨y,ys,rfl,lone_rv v hv.1 _ h1,lones_rv vs hv.2 _ h2⟩
end
theorem RVs.split {s:St}:∀ {a b:List PV} {xs:List Value},RVs s (a++b) xs→∃ x y,xs=x++y∧RVs s a x∧RVs s b y
 |[],b,xs,h=>⟨[],xs,rfl,RVs_nil.2 rfl,h⟩
 |v::a,b,xs,h=>by
  rw [List.cons_append] at h
  obtain ⟨y,ys,rfl,h1,h2⟩:=RVs_cons.1 h
  obtain ⟨p,q,rfl,h3,h4⟩:=RVs.split h2
  exact ⟨y::p,q,rfl,RVs_cons.2 ⟨y,p,rfl,h1,h3⟩,h4⟩
section
variable {w0:Base} {s:St} {k n o:Nat} {l:List PV} {b:PBlk} {w':World}
end
section
variable {C:Cx} {F:EQ} {X:EX} {k:List KI} {e:EL} {ds:List Nat} {K:PV→PH→Prop} {n:Nat} {hl:HL}
variable {d:Option Tmp} {type:TypeId} {pos:String} {after:Array Edge} {guard:Option (Nat×Bool)}
end
end Go.Pv
namespace Go.Pv
open Go.Am Go.RowKit
section
variable {C:Cx} {X:EX} {e:EL} {ds:List Nat} {K:PV→PH→Prop} {h:PH}
variable {d:Option Tmp} {type:TypeId} {pos:String} {after:Array Edge} {guard:Option (Nat×Bool)}
theorem Ope.neV {t t':TypeId} {x y:Operand} {p q:PV} {b:Bool} (hx:pev (lget e) x=some p) (hy:pev (lget e) y=some q) (hb:pbin C.A C.E .neq t x y p q=some (B b)) (hK:K (B b) h) :
  Ope C X { dst:=d,op:=.binOp .neq t x y t',type,pos,after,guard } e ds h K:=by
 refine Ope.quiet rfl ?_ hK
 simp only [pquiet,hx,hy,hb]
end
def tlU:Option Nat→Tail
 |none=>.ex
 |some j=>.own j
def ownU:Option Nat→HL
 |none=>[]
 |some j=>[(j,some .own)]
section
variable {C:Cx} {X:EX} {e:EL} {ds:List Nat} {K:PV→PH→Prop} {n:Nat} {l:HL}
variable {d:Option Tmp} {type:TypeId} {pos:String} {after:Array Edge} {guard:Option (Nat×Bool)}
theorem Ope.apU {o':Option Nat} {t tx sz bytes sz' bytes':Nat} {agg agg':Bool} {x y:Operand} {tl':Tail} {vs ws:List PV} [hs:Slc C.A t agg sz bytes] [hs':Slc C.A tx agg' sz' bytes'] (hx:pev (lget e) x=some (.sl (tlU o') vs)) (hy:pev (lget e) y=some (.sl tl' ws)) (hne:ws≠[]) (ho:∀ j,o'=some j→vs≠[]∧hget l j=none)
  (hb1:(vs.length+ws.length) * bytes≤140737488355328) (hb2:vs.length+ws.length≤1000000000) (h1:1≤sz) (hv:∀ v∈vs,v.nc=sz) (hw:∀ v∈ws,v.nc=sz∧PV.allOne v.cells=true) (hK:K (.sl (.own n) (vs++ws)) (HE (n+1) ((n,some .own)::l))) :
  Ope C X { dst:=d,op:=.call { callee:=.builtin .append,args:=#[x,y],argTypes:=#[t,tx] },type,pos,after,guard } e ds (HE n (ownU o'++l)) K:=by
 cases o' with
 |none=>exact Ope.apO hx hy hne hb1 hb2 h1 hv hw hK
 |some j =>
  obtain ⟨h2,h3⟩:=ho j rfl
  refine Ope.apP hx hy hne h2 hget_hd hb1 hb2 h1 hv hw ?_
  have e1:HE (n+1) ((n,some .own)::(j,none)::(ownU (some j)++l))=HE (n+1) ((n,some .own)::l):=by
   simp only [HE,PH.mk.injEq,and_true]
   funext i
   by_cases hi:i=n
   ·subst hi;rw [hget_hd,hget_hd]
   ·rw [hget_tl hi,hget_tl hi]
    by_cases hj:i=j
    ·subst hj;rw [hget_hd,h3]
    ·rw [hget_tl hj]
     show hget ((j,some PBlk.own)::l) i=_
     rw [hget_tl hj]
  rw [e1]
  exact hK
end
section
variable {C:Cx} {X:EX} {e:EL} {ds:List Nat} {K:PV→PH→Prop} {h:PH}
variable {d:Option Tmp} {type:TypeId} {pos:String} {after:Array Edge} {guard:Option (Nat×Bool)}
end
section
variable {C:Cx} {X:EX} {e:EL} {ds:List Nat} {K:PV→PH→Prop} {n:Nat} {l:HL}
variable {d:Option Tmp} {type:TypeId} {pos:String} {after:Array Edge} {guard:Option (Nat×Bool)}
end
theorem Hsub.trans:∀ {a b c:HL},(∀ p∈a,p.2≠none)→Hsub a b→Hsub b c→Hsub a c
 |[],_,_,_,_,_=>trivial
 |(i,some x)::a,b,c,hn,⟨h1,h2⟩,h3=>⟨Hsub.get h3 h1,Hsub.trans (fun p hp=>hn p (List.mem_cons_of_mem _ hp)) h2 h3⟩
 |(i,none)::a,b,c,hn,_,_=>absurd rfl (hn (i,none) (by simp))
def FeedQ (P:Program) (y:PV) (R:PV→PH→Prop) (Z:HL):List PV→Nat→HL→Prop
 |[],n,l=>∀ m,n≤m→∀ u,R u (HE m l)
 |v::vs,n,l=>∀ m,n≤m→PCallV P y [v] (HE m l) (fun b h'=>∃ m' l',h'=HE m' l'∧m≤m' ∧
   ((b=B true∧Hsub Z l'∧FeedQ P y R Z vs m' l')∨(b=B false∧∀ m2,m'≤m2→∀ u,R u (HE m2 l')))) fun _ _=>False
theorem FeedQ.mono {P:Program} {y:PV} {R:PV→PH→Prop} {Z:HL} {n n':Nat} {l:HL} (hn:n≤n'):∀ {vs:List PV},FeedQ P y R Z vs n l→FeedQ P y R Z vs n' l
 |[],h=>fun m hm u=>h m (by omega) u
 |_::_,h=>fun m hm=>h m (by omega)
section
variable {C:Cx} {F:EQ} {X:EX} {k:List KI} {e:EL} {ds:List Nat} {K:PV→PH→Prop} {n:Nat} {own l:HL}
variable {d:Option Tmp} {type:TypeId} {pos:String} {after:Array Edge} {guard:Option (Nat×Bool)}
end
section
variable {C:Cx} {F:EQ} {X:EX} {k:List KI} {e:EL} {ds:List Nat} {h:PH} {n:Nat} {l:HL}
end
end Go.Pv
namespace Go.Pv
open Go.Proofs Go.Am
set_option maxRecDepth 10000
def Shp.alg (s:Shp):Pst→List Nat→List Wrk
  | _,[]=>[]
  | p,i::l=>s.wrk p i::s.alg (s.aft (s.wrk p i)) l
def Shp.past (s:Shp):Pst→List Nat→Pst
  | p,[]=>p
  | p,i::l=>s.past (s.aft (s.wrk p i)) l
theorem alg_snoc (s:Shp):∀ (l:List Nat) (p:Pst) (i:Nat),s.alg p (l++[i])=s.alg p l++[s.wrk (s.past p l) i]
  | [],p,i=>rfl
  | j::l,p,i=>by simp only [List.cons_append,Shp.alg,Shp.past,alg_snoc s l]
theorem past_snoc (s:Shp):∀ (l:List Nat) (p:Pst) (i:Nat),s.past p (l++[i])=s.aft (s.wrk (s.past p l) i)
  | [],p,i=>rfl
  | j::l,p,i=>by simp only [List.cons_append,Shp.past,past_snoc s l]
theorem alg_len (s:Shp):∀ (l:List Nat) (p:Pst),(s.alg p l).length=l.length
  | [],_=>rfl
  | i::l,p=>by simp only [Shp.alg,List.length_cons,alg_len s l]
theorem alg_at (s:Shp):∀ (l:List Nat) (p:Pst) (i:Nat) (h:i < l.length) (h':i < (s.alg p l).length),(s.alg p l)[i]=s.wrk (s.past p (l.take i)) l[i]
  | j::l,p,0,_,_=>rfl
  | j :: l, p, i + 1, h, h' => by
    simp only [Shp.alg,List.getElem_cons_succ,List.take_succ_cons,Shp.past]
    exact alg_at s l _ i (by simpa using h) _
theorem past_ok {s:Shp} {H:Int} (hs:s.ok H):∀ (l:List Nat) (p:Pst) (b:Int),p.ok b→0≤b→(∀ i∈l,i < s.jo.length)→(s.past p l).ok (b+430 * l.length)
  | [],p,b,hp,_,_=>by simpa [Shp.past] using hp
  | i :: l, p, b, hp, hb, hl => by
    have h1:=aft_ok (s:=s) (wrk_ok hs hp hb (hl i (by simp)))
    have h2:=past_ok hs l _ _ h1 (by omega) fun j hj=>hl j (List.mem_cons_of_mem _ hj)
    have e:b+430+430 * (l.length:Int)=b+430 * ((i::l).length:Int):=by simp only [List.length_cons];omega
    rw [e] at h2
    exact h2
theorem past_J (s:Shp):∀ (l:List Nat) (p:Pst),p.J < 64→(∀ i∈l,i < 6)→(s.past p l).J < 64
  | [],p,hp,_=>hp
  | i :: l, p, hp, hl => past_J s l _ (by
      show p.J ||| 1 * 2 ^ i < 2 ^ 6
      refine Nat.or_lt_two_pow hp ?_
      have:=hl i (by simp)
      rw [Nat.one_mul]
      exact Nat.pow_lt_pow_right (by decide) this) fun j hj=>hl j (List.mem_cons_of_mem _ hj)
def Shp.bad (s:Shp) (w:Wrk):Int:=if s.early w=true then 1 else if s.late w=true then 2 else 0
def Shp.flt (s:Shp):List Wrk→Option (Nat×Int)
  | []=>none
  | w::l=>if s.bad w=0 then s.flt l else some (w.j,s.bad w)
theorem flt_some {s:Shp}:∀ {ws:List Wrk} {i:Nat} (h:i < ws.length),s.bad ws[i]≠0→(∀ k (hk:k < ws.length),k < i→s.bad ws[k]=0)→s.flt ws=some (ws[i].j,s.bad ws[i])
  | w::l,0,h,hb,_=>by simp only [Shp.flt,List.getElem_cons_zero] at hb ⊢;rw [if_neg hb]
  | w :: l, i + 1, h, hb, hk => by
    have h0:=hk 0 (by simp) (by omega)
    simp only [List.getElem_cons_zero] at h0
    simp only [Shp.flt,h0,if_true,List.getElem_cons_succ]
    exact flt_some (by simpa using h) (by simpa using hb) fun k hk1 hk2=>by
      have:=hk (k+1) (by simp;omega) (by omega)
      simpa using this
theorem flt_none {s:Shp}:∀ {ws:List Wrk},(∀ k (hk:k < ws.length),s.bad ws[k]=0)→s.flt ws=none
  | [],_=>rfl
  | w :: l, h => by
    have h0:=h 0 (by simp)
    simp only [List.getElem_cons_zero] at h0
    simp only [Shp.flt,h0,if_true]
    exact flt_none fun k hk=>by
      have:=h (k+1) (by simp;omega)
      simpa using this
section
variable (s:Shp) {t1 t2:Tail} (h1:t1.isOwn=false) (h2:t2.isOwn=false)
abbrev rulesV:List PV:=[.ifc 147 (s.v t1 t2),.ifc 149 (.agg [.fn (.func 110) [s.v t1 t2] []])]
theorem bds_cons {v:PV} {vs:List PV} (h:PV.bd 0 v=true) (h':PV.bds 0 vs=true):PV.bds 0 (v::vs)=true:=by
  simp only [PV.bds,h,h'];rfl
theorem bd_agg {l:List PV} (h:PV.bds 0 l=true):PV.bd 0 (.agg l)=true:=by simp only [PV.bd,h]
include h1 h2
theorem bd_shv:PV.bd 0 (s.v t1 t2)=true:=bd_agg (bd_shp s h1 h2)
theorem bd_rules:PV.bds 0 (rulesV s (t1:=t1) (t2:=t2))=true:=by
  have h:=bd_shv s h1 h2
  have e1:PV.bd 0 (.ifc 147 (s.v t1 t2))=true:=by rw [PV.bd,h]
  have e2:PV.bd 0 (.ifc 149 (.agg [.fn (.func 110) [s.v t1 t2] []]))=true:=by
    rw [PV.bd,PV.bd,PV.bds,PV.bd,PV.bds]
    rw [show PV.bds 0 [s.v t1 t2]=true from bds_cons h rfl];rfl
  exact bds_cons e1 (bds_cons e2 rfl)
theorem f97:Fn P0 97 [s.v t1 t2] (.sl .ex (rulesV s (t1:=t1) (t2:=t2))):=by
  have hb:=bd_rules s h1 h2
  refine PFun.of (C:=c97) (cx_ok _ _ _) rfl (fn:=Try.f97) (by kernel_rfl) (c:=_) rfl rfl rfl ?_
  refine Run.seq (Run.region (cx_ok _ _ _) (Reg.op rfl (Ope.boxF rfl rfl ?_)))
  refine Reg.op rfl (Ope.asg rfl ?_)
  refine Reg.nil (Run.seq (Run.region (cx_ok _ _ _) (Reg.op rfl (Ope.load rfl rfl ?_))))
  refine Reg.op rfl (Ope.bld rfl rfl ?_)
  refine Reg.op rfl (Ope.ifc rfl ?_)
  refine Reg.op rfl (Ope.load rfl rfl ?_)
  refine Reg.op rfl (Ope.mkf rfl rfl ?_)
  refine Reg.op rfl (Ope.bld rfl rfl ?_)
  refine Reg.op rfl (Ope.ifc rfl ?_)
  refine Reg.op rfl (Ope.bsl rfl rfl rfl rfl ?_)
  refine Reg.op rfl (Ope.asg rfl ?_)
  exact Reg.nil (Run.ret (fin_ret (.tmp rfl .nil) (by show PV.bds 0 (rulesV s)=true;exact hb) rfl))
theorem f132 {H:Int} (hs:s.ok H) (w:Wrk) (hJ:w.p.J < 64) (hj:w.j < s.jo.length):Fn P0 132 [s.v t1 t2,w.v] (B (s.early w)):=by
  have hjo:=hs.job hj
  have hjob:=Shp.job_at hj
  have haf:=hjo.af
  have hp:=pow6 hs.jo
  unfold Shp.early
  rw [hjob] at haf ⊢
  obtain ⟨q,hq⟩:∃ q:Nat,s.jo[w.j].af=(q:Int):=⟨s.jo[w.j].af.toNat,by omega⟩
  have hq':s.jo[w.j].af.toNat=q:=by omega
  rw [hq']
  refine PFun.of (C:=c132) (cx_ok _ _ _) rfl (fn:=Try.f132) (by kernel_rfl) (c:=_) rfl rfl rfl ?_
  refine Run.seq (Run.region (cx_ok _ _ _) (Reg.op rfl (Ope.boxF rfl rfl ?_)))
  refine Reg.op rfl (Ope.boxF rfl rfl ?_)
  refine Reg.op rfl (Ope.asg rfl ?_)
  refine Reg.nil (Run.seq (Run.draw (cx_ok _ _ _) [(0,true),(1,true),(2,true),(3,true),(4,true),(5,true),(6,true),(7,true),(8,true),(9,true),(10,true),(11,true),(12,true),(13,true),(14,true)] (by kernel_rfl) (Dra.op' rfl rfl rfl .sure (Ope.fld rfl rfl ?_))))
  refine Dra.op' rfl rfl rfl .sure (Ope.fld rfl rfl ?_)
  refine Dra.op' rfl rfl rfl .sure (Ope.fld rfl rfl ?_)
  refine Dra.op' rfl rfl rfl .sure (Ope.load rfl rfl ?_)
  refine Dra.op' rfl rfl rfl .sure (Ope.fld rfl rfl ?_)
  refine Dra.op' rfl rfl rfl .sure (Ope.load rfl rfl ?_)
  refine Dra.op' rfl rfl rfl .sure (Ope.idxM (m:=w.j) (f:=Job.v) rfl rfl rfl hj (fun _=>rfl) ?_)
  refine Dra.op' rfl rfl rfl .sure (Ope.fld rfl rfl ?_)
  refine Dra.op' rfl rfl rfl .sure (Ope.load rfl rfl ?_)
  refine Dra.op' rfl rfl rfl .sure (Ope.fld rfl rfl ?_)
  refine Dra.op' rfl rfl rfl .sure (Ope.fld rfl rfl ?_)
  refine Dra.op' rfl rfl rfl .sure (Ope.load rfl rfl ?_)
  refine Dra.op' rfl rfl rfl .sure (Ope.andNotN (p:=q) (q:=w.p.J) rfl rfl hq rfl (by show _ < 2 ^ 63;omega) (by show _ < 2 ^ 63;omega) ?_)
  refine Dra.op' rfl rfl rfl .sure (Ope.ne rfl rfl ?_)
  refine Dra.op' rfl rfl rfl .sure (Ope.asg rfl ?_)
  refine Dra.nil (Run.ret (fin_ret (.tmp rfl .nil) rfl ?_))
  exact congrArg B decide_not
theorem f134 (w:Wrk) (hj:w.j < s.jo.length):Fn P0 134 [.agg [.fn (.func 110) [s.v t1 t2] []],w.v] (B (s.late w)):=by
  have hl:=f110 s h1 h2 w hj
  have hb:PV.bds 0 [s.v t1 t2,w.v]=true:=bd_shpV s h1 h2 rfl
  refine PFun.of (C:=c134) (cx_ok _ _ _) rfl (fn:=Try.f134) (by kernel_rfl) (c:=_) rfl rfl rfl ?_
  refine Run.seq (Run.region (cx_ok _ _ _) (Reg.op rfl (Ope.boxF rfl rfl ?_)))
  refine Reg.op rfl (Ope.boxF rfl rfl ?_)
  refine Reg.op rfl (Ope.asg rfl ?_)
  refine Reg.nil (Run.seq (Run.region (cx_ok _ _ _) (Reg.op rfl (Ope.fld rfl rfl ?_))))
  refine Reg.op rfl (Ope.load rfl rfl ?_)
  refine Reg.op rfl (Ope.load rfl rfl ?_)
  refine Reg.op rfl (Ope.cf rfl rfl hl hb ?_)
  refine Reg.op rfl (Ope.asg rfl ?_)
  exact Reg.nil (Run.ret (fin_ret (.tmp rfl .nil) rfl rfl))
omit h1 h2 in
theorem f133:Fn P0 133 [s.v t1 t2] (I 1):=by
  refine PFun.of (C:=c133) (cx_ok _ _ _) rfl (fn:=Try.f133) (by kernel_rfl) (c:=_) rfl rfl rfl ?_
  refine Run.seq (Run.region (cx_ok _ _ _) (Reg.op rfl (Ope.boxF rfl rfl ?_)))
  refine Reg.op rfl (Ope.asg rfl ?_)
  refine Reg.nil (Run.seq (Run.region (cx_ok _ _ _) (Reg.op rfl (Ope.asg rfl ?_))))
  exact Reg.nil (Run.ret (fin_ret (.tmp rfl .nil) rfl rfl))
omit h1 h2 in
theorem pm_order : pmethod A0 147 (s.v t1 t2) "lapworks/mend.brokenBy" = some (132, s.v t1 t2) := by kernel_rfl
omit h1 h2 in
theorem pm_orderN : pmethod A0 147 (s.v t1 t2) "lapworks/mend.number" = some (133, s.v t1 t2) := by kernel_rfl
omit h1 h2 in
theorem pm_time (f : PV) : pmethod A0 149 (.agg [f]) "lapworks/mend.brokenBy" = some (134, .agg [f]) := by kernel_rfl
omit h1 h2 in
theorem pm_timeN (f : PV) : pmethod A0 149 (.agg [f]) "lapworks/mend.number" = some (135, .agg [f]) := by kernel_rfl
omit h1 h2 in
theorem f135:Fn P0 135 [.agg [.fn (.func 110) [s.v t1 t2] []]] (I 2):=by
  refine PFun.of (C:=c135) (cx_ok _ _ _) rfl (fn:=Try.f135) (by kernel_rfl) (c:=_) rfl rfl rfl ?_
  refine Run.seq (Run.region (cx_ok _ _ _) (Reg.op rfl (Ope.boxF rfl rfl ?_)))
  refine Reg.op rfl (Ope.asg rfl ?_)
  refine Reg.nil (Run.seq (Run.region (cx_ok _ _ _) (Reg.op rfl (Ope.asg rfl ?_))))
  exact Reg.nil (Run.ret (fin_ret (.tmp rfl .nil) rfl rfl))
end
end Go.Pv
namespace Go.Pv
open Go.Proofs Go.Am
set_option maxRecDepth 10000
theorem hsub_U {o:Option Nat} {rest L:HL} (h1:∀ j,o=some j→hget L j=some .own) (h2:Hsub rest L):Hsub (ownU o++rest) L:=by
  cases o with
  | none=>exact h2
  | some j=>exact ⟨h1 j rfl,h2⟩
theorem getU {o:Option Nat} {l:HL} {i:Nat} (h:∀ q,o=some q→q≠i):hget (ownU o++l) i=hget l i:=by
  cases o with
  | none=>rfl
  | some q=>exact hget_tl (by have:=h q rfl;omega)
theorem ownU_at {o:Option Nat} {l:HL} {j:Nat} (h:o=some j):hget (ownU o++l) j=some .own:=by
  subst h;exact hget_hd
theorem map_ne {α:Type} {f:α→PV} {l:List α} (h:l.length≠0):l.map f≠[]:=fun e=>by
  have:=congrArg List.length e
  simp only [List.length_map,List.length_nil] at this
  omega
section
variable (s:Shp) {t1 t2:Tail} (h1:t1.isOwn=false) (h2:t2.isOwn=false)
include h1 h2
theorem f73 {H:Int} (hs:s.ok H) (tl:Tail) (o:List Nat) (hl:o.length≤100) (ho:∀ i∈o,i < s.jo.length):Fn P0 73 [s.v t1 t2,.sl tl (o.map N)] (.sl .no ((s.alg ⟨0,-1,0,0⟩ o).map Wrk.v)):=by
  obtain ⟨p0,hpe⟩:∃ p0,p0=(⟨0,-1,0,0⟩:Pst):=⟨_,rfl⟩
  rw [← hpe]
  have hJ0:p0.J < 64:=by rw [hpe];decide
  have hp0:p0.ok 0:=by rw [hpe];exact ⟨⟨Int.le_refl _,Int.le_refl _⟩,⟨Int.le_refl _,Int.le_refl _⟩⟩
  have hn6:=hs.jo
  have hstart:=f84 0
  refine PFun.of (C:=c73) (cx_ok _ _ _) rfl (fn:=Try.f73) (by kernel_rfl) (c:=_) rfl rfl rfl ?_
  refine Run.seq (Run.region (cx_ok _ _ _) (Reg.op rfl (Ope.boxF rfl rfl ?_)))
  refine Reg.op rfl (Ope.asg rfl ?_)
  refine Reg.nil (Run.seq (Run.region (cx_ok _ _ _) (Reg.op rfl (Ope.asg rfl ?_))))
  refine Reg.nil (Run.seq (Run.region (cx_ok _ _ _) (Reg.op rfl (Ope.cf rfl rfl (f84 0) rfl ?_))))
  refine Reg.op rfl (Ope.newL rfl ?_)
  refine Reg.op0 (Ope.store rfl rfl rfl rfl rfl rfl ?_)
  refine Reg.nil (Run.seq (Run.seq (Run.region (cx_ok _ _ _) (Reg.op rfl (Ope.mov rfl ?_)))))
  refine Reg.op rfl (Ope.len (m:=o.length) rfl (by simp) ?_)
  refine Reg.op rfl (Ope.mov rfl ?_)
  refine Reg.nil (Run.block (Run.wide (m:=1) (l':=[(0,some (.cells (s.past p0 (o.take 0)).c))]) (Nat.le_refl _) ⟨congrArg (fun l=>some (PBlk.cells l)) (by rw [hpe];rfl),trivial⟩ ?_))
  refine Run.loop (α:=Nat×Option Nat×Nat) (fun t=>[(2,.fp (s.v t1 t2)),(5,.sl (tlU t.2.1) ((s.alg p0 (o.take t.1)).map Wrk.v)),(6,.ptr 0 0),(11,.sl tl (o.map N)),(12,I o.length),(13,I t.1)]) (fun t=>HE t.2.2 (ownU t.2.1++[(0,some (.cells (s.past p0 (o.take t.1)).c))])) (fun t=>t.1≤o.length∧(∀ j,t.2.1=some j→0 < j∧j < t.2.2∧t.1≠0)∧1≤t.2.2) (fun t=>o.length - t.1) (0,none,1) ⟨rfl,rfl,rfl,rfl,rfl,rfl,trivial⟩ rfl ⟨Nat.zero_le _,(fun j hj=>by cases hj),Nat.le_refl _⟩ (fun t ht=>?_)
  obtain ⟨i,o',m⟩:=t
  obtain ⟨hi,hO,hm1⟩:=ht
  simp only at hi hO hm1
  show Run _ _ _ _ [(2,.fp (s.v t1 t2)),(5,.sl (tlU o') ((s.alg p0 (o.take i)).map Wrk.v)),(6,.ptr 0 0),(11,.sl tl (o.map N)),(12,I o.length),(13,I i)] [] (HE m (ownU o'++[(0,some (.cells (s.past p0 (o.take i)).c))]))
  refine Run.seq (Run.region (cx_ok _ _ _) (Reg.op rfl (Ope.lt rfl rfl ?_)))
  refine Reg.nil (Run.seq (Run.condX rfl (fun hc=>?_) fun hc=>?_))
  ·refine Run.skip (Run.seq (Run.block (Run.seq ?_)))
   have hlt:i < o.length:=by omega
   have hoi:o[i] < s.jo.length:=ho _ (List.getElem_mem hlt)
   have hot:∀ j∈o.take i,j < s.jo.length:=fun j hj=>ho j (List.mem_of_mem_take hj)
   have hpi:=past_ok hs (o.take i) p0 0 hp0 (Int.le_refl _) hot
   have hJi:=past_J s (o.take i) p0 hJ0 fun j hj=>by have:=hot j hj;omega
   have hlen:((o.take i).length:Int)≤100:=by rw [List.length_take];omega
   have hwk:=f95 s h1 h2 hs _ hpi (by omega) (by omega) o[i] hoi
   have haf:=f87 s h1 h2 (s.wrk (s.past p0 (o.take i)) o[i]) hJi hoi hn6
   have hbw:PV.bds 0 [s.v t1 t2,(s.past p0 (o.take i)).v,N o[i]]=true:=bd_shpV s h1 h2 rfl
   have hba:PV.bds 0 [s.v t1 t2,(s.wrk (s.past p0 (o.take i)) o[i]).v]=true:=bd_shpV s h1 h2 rfl
   have et:o.take (i+1)=o.take i++[o[i]]:=List.take_succ_eq_append_getElem hlt
   have ea:(s.alg p0 (o.take (i+1))).map Wrk.v=(s.alg p0 (o.take i)).map Wrk.v++[(s.wrk (s.past p0 (o.take i)) o[i]).v]:=by rw [et,alg_snoc,List.map_append];rfl
   have ep:(s.past p0 (o.take (i+1))).c=(s.aft (s.wrk (s.past p0 (o.take i)) o[i])).c:=by rw [et,past_snoc]
   have hal:(s.alg p0 (o.take i)).length=i:=by rw [alg_len,List.length_take];omega
   generalize s.aft (s.wrk (s.past p0 (o.take i)) o[i])=q at *
   generalize s.wrk (s.past p0 (o.take i)) o[i]=w at *
   generalize hpp:s.past p0 (o.take i)=p at *
   have hg0:hget (ownU o'++[(0,some (PBlk.cells p.c))]) 0=some (PBlk.cells p.c):=(getU fun q hq=>by have:=(hO q hq).1;omega).trans rfl
   have hgo:∀ j,o'=some j→hget (ownU o'++[(0,some (PBlk.cells p.c))]) j=some .own:=fun j hj=>ownU_at hj
   refine Run.region (cx_ok _ _ _) (Reg.op rfl (Ope.idxM (m:=i) (f:=N) rfl rfl rfl hlt (fun _=>rfl) ?_))
   refine Reg.op rfl (Ope.load rfl rfl ?_)
   refine Reg.op rfl (Ope.asg rfl ?_)
   refine Reg.nil (Run.seq (Run.region (cx_ok _ _ _) (Reg.op rfl (Ope.load rfl rfl ?_))))
   refine Reg.op rfl (Ope.loadH rfl hg0 rfl ?_)
   refine Reg.op rfl (Ope.mov rfl ?_)
   refine Reg.op rfl (Ope.cf rfl rfl hwk hbw ?_)
   refine Reg.op rfl (Ope.newL rfl ?_)
   refine Reg.op0 (Ope.store rfl rfl hget_hd rfl rfl rfl ?_)
   refine Reg.nil (Run.seq (Run.frz (d:=9) true rfl hget_hd rfl ?_))
   refine Run.wide (m:=m+1) (l':=ownU o'++[(0,some (.cells p.c))]) (Nat.le_refl _) (hsub_U (fun j hj=>(hget_tl (by have:=hO j hj;omega)).trans ((hget_tl (by have:=hO j hj;omega)).trans ((hget_tl (by have:=hO j hj;omega)).trans (hgo j hj)))) ⟨(hget_tl (by omega)).trans ((hget_tl (by omega)).trans ((hget_tl (by omega)).trans hg0)),trivial⟩) ?_
   refine Run.region (cx_ok _ _ _) (Reg.op rfl (Ope.mov rfl ?_))
   refine Reg.op rfl (Ope.load rfl rfl ?_)
   refine Reg.op rfl (Ope.bsl rfl rfl rfl rfl ?_)
   refine Reg.op rfl (Ope.apU (o':=o') (vs:=(s.alg p0 (o.take i)).map Wrk.v) (ws:=[w.v]) rfl rfl (by simp) (fun j hj=>⟨map_ne (by have:=hO j hj;omega),(hget_tl (by have:=hO j hj;omega)).trans rfl⟩) (by simp only [List.length_map,List.length_singleton,hal];omega) (by simp only [List.length_map,List.length_singleton,hal];omega) (by decide) (by intro v hv;obtain ⟨_,_,rfl⟩:=List.mem_map.1 hv;rfl) (by intro v hv;simp only [List.mem_singleton] at hv;subst hv;exact ⟨rfl,rfl⟩) ?_)
   refine Reg.op rfl (Ope.asg rfl ?_)
   refine Reg.nil (Run.region (cx_ok _ _ _) (Reg.op rfl (Ope.load rfl rfl ?_)))
   refine Reg.op rfl (Ope.load rfl rfl ?_)
   refine Reg.op rfl (Ope.cf rfl rfl haf hba ?_)
   refine Reg.op0 (Ope.store rfl rfl ((hget_tl (by omega)).trans rfl) rfl rfl rfl ?_)
   refine Reg.nil (Run.bend (Run.wide (m:=m+2) (l':=[(m+1,some .own),(0,some (.cells q.c))]) (Nat.le_refl _) ⟨(hget_tl (by omega)).trans hget_hd,hget_hd,trivial⟩ ?_))
   refine Run.region (cx_ok _ _ _) (Reg.op rfl (Ope.add rfl rfl (by omega) ?_))
   refine Reg.op rfl (Ope.mov rfl ?_)
   exact Reg.nil (Run.lend ⟨(i+1,some (m+1),m+2),by show o.length - (i+1) < o.length - i;omega,⟨by show i+1≤o.length;omega,fun j hj=>by cases hj;exact ⟨by omega,Nat.lt_succ_self _,Nat.succ_ne_zero _⟩,by show 1≤m+2;omega⟩,⟨rfl,congrArg (fun l=>some (PV.sl (.own (m+1)) l)) ea.symm,rfl,rfl,rfl,rfl,trivial⟩,(by show HE _ _=HE _ (_++[(0,some (PBlk.cells (s.past p0 (o.take (i+1))).c))]);rw [ep];rfl),rfl⟩)
  ·refine Run.exit (Jmp.code (Jmp.round (Jmp.here (Run.seq ?_))))
   obtain rfl:i=o.length:=by omega
   rw [List.take_length]
   refine Run.weakT (d:=5) rfl ?_
   refine Run.region (cx_ok _ _ _) (Reg.op rfl (Ope.mov rfl ?_))
   refine Reg.op rfl (Ope.asg rfl ?_)
   exact Reg.nil (Run.ret (fin_ret (.tmp rfl .nil) (bd_sl (f:=Wrk.v) (tl:=.no) rfl (fun _=>rfl) _) rfl))
end
end Go.Pv
