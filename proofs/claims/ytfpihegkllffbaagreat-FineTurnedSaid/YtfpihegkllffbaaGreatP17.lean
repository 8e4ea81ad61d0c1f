/- Parts of the proof: Pv58, E7, E8, E9, E10, Pv71 -/
import Derived.Test.YtfpihegkllffbaaGreatP16
import Derived.Test.YtfpihegkllffbaaGreatP10
import Derived.Test.YtfpihegkllffbaaGreatP14
set_option linter.unusedVariables false
set_option linter.unusedSimpArgs false
set_option linter.unusedSectionVars false
namespace Go.Pv
open Go.Am Go.RowKit
section
variable {C:Cx} {X:EX} {e:EL} {ds:List Nat} {K:PV→PH→Prop} {h:PH}
variable {d:Option Tmp} {type:TypeId} {pos:String} {after:Array Edge} {guard:Option (Nat×Bool)}
theorem Ope.neS {t t':TypeId} {x y:Operand} {kk:IntKind} {a:Int} (hx:pev (lget e) x=some (.lit (.int kk a))) (hy:pev (lget e) y=some (.lit (.int kk a))) (hK:K (B false) h) :
  Ope C X { dst:=d,op:=.binOp .neq t x y t',type,pos,after,guard } e ds h K :=
 Ope.ne hx hy (by simpa using hK)
theorem Ope.neV {t t':TypeId} {x y:Operand} {p q:PV} {b:Bool} (hx:pev (lget e) x=some p) (hy:pev (lget e) y=some q) (hb:pbin C.A C.E .neq t x y p q=some (B b)) (hK:K (B b) h) :
  Ope C X { dst:=d,op:=.binOp .neq t x y t',type,pos,after,guard } e ds h K:=by
 refine Ope.quiet rfl ?_ hK
 simp only [pquiet,hx,hy,hb]
end
def tlU:Option Nat→Tail
 |none=>.ex
 |some j=>.own j
def ownU:Option Nat→HL
 |none=>[]
 |some j=>[(j,some .own)]
section
variable {C:Cx} {X:EX} {e:EL} {ds:List Nat} {K:PV→PH→Prop} {n:Nat} {l:HL}
variable {d:Option Tmp} {type:TypeId} {pos:String} {after:Array Edge} {guard:Option (Nat×Bool)}
theorem Ope.apU {o':Option Nat} {t tx sz bytes sz' bytes':Nat} {agg agg':Bool} {x y:Operand} {tl':Tail} {vs ws:List PV} [hs:Slc C.A t agg sz bytes] [hs':Slc C.A tx agg' sz' bytes'] (hx:pev (lget e) x=some (.sl (tlU o') vs)) (hy:pev (lget e) y=some (.sl tl' ws)) (hne:ws≠[]) (ho:∀ j,o'=some j→vs≠[]∧hget l j=none)
  (hb1:(vs.length+ws.length) * bytes≤140737488355328) (hb2:vs.length+ws.length≤1000000000) (h1:1≤sz) (hv:∀ v∈vs,v.nc=sz) (hw:∀ v∈ws,v.nc=sz∧PV.allOne v.cells=true) (hK:K (.sl (.own n) (vs++ws)) (HE (n+1) ((n,some .own)::l))) :
  Ope C X { dst:=d,op:=.call { callee:=.builtin .append,args:=#[x,y],argTypes:=#[t,tx] },type,pos,after,guard } e ds (HE n (ownU o'++l)) K:=by
 cases o' with
 |none=>exact Ope.apO hx hy hne hb1 hb2 h1 hv hw hK
 |some j =>
  obtain ⟨h2,h3⟩:=ho j rfl
  refine Ope.apP hx hy hne h2 hget_hd hb1 hb2 h1 hv hw ?_
  have e1:HE (n+1) ((n,some .own)::(j,none)::(ownU (some j)++l))=HE (n+1) ((n,some .own)::l):=by
   simp only [HE,PH.mk.injEq,and_true]
   funext i
   by_cases hi:i=n
   ·subst hi;rw [hget_hd,hget_hd]
   ·rw [hget_tl hi,hget_tl hi]
    by_cases hj:i=j
    ·subst hj;rw [hget_hd,h3]
    ·rw [hget_tl hj]
     show hget ((j,some PBlk.own)::l) i=_
     rw [hget_tl hj]
  rw [e1]
  exact hK
end
section
variable {C:Cx} {X:EX} {e:EL} {ds:List Nat} {K:PV→PH→Prop} {h:PH}
variable {d:Option Tmp} {type:TypeId} {pos:String} {after:Array Edge} {guard:Option (Nat×Bool)}
end
section
variable {C:Cx} {X:EX} {e:EL} {ds:List Nat} {K:PV→PH→Prop} {n:Nat} {l:HL}
variable {d:Option Tmp} {type:TypeId} {pos:String} {after:Array Edge} {guard:Option (Nat×Bool)}
end
theorem Hsub.trans:∀ {a b c:HL},(∀ p∈a,p.2≠none)→Hsub a b→Hsub b c→Hsub a c
 |[],_,_,_,_,_=>trivial
 |(i,some x)::a,b,c,hn,⟨h1,h2⟩,h3=>⟨Hsub.get h3 h1,Hsub.trans (fun p hp=>hn p (List.mem_cons_of_mem _ hp)) h2 h3⟩
 |(i,none)::a,b,c,hn,_,_=>absurd rfl (hn (i,none) (by simp))
def FeedQ (P:Program) (y:PV) (R:PV→PH→Prop) (Z:HL):List PV→Nat→HL→Prop
 |[],n,l=>∀ m,n≤m→∀ u,R u (HE m l)
 |v::vs,n,l=>∀ m,n≤m→PCallV P y [v] (HE m l) (fun b h'=>∃ m' l',h'=HE m' l'∧m≤m' ∧
   ((b=B true∧Hsub Z l'∧FeedQ P y R Z vs m' l')∨(b=B false∧∀ m2,m'≤m2→∀ u,R u (HE m2 l')))) fun _ _=>False
theorem FeedQ.mono {P:Program} {y:PV} {R:PV→PH→Prop} {Z:HL} {n n':Nat} {l:HL} (hn:n≤n'):∀ {vs:List PV},FeedQ P y R Z vs n l→FeedQ P y R Z vs n' l
 |[],h=>fun m hm u=>h m (by omega) u
 |_::_,h=>fun m hm=>h m (by omega)
section
variable {C:Cx} {F:EQ} {X:EX} {k:List KI} {e:EL} {ds:List Nat} {K:PV→PH→Prop} {n:Nat} {own l:HL}
variable {d:Option Tmp} {type:TypeId} {pos:String} {after:Array Edge} {guard:Option (Nat×Bool)}
end
section
variable {C:Cx} {F:EQ} {X:EX} {k:List KI} {e:EL} {ds:List Nat} {h:PH} {n:Nat} {l:HL}
end
end Go.Pv
namespace Go.Pv
open Go.Proofs Go.Am
set_option maxRecDepth 10000
theorem ownU_none {o':Option Nat} {m:Nat} {l:HL} (h:∀ j,o'=some j→j < m) (hl:hget l m=none):hget (ownU o'++l) m=none:=by
  cases o' with
  | none=>exact hl
  | some j=>exact (hget_tl (by have:=h j rfl;omega)).trans hl
section
variable (f:Fns) {t1 t2:Tail} (h1:t1.isOwn=false) (h2:t2.isOwn=false)
include h1 h2
theorem f54 (hn:f.li.length≤5):Fn P0 54 [f.v t1 t2] (N (2 ^ f.li.length - 1)):=by
  have hp:2 ^ f.li.length≤2 ^ 5:=Nat.pow_le_pow_right (by decide) hn
  have hq:1≤2 ^ f.li.length:=Nat.pow_pos (by decide)
  have e:((1 * 2 ^ f.li.length:Nat):Int) - 1=((2 ^ f.li.length - 1:Nat):Int):=by omega
  refine PFun.of (C:=c54) (cx_ok _ _ _) rfl (fn:=Tryz.f54) (by kernel_rfl) (c:=_) rfl rfl rfl ?_
  refine rS (rN (cx_ok _ _ _) (rO rfl (Ope.boxF rfl rfl ?_)))
  refine rO rfl (oA rfl ?_)
  refine rI (rS (rN (cx_ok _ _ _) (rO rfl (Ope.fld rfl rfl ?_))))
  refine rO rfl (Ope.fld rfl rfl ?_)
  refine rO rfl (oL rfl rfl ?_)
  refine rO rfl (Ope.len (m:=f.li.length) rfl (by simp) ?_)
  refine rO rfl (Ope.shlN (p:=1) (m:=f.li.length) rfl rfl rfl rfl (by omega) (by omega) ?_)
  refine rO rfl (Ope.sub rfl rfl (by omega) ?_)
  rw [e]
  refine rO rfl (oA rfl ?_)
  exact rI (Run.ret (fin_ret (.tmp rfl .nil) rfl rfl))
theorem f107 (hn:f.li.length≤5) (k:Int):Fn P0 107 [f.v t1 t2,I k] (N (f.kin fun x=>decide (x=k))):=by
  have hs:∀ i,f.ofS (fun x=>decide (x=k)) (i+1)=if decide ((f.ofc i).kd=k)=true then f.ofS (fun x=>decide (x=k)) i ||| 1 * 2 ^ i else f.ofS (fun x=>decide (x=k)) i:=fun i=>rfl
  have hlt:∀ i,i≤5→f.ofS (fun x=>decide (x=k)) i < 32:=fun i hi=>ofS_lt f _ i hi
  have h0:f.ofS (fun x=>decide (x=k)) 0=0:=rfl
  have hat:=fun {i:Nat} (h:i < f.li.length)=>Fns.ofc_at (f:=f) h
  unfold Fns.kin
  generalize f.ofS (fun x=>decide (x=k))=S at *
  obtain ⟨ru,n,li⟩:=f
  simp only at hn hat ⊢
  refine PFun.of (C:=c107) (cx_ok _ _ _) rfl (fn:=Tryz.f107) (by kernel_rfl) (c:=_) rfl rfl rfl ?_
  refine rS (rN (cx_ok _ _ _) (rO rfl (Ope.boxF rfl rfl ?_)))
  refine rO rfl (oA rfl ?_)
  refine rI (rS (rN (cx_ok _ _ _) (rO rfl (oA rfl ?_))))
  refine rI (rS (rS (rN (cx_ok _ _ _) (rO rfl (Ope.fld rfl rfl ?_)))))
  refine rO rfl (Ope.fld rfl rfl ?_)
  refine rO rfl (oL rfl rfl ?_)
  refine rO rfl (Ope.len (m:=li.length) rfl (by simp) ?_)
  refine rO rfl (oM rfl ?_)
  refine rI (Run.block (Run.loop (α:=Nat×Nat) (fun t=>[(1,I k),(5,N (S t.1)),(10,.sl t2 (li.map Ofc.v)),(11,I li.length),(12,I t.1)]) (fun t=>HE t.2 []) (fun t=>t.1≤li.length) (fun t=>li.length - t.1) (0,0) ⟨rfl,by rw [h0];rfl,rfl,rfl,rfl,trivial⟩ rfl (Nat.zero_le _) (fun t ht=>?_)))
  obtain ⟨i,m⟩:=t
  simp only at ht
  refine rS (rN (cx_ok _ _ _) (rO rfl (Ope.lt rfl rfl ?_)))
  refine rI (rS (rC rfl (fun hc=>?_) fun hc=>?_))
  ·refine Run.skip (rS (Run.block (rS ?_)))
   have hlt':i < li.length:=by omega
   have hsi:=hs i
   have hl1:=hlt i (by omega)
   have hl2:=hlt (i+1) (by omega)
   have hp:2 ^ i≤2 ^ 5:=Nat.pow_le_pow_right (by decide) (by omega)
   rw [hat hlt'] at hsi
   refine rN (cx_ok _ _ _) (rO rfl (oM rfl ?_))
   refine rO rfl (Ope.idxM (m:=i) (f:=Ofc.v) rfl rfl rfl hlt' (fun _=>rfl) ?_)
   refine rO rfl (oL rfl rfl ?_)
   refine rO rfl (Ope.newL rfl ?_)
   refine rO rfl (oA rfl ?_)
   refine Reg.op0 (Ope.store rfl rfl hget_hd rfl rfl rfl ?_)
   refine rI (rS (Run.frz (d:=7) true rfl hget_hd rfl ?_))
   refine Run.wide (m:=m+1) (l':=[]) (Nat.le_refl _) trivial ?_
   refine rN (cx_ok _ _ _) (rO rfl (Ope.fld rfl rfl ?_))
   refine rO rfl (oL rfl rfl ?_)
   refine rO rfl (oM rfl ?_)
   refine rO rfl (Ope.eq rfl rfl ?_)
   refine rI (rC rfl (fun hc=>?_) fun hc=>?_)
   ·refine rN (cx_ok _ _ _) (rO rfl (oM rfl ?_))
    refine rO rfl (oM rfl ?_)
    refine rO rfl (Ope.shlN (p:=1) (m:=i) rfl rfl rfl rfl (by omega) (by omega) ?_)
    refine rO rfl (Ope.orN (p:=S i) (q:=1 * 2 ^ i) rfl rfl rfl rfl (by show S i < 2 ^ 63;omega) (by show 1 * 2 ^ i < 2 ^ 63;omega) ?_)
    refine rO rfl (oA rfl ?_)
    refine rI (Run.bend (rN (cx_ok _ _ _) (rO rfl (Ope.add rfl rfl (by omega) ?_))))
    refine rO rfl (oM rfl ?_)
    refine rI ?_
    first
    | exact Run.lend ⟨(i+1,m+1),by show li.length - (i+1) < li.length - i;omega,by show i+1≤li.length;omega,⟨rfl,by rw [hsi,if_pos (decide_eq_true hc)];rfl,rfl,rfl,rfl,trivial⟩,rfl,rfl⟩
    | exact Run.lend ⟨(i+1,m+1),by show li.length - (i+1) < li.length - i;omega,by show i+1≤li.length;omega,⟨rfl,by rw [hsi,if_neg (by simpa using hc)];rfl,rfl,rfl,rfl,trivial⟩,rfl,rfl⟩
   ·refine Run.skip (Run.bend (rN (cx_ok _ _ _) (rO rfl (Ope.add rfl rfl (by omega) ?_))))
    refine rO rfl (oM rfl ?_)
    refine rI ?_
    first
    | exact Run.lend ⟨(i+1,m+1),by show li.length - (i+1) < li.length - i;omega,by show i+1≤li.length;omega,⟨rfl,by rw [hsi,if_pos (decide_eq_true hc)];rfl,rfl,rfl,rfl,trivial⟩,rfl,rfl⟩
    | exact Run.lend ⟨(i+1,m+1),by show li.length - (i+1) < li.length - i;omega,by show i+1≤li.length;omega,⟨rfl,by rw [hsi,if_neg (by simpa using hc)];rfl,rfl,rfl,rfl,trivial⟩,rfl,rfl⟩
  ·refine Run.exit (Jmp.code (Jmp.round (Jmp.here (rS ?_))))
   obtain rfl:i=li.length:=by omega
   refine rN (cx_ok _ _ _) (rO rfl (oM rfl ?_))
   refine rO rfl (oA rfl ?_)
   exact rI (Run.ret (fin_ret (.tmp rfl .nil) rfl rfl))
omit h1 h2 in
theorem dds1_len (hf:f.ok) {k r:Int} {i:Nat} (hi:i < f.li.length):(f.dds1 k r i).length≤3:=by
  have:=(hf.lv (f.ofc i) (by rw [Fns.ofc_at hi];exact List.getElem_mem hi)).2.2
  unfold Fns.dds1
  split
  · rw [List.length_map,List.length_range];omega
  · exact Nat.zero_le _
def Fns.ddsI (f:Fns) (k r:Int) (i:Nat):List Deed:=(List.range i).flatMap (f.dds1 k r)
omit h1 h2 in
theorem ddsI_succ (k r:Int) (i:Nat):f.ddsI k r (i+1)=f.ddsI k r i++f.dds1 k r i:=by
  simp [Fns.ddsI,List.range_succ,List.flatMap_append]
omit h1 h2 in
theorem ddsI_len (hf:f.ok) (k r:Int):∀ i,i≤f.li.length→(f.ddsI k r i).length≤3 * i
  | 0,_=>by simp [Fns.ddsI]
  | i + 1, h => by
    rw [ddsI_succ,List.length_append]
    have:=ddsI_len hf k r i (by omega)
    have:=dds1_len f hf (k:=k) (r:=r) (i:=i) (by omega)
    omega
theorem f115 (hf : f.ok) (k : Int) (r : Nat) (hr : (r : Int) < f.n) : Fn P0 115 [f.v t1 t2, I k, I r] (.sl .no ((f.dds k r).map Deed.v)) := by
  have hat:=fun {i:Nat} (h:i < f.li.length)=>Fns.ofc_at (f:=f) h
  have hsu:=ddsI_succ f k r
  have hle:=ddsI_len f hf k r
  have hl5:=hf.li
  have hn6:=hf.n
  have hlv:∀ i (h:i < f.li.length),(0 < f.li[i].ri∧f.li[i].ri < 2 ^ f.n.toNat)∧(0≤f.li[i].lo∧f.li[i].lo≤f.li[i].hi∧f.li[i].hi≤144∧f.li[i].hi - f.li[i].lo≤2):=fun i h=>(hf.lv _ (List.getElem_mem h)).2
  have hp6:(2:Int) ^ f.n.toNat≤64:=by rcases hn6 with h | h | h<;>rw [h]<;>decide
  have hd1:∀ i,f.dds1 k r i=if (f.ofc i).kd=k∧(f.ofc i).ri.toNat.testBit r=true then (List.range ((f.ofc i).hi - (f.ofc i).lo+1).toNat).map fun (j:Nat)=>(⟨k,i,r,(f.ofc i).lo+j⟩:Deed) else []:=fun i=>by unfold Fns.dds1;rw [Int.toNat_natCast]
  have e0:f.dds k r=f.ddsI k r f.li.length:=rfl
  have hL0:f.ddsI k r 0=[]:=rfl
  rw [e0]
  generalize f.ddsI k r=L at *
  generalize f.dds1 k r=X at *
  obtain ⟨ru,n,li⟩:=f
  simp only at hat hle hl5 hn6 hr hlv hp6 ⊢
  have hr6:r < 6:=by omega
  refine PFun.of (C:=c115) (cx_ok _ _ _) rfl (fn:=Tryz.f115) (by kernel_rfl) (c:=_) rfl rfl rfl ?_
  refine rS (rN (cx_ok _ _ _) (rO rfl (Ope.boxF rfl rfl ?_)))
  refine rO rfl (oA rfl ?_)
  refine rI (rS (rN (cx_ok _ _ _) (rO rfl (oA rfl ?_))))
  refine rI (rS (rS (rN (cx_ok _ _ _) (rO rfl (Ope.fld rfl rfl ?_)))))
  refine rO rfl (Ope.fld rfl rfl ?_)
  refine rO rfl (oL rfl rfl ?_)
  refine rO rfl (Ope.len (m:=li.length) rfl (by simp) ?_)
  refine rO rfl (oM rfl ?_)
  refine rI (Run.block (Run.loop (α:=Nat×Option Nat×Nat) (fun t=>[(1,I k),(2,N r),(7,.sl (tlU t.2.1) ((L t.1).map Deed.v)),(13,.sl t2 (li.map Ofc.v)),(14,I li.length),(15,I t.1)]) (fun t=>HE t.2.2 (ownU t.2.1++[])) (fun t=>t.1≤li.length∧∀ j,t.2.1=some j→j < t.2.2∧L t.1≠[]) (fun t=>li.length - t.1) (0,none,0) ⟨rfl,rfl,by rw [hL0];rfl,rfl,rfl,rfl,trivial⟩ rfl ⟨Nat.zero_le _,fun j hj=>by cases hj⟩ (fun t ht=>?_)))
  obtain ⟨i,o',m⟩:=t
  obtain ⟨hi,hO⟩:=ht
  simp only at hi hO
  show Run _ _ _ _ [(1,I k),(2,N r),(7,.sl (tlU o') ((L i).map Deed.v)),(13,.sl t2 (li.map Ofc.v)),(14,I li.length),(15,I i)] [] (HE m (ownU o'++[]))
  refine rS (rN (cx_ok _ _ _) (rO rfl (Ope.lt rfl rfl ?_)))
  refine rI (rS (rC rfl (fun hc=>?_) fun hc=>?_))
  ·refine Run.skip (rS (Run.block (rS ?_)))
   have hlt':i < li.length:=by omega
   have hsi:=hsu i
   have hl1:=hle i (by omega)
   have hdi:=hd1 i
   have hvi:=hlv i hlt'
   rw [hat hlt'] at hdi
   obtain ⟨p,hp,hp64⟩:∃ p:Nat,li[i].ri=(p:Int)∧p < 64:=⟨li[i].ri.toNat,by omega,by omega⟩
   have hpr:p >>> r≤p:=Nat.shiftRight_le _ _
   have hbit:p >>> r &&& 1=if p.testBit r=true then 1 else 0:=by
     rw [Nat.testBit,Nat.and_comm 1 (p >>> r),Nat.and_one_is_mod]
     rcases Nat.mod_two_eq_zero_or_one (p >>> r) with h | h<;>simp [h]
   have hpt:li[i].ri.toNat=p:=by omega
   rw [hpt] at hdi
   have hno:∀ j,o'=some j→j < m:=fun j hj=>(hO j hj).1
   refine rN (cx_ok _ _ _) (rO rfl (oM rfl ?_))
   refine rO rfl (Ope.idxM (m:=i) (f:=Ofc.v) rfl rfl rfl hlt' (fun _=>rfl) ?_)
   refine rO rfl (oL rfl rfl ?_)
   refine rO rfl (Ope.newL rfl ?_)
   refine rO rfl (oA rfl ?_)
   refine Reg.op0 (Ope.store rfl rfl hget_hd rfl rfl rfl ?_)
   refine rI (rS (rS (Run.frz (d:=9) true rfl hget_hd rfl ?_)))
   refine Run.wideS (m:=m+1) (l':=ownU o'++[]) (Nat.le_refl _) (hs_skip (hs_skip (hs_skip hs_refl (ownU_none hno rfl)) (ownU_none hno rfl)) (ownU_none hno rfl)) ?_
   refine rN (cx_ok _ _ _) (rO rfl (Ope.fld rfl rfl ?_))
   refine rO rfl (oL rfl rfl ?_)
   refine rO rfl (oM rfl ?_)
   refine rO rfl (Ope.ne rfl rfl ?_)
   refine rO rfl (oM rfl ?_)
   refine Reg.splitX rfl rfl (fun hg=>?_) fun hg=>?_
   ·refine Reg.off rfl rfl rfl (Reg.off rfl rfl rfl (Reg.off rfl rfl rfl (Reg.off rfl rfl rfl (Reg.off rfl rfl rfl (Reg.off rfl rfl rfl (rO rfl (Ope.pickT rfl rfl ?_)))))))
    refine rI (Run.condT rfl (Run.exit (Jmp.code (Jmp.here (rN (cx_ok _ _ _) (rO rfl (Ope.add rfl rfl (by omega) ?_)))))))
    refine rO rfl (oM rfl ?_)
    refine rI ?_
    first
    | exact Run.lend ⟨(i+1,o',m+1),by show li.length - (i+1) < li.length - i;omega,⟨by show i+1≤li.length;omega,fun j hj=>by have:=hO j hj;exact ⟨by show j < m+1;omega,by rw [hsi];intro h;exact this.2 (List.append_eq_nil_iff.1 h).1⟩⟩,⟨rfl,rfl,congrArg (fun l=>some (PV.sl (tlU o') l)) (by rw [hsi,hdi,if_neg (by rintro ⟨a,b⟩;first | exact absurd a (by assumption) | (rw [hbit,b] at hc;simp at hc) | (simp_all)),List.append_nil]),rfl,rfl,rfl,trivial⟩,rfl,rfl⟩
    | exact Run.lend ⟨(i+1,o2,m2),by show li.length - (i+1) < li.length - i;omega,⟨by show i+1≤li.length;omega,fun j hj=>by
        have:=hO2 j hj
        refine ⟨this.1,?_⟩
        rw [hsi]
        rw [List.take_of_length_le (by omega)] at this
        exact this.2⟩,⟨rfl,rfl,congrArg (fun l=>some (PV.sl (tlU o2) l)) (by rw [hsi,List.take_of_length_le (by omega)]),rfl,rfl,rfl,trivial⟩,rfl,rfl⟩
   ·refine Reg.on rfl rfl rfl (Ope.fld rfl rfl ?_)
    refine Reg.on rfl rfl rfl (oL rfl rfl ?_)
    refine Reg.on rfl rfl rfl (oM rfl ?_)
    refine Reg.on rfl rfl rfl (Ope.shrN (p:=p) (m:=r) rfl rfl hp rfl (by show r≤64;omega) ?_)
    refine Reg.on rfl rfl rfl (Ope.andN (p:=p >>> r) (q:=1) rfl rfl rfl rfl (by show p >>> r < 2 ^ 64;omega) (by decide) ?_)
    refine Reg.on rfl rfl rfl (Ope.eq rfl rfl ?_)
    refine rO rfl (Ope.pickF rfl rfl ?_)
    refine rI (rC rfl (fun hc=>?_) fun hc=>?_)
    ·refine Run.exit (Jmp.code (Jmp.here (rN (cx_ok _ _ _) (rO rfl (Ope.add rfl rfl (by omega) ?_)))))
     refine rO rfl (oM rfl ?_)
     refine rI ?_
     first
     | exact Run.lend ⟨(i+1,o',m+1),by show li.length - (i+1) < li.length - i;omega,⟨by show i+1≤li.length;omega,fun j hj=>by have:=hO j hj;exact ⟨by show j < m+1;omega,by rw [hsi];intro h;exact this.2 (List.append_eq_nil_iff.1 h).1⟩⟩,⟨rfl,rfl,congrArg (fun l=>some (PV.sl (tlU o') l)) (by rw [hsi,hdi,if_neg (by rintro ⟨a,b⟩;first | exact absurd a (by assumption) | (rw [hbit,b] at hc;simp at hc) | (simp_all)),List.append_nil]),rfl,rfl,rfl,trivial⟩,rfl,rfl⟩
     | exact Run.lend ⟨(i+1,o2,m2),by show li.length - (i+1) < li.length - i;omega,⟨by show i+1≤li.length;omega,fun j hj=>by
         have:=hO2 j hj
         refine ⟨this.1,?_⟩
         rw [hsi]
         rw [List.take_of_length_le (by omega)] at this
         exact this.2⟩,⟨rfl,rfl,congrArg (fun l=>some (PV.sl (tlU o2) l)) (by rw [hsi,List.take_of_length_le (by omega)]),rfl,rfl,rfl,trivial⟩,rfl,rfl⟩
    ·refine Run.skip (rS (rN (cx_ok _ _ _) (rO rfl (Ope.fld rfl rfl ?_))))
     refine rO rfl (Ope.fld rfl rfl ?_)
     refine rO rfl (oL rfl rfl ?_)
     refine rO rfl (oA rfl ?_)
     refine rI (Run.block ?_)
     have hbt:p.testBit r=true:=by
       cases hb:p.testBit r with
       | true=>rfl
       | false=>exfalso;rw [hbit,hb] at hc;simp at hc
     have hkd:li[i].kd=k:=by
       first | assumption | (simp at *;assumption)
     rw [if_pos ⟨hkd,hbt⟩] at hdi
     have hXl:(X i).length=(li[i].hi - li[i].lo+1).toNat:=by rw [hdi];simp
     have hXa:∀ q (h:q < (X i).length),(X i)[q]=(⟨k,i,r,li[i].lo+q⟩:Deed):=fun q h=>by simp [hdi]
     refine Run.loop (α:=Nat×Option Nat×Nat) (fun t=>[(1,I k),(2,N r),(7,.sl (tlU t.2.1) ((L i++(X i).take t.1).map Deed.v)),(8,I i),(9,.fp (.agg [I li[i].kd,I li[i].ri,I li[i].lo,I li[i].hi])),(10,I (li[i].lo+t.1)),(13,.sl t2 (li.map Ofc.v)),(14,I li.length),(15,I i)]) (fun t=>HE t.2.2 (ownU t.2.1++[])) (fun t=>t.1≤(X i).length∧∀ j,t.2.1=some j→j < t.2.2∧L i++(X i).take t.1≠[]) (fun t=>(X i).length - t.1) (0,o',m+1) ⟨rfl,rfl,by rw [List.take_zero,List.append_nil];rfl,rfl,rfl,by rw [show li[i].lo+((0:Nat):Int)=li[i].lo by omega];rfl,rfl,rfl,rfl,trivial⟩ rfl ⟨Nat.zero_le _,fun j hj=>by have:=hO j hj;rw [List.take_zero,List.append_nil];exact ⟨by show j < m+1;omega,this.2⟩⟩ (fun t ht=>?_)
     obtain ⟨q,o2,m2⟩:=t
     obtain ⟨hq,hO2⟩:=ht
     simp only at hq hO2
     show Run _ _ _ _ [(1,I k),(2,N r),(7,.sl (tlU o2) ((L i++(X i).take q).map Deed.v)),(8,I i),(9,.fp (.agg [I li[i].kd,I li[i].ri,I li[i].lo,I li[i].hi])),(10,I (li[i].lo+q)),(13,.sl t2 (li.map Ofc.v)),(14,I li.length),(15,I i)] [] (HE m2 (ownU o2++[]))
     refine rS (rS (rN (cx_ok _ _ _) (rO rfl (oM rfl ?_))))
     refine rO rfl (Ope.fld rfl rfl ?_)
     refine rO rfl (Ope.fld rfl rfl ?_)
     refine rO rfl (oL rfl rfl ?_)
     refine rO rfl (Ope.le rfl rfl ?_)
     refine rI (rC rfl (fun hc=>?_) fun hc=>?_)
     ·refine Run.skip (rS (Run.block ?_))
      have hqX:q < (X i).length:=by omega
      have hX3:(X i).length≤3:=by omega
      have htk:(L i++(X i).take (q+1)).map Deed.v=(L i++(X i).take q).map Deed.v++[.agg [I k,I i,I r,I (li[i].lo+q)]]:=by
        rw [List.take_succ_eq_append_getElem hqX,hXa q hqX,← List.append_assoc,List.map_append (l₂:=[_])]
        rfl
      have hlen:(L i++(X i).take q).length≤100:=by rw [List.length_append,List.length_take];omega
      refine rN (cx_ok _ _ _) (rO rfl (oM rfl ?_))
      refine rO rfl (oM rfl ?_)
      refine rO rfl (oM rfl ?_)
      refine rO rfl (oM rfl ?_)
      refine rO rfl (oM rfl ?_)
      refine rO rfl (Ope.bld rfl rfl ?_)
      refine rO rfl (Ope.bsl rfl rfl rfl rfl ?_)
      refine rO rfl (Ope.apU (o':=o2) (vs:=(L i++(X i).take q).map Deed.v) (ws:=[.agg [I k,I i,I r,I (li[i].lo+q)]]) rfl rfl (by simp) (fun j hj=>⟨by have:=(hO2 j hj).2;simpa using this,rfl⟩) (by simp only [List.length_map,List.length_singleton];omega) (by simp only [List.length_map,List.length_singleton];omega) (by decide) (by intro v hv;obtain ⟨_,_,rfl⟩:=List.mem_map.1 hv;rfl) (by intro v hv;simp only [List.mem_singleton] at hv;subst hv;exact ⟨rfl,rfl⟩) ?_)
      refine rO rfl (oA rfl ?_)
      refine rI (Run.bend (rN (cx_ok _ _ _) (rO rfl (oM rfl ?_))))
      refine rO rfl (Ope.add rfl rfl (by omega) ?_)
      refine rO rfl (oA rfl ?_)
      exact rI (Run.lend ⟨(q+1,some m2,m2+1),by show (X i).length - (q+1) < (X i).length - q;omega,⟨by show q+1≤(X i).length;omega,fun j hj=>by cases hj;exact ⟨Nat.lt_succ_self _,by intro h;have:=congrArg (fun l=>(l.map Deed.v).length) h;rw [htk] at this;simp at this⟩⟩,⟨rfl,rfl,congrArg (fun l=>some (PV.sl (.own m2) l)) htk.symm,rfl,rfl,by rw [show li[i].lo+((q+1:Nat):Int)=li[i].lo+q+1 by omega];rfl,rfl,rfl,rfl,trivial⟩,rfl,rfl⟩)
     ·refine Run.exit (Jmp.code (Jmp.round (Jmp.here (Run.bend (rN (cx_ok _ _ _) (rO rfl (Ope.add rfl rfl (by omega) ?_)))))))
      refine rO rfl (oM rfl ?_)
      refine rI ?_
      first
      | exact Run.lend ⟨(i+1,o',m+1),by show li.length - (i+1) < li.length - i;omega,⟨by show i+1≤li.length;omega,fun j hj=>by have:=hO j hj;exact ⟨by show j < m+1;omega,by rw [hsi];intro h;exact this.2 (List.append_eq_nil_iff.1 h).1⟩⟩,⟨rfl,rfl,congrArg (fun l=>some (PV.sl (tlU o') l)) (by rw [hsi,hdi,if_neg (by rintro ⟨a,b⟩;first | exact absurd a (by assumption) | (rw [hbit,b] at hc;simp at hc) | (simp_all)),List.append_nil]),rfl,rfl,rfl,trivial⟩,rfl,rfl⟩
      | exact Run.lend ⟨(i+1,o2,m2),by show li.length - (i+1) < li.length - i;omega,⟨by show i+1≤li.length;omega,fun j hj=>by
          have:=hO2 j hj
          refine ⟨this.1,?_⟩
          rw [hsi]
          rw [List.take_of_length_le (by omega)] at this
          exact this.2⟩,⟨rfl,rfl,congrArg (fun l=>some (PV.sl (tlU o2) l)) (by rw [hsi,List.take_of_length_le (by omega)]),rfl,rfl,rfl,trivial⟩,rfl,rfl⟩
  ·refine Run.exit (Jmp.code (Jmp.round (Jmp.here (rS ?_))))
   obtain rfl:i=li.length:=by omega
   refine Run.weakT (d:=7) rfl ?_
   refine rN (cx_ok _ _ _) (rO rfl (oM rfl ?_))
   refine rO rfl (oA rfl ?_)
   exact rI (Run.ret (fin_ret (.tmp rfl .nil) (bd_sl (f:=Deed.v) (tl:=.no) rfl (fun _=>rfl) _) rfl))
omit h1 h2 in
theorem f114 (d:Deed) (tl:Tail) (D:List Deed) (hD:D.length≤1000):Fn P0 114 [.sl tl (D.map Deed.v),.fn (.func 76) [d.v] []] (.sl .no ((D.filter (bef d)).map Deed.v)):=by
  have hsu:∀ i (h:i < D.length),(D.take (i+1)).filter (bef d)=(D.take i).filter (bef d)++if bef d D[i]=true then [D[i]] else []:=fun i h=>by
    rw [List.take_succ_eq_append_getElem h,List.filter_append,List.filter_cons,List.filter_nil]
  have hle:∀ i,((D.take i).filter (bef d)).length≤1000:=fun i=>Nat.le_trans (List.length_filter_le _ _) (by rw [List.length_take];omega)
  have hL0:(D.take 0).filter (bef d)=[]:=rfl
  have hbe:=fun x=>f76 d x
  have hend:(D.take D.length).filter (bef d)=D.filter (bef d):=by rw [List.take_length]
  rw [← hend]
  have hLg:∃ L:Nat→List Deed,∀ i,L i=(D.take i).filter (bef d):=⟨_,fun _=>rfl⟩
  obtain ⟨L,hL⟩:=hLg
  simp only [← hL] at hsu hle hL0 ⊢
  refine PFun.of (C:=c114) (cx_ok _ _ _) rfl (fn:=Tryz.f114) (by kernel_rfl) (c:=_) rfl rfl rfl ?_
  refine rS (rN (cx_ok _ _ _) (rO rfl (oA rfl ?_)))
  refine rI (rS (rN (cx_ok _ _ _) (rO rfl (oA rfl ?_))))
  refine rI (rS (rS (rN (cx_ok _ _ _) (rO rfl (oM rfl ?_)))))
  refine rO rfl (Ope.len (m:=D.length) rfl (by simp) ?_)
  refine rO rfl (oM rfl ?_)
  refine rI (Run.block (Run.loop (α:=Nat×Option Nat×Nat) (fun t=>[(1,.fn (.func 76) [d.v] []),(5,.sl (tlU t.2.1) ((L t.1).map Deed.v)),(8,.sl tl (D.map Deed.v)),(9,I D.length),(10,I t.1)]) (fun t=>HE t.2.2 (ownU t.2.1++[])) (fun t=>t.1≤D.length∧∀ j,t.2.1=some j→j < t.2.2∧L t.1≠[]) (fun t=>D.length - t.1) (0,none,0) ⟨rfl,by rw [hL0];rfl,rfl,rfl,rfl,trivial⟩ rfl ⟨Nat.zero_le _,fun j hj=>by cases hj⟩ (fun t ht=>?_)))
  obtain ⟨i,o',m⟩:=t
  obtain ⟨hi,hO⟩:=ht
  simp only at hi hO
  show Run _ _ _ _ [(1,.fn (.func 76) [d.v] []),(5,.sl (tlU o') ((L i).map Deed.v)),(8,.sl tl (D.map Deed.v)),(9,I D.length),(10,I i)] [] (HE m (ownU o'++[]))
  refine rS (rN (cx_ok _ _ _) (rO rfl (Ope.lt rfl rfl ?_)))
  refine rI (rS (rC rfl (fun hc=>?_) fun hc=>?_))
  ·refine Run.skip (rS (Run.block (rS ?_)))
   have hlt':i < D.length:=by omega
   have hsi:=hsu i hlt'
   have hl1:=hle i
   have hno:∀ j,o'=some j→j < m:=fun j hj=>(hO j hj).1
   refine rN (cx_ok _ _ _) (rO rfl (Ope.idxM (m:=i) (f:=Deed.v) rfl rfl rfl hlt' (fun _=>rfl) ?_))
   refine rO rfl (oL rfl rfl ?_)
   refine rO rfl (Ope.newL rfl ?_)
   refine Reg.op0 (Ope.store rfl rfl hget_hd rfl rfl rfl ?_)
   refine rI (rS (Run.frz (d:=7) true rfl hget_hd rfl ?_))
   refine Run.wideS (m:=m+1) (l':=ownU o'++[]) (Nat.le_refl _) (hs_skip (hs_skip (hs_skip hs_refl (ownU_none hno rfl)) (ownU_none hno rfl)) (ownU_none hno rfl)) ?_
   refine rN (cx_ok _ _ _) (rO rfl (oM rfl ?_))
   refine rO rfl (oL rfl rfl ?_)
   refine rO rfl (Ope.cf rfl rfl (hbe D[i]) rfl ?_)
   refine rI (rC rfl (fun hc=>?_) fun hc=>?_)
   ·refine rN (cx_ok _ _ _) (rO rfl (oM rfl ?_))
    refine rO rfl (oL rfl rfl ?_)
    refine rO rfl (Ope.bsl rfl rfl rfl rfl ?_)
    refine rO rfl (Ope.apU (o':=o') (vs:=(L i).map Deed.v) (ws:=[Deed.v D[i]]) rfl rfl (by simp) (fun j hj=>⟨by have:=(hO j hj).2;simpa using this,rfl⟩) (by simp only [List.length_map,List.length_singleton];omega) (by simp only [List.length_map,List.length_singleton];omega) (by decide) (by intro v hv;obtain ⟨_,_,rfl⟩:=List.mem_map.1 hv;rfl) (by intro v hv;simp only [List.mem_singleton] at hv;subst hv;exact ⟨rfl,rfl⟩) ?_)
    refine rO rfl (oA rfl ?_)
    refine rI (Run.bend (rN (cx_ok _ _ _) (rO rfl (Ope.add rfl rfl (by omega) ?_))))
    refine rO rfl (oM rfl ?_)
    refine rI ?_
    first
    | exact Run.lend ⟨(i+1,some (m+1),m+2),by show D.length - (i+1) < D.length - i;omega,⟨by show i+1≤D.length;omega,fun j hj=>by cases hj;exact ⟨Nat.lt_succ_self _,by rw [hsi,if_pos hc];simp⟩⟩,⟨rfl,congrArg (fun l=>some (PV.sl (.own (m+1)) l)) (by rw [hsi,if_pos hc,List.map_append];rfl),rfl,rfl,rfl,trivial⟩,rfl,rfl⟩
    | exact Run.lend ⟨(i+1,o',m+1),by show D.length - (i+1) < D.length - i;omega,⟨by show i+1≤D.length;omega,fun j hj=>by have:=hO j hj;exact ⟨by show j < m+1;omega,by rw [hsi,if_neg (by rw [hc];simp),List.append_nil];exact this.2⟩⟩,⟨rfl,congrArg (fun l=>some (PV.sl (tlU o') l)) (by rw [hsi,if_neg (by rw [hc];simp),List.append_nil]),rfl,rfl,rfl,trivial⟩,rfl,rfl⟩
   ·refine Run.skip (Run.bend (rN (cx_ok _ _ _) (rO rfl (Ope.add rfl rfl (by omega) ?_))))
    refine rO rfl (oM rfl ?_)
    refine rI ?_
    first
    | exact Run.lend ⟨(i+1,some (m+1),m+2),by show D.length - (i+1) < D.length - i;omega,⟨by show i+1≤D.length;omega,fun j hj=>by cases hj;exact ⟨Nat.lt_succ_self _,by rw [hsi,if_pos hc];simp⟩⟩,⟨rfl,congrArg (fun l=>some (PV.sl (.own (m+1)) l)) (by rw [hsi,if_pos hc,List.map_append];rfl),rfl,rfl,rfl,trivial⟩,rfl,rfl⟩
    | exact Run.lend ⟨(i+1,o',m+1),by show D.length - (i+1) < D.length - i;omega,⟨by show i+1≤D.length;omega,fun j hj=>by have:=hO j hj;exact ⟨by show j < m+1;omega,by rw [hsi,if_neg (by rw [hc];simp),List.append_nil];exact this.2⟩⟩,⟨rfl,congrArg (fun l=>some (PV.sl (tlU o') l)) (by rw [hsi,if_neg (by rw [hc];simp),List.append_nil]),rfl,rfl,rfl,trivial⟩,rfl,rfl⟩
  ·refine Run.exit (Jmp.code (Jmp.round (Jmp.here (rS ?_))))
   obtain rfl:i=D.length:=by omega
   refine Run.weakT (d:=5) rfl ?_
   refine rN (cx_ok _ _ _) (rO rfl (oM rfl ?_))
   refine rO rfl (oA rfl ?_)
   exact rI (Run.ret (fin_ret (.tmp rfl .nil) (bd_sl (f:=Deed.v) (tl:=.no) rfl (fun _=>rfl) _) rfl))
end
end Go.Pv
namespace Go.Pv
open Go.Proofs Go.Am
set_option maxRecDepth 10000
instance:Mpt A0 110 109 (B false):=⟨by kernel_rfl⟩
theorem keyD_of (d:Deed):PV.toAV d.v=some d.key:=rfl
theorem keyD_check (d:Deed):acheck A0 20 109 d.key=true:=by kernel_rfl
theorem keyD_inj {d d':Deed} (h:d.key=d'.key):d=d':=by
  obtain ⟨a,b,c,e⟩:=d
  obtain ⟨a',b',c',e'⟩:=d'
  simp only [Deed.key,AV.agg.injEq,List.cons.injEq,AV.int.injEq,true_and,and_true] at h
  obtain ⟨h1,h2,h3,h4⟩:=h
  have:b=b':=by omega
  subst_vars
  rfl
def bnd2 (x k:Option Bool):Option Bool :=
  match x with
  | some true=>k
  | some false=>some false
  | none=>none
theorem keyD_chain (d d':Deed):aeqv A0 E0 20 109 d.key d'.key =
    bnd2 (some (d.kd == d'.kd)) (bnd2 (some (((d.nu:Nat):Int) == ((d'.nu:Nat):Int))) (bnd2 (some (d.ri == d'.ri)) (bnd2 (some (d.ho == d'.ho)) (some true)))):=by kernel_rfl
theorem bnd2_some (a b:Bool):bnd2 (some a) (some b)=some (a && b):=by cases a<;>rfl
theorem keyD_eq (d d':Deed):∃ b,aeqv A0 E0 20 109 d.key d'.key=some b∧(b=true→d=d'):=by
  rw [keyD_chain]
  simp only [bnd2_some]
  refine ⟨_,rfl,fun h=>?_⟩
  simp only [Bool.and_eq_true,beq_iff_eq,Bool.and_true] at h
  obtain ⟨h1,h2,h3,h4⟩:=h
  refine keyD_inj ?_
  simp only [Deed.key,h1,h2,h3,h4]
def esD:Nat→List Deed→List (AV×PV×Nat)
  | _,[]=>[]
  | b,d::D=>(d.key,B true,b)::esD (b+1) D
theorem esD_app:∀ (b:Nat) (D E:List Deed),esD b (D++E)=esD b D++esD (b+D.length) E
  | b,[],E=>rfl
  | b,d::D,E=>by simp only [List.cons_append,esD,esD_app (b+1) D E,List.length_cons];congr 3;omega
theorem esD_born:∀ (b:Nat) (D:List Deed),∀ e∈esD b D,b≤e.2.2∧e.2.2 < b+D.length
  | b,[],e,h=>by cases h
  | b, d :: D, e, h => by
    rcases List.mem_cons.1 h with rfl | h
    · exact ⟨Nat.le_refl _,by simp⟩
    · have := esD_born (b + 1) D e h
      simp only [List.length_cons]
      omega
theorem esD_nodup:∀ (b:Nat) (D:List Deed),((esD b D).map (·.2.2)).Nodup
  | b,[]=>List.nodup_nil
  | b, d :: D => by
    simp only [esD,List.map_cons,List.nodup_cons]
    refine ⟨fun h=>?_,esD_nodup (b+1) D⟩
    obtain ⟨e,he,hb⟩:=List.mem_map.1 h
    have:=(esD_born (b+1) D e he).1
    omega
theorem esD_pairs:∀ (b:Nat) (D:List Deed),(esD b D).map (fun e=>(e.1,e.2.1))=D.map fun d=>(d.key,B true)
  | b,[]=>rfl
  | b,d::D=>by simp only [esD,List.map_cons,esD_pairs (b+1) D]
theorem pfind_esD {x:Deed}:∀ (D:List Deed) (b i:Nat),x ∉ D→pfind A0 E0 109 x.key (esD b D) i=some none
  | [],b,i,_=>rfl
  | d :: D, b, i, h => by
    obtain ⟨q,q1,q2⟩:=keyD_eq x d
    simp only [esD,pfind,q1]
    cases q with
    | true=>exact absurd (by rw [q2 rfl];simp) h
    | false=>exact pfind_esD D (b+1) (i+1) fun hm=>h (List.mem_cons_of_mem _ hm)
theorem pick_mem {α:Type} {xs:List α} {seen:List Nat} {x:α}:x∈pick xs seen↔∃ p∈seen,xs[p]?=some x:=by
  unfold pick
  rw [List.mem_filterMap]
theorem pick_new {xs:List Deed} (hn:xs.Nodup) {seen:List Nat} {p:Nat} (hp:p < xs.length) (hs:p ∉ seen):xs[p] ∉ pick xs seen:=by
  rw [pick_mem]
  rintro ⟨q,q1,q2⟩
  have:p=q:=(List.getElem?_inj hp hn).1 ((List.getElem?_eq_getElem hp).trans q2.symm)
  exact hs (this ▸ q1)
theorem hs_round {m z:Nat} {a b c e:Option PBlk} {rest:HL} (hm:hget rest m=none) (hz:m≠z):∀ i x,hget ((z,e)::rest) i=some x→hget ((m,none)::(m,a)::(m,b)::(z,e)::(z,c)::rest) i=some x:=by
  intro i x h
  by_cases h1:i=m
  · subst h1
    rw [hget_tl hz,hm] at h
    cases h
  · rw [hget_tl h1, hget_tl h1, hget_tl h1]
    by_cases h2:i=z
    · subst h2
      rw [hget_hd] at h ⊢
      exact h
    · rw [hget_tl h2] at h ⊢
      rw [hget_tl h2]
      exact h
theorem fldM {ks:List AV} {vs cs:List PV}:addrK false 0 1 (.fp (.agg (mapV ks vs::cs)))=some (.fp (mapV ks vs)):=by cases ks<;>rfl
theorem loadM {ks:List AV} {vs:List PV} {l:HL}:loadK false 1 l (.fp (mapV ks vs))=some (mapV ks vs):=by cases ks<;>rfl
theorem bds_trues (n:Nat):∀ D:List Deed,PV.bds n (D.map fun _=>B true)=true
  | []=>rfl
  | d::D=>by simp only [List.map_cons,PV.bds,bds_trues n D];rfl
theorem bd_rec (n:Nat) (r:Rec):(r.v).bd n=true:=by
  have h1:(mapV (r.ds.map Deed.key) (r.ds.map fun _=>B true)).bd n=true:=mapV_bd (bds_trues n _)
  have h2:∀ l:List Int,PV.bds n (l.map I)=true:=fun l=>by
    induction l with
    | nil=>rfl
    | cons x l ih=>simp only [List.map_cons,PV.bds,ih];rfl
  simp only [Rec.v,PV.bd,PV.bds,h1,h2,Bool.and_self]
theorem f92 (d:Deed) (D:List Deed) (hn:D.Nodup) (hd:d ∉ D) (i n:Nat) (l:HL) (hi:hget l i=some (.map (esD 0 [d]) 1)) (hin:i < n) :
    PCall P0 92 [.mp i,mapV (D.map Deed.key) (D.map fun _=>B true)] (HE n l) (fun v h'=>∃ m E,n≤m∧E.Perm (d::D)∧v=.tup []∧h'=HE m ((i,some (.map (esD 0 E) E.length))::l)) fun _ _=>False:=by
  refine PCall.ofH (C:=c92) (cx_ok _ _ _) rfl (fn:=Tryz.f92) (by kernel_rfl) (c:=_) rfl rfl rfl (fun hok=>?_)
  refine rS (rN (cx_ok _ _ _) (rO rfl (oM rfl ?_)))
  refine rO rfl (Ope.rngV rfl ?_)
  refine rI (Run.block ?_)
  have hln:hget l n=none:=ok_none hok (Nat.le_refl _)
  refine Run.wideS (m:=n+1) (l':=(n,some (itV (D.map Deed.key) (D.map fun _=>B true) []))::(i,some (.map (esD 0 [d]) 1))::l) (Nat.le_refl _) (fun j x h=>?_) ?_
  · by_cases h1 : j = n
    · subst h1;rw [hget_hd] at h ⊢;exact h
    · rw [hget_tl h1] at h ⊢
      by_cases h2:j=i
      · subst h2;rw [hget_hd] at h;rw [hi];exact h
      · rw [hget_tl h2] at h;exact h
  refine Run.loop (α:=List Nat×Nat) (fun t=>[(0,.mp i),(7,.ptr n 0)]) (fun t=>HE t.2 ((n,some (itV (D.map Deed.key) (D.map fun _=>B true) t.1))::(i,some (.map (esD 0 (d::pick D t.1)) (d::pick D t.1).length))::l)) (fun t=>Seen D.length t.1∧n < t.2) (fun t=>D.length - t.1.length) ([],n+1) ⟨rfl,rfl,trivial⟩ rfl ⟨Seen.nil _,Nat.lt_succ_self _⟩ (fun t ht=>?_)
  obtain ⟨seen,m⟩:=t
  obtain ⟨hs,hnm⟩:=ht
  simp only at hs hnm
  have hni:n≠i:=by omega
  have hlm:∀ m,n≤m→hget l m=none:=fun m h=>ok_none hok h
  refine rS (rN (cx_ok _ _ _) (rO rfl (Ope.nxtV (xs:=D) (kf:=Deed.key) (vf:=fun _=>B true) (kv:=Deed.v) Deed.of rfl hget_hd rfl (fun hall=>?_) (fun p hp hps=>?_))))
  ·refine rO rfl (Ope.ext rfl rfl ?_)
   refine rI (rS (rC rfl (fun hc=>?_) fun hc=>?_))
   ·first
    |(cases hc;done)
    |refine Run.skip (Run.block (rS (rN (cx_ok _ _ _) (rO rfl (Ope.entV (xs:=D) (kf:=Deed.key) (vf:=fun _=>B true) (kv:=Deed.v) Deed.of hp rfl hget_hd ?_)))))
     refine rO rfl (Ope.ext rfl rfl ?_)
     refine rO rfl (Ope.ext rfl rfl ?_)
     refine rO rfl (Ope.newL rfl ?_)
     refine Reg.op0 (Ope.store rfl rfl hget_hd rfl rfl rfl ?_)
     refine rO rfl (oA rfl ?_)
     refine rI (Run.frz (d:=4) true rfl hget_hd rfl ?_)
     refine Run.wideS (m:=m+1) (l':=(n,some (itV (D.map Deed.key) (D.map fun _=>B true) (seen++[p])))::(i,some (.map (esD 0 (d::pick D seen)) (d::pick D seen).length))::l) (Nat.le_refl _) (hs_round ((hget_tl (by omega)).trans (hlm m (by omega))) (by omega)) ?_
     have hnew:D[p] ∉ d::pick D seen:=fun h=>by
       rcases List.mem_cons.1 h with h | h
       · exact hd (h ▸ List.getElem_mem hp)
       · exact pick_new hn hp hps h
     refine rN (cx_ok _ _ _) (rO rfl (oM rfl ?_))
     refine rO rfl (oL rfl rfl ?_)
     refine rO rfl (oM rfl ?_)
     refine Reg.op0 (Ope.mset rfl rfl rfl (keyD_of D[p]) ((hget_tl (by omega)).trans hget_hd) (keyD_check D[p]) (pfind_esD _ 0 0 hnew) (fun j v h=>by cases h) (fun j v h=>by cases h) (fun _=>?_))
     refine rI (Run.bend (Run.lend ⟨(seen++[p],m+1),by show D.length - (seen++[p]).length < D.length - seen.length;have:=hs.len_lt hp hps;simp only [List.length_append,List.length_singleton];omega,⟨hs.snoc hp hps,by show n < m+1;omega⟩,⟨rfl,rfl,trivial⟩,?_,rfl⟩))
     show HE (m+1) _=HE (m+1) _
     simp only [HE,PH.mk.injEq,and_true]
     funext j
     by_cases h1:j=i
     · subst h1
       rw [hget_hd,hget_tl (by omega),hget_hd,pick_snoc hp,← List.cons_append,esD_app]
       simp only [List.length_append,List.length_singleton,Nat.zero_add]
       rfl
     · rw [hget_tl h1]
       by_cases h2:j=n
       · subst h2;rw [hget_hd,hget_hd]
       · rw [hget_tl h2,hget_tl h2,hget_tl h1,hget_tl h1]
   ·first
    |(cases hc;done)
    |refine Run.exit (Jmp.code (Jmp.round (Jmp.here ?_)))
     exact finH_end .nil (Nat.le_refl _) (fun j x h=>by
       have h':hget ((i,some (.map (esD 0 (d::pick D seen)) (d::pick D seen).length))::l) j=some x:=h
       by_cases h1:j=n
       · subst h1;rw [hget_tl hni,hlm j (by omega)] at h';cases h'
       · rw [hget_tl h1];exact h') ⟨m,d::pick D seen,by omega,(pick_done hs hall).cons d,rfl,rfl⟩
  ·refine rO rfl (Ope.ext rfl rfl ?_)
   refine rI (rS (rC rfl (fun hc=>?_) fun hc=>?_))
   ·first
    |(cases hc;done)
    |refine Run.skip (Run.block (rS (rN (cx_ok _ _ _) (rO rfl (Ope.entV (xs:=D) (kf:=Deed.key) (vf:=fun _=>B true) (kv:=Deed.v) Deed.of hp rfl hget_hd ?_)))))
     refine rO rfl (Ope.ext rfl rfl ?_)
     refine rO rfl (Ope.ext rfl rfl ?_)
     refine rO rfl (Ope.newL rfl ?_)
     refine Reg.op0 (Ope.store rfl rfl hget_hd rfl rfl rfl ?_)
     refine rO rfl (oA rfl ?_)
     refine rI (Run.frz (d:=4) true rfl hget_hd rfl ?_)
     refine Run.wideS (m:=m+1) (l':=(n,some (itV (D.map Deed.key) (D.map fun _=>B true) (seen++[p])))::(i,some (.map (esD 0 (d::pick D seen)) (d::pick D seen).length))::l) (Nat.le_refl _) (hs_round ((hget_tl (by omega)).trans (hlm m (by omega))) (by omega)) ?_
     have hnew:D[p] ∉ d::pick D seen:=fun h=>by
       rcases List.mem_cons.1 h with h | h
       · exact hd (h ▸ List.getElem_mem hp)
       · exact pick_new hn hp hps h
     refine rN (cx_ok _ _ _) (rO rfl (oM rfl ?_))
     refine rO rfl (oL rfl rfl ?_)
     refine rO rfl (oM rfl ?_)
     refine Reg.op0 (Ope.mset rfl rfl rfl (keyD_of D[p]) ((hget_tl (by omega)).trans hget_hd) (keyD_check D[p]) (pfind_esD _ 0 0 hnew) (fun j v h=>by cases h) (fun j v h=>by cases h) (fun _=>?_))
     refine rI (Run.bend (Run.lend ⟨(seen++[p],m+1),by show D.length - (seen++[p]).length < D.length - seen.length;have:=hs.len_lt hp hps;simp only [List.length_append,List.length_singleton];omega,⟨hs.snoc hp hps,by show n < m+1;omega⟩,⟨rfl,rfl,trivial⟩,?_,rfl⟩))
     show HE (m+1) _=HE (m+1) _
     simp only [HE,PH.mk.injEq,and_true]
     funext j
     by_cases h1:j=i
     · subst h1
       rw [hget_hd,hget_tl (by omega),hget_hd,pick_snoc hp,← List.cons_append,esD_app]
       simp only [List.length_append,List.length_singleton,Nat.zero_add]
       rfl
     · rw [hget_tl h1]
       by_cases h2:j=n
       · subst h2;rw [hget_hd,hget_hd]
       · rw [hget_tl h2,hget_tl h2,hget_tl h1,hget_tl h1]
   ·first
    |(cases hc;done)
    |refine Run.exit (Jmp.code (Jmp.round (Jmp.here ?_)))
     exact finH_end .nil (Nat.le_refl _) (fun j x h=>by
       have h':hget ((i,some (.map (esD 0 (d::pick D seen)) (d::pick D seen).length))::l) j=some x:=h
       by_cases h1:j=n
       · subst h1;rw [hget_tl hni,hlm j (by omega)] at h';cases h'
       · rw [hget_tl h1];exact h') ⟨m,d::pick D seen,by omega,(pick_done hs hall).cons d,rfl,rfl⟩
end Go.Pv
namespace Go.Pv
open Go.Proofs Go.Am
set_option maxRecDepth 10000
structure Dok (f:Fns) (d:Deed):Prop where
  kd:0≤d.kd∧d.kd < f.ru.length
  nu:d.nu < 5
  ri:0≤d.ri∧d.ri < 6
  ho:0≤d.ho∧d.ho≤144
theorem f77 (f : Fns) {t1 t2 : Tail} (h1 : t1.isOwn = false) (h2 : t2.isOwn = false) (hf : f.ok) (r : Rec) (d : Deed) (hcs : r.cs.length = 5) (hl : r.ds.length ≤ 5) (hn : r.ds.Nodup) (hd : d ∉ r.ds) (hok : Dok f d) : Fn P0 77 [f.v t1 t2, r.v, d.v] (f.wth r d).v := by
  have hcopy:=f92 d r.ds hn hd
  obtain ⟨hk,hnu,hri,hho⟩:=hok
  obtain ⟨k,hk',hkl⟩:∃ k:Nat,d.kd=(k:Int)∧k < f.ru.length:=⟨d.kd.toNat,by omega,by omega⟩
  have hrb:=hf.rule d.kd
  have hrl:f.rule d.kd=f.ru[k]:=by rw [hk'];exact Fns.rule_at hkl
  have hbr:=bd_rec 0 (f.wth r d)
  have hwth:f.wth r d=⟨d::r.ds,r.cs.set d.nu (min (f.rule d.kd).mo ((f.rule d.kd).ba+(f.rule d.kd).st * (f.earl r.ds d:Nat)))⟩:=rfl
  have hwin:∀ o:Deed,f.win d o=((decide (o.kd=d.kd) && decide (o.ri=d.ri)) && decide (d.ho - (f.rule d.kd).wi≤o.ho)):=fun o=>rfl
  have hearl:∀ D,f.earl D d=(D.filter (f.win d)).length:=fun D=>rfl
  rw [hwth] at hbr ⊢
  obtain ⟨ds,cs⟩:=r
  simp only at hcs hl hn hd hcopy hearl hbr ⊢
  rw [hearl] at hbr ⊢
  have hqs:∀ x:Deed,((x::ds).map fun d=>(d.key,B true)).map (·.1)=(x::ds).map Deed.key∧((x::ds).map fun d=>(d.key,B true)).map (·.2)=(x::ds).map fun _=>B true:=fun x=>⟨by rw [List.map_map];rfl,by rw [List.map_map];rfl⟩
  obtain ⟨c0,c1,c2,c3,c4,rfl⟩:∃ c0 c1 c2 c3 c4,cs=[c0,c1,c2,c3,c4]:=by
    match cs,hcs with
    | [a,b,c,d,e],_=>exact ⟨a,b,c,d,e,rfl⟩
  rw [hrl] at hbr hrb ⊢
  simp only [hrl] at hwin
  generalize f.win d=W at *
  obtain ⟨ru,n,li⟩:=f
  simp only at hkl hrb hwin hrl hbr ⊢
  obtain ⟨kd,nu,ri,ho⟩:=d
  simp only at hnu hk' hwin hri hho hqs hcopy hbr hd ⊢
  subst hk'
  obtain ⟨⟨hb1,hb2⟩,⟨hb3,hb4⟩,⟨hb5,hb6⟩,⟨hb7,hb8⟩⟩:=hrb
  have hmv:Rec.v ⟨ds,[c0,c1,c2,c3,c4]⟩=.agg [mapV (ds.map Deed.key) (ds.map fun _=>B true),I c0,I c1,I c2,I c3,I c4]:=rfl
  rw [hmv]
  rcases (by omega:nu=0∨nu=1∨nu=2∨nu=3∨nu=4) with rfl | rfl | rfl | rfl | rfl
  all_goals
    refine PFun.of (C:=c77) (cx_ok _ _ _) rfl (fn:=Tryz.f77) (by kernel_rfl) (c:=_) rfl rfl rfl ?_
    refine rS (rN (cx_ok _ _ _) (rO rfl (Ope.boxF rfl rfl ?_)))
    refine rO rfl (Ope.boxF rfl rfl ?_)
    refine rO rfl (Ope.boxF rfl rfl ?_)
    refine rO rfl (Ope.newL rfl ?_)
    refine rI (rS (rN (cx_ok _ _ _) (rO rfl (Ope.fld rfl rfl ?_))))
    refine rO rfl (Ope.fld rfl rfl ?_)
    refine rO rfl (oL rfl rfl ?_)
    refine rO rfl (Ope.fld rfl rfl ?_)
    refine rO rfl (oL rfl rfl ?_)
    refine rO rfl (Ope.idxM (m:=k) (f:=Rul.v) rfl rfl rfl hkl (fun _=>rfl) ?_)
    refine rO rfl (oL rfl rfl ?_)
    refine rO rfl (Ope.newL rfl ?_)
    refine Reg.op0 (Ope.store rfl rfl rfl rfl rfl rfl ?_)
    refine rO rfl (oA rfl ?_)
    refine rI (rS (rS (Run.frz (d:=7) true rfl hget_hd rfl ?_)))
    refine rN (cx_ok _ _ _) (rO rfl (Ope.fld rfl fldM ?_))
    refine rO rfl (oL rfl loadM ?_)
    refine rO rfl (Ope.rngV rfl ?_)
    refine rI (Run.block (Run.wide (m:=3) (l':=[(2,some (itV (ds.map Deed.key) (ds.map fun _=>B true) [])),(0,some (.cells [.lit .nilmap,I 0,I 0,I 0,I 0,I 0]))]) (Nat.le_refl _) ⟨rfl,rfl,trivial⟩ ?_))
    refine Run.loop (α:=List Nat×Nat) (fun t=>[(4,.fp (.agg [mapV (ds.map Deed.key) (ds.map fun _=>B true),I c0,I c1,I c2,I c3,I c4])),(5,.fp (.agg [I k,I _,I ri,I ho])),(6,.ptr 0 0),(7,.fp (.agg [I ru[k].ba,I ru[k].st,I ru[k].mo,I ru[k].wi])),(8,N ((pick ds t.1).filter W).length),(21,.ptr 2 0)]) (fun t=>HE t.2 [(2,some (itV (ds.map Deed.key) (ds.map fun _=>B true) t.1)),(0,some (.cells [.lit .nilmap,I 0,I 0,I 0,I 0,I 0]))]) (fun t=>Seen ds.length t.1∧3≤t.2) (fun t=>ds.length - t.1.length) ([],3) ⟨rfl,rfl,rfl,rfl,rfl,rfl,trivial⟩ rfl ⟨Seen.nil _,Nat.le_refl _⟩ (fun t ht=>?_)
    obtain ⟨seen,m⟩:=t
    obtain ⟨hs,hnm⟩:=ht
    simp only at hs hnm
    refine rS (rN (cx_ok _ _ _) (rO rfl (Ope.nxtV (xs:=ds) (kf:=Deed.key) (vf:=fun _=>B true) (kv:=Deed.v) Deed.of rfl hget_hd rfl (fun hall=>?_) (fun p hp hps=>?_))))
    ·refine rO rfl (Ope.ext rfl rfl ?_)
     refine rI (rS (rC rfl (fun hc=>?_) fun hc=>?_))
     ·(cases hc;done)
     ·refine Run.exit (Jmp.code (Jmp.round (Jmp.here (rS ?_))))
      have hfin:((pick ds seen).filter W).length=(ds.filter W).length:=((pick_done hs hall).filter W).length_eq
      have hfl:(ds.filter W).length≤5:=Nat.le_trans (List.length_filter_le _ _) hl
      rw [hfin]
      refine Run.wide (m:=m) (l':=[(0,some (.cells [.lit .nilmap,I 0,I 0,I 0,I 0,I 0]))]) (Nat.le_refl _) ⟨rfl,trivial⟩ ?_
      refine rN (cx_ok _ _ _) (rO rfl (Ope.mmap ?_))
      refine rO rfl (oL rfl rfl ?_)
      refine Reg.op0 (Ope.ins rfl rfl rfl rfl hget_hd (by kernel_rfl) rfl (fun j v h=>by cases h) (fun j v h=>by cases h) (fun _=>?_))
      refine rO rfl (oM rfl ?_)
      refine rO rfl (oA rfl ?_)
      refine rI (rS (rN (cx_ok _ _ _) (rO rfl (oM rfl ?_))))
      refine rO rfl (Ope.fld rfl fldM ?_)
      refine rO rfl (oL rfl loadM ?_)
      refine rO rfl (Ope.call rfl rfl rfl ((hcopy m (m+1) _ hget_hd (by omega)).mono (fun v h' q=>?_) fun _ _ q=>q.elim))
      obtain ⟨m2,E,hm2,hE,rfl,rfl⟩:=q
      refine rI (rS (Run.frzM ((_::ds).map fun d=>(d.key,B true)) (d:=10) rfl hget_hd (fun e he=>by have:=(esD_born 0 E e he).2;omega) (esD_nodup 0 E) (by rw [esD_pairs];exact hE.map _) ?_))
      rw [(hqs _).1,(hqs _).2]
      refine Run.wide (m:=m2) (l':=[(0,some (.cells [.lit .nilmap,I 0,I 0,I 0,I 0,I 0]))]) (Nat.le_refl _) ⟨by repeat (first | rfl | refine (hget_tl (by omega)).trans ?_),trivial⟩ ?_
      have hmul:0≤ru[k].st * ((ds.filter W).length:Int)∧ru[k].st * ((ds.filter W).length:Int)≤1000 * 5:=⟨Int.mul_nonneg hb3 (by omega),Int.mul_le_mul hb4 (by omega) (by omega) (by decide)⟩
      refine rN (cx_ok _ _ _) (rO rfl (oM rfl ?_))
      refine rO rfl (Ope.fld rfl rfl ?_)
      refine rO rfl (oL rfl rfl ?_)
      refine rO rfl (Ope.bld rfl rfl ?_)
      refine rO rfl (Ope.newL rfl ?_)
      refine Reg.op0 (Ope.store rfl rfl hget_hd rfl rfl rfl ?_)
      refine rI (rS (rN (cx_ok _ _ _) (rO rfl (Ope.fld rfl rfl ?_))))
      refine rO rfl (oL rfl rfl ?_)
      refine rO rfl (Ope.fld rfl rfl ?_)
      refine rO rfl (oL rfl rfl ?_)
      refine rO rfl (Ope.fld rfl rfl ?_)
      refine rO rfl (oL rfl rfl ?_)
      refine rO rfl (Ope.fld rfl rfl ?_)
      refine rO rfl (oL rfl rfl ?_)
      refine rO rfl (oM rfl ?_)
      refine rO rfl (Ope.mul rfl rfl (by omega) ?_)
      refine rO rfl (Ope.add rfl rfl (by omega) ?_)
      refine rO rfl (Ope.minI rfl rfl ?_)
      refine rO rfl (Ope.fld rfl rfl ?_)
      refine rO rfl (Ope.idxA rfl rfl rfl rfl ?_)
      refine Reg.op0 (Ope.store rfl rfl hget_hd rfl rfl rfl ?_)
      refine rI (rS (Run.frz (d:=11) true rfl hget_hd rfl ?_))
      refine Run.wide (m:=m2+1) (l':=[(0,some (.cells [.lit .nilmap,I 0,I 0,I 0,I 0,I 0]))]) (Nat.le_refl _) ⟨by repeat (first | rfl | refine (hget_tl (by omega)).trans ?_),trivial⟩ ?_
      refine rN (cx_ok _ _ _) (rO rfl (oL rfl rfl ?_))
      refine Reg.op0 (Ope.store rfl rfl rfl rfl rfl rfl ?_)
      exact rI (Run.ret (fin_ret (.cell rfl rfl .nil) hbr rfl))
    ·refine rO rfl (Ope.ext rfl rfl ?_)
     refine rI (rS (rC rfl (fun hc=>?_) fun hc=>?_))
     ·refine Run.skip (Run.block (rS (rN (cx_ok _ _ _) (rO rfl (Ope.entV (xs:=ds) (kf:=Deed.key) (vf:=fun _=>B true) (kv:=Deed.v) Deed.of hp rfl hget_hd ?_)))))
      refine rO rfl (Ope.ext rfl rfl ?_)
      refine rO rfl (Ope.newL rfl ?_)
      refine Reg.op0 (Ope.store rfl rfl hget_hd rfl rfl rfl ?_)
      refine rI (rS (Run.frz (d:=9) true rfl hget_hd rfl ?_))
      refine Run.wideS (m:=m+1) (l':=[(2,some (itV (ds.map Deed.key) (ds.map fun _=>B true) (seen++[p]))),(0,some (.cells [.lit .nilmap,I 0,I 0,I 0,I 0,I 0]))]) (Nat.le_refl _) (hs_round ((hget_tl (by omega)).trans rfl) (by omega)) ?_
      have hW:=hwin ds[p]
      have hpk:pick ds (seen++[p])=pick ds seen++[ds[p]]:=pick_snoc hp
      have hcl:((pick ds seen).filter W).length≤5:=Nat.le_trans (List.length_filter_le _ _) (by have:=pick_len hs;have:=hs.len;omega)
      have hcl':((pick ds (seen,m).1).filter W).length≤5:=hcl
      refine rN (cx_ok _ _ _) (rO rfl (Ope.fld rfl rfl ?_))
      refine rO rfl (oL rfl rfl ?_)
      refine rO rfl (Ope.fld rfl rfl ?_)
      refine rO rfl (oL rfl rfl ?_)
      refine rO rfl (Ope.eq rfl rfl ?_)
      refine rO rfl (oM rfl ?_)
      refine Reg.splitX rfl rfl (fun hg=>?_) fun hg=>?_
      ·refine Reg.on rfl rfl rfl (Ope.fld rfl rfl ?_)
       refine Reg.on rfl rfl rfl (oL rfl rfl ?_)
       refine Reg.on rfl rfl rfl (Ope.fld rfl rfl ?_)
       refine Reg.on rfl rfl rfl (oL rfl rfl ?_)
       refine Reg.on rfl rfl rfl (Ope.eq rfl rfl ?_)
       refine rO rfl (Ope.pickT rfl rfl ?_)
       refine rO rfl (oM rfl ?_)
       refine Reg.splitX rfl rfl (fun hg=>?_) fun hg=>?_
       ·refine Reg.on rfl rfl rfl (Ope.fld rfl rfl ?_)
        refine Reg.on rfl rfl rfl (oL rfl rfl ?_)
        refine Reg.on rfl rfl rfl (Ope.fld rfl rfl ?_)
        refine Reg.on rfl rfl rfl (oL rfl rfl ?_)
        refine Reg.on rfl rfl rfl (Ope.fld rfl rfl ?_)
        refine Reg.on rfl rfl rfl (oL rfl rfl ?_)
        refine Reg.on rfl rfl rfl (Ope.sub rfl rfl (by omega) ?_)
        refine Reg.on rfl rfl rfl (Ope.ge rfl rfl ?_)
        refine rO rfl (Ope.pickT rfl rfl ?_)
        refine rI (rC rfl (fun hc=>?_) fun hc=>?_)
        ·refine rN (cx_ok _ _ _) (rO rfl (oM rfl ?_))
         refine rO rfl (Ope.add rfl rfl (by omega) ?_)
         refine rO rfl (oA rfl ?_)
         refine rI (Run.bend ?_)
         first
         | exact Run.lend ⟨(seen++[p],m+1),by show ds.length - (seen++[p]).length < ds.length - seen.length;have:=hs.len_lt hp hps;simp only [List.length_append,List.length_singleton];omega,⟨hs.snoc hp hps,by show 3≤m+1;omega⟩,⟨rfl,rfl,rfl,rfl,by rw [hpk,List.filter_append,List.length_append,List.filter_cons_of_pos (by rw [hW];simp [*]),List.filter_nil];rfl,rfl,trivial⟩,rfl,rfl⟩
         | exact Run.lend ⟨(seen++[p],m+1),by show ds.length - (seen++[p]).length < ds.length - seen.length;have:=hs.len_lt hp hps;simp only [List.length_append,List.length_singleton];omega,⟨hs.snoc hp hps,by show 3≤m+1;omega⟩,⟨rfl,rfl,rfl,rfl,by rw [hpk,List.filter_append,List.length_append,List.filter_cons_of_neg (by rw [hW];simp [*]),List.filter_nil,List.length_nil,Nat.add_zero];rfl,rfl,trivial⟩,rfl,rfl⟩
        ·refine Run.skip (Run.bend ?_)
         first
         | exact Run.lend ⟨(seen++[p],m+1),by show ds.length - (seen++[p]).length < ds.length - seen.length;have:=hs.len_lt hp hps;simp only [List.length_append,List.length_singleton];omega,⟨hs.snoc hp hps,by show 3≤m+1;omega⟩,⟨rfl,rfl,rfl,rfl,by rw [hpk,List.filter_append,List.length_append,List.filter_cons_of_pos (by rw [hW];simp [*]),List.filter_nil];rfl,rfl,trivial⟩,rfl,rfl⟩
         | exact Run.lend ⟨(seen++[p],m+1),by show ds.length - (seen++[p]).length < ds.length - seen.length;have:=hs.len_lt hp hps;simp only [List.length_append,List.length_singleton];omega,⟨hs.snoc hp hps,by show 3≤m+1;omega⟩,⟨rfl,rfl,rfl,rfl,by rw [hpk,List.filter_append,List.length_append,List.filter_cons_of_neg (by rw [hW];simp [*]),List.filter_nil,List.length_nil,Nat.add_zero];rfl,rfl,trivial⟩,rfl,rfl⟩
       ·refine Reg.off rfl rfl rfl (Reg.off rfl rfl rfl (Reg.off rfl rfl rfl (Reg.off rfl rfl rfl (Reg.off rfl rfl rfl (Reg.off rfl rfl rfl (Reg.off rfl rfl rfl (Reg.off rfl rfl rfl (rO rfl (Ope.pickF rfl rfl ?_)))))))))
        refine rI (Run.condF rfl (Run.skip (Run.bend ?_)))
        first
        | exact Run.lend ⟨(seen++[p],m+1),by show ds.length - (seen++[p]).length < ds.length - seen.length;have:=hs.len_lt hp hps;simp only [List.length_append,List.length_singleton];omega,⟨hs.snoc hp hps,by show 3≤m+1;omega⟩,⟨rfl,rfl,rfl,rfl,by rw [hpk,List.filter_append,List.length_append,List.filter_cons_of_pos (by rw [hW];simp [*]),List.filter_nil];rfl,rfl,trivial⟩,rfl,rfl⟩
        | exact Run.lend ⟨(seen++[p],m+1),by show ds.length - (seen++[p]).length < ds.length - seen.length;have:=hs.len_lt hp hps;simp only [List.length_append,List.length_singleton];omega,⟨hs.snoc hp hps,by show 3≤m+1;omega⟩,⟨rfl,rfl,rfl,rfl,by rw [hpk,List.filter_append,List.length_append,List.filter_cons_of_neg (by rw [hW];simp [*]),List.filter_nil,List.length_nil,Nat.add_zero];rfl,rfl,trivial⟩,rfl,rfl⟩
      ·refine Reg.off rfl rfl rfl (Reg.off rfl rfl rfl (Reg.off rfl rfl rfl (Reg.off rfl rfl rfl (Reg.off rfl rfl rfl (rO rfl (Ope.pickF rfl rfl ?_))))))
       refine rO rfl (oM rfl ?_)
       refine Reg.off rfl rfl rfl (Reg.off rfl rfl rfl (Reg.off rfl rfl rfl (Reg.off rfl rfl rfl (Reg.off rfl rfl rfl (Reg.off rfl rfl rfl (Reg.off rfl rfl rfl (Reg.off rfl rfl rfl (rO rfl (Ope.pickF rfl rfl ?_)))))))))
       refine rI (Run.condF rfl (Run.skip (Run.bend ?_)))
       first
       | exact Run.lend ⟨(seen++[p],m+1),by show ds.length - (seen++[p]).length < ds.length - seen.length;have:=hs.len_lt hp hps;simp only [List.length_append,List.length_singleton];omega,⟨hs.snoc hp hps,by show 3≤m+1;omega⟩,⟨rfl,rfl,rfl,rfl,by rw [hpk,List.filter_append,List.length_append,List.filter_cons_of_pos (by rw [hW];simp [*]),List.filter_nil];rfl,rfl,trivial⟩,rfl,rfl⟩
       | exact Run.lend ⟨(seen++[p],m+1),by show ds.length - (seen++[p]).length < ds.length - seen.length;have:=hs.len_lt hp hps;simp only [List.length_append,List.length_singleton];omega,⟨hs.snoc hp hps,by show 3≤m+1;omega⟩,⟨rfl,rfl,rfl,rfl,by rw [hpk,List.filter_append,List.length_append,List.filter_cons_of_neg (by rw [hW];simp [*]),List.filter_nil,List.length_nil,Nat.add_zero];rfl,rfl,trivial⟩,rfl,rfl⟩
     ·(cases hc;done)
end Go.Pv
namespace Go.Pv
open Go.Proofs Go.Am
set_option maxRecDepth 10000
theorem setB_snoc (D:List Deed) (d:Deed):setB (D++[d])=setB D ||| 1 * 2 ^ d.nu:=by
  rw [setB_perm (List.perm_append_singleton d D)];rfl
theorem f101 (r:Rec) (hn:r.ds.Nodup) (hl:∀ d∈r.ds,d.nu < 5):Fn P0 101 [r.v] (N (setB r.ds)):=by
  obtain ⟨ds,cs⟩:=r
  simp only at hn hl ⊢
  have hmv:Rec.v ⟨ds,cs⟩=.agg (mapV (ds.map Deed.key) (ds.map fun _=>B true)::cs.map I):=rfl
  rw [hmv]
  have hlt:∀ seen,setB (pick ds seen) < 32:=fun seen=>setB_lt fun d hd=>by
    obtain ⟨p,_,h2⟩:=pick_mem.1 hd
    exact hl d (List.mem_of_getElem? h2)
  refine PFun.of (C:=c101) (cx_ok _ _ _) rfl (fn:=Tryz.f101) (by kernel_rfl) (c:=_) rfl rfl rfl ?_
  refine rS (rN (cx_ok _ _ _) (rO rfl (Ope.boxF rfl rfl ?_)))
  refine rO rfl (oA rfl ?_)
  refine rI (rS (rN (cx_ok _ _ _) (rO rfl (oA rfl ?_))))
  refine rI (rS (rS (rN (cx_ok _ _ _) (rO rfl (Ope.fld rfl fldM ?_)))))
  refine rO rfl (oL rfl loadM ?_)
  refine rO rfl (Ope.rngV rfl ?_)
  refine rI (Run.block (Run.loop (α:=List Nat×Nat) (fun t=>[(3,N (setB (pick ds t.1))),(7,.ptr 0 0)]) (fun t=>HE t.2 [(0,some (itV (ds.map Deed.key) (ds.map fun _=>B true) t.1))]) (fun t=>Seen ds.length t.1∧1≤t.2) (fun t=>ds.length - t.1.length) ([],1) ⟨rfl,rfl,trivial⟩ rfl ⟨Seen.nil _,Nat.le_refl _⟩ (fun t ht=>?_)))
  obtain ⟨seen,m⟩:=t
  obtain ⟨hs,hnm⟩:=ht
  simp only at hs hnm
  show Run _ _ _ _ [(3,N (setB (pick ds seen))),(7,.ptr 0 0)] [] (HE m [(0,some (itV (ds.map Deed.key) (ds.map fun _=>B true) seen))])
  refine rS (rN (cx_ok _ _ _) (rO rfl (Ope.nxtV (xs:=ds) (kf:=Deed.key) (vf:=fun _=>B true) (kv:=Deed.v) Deed.of rfl hget_hd rfl (fun hall=>?_) (fun p hp hps=>?_))))
  ·refine rO rfl (Ope.ext rfl rfl ?_)
   refine rI (rS (rC rfl (fun hc=>?_) fun hc=>?_))
   ·first
    |(cases hc;done)
    |refine Run.skip (Run.block (rS (rN (cx_ok _ _ _) (rO rfl (Ope.entV (xs:=ds) (kf:=Deed.key) (vf:=fun _=>B true) (kv:=Deed.v) Deed.of hp rfl hget_hd ?_)))))
     refine rO rfl (Ope.ext rfl rfl ?_)
     refine rO rfl (Ope.newL rfl ?_)
     refine Reg.op0 (Ope.store rfl rfl hget_hd rfl rfl rfl ?_)
     refine rI (Run.frz (d:=4) true rfl hget_hd rfl ?_)
     refine Run.wideS (m:=m+1) (l':=[(0,some (itV (ds.map Deed.key) (ds.map fun _=>B true) (seen++[p])))]) (Nat.le_refl _) (hs_round rfl (by omega)) ?_
     have hpk:pick ds (seen++[p])=pick ds seen++[ds[p]]:=pick_snoc hp
     have hd5:=hl ds[p] (List.getElem_mem hp)
     have hb:=hlt seen
     have hp2:2 ^ ds[p].nu≤2 ^ 5:=Nat.pow_le_pow_right (by decide) (by omega)
     refine rN (cx_ok _ _ _) (rO rfl (oM rfl ?_))
     refine rO rfl (Ope.fld rfl rfl ?_)
     refine rO rfl (oL rfl rfl ?_)
     refine rO rfl (Ope.shlN (p:=1) (m:=ds[p].nu) rfl rfl rfl rfl (by omega) (by omega) ?_)
     refine rO rfl (Ope.orN (p:=setB (pick ds seen)) (q:=1 * 2 ^ ds[p].nu) rfl rfl rfl rfl (by show _ < 2 ^ 63;omega) (by show _ < 2 ^ 63;omega) ?_)
     refine rO rfl (oA rfl ?_)
     exact rI (Run.bend (Run.lend ⟨(seen++[p],m+1),by show ds.length - (seen++[p]).length < ds.length - seen.length;have:=hs.len_lt hp hps;simp only [List.length_append,List.length_singleton];omega,⟨hs.snoc hp hps,by show 1≤m+1;omega⟩,⟨by rw [hpk,setB_snoc];rfl,rfl,trivial⟩,rfl,rfl⟩))
   ·first
    |(cases hc;done)
    |refine Run.exit (Jmp.code (Jmp.round (Jmp.here (rS ?_))))
     rw [setB_perm (pick_done hs hall)]
     refine rN (cx_ok _ _ _) (rO rfl (oM rfl ?_))
     refine rO rfl (oA rfl ?_)
     exact rI (Run.ret (fin_ret (.tmp rfl .nil) rfl rfl))
  ·refine rO rfl (Ope.ext rfl rfl ?_)
   refine rI (rS (rC rfl (fun hc=>?_) fun hc=>?_))
   ·first
    |(cases hc;done)
    |refine Run.skip (Run.block (rS (rN (cx_ok _ _ _) (rO rfl (Ope.entV (xs:=ds) (kf:=Deed.key) (vf:=fun _=>B true) (kv:=Deed.v) Deed.of hp rfl hget_hd ?_)))))
     refine rO rfl (Ope.ext rfl rfl ?_)
     refine rO rfl (Ope.newL rfl ?_)
     refine Reg.op0 (Ope.store rfl rfl hget_hd rfl rfl rfl ?_)
     refine rI (Run.frz (d:=4) true rfl hget_hd rfl ?_)
     refine Run.wideS (m:=m+1) (l':=[(0,some (itV (ds.map Deed.key) (ds.map fun _=>B true) (seen++[p])))]) (Nat.le_refl _) (hs_round rfl (by omega)) ?_
     have hpk:pick ds (seen++[p])=pick ds seen++[ds[p]]:=pick_snoc hp
     have hd5:=hl ds[p] (List.getElem_mem hp)
     have hb:=hlt seen
     have hp2:2 ^ ds[p].nu≤2 ^ 5:=Nat.pow_le_pow_right (by decide) (by omega)
     refine rN (cx_ok _ _ _) (rO rfl (oM rfl ?_))
     refine rO rfl (Ope.fld rfl rfl ?_)
     refine rO rfl (oL rfl rfl ?_)
     refine rO rfl (Ope.shlN (p:=1) (m:=ds[p].nu) rfl rfl rfl rfl (by omega) (by omega) ?_)
     refine rO rfl (Ope.orN (p:=setB (pick ds seen)) (q:=1 * 2 ^ ds[p].nu) rfl rfl rfl rfl (by show _ < 2 ^ 63;omega) (by show _ < 2 ^ 63;omega) ?_)
     refine rO rfl (oA rfl ?_)
     exact rI (Run.bend (Run.lend ⟨(seen++[p],m+1),by show ds.length - (seen++[p]).length < ds.length - seen.length;have:=hs.len_lt hp hps;simp only [List.length_append,List.length_singleton];omega,⟨hs.snoc hp hps,by show 1≤m+1;omega⟩,⟨by rw [hpk,setB_snoc];rfl,rfl,trivial⟩,rfl,rfl⟩))
   ·first
    |(cases hc;done)
    |refine Run.exit (Jmp.code (Jmp.round (Jmp.here (rS ?_))))
     rw [setB_perm (pick_done hs hall)]
     refine rN (cx_ok _ _ _) (rO rfl (oM rfl ?_))
     refine rO rfl (oA rfl ?_)
     exact rI (Run.ret (fin_ret (.tmp rfl .nil) rfl rfl))
structure Ctr where
  t:Nat
  u:PV
  fn:Nat
  g:Deed→Int→Int
abbrev Ctr.v (c:Ctr):PV:=.ifc c.t c.u
structure Ctr.ok (c:Ctr):Prop where
  m : Mth A0 c.t "lapworks/fine.of" c.fn
  b:c.u.bd 0=true
  f:∀ d x,d.nu < 5→0≤x→x≤1000→Fn P0 c.fn [c.u,d.v,I x] (I (c.g d x))
  g:Gok c.g
theorem idx5 {cs:List Int} (h:cs.length=5) {m:Nat} (hm:m < 5):indexK 5 false 1 m (.fp (.agg (cs.map I)))=some (.fp (I (cs.getD m 0))):=by
  match cs,h with
  | [a,b,c,d,e],_=>rcases (by omega:m=0∨m=1∨m=2∨m=3∨m=4) with rfl | rfl | rfl | rfl | rfl<;>rfl
theorem fldC {v:PV} {cs:List Int} (h:cs.length=5):addrK true 1 5 (.fp (.agg (v::cs.map I)))=some (.fp (.agg (cs.map I))):=by
  match cs,h with
  | [a,b,c,d,e],_=>rfl
theorem ownU_at {o':Option Nat} {i:Nat} {l:HL} (h:∀ j,o'=some j→j≠i):hget (ownU o'++l) i=hget l i:=by
  cases o' with
  | none=>rfl
  | some j=>exact hget_tl (fun e=>h j rfl e.symm)
theorem hs_roundU {o' : Option Nat} {m z : Nat} {a b e c : Option PBlk} {rest : HL} (hm : hget rest m = none) (hz : m ≠ z) (hoz : ∀ j, o' = some j → j ≠ z) (hom : ∀ j, o' = some j → j ≠ m) :
    ∀ i x,hget (ownU o'++(z,e)::rest) i=some x→hget ((m,none)::(m,a)::(m,b)::(z,e)::(ownU o'++(z,c)::rest)) i=some x:=by
  intro i x h
  by_cases h1:i=m
  · subst h1
    rw [ownU_at hom,hget_tl hz,hm] at h
    cases h
  · rw [hget_tl h1, hget_tl h1, hget_tl h1]
    by_cases h2:i=z
    · subst h2
      rw [ownU_at hoz,hget_hd] at h
      rw [hget_hd]
      exact h
    · rw [hget_tl h2]
      cases o' with
      | none =>
        have h:hget ((z,e)::rest) i=some x:=h
        rw [hget_tl h2] at h
        show hget ((z,c)::rest) i=some x
        rw [hget_tl h2]
        exact h
      | some j =>
        by_cases h3:i=j
        · subst h3
          have h:hget ((i,some .own)::(z,e)::rest) i=some x:=h
          show hget ((i,some .own)::(z,c)::rest) i=some x
          rw [hget_hd] at h ⊢
          exact h
        · have h : hget ((j, some .own) :: (z, e) :: rest) i = some x := h
          show hget ((j,some .own)::(z,c)::rest) i=some x
          rw [hget_tl h3,hget_tl h2] at h ⊢
          exact h
theorem f100 (r:Rec) (c:Ctr) (hc0:c.ok) (hn:r.ds.Nodup) (hl:∀ d∈r.ds,d.nu < 5) (hlen:r.ds.length≤5) (hcs:r.cs.length=5) (hcb:∀ x∈r.cs,0≤x∧x≤1000):Fn P0 100 [r.v,c.v] (I (r.cnt c.g)):=by
  obtain ⟨ds,cs⟩:=r
  simp only at hn hl hlen hcs hcb
  unfold Rec.cnt
  show Fn P0 100 [.agg (mapV (ds.map Deed.key) (ds.map fun _=>B true)::cs.map I),c.v] (I (isum (ds.map fun d=>c.g d (cs.getD d.nu 0))))
  have hmth:=hc0.m
  have hub:=hc0.b
  have hcf:∀ d,d.nu < 5→Fn P0 c.fn [c.u,d.v,I (cs.getD d.nu 0)] (I (c.g d (cs.getD d.nu 0)))∧0≤c.g d (cs.getD d.nu 0)∧c.g d (cs.getD d.nu 0)≤1001:=fun d hd=>by
    have hm:cs.getD d.nu 0∈cs:=by
      have:d.nu < cs.length:=by omega
      simp only [List.getD,List.getElem?_eq_getElem this,Option.getD_some]
      exact List.getElem_mem this
    have:=hcb _ hm
    exact ⟨hc0.f d _ hd this.1 this.2,hc0.g _ _ this.1 this.2⟩
  have hbu:∀ d:Deed,∀ x,PV.bds 0 [c.u,d.v,I x]=true:=fun d x=>bds_cons hub rfl
  have hix:=fun {m:Nat} (h:m < 5)=>idx5 hcs h
  clear hcb hc0
  obtain ⟨ct,cu,cf,cg⟩:=c
  simp only at hmth hub hcf hbu ⊢
  refine PFun.of (C:=c100) (cx_ok _ _ _) rfl (fn:=Tryz.f100) (by kernel_rfl) (c:=_) rfl rfl rfl ?_
  refine rS (rN (cx_ok _ _ _) (rO rfl (Ope.boxF rfl rfl ?_)))
  refine rO rfl (oA rfl ?_)
  refine rI (rS (rN (cx_ok _ _ _) (rO rfl (oA rfl ?_))))
  refine rI (rS (rS (rN (cx_ok _ _ _) (rO rfl (Ope.fld rfl fldM ?_)))))
  refine rO rfl (oL rfl loadM ?_)
  refine rO rfl (Ope.rngV rfl ?_)
  refine rI (Run.block (Run.loop (α:=List Nat×Option Nat×Nat) (fun t=>[(1,.ifc ct cu),(2,.fp (.agg (mapV (ds.map Deed.key) (ds.map fun _=>B true)::cs.map I))),(5,.sl (tlU t.2.1) (((pick ds t.1).map fun d=>cg d (cs.getD d.nu 0)).map I)),(9,.ptr 0 0)]) (fun t=>HE t.2.2 (ownU t.2.1++[(0,some (itV (ds.map Deed.key) (ds.map fun _=>B true) t.1))])) (fun t=>Seen ds.length t.1∧1≤t.2.2∧∀ j,t.2.1=some j→1≤j∧j < t.2.2∧pick ds t.1≠[]) (fun t=>ds.length - t.1.length) ([],none,1) ⟨rfl,rfl,rfl,rfl,trivial⟩ rfl ⟨Seen.nil _,Nat.le_refl _,fun j hj=>by cases hj⟩ (fun t ht=>?_)))
  obtain ⟨seen,o',m⟩:=t
  obtain ⟨hs,hnm,hO⟩:=ht
  simp only at hs hnm hO
  show Run _ _ _ _ [(1,.ifc ct cu),(2,.fp (.agg (mapV (ds.map Deed.key) (ds.map fun _=>B true)::cs.map I))),(5,.sl (tlU o') (((pick ds seen).map fun d=>cg d (cs.getD d.nu 0)).map I)),(9,.ptr 0 0)] [] (HE m (ownU o'++[(0,some (itV (ds.map Deed.key) (ds.map fun _=>B true) seen))]))
  have ho0:∀ j,o'=some j→j≠0:=fun j hj=>by have:=hO j hj;omega
  have hom:∀ j,o'=some j→j≠m:=fun j hj=>by have:=hO j hj;omega
  refine rS (rN (cx_ok _ _ _) (rO rfl (Ope.nxtV (xs:=ds) (kf:=Deed.key) (vf:=fun _=>B true) (kv:=Deed.v) Deed.of rfl ((ownU_at ho0).trans hget_hd) rfl (fun hall=>?_) (fun p hp hps=>?_))))
  ·refine rO rfl (Ope.ext rfl rfl ?_)
   refine rI (rS (rC rfl (fun hc=>?_) fun hc=>?_))
   ·first
    |(cases hc;done)
    |refine Run.skip (Run.block (rS (rN (cx_ok _ _ _) (rO rfl (Ope.entV (xs:=ds) (kf:=Deed.key) (vf:=fun _=>B true) (kv:=Deed.v) Deed.of hp rfl hget_hd ?_)))))
     refine rO rfl (Ope.ext rfl rfl ?_)
     refine rO rfl (Ope.newL rfl ?_)
     refine Reg.op0 (Ope.store rfl rfl hget_hd rfl rfl rfl ?_)
     refine rI (Run.frz (d:=6) true rfl hget_hd rfl ?_)
     refine Run.wideS (m:=m+1) (l':=ownU o'++[(0,some (itV (ds.map Deed.key) (ds.map fun _=>B true) (seen++[p])))]) (Nat.le_refl _) (hs_roundU rfl (by omega) ho0 hom) ?_
     have hpk:pick ds (seen++[p])=pick ds seen++[ds[p]]:=pick_snoc hp
     have hd5:=hl ds[p] (List.getElem_mem hp)
     obtain ⟨hcf1,hcf2,hcf3⟩:=hcf ds[p] hd5
     have hbu1:=hbu ds[p] (cs.getD ds[p].nu 0)
     have hix1:=hix hd5
     have hpl:=pick_len hs
     have hsl:=hs.len
     have hmap:((pick ds (seen++[p])).map fun d=>cg d (cs.getD d.nu 0)).map I=((pick ds seen).map fun d=>cg d (cs.getD d.nu 0)).map I++[I (cg ds[p] (cs.getD ds[p].nu 0))]:=by rw [hpk,List.map_append,List.map_append];rfl
     refine Run.draw (cx_ok _ _ _) [(0,true),(1,true),(2,true),(3,true),(4,true),(5,true),(6,true),(7,true),(8,true),(9,true),(10,true),(11,true),(12,true),(13,true),(14,true)] (by kernel_rfl) (dO rfl rfl rfl .sure (oM rfl ?_))
     refine dO rfl rfl rfl .sure (oM rfl ?_)
     refine dO rfl rfl rfl .sure (oL rfl rfl ?_)
     refine dO rfl rfl rfl .sure (Ope.fld rfl rfl ?_)
     refine dO rfl rfl rfl .sure (oL rfl rfl ?_)
     refine dO rfl rfl rfl .sure (Ope.fld rfl (fldC hcs) ?_)
     refine dO rfl rfl rfl .sure (Ope.idxA (m:=ds[p].nu) rfl rfl rfl hix1 ?_)
     refine dO rfl rfl rfl .sure (oL rfl rfl ?_)
     refine dO rfl rfl rfl .sure (Ope.mkf rfl rfl ?_)
     refine dO rfl rfl rfl .sure (Ope.nilm (t:=ct) (g:=cf) rfl hmth ?_)
     refine dO rfl rfl rfl .sure (oM rfl ?_)
     refine dO rfl rfl rfl .sure (Ope.im (t:=ct) (g:=cf) rfl rfl hmth hcf1 hbu1 ?_)
     refine dO rfl rfl rfl .sure (Ope.bsl rfl rfl rfl rfl ?_)
     refine dO rfl rfl rfl .sure (Ope.apU (o':=o') (vs:=((pick ds seen).map fun d=>cg d (cs.getD d.nu 0)).map I) (ws:=[I (cg ds[p] (cs.getD ds[p].nu 0))]) rfl rfl (by simp) (fun j hj=>⟨by have:=(hO j hj).2.2;simpa using this,hget_tl (by have:=hO j hj;omega)⟩) (by simp only [List.length_map,List.length_singleton];omega) (by simp only [List.length_map,List.length_singleton];omega) (by decide) (by intro v hv;obtain ⟨_,_,rfl⟩:=List.mem_map.1 hv;rfl) (by intro v hv;simp only [List.mem_singleton] at hv;subst hv;exact ⟨rfl,rfl⟩) ?_)
     refine dO rfl rfl rfl .sure (oA rfl ?_)
     exact Dra.nil (Run.bend (Run.lend ⟨(seen++[p],some (m+1),m+2),by show ds.length - (seen++[p]).length < ds.length - seen.length;have:=hs.len_lt hp hps;simp only [List.length_append,List.length_singleton];omega,⟨hs.snoc hp hps,by show 1≤m+2;omega,fun j hj=>by cases hj;exact ⟨by show 1≤m+1;omega,Nat.lt_succ_self _,by rw [hpk];simp⟩⟩,⟨rfl,rfl,congrArg (fun l=>some (PV.sl (.own (m+1)) l)) hmap.symm,rfl,trivial⟩,rfl,rfl⟩))
   ·first
    |(cases hc;done)
    |refine Run.exit (Jmp.code (Jmp.round (Jmp.here (rS (Run.weakT (d:=5) rfl ?_)))))
     have hpl:=pick_len hs
     have hsl:=hs.len
     have hsum:=f98 .no ((pick ds seen).map fun d=>cg d (cs.getD d.nu 0)) (by rw [List.length_map];omega) (fun x hx=>by
       obtain ⟨d,hd,rfl⟩:=List.mem_map.1 hx
       obtain ⟨q,_,h2⟩:=pick_mem.1 hd
       have:=(hcf d (hl d (List.mem_of_getElem? h2))).2
       omega)
     rw [isum_perm ((pick_done hs hall).map _)] at hsum
     have hbs:PV.bds 0 [.sl .no (((pick ds seen).map fun d=>cg d (cs.getD d.nu 0)).map I)]=true:=bds_cons (bd_sl (f:=I) (tl:=.no) rfl (fun _=>rfl) _) rfl
     refine rN (cx_ok _ _ _) (rO rfl (oM rfl ?_))
     refine rO rfl (Ope.cf rfl rfl hsum hbs ?_)
     refine rO rfl (oA rfl ?_)
     exact rI (Run.ret (fin_ret (.tmp rfl .nil) rfl rfl))
  ·refine rO rfl (Ope.ext rfl rfl ?_)
   refine rI (rS (rC rfl (fun hc=>?_) fun hc=>?_))
   ·first
    |(cases hc;done)
    |refine Run.skip (Run.block (rS (rN (cx_ok _ _ _) (rO rfl (Ope.entV (xs:=ds) (kf:=Deed.key) (vf:=fun _=>B true) (kv:=Deed.v) Deed.of hp rfl hget_hd ?_)))))
     refine rO rfl (Ope.ext rfl rfl ?_)
     refine rO rfl (Ope.newL rfl ?_)
     refine Reg.op0 (Ope.store rfl rfl hget_hd rfl rfl rfl ?_)
     refine rI (Run.frz (d:=6) true rfl hget_hd rfl ?_)
     refine Run.wideS (m:=m+1) (l':=ownU o'++[(0,some (itV (ds.map Deed.key) (ds.map fun _=>B true) (seen++[p])))]) (Nat.le_refl _) (hs_roundU rfl (by omega) ho0 hom) ?_
     have hpk:pick ds (seen++[p])=pick ds seen++[ds[p]]:=pick_snoc hp
     have hd5:=hl ds[p] (List.getElem_mem hp)
     obtain ⟨hcf1,hcf2,hcf3⟩:=hcf ds[p] hd5
     have hbu1:=hbu ds[p] (cs.getD ds[p].nu 0)
     have hix1:=hix hd5
     have hpl:=pick_len hs
     have hsl:=hs.len
     have hmap:((pick ds (seen++[p])).map fun d=>cg d (cs.getD d.nu 0)).map I=((pick ds seen).map fun d=>cg d (cs.getD d.nu 0)).map I++[I (cg ds[p] (cs.getD ds[p].nu 0))]:=by rw [hpk,List.map_append,List.map_append];rfl
     refine Run.draw (cx_ok _ _ _) [(0,true),(1,true),(2,true),(3,true),(4,true),(5,true),(6,true),(7,true),(8,true),(9,true),(10,true),(11,true),(12,true),(13,true),(14,true)] (by kernel_rfl) (dO rfl rfl rfl .sure (oM rfl ?_))
     refine dO rfl rfl rfl .sure (oM rfl ?_)
     refine dO rfl rfl rfl .sure (oL rfl rfl ?_)
     refine dO rfl rfl rfl .sure (Ope.fld rfl rfl ?_)
     refine dO rfl rfl rfl .sure (oL rfl rfl ?_)
     refine dO rfl rfl rfl .sure (Ope.fld rfl (fldC hcs) ?_)
     refine dO rfl rfl rfl .sure (Ope.idxA (m:=ds[p].nu) rfl rfl rfl hix1 ?_)
     refine dO rfl rfl rfl .sure (oL rfl rfl ?_)
     refine dO rfl rfl rfl .sure (Ope.mkf rfl rfl ?_)
     refine dO rfl rfl rfl .sure (Ope.nilm (t:=ct) (g:=cf) rfl hmth ?_)
     refine dO rfl rfl rfl .sure (oM rfl ?_)
     refine dO rfl rfl rfl .sure (Ope.im (t:=ct) (g:=cf) rfl rfl hmth hcf1 hbu1 ?_)
     refine dO rfl rfl rfl .sure (Ope.bsl rfl rfl rfl rfl ?_)
     refine dO rfl rfl rfl .sure (Ope.apU (o':=o') (vs:=((pick ds seen).map fun d=>cg d (cs.getD d.nu 0)).map I) (ws:=[I (cg ds[p] (cs.getD ds[p].nu 0))]) rfl rfl (by simp) (fun j hj=>⟨by have:=(hO j hj).2.2;simpa using this,hget_tl (by have:=hO j hj;omega)⟩) (by simp only [List.length_map,List.length_singleton];omega) (by simp only [List.length_map,List.length_singleton];omega) (by decide) (by intro v hv;obtain ⟨_,_,rfl⟩:=List.mem_map.1 hv;rfl) (by intro v hv;simp only [List.mem_singleton] at hv;subst hv;exact ⟨rfl,rfl⟩) ?_)
     refine dO rfl rfl rfl .sure (oA rfl ?_)
     exact Dra.nil (Run.bend (Run.lend ⟨(seen++[p],some (m+1),m+2),by show ds.length - (seen++[p]).length < ds.length - seen.length;have:=hs.len_lt hp hps;simp only [List.length_append,List.length_singleton];omega,⟨hs.snoc hp hps,by show 1≤m+2;omega,fun j hj=>by cases hj;exact ⟨by show 1≤m+1;omega,Nat.lt_succ_self _,by rw [hpk];simp⟩⟩,⟨rfl,rfl,congrArg (fun l=>some (PV.sl (.own (m+1)) l)) hmap.symm,rfl,trivial⟩,rfl,rfl⟩))
   ·first
    |(cases hc;done)
    |refine Run.exit (Jmp.code (Jmp.round (Jmp.here (rS (Run.weakT (d:=5) rfl ?_)))))
     have hpl:=pick_len hs
     have hsl:=hs.len
     have hsum:=f98 .no ((pick ds seen).map fun d=>cg d (cs.getD d.nu 0)) (by rw [List.length_map];omega) (fun x hx=>by
       obtain ⟨d,hd,rfl⟩:=List.mem_map.1 hx
       obtain ⟨q,_,h2⟩:=pick_mem.1 hd
       have:=(hcf d (hl d (List.mem_of_getElem? h2))).2
       omega)
     rw [isum_perm ((pick_done hs hall).map _)] at hsum
     have hbs:PV.bds 0 [.sl .no (((pick ds seen).map fun d=>cg d (cs.getD d.nu 0)).map I)]=true:=bds_cons (bd_sl (f:=I) (tl:=.no) rfl (fun _=>rfl) _) rfl
     refine rN (cx_ok _ _ _) (rO rfl (oM rfl ?_))
     refine rO rfl (Ope.cf rfl rfl hsum hbs ?_)
     refine rO rfl (oA rfl ?_)
     exact rI (Run.ret (fin_ret (.tmp rfl .nil) rfl rfl))
end Go.Pv
namespace Go.Pv
open Go.Am Go.RowKit
def OwnsB (own l:HL):Prop:=(∀ i,keysB own i=true→∃ b,hget own i=some b∧b.isOwn=false)∧∀ i,keysB own i=true→hget l i=none
theorem OwnsB.hide {own l:HL} {n:Nat} (ho:OwnsB own l):(HE n (own++l)).hide (keysB own)=HE n l:=by
 unfold PH.hide HE
 congr 1
 funext i
 simp only [keysB_app]
 split
 ·next h=>exact (ho.2 i h).symm
 ·rfl
theorem OwnsB.hid {own l:HL} {n:Nat} (ho:OwnsB own l):∀ i,keysB own i=true→∃ b,(HE n (own++l)).get i=some b∧b.isOwn=false:=by
 intro i hi
 obtain ⟨b,hb,hno⟩:=ho.1 i hi
 refine ⟨b,?_,hno⟩
 show hget (own++l) i=some b
 rw [keysB_app,if_pos hi,hb]
theorem OwnsB.one {z:Nat} {b:PBlk} {l:HL} (hb:b.isOwn=false) (hl:hget l z=none):OwnsB [(z,some b)] l:=by
 have key:∀ i,keysB [(z,some b)] i=true→i=z:=fun i hi=>by
  simp only [keysB] at hi
  split at hi
  ·next h=>exact Nat.eq_of_beq_eq_true h
  ·cases hi
 refine ⟨fun i hi=>?_,fun i hi=>?_⟩
 ·rw [key i hi];exact ⟨b,hget_hd,hb⟩
 ·rw [key i hi];exact hl
theorem OwnsB.two {z y:Nat} {b c:PBlk} {l:HL} (hb:b.isOwn=false) (hc:c.isOwn=false) (hzy:z≠y) (hl:hget l z=none) (hl':hget l y=none):OwnsB [(z,some b),(y,some c)] l:=by
 have key:∀ i,keysB [(z,some b),(y,some c)] i=true→i=z∨i=y:=fun i hi=>by
  simp only [keysB] at hi
  split at hi
  ·next h=>exact .inl (Nat.eq_of_beq_eq_true h)
  ·split at hi
   ·next h=>exact .inr (Nat.eq_of_beq_eq_true h)
   ·cases hi
 refine ⟨fun i hi=>?_,fun i hi=>?_⟩
 ·rcases key i hi with rfl | rfl
  ·exact ⟨b,hget_hd,hb⟩
  ·exact ⟨c,(hget_tl (Ne.symm hzy)).trans hget_hd,hc⟩
 ·rcases key i hi with rfl | rfl
  ·exact hl
  ·exact hl'
theorem keysB_one {z:Nat} {b:Option PBlk}:keysB [(z,b)] z=true:=by simp [keysB]
theorem keysB_two {z y:Nat} {b c:Option PBlk}:keysB [(z,b),(y,c)] z=true∧keysB [(z,b),(y,c)] y=true:=by
 refine ⟨by simp [keysB],?_⟩
 simp only [keysB]
 split
 ·rfl
 ·simp
section
variable {P:Program} {own l:HL} {n:Nat}
theorem PCallV.ownedB {f:PV} {args:List PV} {R:PV→PH→Prop} {X:PV→PH→Prop} (ho:OwnsB own l) (hp:PCallV P f args (HE n l) R fun _ _=>False) {K:PV→PH→Prop}
  (hK:∀ v m l',(HE m l').Ok→(∀ i,keysB own i=true→hget l' i=none)→R v (HE m l')→K v (HE m (own++l'))) (hR:∀ v h,R v h→∃ m l',h=HE m l'):PCallV P f args (HE n (own++l)) K X:=by
 rw [← ho.hide] at hp
 refine (PCallV.frameO ho.hid hp).mono ?_ ?_
 ·rintro v h' ⟨h1,r1,r2,rfl⟩
  obtain ⟨m,l',rfl⟩:=hR v h1 r1
  rw [Owns.give]
  exact hK v m l' r2.1 r2.2 r1
 ·rintro v h' ⟨h1,r1,_⟩
  exact r1.elim
end
theorem FeedA.less {P:Program} {y:PV} {R:PV→PH→Prop} {A:PV→Prop}:∀ {k:Nat} {pre:List PV} {n:Nat} {l:HL},FeedA P y R A (k+1) pre n l→FeedA P y R A k pre n l
 |0,pre,n,l,h=>h.1
 |k+1,pre,n,l,h=>⟨h.1,fun v hv m hm=>(h.2 v hv m hm).mono (fun b h' ⟨m',l',e1,e2,e3⟩=>⟨m',l',e1,e2,e3.imp (fun q=>⟨q.1,FeedA.less q.2⟩) id⟩) fun _ _ h=>h⟩
theorem FeedA.le {P:Program} {y:PV} {R:PV→PH→Prop} {A:PV→Prop} {pre:List PV} {n:Nat} {l:HL} {j k:Nat} (hjk:j≤k) (h:FeedA P y R A k pre n l):FeedA P y R A j pre n l:=by
 induction k with
 |zero=>rw [Nat.le_zero.1 hjk];exact h
 |succ k ih =>
  rcases Nat.lt_or_ge j (k+1) with h1 | h1
  ·exact ih (by omega) h.less
  ·rw [show j=k+1 by omega];exact h
section
variable {C:Cx} {F:EQ} {X:EX} {k:List KI} {e:EL} {ds:List Nat} {K:PV→PH→Prop} {n:Nat} {own l:HL}
variable {d:Option Tmp} {type:TypeId} {pos:String} {after:Array Edge} {guard:Option (Nat×Bool)}
theorem Ope.yldB {f:Operand} {args:Array Operand} {tys:Array TypeId} {j N:Nat} {v:PV} {pre:List PV} {A:PV→Prop} {R:PV→PH→Prop} (hf:pev (lget e) f=some (.yld j)) (ha:pargs (pev (lget e)) args.toList=some [v]) (ho:OwnsB own l)
  (hv:A v) (hy:FeedA C.P (.yld j) R A (N+1) pre n l) (hK1:∀ m l',n≤m→(HE m l').Ok→(∀ i,keysB own i=true→hget l' i=none)→FeedA C.P (.yld j) R A N (pre++[v]) m l'→K (B true) (HE m (own++l'))) (hK2:∀ m l',n≤m→(HE m l').Ok→(∀ i,keysB own i=true→hget l' i=none)→(∀ m2,m≤m2→∀ u,R u (HE m2 l'))→K (B false) (HE m (own++l'))) :
  Ope C X { dst:=d,op:=.call { callee:=.value f,args,argTypes:=tys },type,pos,after,guard } e ds (HE n (own++l)) K:=by
 unfold Ope
 simp only [pop,pkind,pcallO,ha,hf,pcallF]
 refine ⟨rfl,PCallV.ownedB ho (hy.2 v hv n (Nat.le_refl _)) ?_ ?_⟩
 ·rintro b m l' hok hno ⟨m1,l1,e1,hm,hb⟩
  obtain ⟨rfl,e2⟩:m=m1∧hget l'=hget l1:=by
   have:=e1
   simp only [HE,PH.mk.injEq] at this
   exact ⟨this.2,this.1⟩
  have e3:∀ q,HE q l'=HE q l1:=fun q=>by simp only [HE,e2]
  have e4:HE m (own++l')=HE m (own++l1):=by
   simp only [HE,PH.mk.injEq,and_true]
   funext i
   rw [keysB_app,keysB_app,e2]
  rw [e4]
  rw [e3] at hok
  simp only [e2] at hno
  rcases hb with ⟨rfl,hf⟩ | ⟨rfl,hf⟩
  ·exact hK1 m l1 hm hok hno hf
  ·exact hK2 m l1 hm hok hno hf
 ·rintro b h ⟨m1,l1,e1,_⟩
  exact ⟨m1,l1,e1⟩
theorem Ope.entF {α:Type} {xs:List α} {kf:α→AV} {vf kv:α→PV} {i:Nat} {x:Operand} {seen:List Nat} {p:Nat} (hof:∀ a,PV.ofAV (kf a)=some (kv a)) (hp:p < xs.length) (hx:pev (lget e) x=some (.ptr i 0)) (hg:hget l i=some (.fit (xs.map kf) (xs.map vf) (seen++[p])))
  (hK:K (.tup [kv xs[p],vf xs[p]]) (HE n l)) :
  Ope C X { dst:=d,op:=.entry x,type,pos,after,guard } e ds (HE n l) K:=by
 unfold Ope
 simp only [pop,pkind,ploud,hx,PEntry]
 exact .inl ⟨_,_,seen,p,kf xs[p],vf xs[p],kv xs[p],hg,by rw [List.getElem?_map,List.getElem?_eq_getElem hp];rfl,by rw [List.getElem?_map,List.getElem?_eq_getElem hp];rfl,hof _,hK⟩
theorem Run.frzMp {c:Code} {dd i:Nat} {es:List (AV×PV×Nat)} {clock:Nat} (qs:List (AV×PV)) (hd:lget e dd=some (.fp (.mp i))) (hg:hget l i=some (.map es clock)) (hb:∀ e∈es,e.2.2 < clock) (hnd:(es.map (·.2.2)).Nodup) (hp:(es.map fun e=>(e.1,e.2.1)).Perm qs)
  (hr:Run C F X (.c c::k) ((dd,.fp (.fm (qs.map (·.1)) (qs.map (·.2))))::e) ds (HE n ((i,none)::l))):Run C F X (.c c::k) e ds (HE n l):=by
 refine Run.ghost (fun t ht=>⟨t.set dd (.fp (.fm (qs.map (·.1)) (qs.map (·.2)))),?_,?_⟩) hr
 ·intro j u hj
  simp only [lget] at hj
  simp only [T.get_set]
  split at hj
  ·next hb=>rw [if_pos (Nat.eq_of_beq_eq_true hb)];exact hj
  ·next hb =>
   rw [if_neg (fun c=>by subst c;simp at hb)]
   exact ht j u hj
 ·intro w0 s arr a1 a2 a3
  have hi:s.h.get i=some (.map es clock):=by rw [a2];exact hg
  obtain ⟨_,_,_,_,hlive⟩:=a1.map hi
  have hx:=Ext.freeze (n:=0) hlive
  refine ⟨s.freeze i 0,rfl,a1.freezeB hi rfl,hx,?_,?_⟩
  ·show s.h.del i=_
   rw [a2,HE_del]
  ·intro j u hj
   simp only [T.get_set] at hj
   split at hj
   ·next hjd =>
    cases hj
    subst hjd
    obtain ⟨x,x1,x2⟩:=a3 j _ (ht j _ hd)
    obtain ⟨kk,o,rfl,hm⟩:=RV_fp.1 x2
    obtain ⟨y,y1,y2⟩:=(RM_one (v:=.mp i) rfl).1 hm
    exact ⟨_,x1,RV_fp.2 ⟨kk,o,rfl,(RM_one (v:=.fm _ _) rfl).2 ⟨y,hx.cell _ _ _ y1,freeze_fm a1 hi hb hnd hp y2⟩⟩⟩
   ·exact (a3.ext hx) j u hj
theorem Run.frzIp {c:Code} {dd i:Nat} {M:List (Int×PV)} (hd:lget e dd=some (.fp (.mp i))) (hg:hget l i=some (.map (esI 0 M) M.length)) (hr:Run C F X (.c c::k) ((dd,.fp (.fm (M.map fun p=>.int .i64 p.1) (M.map (·.2))))::e) ds (HE n ((i,none)::l))):Run C F X (.c c::k) e ds (HE n l):=by
 refine Run.frzMp (M.map fun p=>(.int .i64 p.1,p.2)) hd hg (fun x hx=>?_) (esI_nodup 0 M) (by rw [esI_pairs]) ?_
 ·have:=(esI_born 0 M x hx).2
  omega
 ·rw [List.map_map,List.map_map]
  exact hr
end
end Go.Pv
