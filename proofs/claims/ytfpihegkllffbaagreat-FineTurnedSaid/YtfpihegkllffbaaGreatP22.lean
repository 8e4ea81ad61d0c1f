/- Parts of the proof: E30, E31, E32, E33, E34, E35 -/
import Derived.Test.YtfpihegkllffbaaGreatP21
import Derived.Test.YtfpihegkllffbaaGreatP12
set_option linter.unusedVariables false
set_option linter.unusedSimpArgs false
set_option linter.unusedSectionVars false
namespace Go.Pv
open Go.Proofs Go.Am
set_option maxRecDepth 10000
section
variable {C:Cx} {X:EX} {e:EL} {ds:List Nat} {K:PV→PH→Prop} {n:Nat} {l:HL}
variable {d:Option Tmp} {type:TypeId} {pos:String} {after:Array Edge} {guard:Option (Nat×Bool)}
def killU:Option Nat→HL→HL
  | none,l=>l
  | some j,l=>(j,none)::l
theorem Ope.apV {o':Option Nat} {t tx sz bytes sz' bytes':Nat} {agg agg':Bool} {x y:Operand} {tl':Tail} {vs ws:List PV} [hs:Slc C.A t agg sz bytes] [hs':Slc C.A tx agg' sz' bytes'] (hx:pev (lget e) x=some (.sl (tlU o') vs)) (hy:pev (lget e) y=some (.sl tl' ws)) (hne:ws≠[]) (ho:∀ j,o'=some j→vs≠[]∧hget l j=some .own)
    (hb1:(vs.length+ws.length) * bytes≤140737488355328) (hb2:vs.length+ws.length≤1000000000) (h1:1≤sz) (hv:∀ v∈vs,v.nc=sz) (hw:∀ v∈ws,v.nc=sz∧PV.allOne v.cells=true) (hK:K (.sl (.own n) (vs++ws)) (HE (n+1) ((n,some .own)::killU o' l))) :
    Ope C X { dst:=d,op:=.call { callee:=.builtin .append,args:=#[x,y],argTypes:=#[t,tx] },type,pos,after,guard } e ds (HE n l) K:=by
  cases o' with
  | none=>exact Ope.apO hx hy hne hb1 hb2 h1 hv hw hK
  | some j =>
    obtain ⟨h2,h3⟩:=ho j rfl
    exact Ope.apP hx hy hne h2 h3 hb1 hb2 h1 hv hw hK
end
def cndP (kk ki rk ri hk hi wi:Int) (k i:Nat):Prop:=k≠i∧kk=ki∧rk=ri∧hk≤hi∧(hk < hi∨k < i)∧hi - hk≤wi
instance (kk ki rk ri hk hi wi:Int) (k i:Nat):Decidable (cndP kk ki rk ri hk hi wi k i):=by unfold cndP;infer_instance
end Go.Pv
namespace Go.Pv
open Go.Proofs Go.Am
set_option maxRecDepth 10000
theorem kn_ok {f:Fns} {ri ho:List Int} (h1:ri.length=f.li.length) (h2:ho.length=f.li.length) (h3:∀ x∈ri,0≤x∧x < f.n) (h4:∀ x∈ho,0≤x∧x≤144):f.knB ri ho=true:=by
  unfold Fns.knB knN
  simp only [Bool.and_eq_true,decide_eq_true_eq,List.all_eq_true]
  refine ⟨⟨h1,h2⟩,fun i hi=>?_⟩
  have hi:=List.mem_range.1 hi
  have a1:=h3 _ (getD_mem (i:=i) (by omega))
  have a2:=h4 _ (getD_mem (i:=i) (by omega))
  simp only [numB,upB,Bool.and_eq_true,decide_eq_true_eq]
  exact ⟨a1,a2⟩
section
variable (f:Fns) {t1 t2:Tail} (h1:t1.isOwn=false) (h2:t2.isOwn=false)
include h1 h2
end
end Go.Pv
namespace Go.Pv
open Go.Proofs Go.Am
set_option maxRecDepth 10000
set_option maxHeartbeats 2000000
theorem killU_at {o:Option Nat} {l:HL} {i:Nat} (h:∀ j,o=some j→j≠i):hget (killU o l) i=hget l i:=by
  cases o with
  | none=>rfl
  | some j=>exact hget_tl (Ne.symm (h j rfl))
section
variable (f:Fns) {t1 t2:Tail} (h1:t1.isOwn=false) (h2:t2.isOwn=false)
include h1 h2
end
end Go.Pv
namespace Go.Pv
open Go.Proofs Go.Am
set_option maxRecDepth 10000
section
variable {H:Type} {enc:TypeId×Value→H} {w:World} {base:Nat} {held:Bool}
theorem reads_int:Reads enc Tryz.prog w base (fun _=>true) held 3 fun ps=>∃ n:Int,ps=[I n]∧(-9223372036854775808≤n∧n≤9223372036854775807) :=
  (Reads.int Tryz.underlying3).mono fun ps ⟨n,h,h1,h2⟩=>⟨n,h,Int.le_trans (by decide) h1,Int.le_trans h2 (by decide)⟩
theorem reads_span:Reads enc Tryz.prog w base (fun _=>true) held 30 fun ps=>∃ a b:Int,ps=[I a,I b] :=
  (Reads.struct (Qs:=[fun ps=>∃ n:Int,ps=[I n]∧_,fun ps=>∃ n:Int,ps=[I n]∧_]) Tryz.underlying30 (by kernel_rfl) ⟨reads_int,reads_int,trivial⟩).mono fun ps h=>by
    obtain ⟨_,_,rfl,⟨a,rfl,_⟩,_,_,rfl,⟨b,rfl,_⟩,rfl⟩:=h
    exact ⟨a,b,rfl⟩
theorem reads_ofc:Reads enc Tryz.prog w base (fun _=>true) held 52 fun ps=>∃ j:Ofc,ps=j.v.cells :=
  (Reads.struct (Qs:=[fun ps=>∃ n:Int,ps=[I n]∧_,fun ps=>∃ n:Int,ps=[I n]∧_,fun ps=>∃ a b:Int,ps=[I a,I b]]) Tryz.underlying52 (by kernel_rfl) ⟨reads_int,reads_int,reads_span,trivial⟩).mono fun ps h=>by
    obtain ⟨_,_,rfl,⟨a,rfl,_⟩,_,_,rfl,⟨d,rfl,_⟩,_,_,rfl,⟨b,c,rfl⟩,rfl⟩:=h
    exact ⟨⟨a,d,b,c⟩,rfl⟩
theorem reads_rul:Reads enc Tryz.prog w base (fun _=>true) held 54 fun ps=>∃ j:Rul,ps=j.v.cells :=
  (Reads.struct (Qs:=[fun ps=>∃ n:Int,ps=[I n]∧_,fun ps=>∃ n:Int,ps=[I n]∧_,fun ps=>∃ n:Int,ps=[I n]∧_,fun ps=>∃ n:Int,ps=[I n]∧_]) Tryz.underlying54 (by kernel_rfl) ⟨reads_int,reads_int,reads_int,reads_int,trivial⟩).mono fun ps h=>by
    obtain ⟨_,_,rfl,⟨a,rfl,_⟩,_,_,rfl,⟨b,rfl,_⟩,_,_,rfl,⟨c,rfl,_⟩,_,_,rfl,⟨d,rfl,_⟩,rfl⟩:=h
    exact ⟨⟨a,b,c,d⟩,rfl⟩
theorem cells_ofc:Tryz.prog.cellsOf 52=4:=by kernel_rfl
theorem cells_rul:Tryz.prog.cellsOf 54=4:=by kernel_rfl
theorem cells_u16:Tryz.prog.cellsOf 62=1:=by kernel_rfl
structure Fns.hnd (s:Fns):Prop where
  ru:s.ru.length≤9223372036854775807
  li:s.li.length≤9223372036854775807
theorem reads_fines:Reads enc Tryz.prog w base (fun _=>true) held 25 fun ps=>∃ s:Fns,s.hnd∧ps=[.sl .no (s.ru.map Rul.v),I s.n,.sl .no (s.li.map Ofc.v)] :=
  (Reads.struct (Qs:=[fun ps=>∃ S:List Rul,ps=[.sl .no (S.map Rul.v)]∧S.length≤maxLen∧_,fun ps=>∃ n:Int,ps=[I n]∧_,fun ps=>∃ S:List Ofc,ps=[.sl .no (S.map Ofc.v)]∧S.length≤maxLen∧_]) Tryz.underlying25 (by kernel_rfl)
    ⟨Reads.slice (Q := fun _ => True) (f := Rul.v) (fun _ => rfl) Tryz.underlying22 (by rw [cells_rul]; decide) (reads_rul.mono fun ps ⟨s, h⟩ => ⟨s, h, by rw [cells_rul]; rfl, trivial⟩), reads_int,
     Reads.slice (Q:=fun _=>True) (f:=Ofc.v) (fun _=>rfl) Tryz.underlying23 (by rw [cells_ofc];decide) (reads_ofc.mono fun ps ⟨s,h⟩=>⟨s,h,by rw [cells_ofc];rfl,trivial⟩),trivial⟩).mono fun ps h=>by
    obtain ⟨_,_,rfl,⟨ru,rfl,hl,_⟩,_,_,rfl,⟨n,rfl,_⟩,_,_,rfl,⟨li,rfl,hl2,_⟩,rfl⟩:=h
    exact ⟨⟨ru,n,li⟩,⟨hl,hl2⟩,rfl⟩
theorem trod_fines {v:Value} {d:DataW H} {ps:List MemPlace} {r:Reach} {b:Nat} (hv:Value.okWide Tryz.prog w r b 25 v) (h:DataW.Trod enc Tryz.prog w base (fun _=>true) held 25 v d ps):∃ s:Fns,s.hnd∧RV (St.froz w) (s.v .no .no) v:=by
  obtain ⟨l,h1,s,hi,rfl⟩:=trod_agg Tryz.underlying25 hv h reads_fines
  exact ⟨s,hi,h1⟩
theorem trod_u16 {v : Value} {d : DataW H} {ps : List MemPlace} {r : Reach} {b : Nat} (hv : Value.okWide Tryz.prog w r b 42 v) (h : DataW.Trod enc Tryz.prog w base (fun _ => true) held 42 v d ps) : ∃ xs : List Nat, (∀ x ∈ xs, x < 65536) ∧ RV (St.froz w) (.sl .no (xs.map U16)) v := by
  obtain ⟨xs,h1,_,h3⟩:=trod_ints Tryz.underlying42 Tryz.underlying62 cells_u16 hv h
  have h4:∀ x∈xs,0≤x∧x≤65535:=fun x hx=>⟨Int.le_trans (by decide) (h3 x hx).1,Int.le_trans (h3 x hx).2 (by decide)⟩
  refine ⟨xs.map Int.toNat,fun x hx=>?_,?_⟩
  · obtain ⟨y, hy, rfl⟩ := List.mem_map.1 hx
    have:=h4 y hy;omega
  · have e : (xs.map Int.toNat).map U16 = xs.map fun n => .lit (.int .u16 n) := by
      rw [List.map_map]
      exact List.map_congr_left fun x hx=>by
        have:=h4 x hx
        show PV.lit (.int .u16 ((x.toNat:Nat):Int))=_
        rw [Int.toNat_of_nonneg this.1]
    rw [e]
    exact h1
end
end Go.Pv
namespace Go.Pv
open Go.Proofs Go.Am
set_option maxRecDepth 10000
def prdN (f:Fns):Nat→Nat
  | 0=>1
  | i+1=>prdN f i * (cn (f.ofc i).ri.toNat * ((f.ofc i).hi - (f.ofc i).lo+1).toNat)
theorem prdN_le {f:Fns} (hf:f.ok):∀ i,i≤f.li.length→prdN f i≤18 ^ i
  | 0,_=>Nat.le_refl _
  | i + 1, h => by
    have ih:=prdN_le hf i (by omega)
    have h1:=cn_lt (f.ofc i).ri.toNat
    have h2:=(hf.lv (f.ofc i) (by rw [Fns.ofc_at (f:=f) (show i < f.li.length by omega)];exact List.getElem_mem _)).2.2
    have h3:((f.ofc i).hi - (f.ofc i).lo+1).toNat≤3:=by omega
    exact Nat.mul_le_mul ih (Nat.mul_le_mul h1 h3)
section
variable (f:Fns) {t1 t2:Tail} (h1:t1.isOwn=false) (h2:t2.isOwn=false)
include h1 h2
theorem f11ng (hS:f.ru.length≤9223372036854775807) (hJ:f.li.length≤9223372036854775807) (most:Int) (X:PV) (hX:PV.bd 0 X=true) (p:Bool) (hlo:Fn P0 30 [f.v t1 t2,X] (B p)) (hv:p=true∨f.B=false):Fn P0 11 [f.v t1 t2,I most,X] (B p):=by
  have hfi:=f26 f h1 h2 hS hJ
  have hb:PV.bds 0 [f.v t1 t2,X]=true:=bd_fnsV f h1 h2 (bds_cons hX rfl)
  have hb0:PV.bds 0 [f.v t1 t2]=true:=bd_fnsV f h1 h2 rfl
  generalize f.B=q at *
  refine PFun.of (C:=c11) (cx_ok _ _ _) rfl (fn:=Tryz.f11) (by kernel_rfl) (c:=_) rfl rfl rfl ?_
  refine rS (rN (cx_ok _ _ _) (rO rfl (Ope.boxF rfl rfl ?_)))
  refine rO rfl (oA rfl ?_)
  refine rI (rS (rS (rN (cx_ok _ _ _) (rO rfl (oL rfl rfl ?_)))))
  refine rO rfl (oM rfl ?_)
  refine rO rfl (Ope.cf rfl rfl hlo hb ?_)
  refine rO rfl (oM rfl ?_)
  refine Reg.splitX rfl rfl (fun hg=>?_) fun hg=>?_
  ·refine Reg.off rfl rfl rfl (Reg.off rfl rfl rfl (Reg.off rfl rfl rfl (rO rfl (Ope.pickT rfl rfl ?_))))
   refine rI (Run.condT rfl (rS (rN (cx_ok _ _ _) (rO rfl (oL rfl rfl ?_)))))
   refine rO rfl (oM rfl ?_)
   refine rO rfl (Ope.cf rfl rfl hlo hb ?_)
   refine rO rfl (oA rfl ?_)
   exact rI (Run.ret (Jmp.code (fin_ret (.tmp rfl .nil) rfl rfl)))
  ·refine Reg.on rfl rfl rfl (oL rfl rfl ?_)
   refine Reg.on rfl rfl rfl (Ope.cf rfl rfl hfi hb0 ?_)
   refine Reg.on rfl rfl rfl (Ope.not rfl ?_)
   refine rO rfl (Ope.pickF rfl rfl ?_)
   refine rI (rC rfl (fun hc=>?_) fun hc=>?_)
   ·refine rS (rN (cx_ok _ _ _) (rO rfl (oL rfl rfl ?_)))
    refine rO rfl (oM rfl ?_)
    refine rO rfl (Ope.cf rfl rfl hlo hb ?_)
    refine rO rfl (oA rfl ?_)
    exact rI (Run.ret (Jmp.code (fin_ret (.tmp rfl .nil) rfl rfl)))
   ·(exfalso;simp_all;done)
theorem f11vg (hf:f.ok) (most:Int) (X:PV) (hX:PV.bd 0 X=true) (hlo:Fn P0 30 [f.v t1 t2,X] (B false)):Fn P0 11 [f.v t1 t2,I most,X] (B (decide (most < (prdN f f.li.length:Nat)))):=by
  have hl5:=hf.li
  have hr4:=hf.ru
  have hS:f.ru.length≤9223372036854775807:=by omega
  have hJ:f.li.length≤9223372036854775807:=by omega
  have hfi:=f26 f h1 h2 hS hJ
  rw [fns_B f hf] at hfi
  have hb:PV.bds 0 [f.v t1 t2,X]=true:=bd_fnsV f h1 h2 (bds_cons hX rfl)
  have hb0:PV.bds 0 [f.v t1 t2]=true:=bd_fnsV f h1 h2 rfl
  have hpl:=prdN_le hf
  have hps:∀ i,prdN f (i+1)=prdN f i * (cn (f.ofc i).ri.toNat * ((f.ofc i).hi - (f.ofc i).lo+1).toNat):=fun _=>rfl
  have hp0:prdN f 0=1:=rfl
  have hof:=fun {i:Nat} (h:i < f.li.length)=>Fns.ofc_at (f:=f) h
  have hlv:=hf.lv
  have h18:∀ i,i≤5→18 ^ i≤18 ^ 5:=fun i hi=>Nat.pow_le_pow_right (by decide) hi
  have hn:=hf.n
  have hsz:=fun x hx=>f34 x hx
  generalize prdN f=Q at *
  generalize f.ofc=OF at *
  obtain ⟨ru,n,li⟩:=f
  simp only at hl5 hr4 hpl hof hlv hn
  refine PFun.of (C:=c11) (cx_ok _ _ _) rfl (fn:=Tryz.f11) (by kernel_rfl) (c:=_) rfl rfl rfl ?_
  refine rS (rN (cx_ok _ _ _) (rO rfl (Ope.boxF rfl rfl ?_)))
  refine rO rfl (oA rfl ?_)
  refine rI (rS (rS (rN (cx_ok _ _ _) (rO rfl (oL rfl rfl ?_)))))
  refine rO rfl (oM rfl ?_)
  refine rO rfl (Ope.cf rfl rfl hlo hb ?_)
  refine rO rfl (oM rfl ?_)
  refine Reg.on rfl rfl rfl (oL rfl rfl ?_)
  refine Reg.on rfl rfl rfl (Ope.cf rfl rfl hfi hb0 ?_)
  refine Reg.on rfl rfl rfl (Ope.not rfl ?_)
  refine rO rfl (Ope.pickF rfl rfl ?_)
  refine rI (Run.condF rfl (Run.skip (rS (rN (cx_ok _ _ _) (rO rfl (oA rfl ?_))))))
  refine rI (rS (rS (rN (cx_ok _ _ _) (rO rfl (Ope.fld rfl rfl ?_)))))
  refine rO rfl (oL rfl rfl ?_)
  refine rO rfl (Ope.len (m:=li.length) rfl (by simp) ?_)
  refine rO rfl (oM rfl ?_)
  refine rI (Run.block (Run.loop (α:=Nat×Nat) (fun t=>[(1,I most),(7,I (Q t.1)),(22,.sl t2 (li.map Ofc.v)),(23,I li.length),(24,I t.1)]) (fun t=>HE t.2 []) (fun t=>t.1≤li.length) (fun t=>li.length - t.1) (0,0) ⟨rfl,by rw [hp0];rfl,rfl,rfl,rfl,trivial⟩ rfl (Nat.zero_le _) (fun t ht=>?_)))
  obtain ⟨i,m⟩:=t
  simp only at ht
  show Run _ _ _ _ [(1,I most),(7,I (Q i)),(22,.sl t2 (li.map Ofc.v)),(23,I li.length),(24,I i)] [] (HE m [])
  refine rS (rN (cx_ok _ _ _) (rO rfl (Ope.lt rfl rfl ?_)))
  refine rI (rS (rC rfl (fun hc=>?_) fun hc=>?_))
  ·refine Run.skip (rS (Run.block (rS ?_)))
   have hlt:i < li.length:=by omega
   have hlvi:=hlv li[i] (List.getElem_mem hlt)
   have hri:li[i].ri < 64:=by
     have h2n:=hlvi.2.1.2
     have e64:(2:Int) ^ n.toNat≤2 ^ 6:=by
       rcases hn with h | h | h<;>rw [h]<;>decide
     have e65:(2:Int) ^ 6=64:=rfl
     omega
   obtain ⟨r,hr,hr64⟩:∃ r:Nat,li[i].ri=(r:Int)∧r < 2 ^ 6:=⟨li[i].ri.toNat,by omega,by show _ < 64;omega⟩
   obtain ⟨w,hw,hw3⟩:∃ w:Nat,li[i].hi - li[i].lo+1=(w:Int)∧w≤3:=⟨(li[i].hi - li[i].lo+1).toNat,by omega,by omega⟩
   have hsi:=hsz r hr64
   have hc6:=cn_lt r
   have hQs:=hps i
   have hQi:=hpl i (by omega)
   have hQi5:=h18 i (by omega)
   rw [hof hlt,hr,hw,Int.toNat_natCast,Int.toNat_natCast] at hQs
   generalize cn r=c at *
   have hcw:c * w≤6 * 3:=Nat.mul_le_mul hc6 hw3
   have hQcw:Q i * (c * w)≤18 ^ 5 * 18:=Nat.mul_le_mul (Nat.le_trans hQi hQi5) hcw
   have e1:((c:Nat):Int) * ((w:Nat):Int)=((c * w:Nat):Int):=by push_cast;rfl
   have e2:((Q i:Nat):Int) * ((c * w:Nat):Int)=((Q (i+1):Nat):Int):=by rw [hQs];push_cast;rfl
   rw [← hQs] at hQcw
   refine rN (cx_ok _ _ _) (rO rfl (Ope.idxM (m:=i) (f:=Ofc.v) rfl rfl rfl hlt (fun _=>rfl) ?_))
   refine rO rfl (oL rfl rfl ?_)
   refine rO rfl (Ope.newL rfl ?_)
   refine Reg.op0 (Ope.store rfl rfl hget_hd rfl rfl rfl ?_)
   refine rI (Run.frz (d:=9) true rfl hget_hd rfl ?_)
   refine Run.wide (m:=m+1) (l':=[]) (Nat.le_refl _) trivial ?_
   refine Run.draw (cx_ok _ _ _) [(0,true),(1,true),(2,true),(4,true),(5,true),(6,false),(7,true),(8,true),(9,false),(10,true),(11,true),(3,true),(12,true),(13,true),(14,true)] (by kernel_rfl) (dO rfl rfl rfl .sure (oM rfl ?_))
   refine dO rfl rfl rfl .sure (Ope.fld rfl rfl ?_)
   refine dO rfl rfl rfl .sure (oL rfl rfl ?_)
   refine dO rfl rfl rfl .sure (Ope.fld rfl rfl ?_)
   refine dO rfl rfl rfl .sure (Ope.fld rfl rfl ?_)
   refine dO rfl rfl rfl (.load rfl) (oL rfl rfl ?_)
   refine dO rfl rfl rfl .sure (Ope.fld rfl rfl ?_)
   refine dO rfl rfl rfl .sure (Ope.fld rfl rfl ?_)
   refine dO rfl rfl rfl (.load rfl) (oL rfl rfl ?_)
   refine dO rfl rfl rfl .sure (Ope.sub rfl rfl (by omega) ?_)
   refine dO rfl rfl rfl .sure (Ope.add rfl rfl (by omega) ?_)
   rw [hw]
   refine dO rfl rfl rfl .sure (Ope.cf (v:=N c) rfl rfl (by show Fn P0 _ [I li[i].ri] _;rw [hr];exact hsi) rfl ?_)
   refine dO rfl rfl rfl .sure (Ope.mul rfl rfl (by rw [e1];omega) ?_)
   rw [e1]
   refine dO rfl rfl rfl .sure (Ope.mul rfl rfl (by rw [e2];omega) ?_)
   rw [e2]
   refine dO rfl rfl rfl .sure (oA rfl ?_)
   refine Dra.nil (Run.bend (rN (cx_ok _ _ _) (rO rfl (Ope.add rfl rfl (by omega) ?_))))
   refine rO rfl (oM rfl ?_)
   exact rI (Run.lend ⟨(i+1,m+1),by show li.length - (i+1) < li.length - i;omega,by show i+1≤li.length;omega,⟨rfl,rfl,rfl,rfl,rfl,trivial⟩,rfl,rfl⟩)
  ·refine Run.exit (Jmp.code (Jmp.round (Jmp.here (rS ?_))))
   obtain rfl:i=li.length:=by omega
   refine rN (cx_ok _ _ _) (rO rfl (oM rfl ?_))
   refine rO rfl (oM rfl ?_)
   refine rO rfl (Ope.gt rfl rfl ?_)
   refine rO rfl (oA rfl ?_)
   exact rI (Run.ret (fin_ret (.tmp rfl .nil) rfl rfl))
theorem f11n (hS:f.ru.length≤9223372036854775807) (hJ:f.li.length≤9223372036854775807) (most:Int) (hv:f.lng=true∨f.B=false):Fn P0 11 [f.v t1 t2,I most,.sl .ex []] (B f.lng) :=
  f11ng f h1 h2 hS hJ most _ rfl _ (f30n f h1 h2) hv
theorem f11v (hf:f.ok) (most:Int):Fn P0 11 [f.v t1 t2,I most,.sl .ex []] (B (decide (most < (prdN f f.li.length:Nat)))) :=
  f11vg f h1 h2 hf most _ rfl (by
    have hl5:=hf.li
    have hr4:=hf.ru
    have hlo:=f30n f h1 h2
    rw [show f.lng=false from decide_eq_false (by omega)] at hlo
    exact hlo)
end
end Go.Pv
namespace Go.Pv
open Go.Proofs Go.Am
set_option maxRecDepth 10000
theorem weak_c3 {s:St} {a b:PV} {tl:Tail} {vs:List PV} {xs:List Value} (h:RVs s [a,b,.sl tl vs] xs):RVs s [a,b,.sl .no vs] xs:=by
  obtain ⟨y1,r1,rfl,h1,h⟩:=RVs_cons.1 h
  obtain ⟨y2,r2,rfl,h2,h⟩:=RVs_cons.1 h
  obtain ⟨y3,r3,rfl,h3,h⟩:=RVs_cons.1 h
  exact RVs_cons.2 ⟨_,_,rfl,h1,RVs_cons.2 ⟨_,_,rfl,h2,RVs_cons.2 ⟨_,_,rfl,RV_tl_no h3,h⟩⟩⟩
section
variable (f:Fns) {t1 t2:Tail} (h1:t1.isOwn=false) (h2:t2.isOwn=false)
include h1 h2
end
end Go.Pv
