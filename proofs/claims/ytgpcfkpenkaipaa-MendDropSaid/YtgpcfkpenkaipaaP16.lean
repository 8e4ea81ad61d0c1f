/- Parts of the proof: Pv59, M6, Pv60, Pv61, M7, Pv65 -/
import Derived.Test.YtgpcfkpenkaipaaP15
import Derived.Test.YtgpcfkpenkaipaaP14
import Derived.Test.YtgpcfkpenkaipaaP13
set_option linter.unusedVariables false
set_option linter.unusedSimpArgs false
set_option linter.unusedSectionVars false
namespace Go.Pv
open Go.Am Go.RowKit
def KX (P:Program) (g:Nat) (args:List PV) (j:Nat) (M:PBlk) (R X:PV→Prop):Prop:=PCall P g args (HE (j+1) [(j,some M)]) (fun v h'=>h'=HE (j+1) [(j,some M)]∧R v) fun v h'=>h'=HE (j+1) [(j,some M)]∧X v
section
variable {n m j:Nat} {l:HL} {M:PBlk} {P:Program} {g:Nat} {args:List PV} {R X:PV→Prop}
theorem KX.mono {R' X':PV→Prop} (hc:KX P g args j M R X) (hR:∀ v,R v→R' v) (hX:∀ v,X v→X' v):KX P g args j M R' X' :=
 PCall.mono hc (fun _ _ q=>⟨q.1,hR _ q.2⟩) fun _ _ q=>⟨q.1,hX _ q.2⟩
theorem one_get {a:Option PBlk} {i:Nat} (h:i≠j):hget [(j,a)] i=none:=(hget_tl h).trans rfl
theorem okJ (hM:M.bd (j+1)):(HE (j+1) [(j,some M)]).Ok:=by
 intro i b hb
 by_cases hj:i=j
 ·subst hj
  have h2:some M=some b:=hget_hd.symm.trans hb
  cases h2
  exact ⟨by show i < i+1;omega,hM⟩
 ·have h2:(none:Option PBlk)=some b:=(one_get hj).symm.trans hb
  cases h2
theorem KX.call (hc:KX P g args j M R X) (hb:PV.bds (j+1) args=true) (hM:M.bd (j+1)) (h1:hget l j=some M) (ho:∀ i,i < j→∀ b,hget l i=some b→b.isOwn=false) (hn:j+1≤n) :
  PCall P g args (HE n l) (fun v h'=>h'=HE n l∧R v) fun v h'=>h'=HE n l∧X v:=by
 let O:Nat→Bool:=fun i=>decide (i < j) && (hget l i).isSome
 have hO:∀ i,O i=true→∃ b,(HE n l).get i=some b∧b.isOwn=false:=by
  intro i hi
  simp only [O,Bool.and_eq_true,decide_eq_true_eq] at hi
  obtain ⟨b,hb⟩:=Option.isSome_iff_exists.1 hi.2
  exact ⟨b,hb,ho i hi.1 b hb⟩
 have hget0:∀ i,i < j→((HE n l).hide O).get i=none:=by
  intro i hi
  show (if O i=true then none else hget l i)=none
  by_cases hs:(hget l i).isSome=true
  ·rw [if_pos (by simp only [O,hs,decide_eq_true hi];rfl)]
  ·rw [if_neg (by simp only [O,hs];simp)]
   cases hq:hget l i with
   |none=>rfl
   |some b=>rw [hq] at hs;exact absurd rfl hs
 have hgetJ:∀ i,¬ i < j→((HE n l).hide O).get i=hget l i:=by
  intro i hi
  show (if O i=true then none else hget l i)=hget l i
  rw [if_neg (by simp only [O,decide_eq_false hi];simp)]
 have hcut:((HE n l).hide O).cut (j+1)=HE (j+1) [(j,some M)]:=by
  unfold PH.cut
  show PH.mk _ _=PH.mk _ _
  congr 1
  funext i
  by_cases hi:i < j
  ·rw [if_pos (by omega),one_get (by omega)];exact hget0 i hi
  ·by_cases hj:i=j
   ·subst hj;rw [if_pos (by omega),hget_hd,hgetJ i hi];exact h1
   ·rw [if_neg (by omega),one_get hj]
 have hback:((((HE n l).hide O).over (j+1) (HE (j+1) [(j,some M)])).give (HE n l) O)=HE n l:=by
  unfold PH.give PH.over
  show PH.mk _ _=PH.mk _ _
  congr 1
  funext i
  by_cases hi:O i=true
  ·rw [if_pos hi];rfl
  ·rw [if_neg hi]
   show (if i < j+1 then (HE (j+1) [(j,some M)]).get i else ((HE n l).hide O).get i)=hget l i
   by_cases hij:i < j+1
   ·rw [if_pos hij]
    by_cases hj:i=j
    ·subst hj;exact hget_hd.trans h1.symm
    ·rw [show (HE (j+1) [(j,some M)]).get i=none from one_get hj]
     simp only [O,decide_eq_true (show i < j by omega),Bool.true_and] at hi
     cases hq:hget l i with
     |none=>rfl
     |some b=>rw [hq] at hi;exact absurd rfl hi
   ·rw [if_neg hij]
    exact hgetJ i (by omega)
 unfold KX at hc
 refine (PCall.frameO hO (PCall.frame (n:=j+1) (h:=(HE n l).hide O) hn hb (fun _=>by rw [hcut];exact okJ hM) (by rw [hcut];exact hc) ?_ ?_)).mono ?_ ?_
 ·rintro v h' ⟨rfl,_⟩;rfl
 ·rintro v h' ⟨rfl,_⟩;rfl
 ·rintro v h'' ⟨h1',⟨h',⟨rfl,hr⟩,rfl⟩,_,rfl⟩
  exact ⟨hback,hr⟩
 ·rintro v h'' ⟨h1',⟨h',⟨rfl,hr⟩,rfl⟩,_,rfl⟩
  exact ⟨hback,hr⟩
end
section
variable {C:Cx} {F:EQ} {X:EX} {k:List KI} {e:EL} {ds:List Nat} {K:PV→PH→Prop} {n m j:Nat} {l:HL} {M:PBlk} {u:PV} {Rv Xv:PV→Prop}
variable {d:Option Tmp} {type:TypeId} {pos:String} {after:Array Edge} {guard:Option (Nat×Bool)}
theorem Ope.imP {r:Operand} {name:String} {args:Array Operand} {tys:Array TypeId} {t g:Nat} {h:PH} {w w' v:PV} {as':List PV} (hr:pev (lget e) r=some (.ifc t w)) (ha:pargs (pev (lget e)) args.toList=some as') (hm:pmethod C.A t w name=some (g,w'))
  (hc:Fn C.P g (w'::as') v) (hb:PV.bds 0 (w'::as')=true) (hK:K v h):Ope C X { dst:=d,op:=.call { callee:=.invoke r name,args,argTypes:=tys },type,pos,after,guard } e ds h K:=by
 unfold Ope
 simp only [pop,pkind,pcallO,ha,hr,hm]
 exact hc.call hb hK
end
end Go.Pv
namespace Go.Pv
open Go.Proofs Go.Am
set_option maxRecDepth 10000
def fltV:Option (Nat×Int)→PV
  | some (j,r)=>.tup [.agg [I j,I r],B true]
  | none=>.tup [.agg [I 0,I 0],B false]
abbrev Shp.p0:Pst:=⟨0,-1,0,0⟩
theorem alg_J {s:Shp} {o:List Nat} (hn:s.jo.length≤6) (ho:∀ i∈o,i < s.jo.length) {k:Nat} (hk:k < (s.alg Shp.p0 o).length):((s.alg Shp.p0 o)[k]).p.J < 64∧((s.alg Shp.p0 o)[k]).j < s.jo.length:=by
  have hk':k < o.length:=by rw [alg_len] at hk;exact hk
  rw [alg_at s o _ k hk' hk]
  refine ⟨past_J s _ _ (by decide) fun i hi=>?_,ho _ (List.getElem_mem hk')⟩
  have:=ho i (List.mem_of_mem_take hi)
  omega
section
variable (s:Shp) {t1 t2:Tail} (h1:t1.isOwn=false) (h2:t2.isOwn=false)
include h1 h2
theorem bd_ord (tl:Tail) (htl:tl.isOwn=false) (o:List Nat):PV.bds 0 [s.v t1 t2,.sl tl (o.map N)]=true:=bd_shpV s h1 h2 (by simp only [PV.bds,bd_sl (f:=N) htl (fun _=>rfl),Bool.and_true])
theorem f77 {H : Int} (hs : s.ok H) (tl : Tail) (htl : tl.isOwn = false) (o : List Nat) (hl : o.length ≤ 100) (ho : ∀ i ∈ o, i < s.jo.length) : Fn P0 77 [s.v t1 t2, .sl tl (o.map N)] (fltV (s.flt (s.alg Shp.p0 o))) := by
  have hal:=f73 s h1 h2 hs tl o hl ho
  have hbo:=bd_ord s h1 h2 tl htl o
  have hJ:=fun {k:Nat} hk=>alg_J hs.jo ho (k:=k) hk
  have hru:=f97 s h1 h2
  have hbs:PV.bds 0 [s.v t1 t2]=true:=bd_shpV s h1 h2 rfl
  have hbw:∀ w:Wrk,PV.bds 0 [s.v t1 t2,w.v]=true:=fun w=>bd_shpV s h1 h2 rfl
  have hbt:∀ w:Wrk,PV.bds 0 [.agg [.fn (.func 110) [s.v t1 t2] []],w.v]=true:=fun w=>bds_cons (bd_agg (bds_cons (by rw [PV.bd,hbs];rfl) rfl)) rfl
  have hbt':PV.bds 0 [.agg [.fn (.func 110) [s.v t1 t2] []]]=true:=bds_cons (bd_agg (bds_cons (by rw [PV.bd,hbs];rfl) rfl)) rfl
  have hwl:(s.alg Shp.p0 o).length≤100:=by rw [alg_len];exact hl
  change Fn P0 73 _ (.sl .no ((s.alg Shp.p0 o).map Wrk.v)) at hal
  generalize s.alg Shp.p0 o=ws at *
  refine PFun.of (C:=c77) (cx_ok _ _ _) rfl (fn:=Try.f77) (by kernel_rfl) (c:=_) rfl rfl rfl ?_
  refine Run.seq (Run.region (cx_ok _ _ _) (Reg.op rfl (Ope.boxF rfl rfl ?_)))
  refine Reg.op rfl (Ope.newL rfl ?_)
  refine Reg.op rfl (Ope.asg rfl ?_)
  refine Reg.nil (Run.seq (Run.seq (Run.region (cx_ok _ _ _) (Reg.op rfl (Ope.load rfl rfl ?_)))))
  refine Reg.op rfl (Ope.mov rfl ?_)
  refine Reg.op rfl (Ope.cf rfl rfl hal hbo ?_)
  refine Reg.op rfl (Ope.len (m:=ws.length) rfl (by simp) ?_)
  refine Reg.op rfl (Ope.mov rfl ?_)
  refine Reg.nil (Run.block (Run.loop (α:=Nat×Nat) (fun t=>[(2,.fp (s.v t1 t2)),(4,.ptr 0 0),(12,.sl .no (ws.map Wrk.v)),(13,I ws.length),(14,I t.1)]) (fun t=>HE t.2 [(0,some (.cells [I 0,I 0]))]) (fun t=>t.1≤ws.length∧(∀ k (hk:k < ws.length),k < t.1→s.bad ws[k]=0)∧1≤t.2) (fun t=>ws.length - t.1) (0,1) ⟨rfl,rfl,rfl,rfl,rfl,trivial⟩ rfl ⟨Nat.zero_le _,fun k _ hk=>absurd hk (Nat.not_lt_zero _),Nat.le_refl _⟩ (fun t ht=>?_)))
  obtain ⟨i,m⟩:=t
  obtain ⟨hi,hbad,hm1⟩:=ht
  simp only at hi hbad hm1
  refine Run.seq (Run.region (cx_ok _ _ _) (Reg.op rfl (Ope.lt rfl rfl ?_)))
  refine Reg.nil (Run.seq (Run.condX rfl (fun hc=>?_) fun hc=>?_))
  ·first
   |(exfalso;omega)
   |refine Run.skip (Run.seq (Run.block (Run.seq ?_)))
    have hlt:i < ws.length:=by omega
    obtain ⟨hJi,hji⟩:=hJ hlt
    have hor:=f132 s h1 h2 hs ws[i] hJi hji
    have hti:=f134 s h1 h2 ws[i] hji
    have hbb:s.bad ws[i]=if s.early ws[i]=true then 1 else if s.late ws[i]=true then 2 else 0:=rfl
    have hfs:=flt_some (s:=s) hlt
    generalize hwi:ws[i]=w at *
    refine Run.region (cx_ok _ _ _) (Reg.op rfl (Ope.idxM (m:=i) (f:=Wrk.v) rfl rfl rfl hlt (fun _=>rfl) ?_))
    refine Reg.op rfl (Ope.load rfl rfl ?_)
    rw [hwi]
    refine Reg.op rfl (Ope.newL rfl ?_)
    refine Reg.op0 (Ope.store rfl rfl hget_hd rfl rfl rfl ?_)
    refine Reg.nil (Run.seq (Run.frz (d:=7) true rfl hget_hd rfl ?_))
    refine Run.wide (m:=m+1) (l':=[(0,some (.cells [I 0,I 0]))]) (Nat.le_refl _) ⟨(hget_tl (by omega)).trans ((hget_tl (by omega)).trans ((hget_tl (by omega)).trans rfl)),trivial⟩ ?_
    refine Run.region (cx_ok _ _ _) (Reg.op rfl (Ope.load rfl rfl ?_))
    refine Reg.op rfl (Ope.cf rfl rfl hru hbs ?_)
    refine Reg.op rfl (Ope.len (m:=2) rfl rfl ?_)
    refine Reg.op rfl (Ope.mov rfl ?_)
    refine Reg.nil (Run.block (Run.loop (α:=Nat) (fun r=>[(2,.fp (s.v t1 t2)),(4,.ptr 0 0),(12,.sl .no (ws.map Wrk.v)),(13,I ws.length),(14,I i),(7,.fp w.v),(19,.sl .ex (rulesV s (t1:=t1) (t2:=t2))),(20,I 2),(21,I r)]) (fun r=>HE (m+1) [(0,some (.cells [I 0,I 0]))]) (fun r=>r≤2∧(1≤r→s.early w=false)∧(2≤r→s.late w=false)) (fun r=>2 - r) 0 ⟨rfl,rfl,rfl,rfl,rfl,rfl,rfl,rfl,rfl,trivial⟩ rfl ⟨Nat.zero_le _,fun h=>absurd h (by decide),fun h=>absurd h (by decide)⟩ (fun r hr=>?_)))
    obtain ⟨hr2,hre,hrl⟩:=hr
    rcases (by omega:r=0∨r=1∨r=2) with rfl | rfl | rfl
    ·refine Run.seq (Run.region (cx_ok _ _ _) (Reg.op rfl (Ope.lt rfl rfl ?_)))
     refine Reg.nil (Run.seq (Run.condX rfl (fun hc=>?_) fun hc=>?_))
     ·first
      |(exfalso;omega)
      |refine Run.skip (Run.seq (Run.block (Run.seq (Run.region (cx_ok _ _ _) ?_))))
       first
       | refine Reg.op rfl (Ope.idxS (m:=0) rfl rfl rfl rfl rfl ?_)
       | refine Reg.op rfl (Ope.idxS (m:=1) rfl rfl rfl rfl rfl ?_)
       refine Reg.op rfl (Ope.load rfl rfl ?_)
       refine Reg.op rfl (Ope.asg rfl ?_)
       refine Reg.nil (Run.seq (Run.region (cx_ok _ _ _) (Reg.op rfl (Ope.mov rfl ?_))))
       refine Reg.op rfl (Ope.load rfl rfl ?_)
       first
       | refine Reg.op rfl (Ope.imP rfl rfl (pm_order s) hor (hbw w) ?_)
       | refine Reg.op rfl (Ope.imP rfl rfl (pm_time _) hti (hbt w) ?_)
       refine Reg.nil (Run.condX rfl (fun hc=>?_) fun hc=>?_)
       ·first
        |(exfalso;omega)
        |refine Run.seq (Run.draw (cx_ok _ _ _) [(0,true),(1,false),(2,true),(3,true),(4,true),(5,true),(6,true)] (by kernel_rfl) (Dra.op' rfl rfl rfl .sure (Ope.fld rfl rfl ?_)))
         refine Dra.op' rfl rfl rfl (.load rfl) (Ope.load rfl rfl ?_)
         refine Dra.op' rfl rfl rfl .sure (Ope.mov rfl ?_)
         first
         | refine Dra.op' rfl rfl rfl .sure (Ope.imP rfl rfl (pm_orderN s) (f133 s) hbs ?_)
         | refine Dra.op' rfl rfl rfl .sure (Ope.imP rfl rfl (pm_timeN _) (f135 s) hbt' ?_)
         refine Dra.op' rfl rfl rfl .sure (Ope.bld rfl rfl ?_)
         refine Dra.op' rfl rfl rfl .sure (Ope.store rfl rfl rfl rfl rfl rfl ?_)
         refine Dra.op' rfl rfl rfl .sure (Ope.asg rfl ?_)
         refine Dra.nil (Run.ret (Jmp.retB (Jmp.code (Jmp.round (Jmp.retB (Jmp.retB (Jmp.code (Jmp.round (Jmp.retB (Jmp.code (fin_ret (.cell rfl rfl (.tmp rfl .nil)) rfl ?_)))))))))))
         first
         | (rw [hfs (by rw [hbb,hc,if_pos rfl];decide) hbad,hbb,hc];rfl)
         | (rw [hfs (by rw [hbb,hre (by decide),if_neg (by decide),hc,if_pos rfl];decide) hbad,hbb,hre (by decide),hc];rfl)
         | (obtain rfl : i = ws.length := by omega
            rw [flt_none fun k hk=>hbad k hk hk];rfl)
       ·first
        |(exfalso;omega)
        |refine Run.skip (Run.bend (Run.region (cx_ok _ _ _) (Reg.op rfl (Ope.add rfl rfl (by omega) ?_))))
         refine Reg.op rfl (Ope.mov rfl ?_)
         refine Reg.nil ?_
         first
         | exact Run.lend ⟨1,by decide,⟨by decide,fun _=>hc,fun h=>absurd h (by decide)⟩,⟨rfl,rfl,rfl,rfl,rfl,rfl,rfl,rfl,rfl,trivial⟩,rfl,rfl⟩
         | exact Run.lend ⟨2,by decide,⟨by decide,fun _=>hre (by decide),fun _=>hc⟩,⟨rfl,rfl,rfl,rfl,rfl,rfl,rfl,rfl,rfl,trivial⟩,rfl,rfl⟩
     ·first
      |(exfalso;omega)
      |refine Run.exit (Jmp.code (Jmp.round (Jmp.here (Run.bend (Run.region (cx_ok _ _ _) (Reg.op rfl (Ope.add rfl rfl (by omega) ?_)))))))
       refine Reg.op rfl (Ope.mov rfl ?_)
       refine Reg.nil ?_
       exact Run.lend ⟨(i+1,m+1),by show ws.length - (i+1) < ws.length - i;omega,⟨by show i+1≤ws.length;omega,fun k hk hki=>by
         by_cases hkk:k=i
         · subst hkk
           rw [hwi,hbb,hre (by decide),hrl (by decide)];rfl
         · exact hbad k hk (by simp only at hki;omega),by show 1≤m+1;omega⟩,⟨rfl,rfl,rfl,rfl,rfl,trivial⟩,rfl,rfl⟩
    ·refine Run.seq (Run.region (cx_ok _ _ _) (Reg.op rfl (Ope.lt rfl rfl ?_)))
     refine Reg.nil (Run.seq (Run.condX rfl (fun hc=>?_) fun hc=>?_))
     ·first
      |(exfalso;omega)
      |refine Run.skip (Run.seq (Run.block (Run.seq (Run.region (cx_ok _ _ _) ?_))))
       first
       | refine Reg.op rfl (Ope.idxS (m:=0) rfl rfl rfl rfl rfl ?_)
       | refine Reg.op rfl (Ope.idxS (m:=1) rfl rfl rfl rfl rfl ?_)
       refine Reg.op rfl (Ope.load rfl rfl ?_)
       refine Reg.op rfl (Ope.asg rfl ?_)
       refine Reg.nil (Run.seq (Run.region (cx_ok _ _ _) (Reg.op rfl (Ope.mov rfl ?_))))
       refine Reg.op rfl (Ope.load rfl rfl ?_)
       first
       | refine Reg.op rfl (Ope.imP rfl rfl (pm_order s) hor (hbw w) ?_)
       | refine Reg.op rfl (Ope.imP rfl rfl (pm_time _) hti (hbt w) ?_)
       refine Reg.nil (Run.condX rfl (fun hc=>?_) fun hc=>?_)
       ·first
        |(exfalso;omega)
        |refine Run.seq (Run.draw (cx_ok _ _ _) [(0,true),(1,false),(2,true),(3,true),(4,true),(5,true),(6,true)] (by kernel_rfl) (Dra.op' rfl rfl rfl .sure (Ope.fld rfl rfl ?_)))
         refine Dra.op' rfl rfl rfl (.load rfl) (Ope.load rfl rfl ?_)
         refine Dra.op' rfl rfl rfl .sure (Ope.mov rfl ?_)
         first
         | refine Dra.op' rfl rfl rfl .sure (Ope.imP rfl rfl (pm_orderN s) (f133 s) hbs ?_)
         | refine Dra.op' rfl rfl rfl .sure (Ope.imP rfl rfl (pm_timeN _) (f135 s) hbt' ?_)
         refine Dra.op' rfl rfl rfl .sure (Ope.bld rfl rfl ?_)
         refine Dra.op' rfl rfl rfl .sure (Ope.store rfl rfl rfl rfl rfl rfl ?_)
         refine Dra.op' rfl rfl rfl .sure (Ope.asg rfl ?_)
         refine Dra.nil (Run.ret (Jmp.retB (Jmp.code (Jmp.round (Jmp.retB (Jmp.retB (Jmp.code (Jmp.round (Jmp.retB (Jmp.code (fin_ret (.cell rfl rfl (.tmp rfl .nil)) rfl ?_)))))))))))
         first
         | (rw [hfs (by rw [hbb,hc,if_pos rfl];decide) hbad,hbb,hc];rfl)
         | (rw [hfs (by rw [hbb,hre (by decide),if_neg (by decide),hc,if_pos rfl];decide) hbad,hbb,hre (by decide),hc];rfl)
         | (obtain rfl : i = ws.length := by omega
            rw [flt_none fun k hk=>hbad k hk hk];rfl)
       ·first
        |(exfalso;omega)
        |refine Run.skip (Run.bend (Run.region (cx_ok _ _ _) (Reg.op rfl (Ope.add rfl rfl (by omega) ?_))))
         refine Reg.op rfl (Ope.mov rfl ?_)
         refine Reg.nil ?_
         first
         | exact Run.lend ⟨1,by decide,⟨by decide,fun _=>hc,fun h=>absurd h (by decide)⟩,⟨rfl,rfl,rfl,rfl,rfl,rfl,rfl,rfl,rfl,trivial⟩,rfl,rfl⟩
         | exact Run.lend ⟨2,by decide,⟨by decide,fun _=>hre (by decide),fun _=>hc⟩,⟨rfl,rfl,rfl,rfl,rfl,rfl,rfl,rfl,rfl,trivial⟩,rfl,rfl⟩
     ·first
      |(exfalso;omega)
      |refine Run.exit (Jmp.code (Jmp.round (Jmp.here (Run.bend (Run.region (cx_ok _ _ _) (Reg.op rfl (Ope.add rfl rfl (by omega) ?_)))))))
       refine Reg.op rfl (Ope.mov rfl ?_)
       refine Reg.nil ?_
       exact Run.lend ⟨(i+1,m+1),by show ws.length - (i+1) < ws.length - i;omega,⟨by show i+1≤ws.length;omega,fun k hk hki=>by
         by_cases hkk:k=i
         · subst hkk
           rw [hwi,hbb,hre (by decide),hrl (by decide)];rfl
         · exact hbad k hk (by simp only at hki;omega),by show 1≤m+1;omega⟩,⟨rfl,rfl,rfl,rfl,rfl,trivial⟩,rfl,rfl⟩
    ·refine Run.seq (Run.region (cx_ok _ _ _) (Reg.op rfl (Ope.lt rfl rfl ?_)))
     refine Reg.nil (Run.seq (Run.condX rfl (fun hc=>?_) fun hc=>?_))
     ·first
      |(exfalso;omega)
      |refine Run.skip (Run.seq (Run.block (Run.seq (Run.region (cx_ok _ _ _) ?_))))
       first
       | refine Reg.op rfl (Ope.idxS (m:=0) rfl rfl rfl rfl rfl ?_)
       | refine Reg.op rfl (Ope.idxS (m:=1) rfl rfl rfl rfl rfl ?_)
       refine Reg.op rfl (Ope.load rfl rfl ?_)
       refine Reg.op rfl (Ope.asg rfl ?_)
       refine Reg.nil (Run.seq (Run.region (cx_ok _ _ _) (Reg.op rfl (Ope.mov rfl ?_))))
       refine Reg.op rfl (Ope.load rfl rfl ?_)
       first
       | refine Reg.op rfl (Ope.imP rfl rfl (pm_order s) hor (hbw w) ?_)
       | refine Reg.op rfl (Ope.imP rfl rfl (pm_time _) hti (hbt w) ?_)
       refine Reg.nil (Run.condX rfl (fun hc=>?_) fun hc=>?_)
       ·first
        |(exfalso;omega)
        |refine Run.seq (Run.draw (cx_ok _ _ _) [(0,true),(1,false),(2,true),(3,true),(4,true),(5,true),(6,true)] (by kernel_rfl) (Dra.op' rfl rfl rfl .sure (Ope.fld rfl rfl ?_)))
         refine Dra.op' rfl rfl rfl (.load rfl) (Ope.load rfl rfl ?_)
         refine Dra.op' rfl rfl rfl .sure (Ope.mov rfl ?_)
         first
         | refine Dra.op' rfl rfl rfl .sure (Ope.imP rfl rfl (pm_orderN s) (f133 s) hbs ?_)
         | refine Dra.op' rfl rfl rfl .sure (Ope.imP rfl rfl (pm_timeN _) (f135 s) hbt' ?_)
         refine Dra.op' rfl rfl rfl .sure (Ope.bld rfl rfl ?_)
         refine Dra.op' rfl rfl rfl .sure (Ope.store rfl rfl rfl rfl rfl rfl ?_)
         refine Dra.op' rfl rfl rfl .sure (Ope.asg rfl ?_)
         refine Dra.nil (Run.ret (Jmp.retB (Jmp.code (Jmp.round (Jmp.retB (Jmp.retB (Jmp.code (Jmp.round (Jmp.retB (Jmp.code (fin_ret (.cell rfl rfl (.tmp rfl .nil)) rfl ?_)))))))))))
         first
         | (rw [hfs (by rw [hbb,hc,if_pos rfl];decide) hbad,hbb,hc];rfl)
         | (rw [hfs (by rw [hbb,hre (by decide),if_neg (by decide),hc,if_pos rfl];decide) hbad,hbb,hre (by decide),hc];rfl)
         | (obtain rfl : i = ws.length := by omega
            rw [flt_none fun k hk=>hbad k hk hk];rfl)
       ·first
        |(exfalso;omega)
        |refine Run.skip (Run.bend (Run.region (cx_ok _ _ _) (Reg.op rfl (Ope.add rfl rfl (by omega) ?_))))
         refine Reg.op rfl (Ope.mov rfl ?_)
         refine Reg.nil ?_
         first
         | exact Run.lend ⟨1,by decide,⟨by decide,fun _=>hc,fun h=>absurd h (by decide)⟩,⟨rfl,rfl,rfl,rfl,rfl,rfl,rfl,rfl,rfl,trivial⟩,rfl,rfl⟩
         | exact Run.lend ⟨2,by decide,⟨by decide,fun _=>hre (by decide),fun _=>hc⟩,⟨rfl,rfl,rfl,rfl,rfl,rfl,rfl,rfl,rfl,trivial⟩,rfl,rfl⟩
     ·first
      |(exfalso;omega)
      |refine Run.exit (Jmp.code (Jmp.round (Jmp.here (Run.bend (Run.region (cx_ok _ _ _) (Reg.op rfl (Ope.add rfl rfl (by omega) ?_)))))))
       refine Reg.op rfl (Ope.mov rfl ?_)
       refine Reg.nil ?_
       exact Run.lend ⟨(i+1,m+1),by show ws.length - (i+1) < ws.length - i;omega,⟨by show i+1≤ws.length;omega,fun k hk hki=>by
         by_cases hkk:k=i
         · subst hkk
           rw [hwi,hbb,hre (by decide),hrl (by decide)];rfl
         · exact hbad k hk (by simp only at hki;omega),by show 1≤m+1;omega⟩,⟨rfl,rfl,rfl,rfl,rfl,trivial⟩,rfl,rfl⟩
  ·first
   |(exfalso;omega)
   |refine Run.exit (Jmp.code (Jmp.round (Jmp.here (Run.seq (Run.region (cx_ok _ _ _) (Reg.op rfl (Ope.bld rfl rfl ?_)))))))
    refine Reg.op0 (Ope.store rfl rfl rfl rfl rfl rfl ?_)
    refine Reg.op rfl (Ope.asg rfl ?_)
    refine Reg.nil (Run.ret (fin_ret (.cell rfl rfl (.tmp rfl .nil)) rfl ?_))
    first
    | (rw [hfs (by rw [hbb,hc,if_pos rfl];decide) hbad,hbb,hc];rfl)
    | (rw [hfs (by rw [hbb,hre (by decide),if_neg (by decide),hc,if_pos rfl];decide) hbad,hbb,hre (by decide),hc];rfl)
    | (obtain rfl : i = ws.length := by omega
       rw [flt_none fun k hk=>hbad k hk hk];rfl)
end
end Go.Pv
namespace Go.Pv
open Go.Am Go.RowKit
section
variable {C:Cx} {F:EQ} {X:EX} {k:List KI} {e:EL} {ds:List Nat} {h:PH} {n m:Nat} {l:HL}
end
end Go.Pv
namespace Go.Pv
open Go.Am Go.RowKit
section
variable {C:Cx} {F:EQ} {X:EX} {k:List KI} {e:EL} {ds:List Nat} {K:PV→PH→Prop} {n:Nat} {l:HL}
variable {d:Option Tmp} {type:TypeId} {pos:String} {after:Array Edge} {guard:Option (Nat×Bool)}
theorem Ope.storeP {t:Nat} {a x:Operand} {agg:Bool} {sz i o:Nat} {v:PV} {cs:List PV} [ht:Ty C.A t agg sz] (ha:pev (lget e) a=some (.ptr i o)) (hx:pev (lget e) x=some v) (hg:hget l i=some (.cells cs)) (hsz:v.nc=sz) (ho:PV.allOne v.cells=true)
  (hle:o+v.nc≤cs.length) (hK:K (.tup []) (HE n ((i,some (.cells (pputs cs o v.cells)))::l))):Ope C X { dst:=d,op:=.store t a x,type,pos,after,guard } e ds (HE n l) K:=by
 obtain ⟨d',ti,h1,h2,rfl,rfl⟩:=ht.get
 unfold Ope
 simp only [pop,pkind,ploud,ha,hx,PStore,h2]
 refine .inl ⟨cs,hg,hsz,hle,ho,?_⟩
 rw [HE_put]
 exact hK
theorem Run.frzB {c:Code} {x i len cap:Nat} {ez:Option Nat} {vs post pre suf:List PV} {sz:Nat} (hgx:hget l x=some (.cells (pre++.ms i 0 len cap ez::suf))) (hg:hget l i=some (.cells (flat vs++post))) (hxi:x≠i) (hl:len=vs.length) (hlc:len≤cap) (hnc:∀ v∈vs,v.nc=sz)
  (hr:Run C F X (.c c::k) e ds (HE n ((x,some (.cells (pre++.sl .no vs::suf)))::(i,none)::l))):Run C F X (.c c::k) e ds (HE n l):=by
 refine Run.ghost (fun t ht=>⟨t,ht,fun w0 s arr hw hh htv=>?_⟩) hr
 have hgi:s.h.get i=some (.cells (flat vs++post)):=by rw [hh];exact hg
 have hgx':s.h.get x=some (.cells (pre++.ms i 0 len cap ez::suf)):=by rw [hh];exact hgx
 obtain ⟨arr',tt,e2,e3,hin,e4⟩:=hw.cells hgi
 have hall:=Each.of hnc
 have hx1:=Ext.freeze (s:=s) (n:=vs.length * sz) e4
 have hw1:=hw.freeze (n:=vs.length * sz) hgi
 have hh1:(s.freeze i (vs.length * sz)).h=HE n ((i,none)::l):=by simp only [St.freeze,hh,HE_del]
 have hg1:(s.freeze i (vs.length * sz)).h.get x=some (.cells (pre++.ms i 0 len cap ez::suf)):=by
  rw [hh1];exact (hget_tl hxi).trans hgx
 have hslice:∀ y,RV s (.ms i 0 len cap ez) y→RV (s.freeze i (vs.length * sz)) (.sl .no vs) y:=fun y hy=>by
  obtain ⟨_,rfl⟩:=RV_ms.1 hy
  refine RV_sl.2 (.inr ⟨s.e i,0,cap,sz,by rw [hl],by omega,?_,trivial⟩)
  refine REs.of_flat hall (RMs.of_get fun q v hq=>?_)
  have hqlt:q < (flat vs).length:=(List.getElem?_eq_some_iff.1 hq).1
  have hql:=hqlt
  rw [flat_len hall] at hqlt
  obtain ⟨y,u1,u2⟩:=e3.get (a:=v) (i:=q) (by rw [List.getElem?_append_left hql];exact hq)
  refine ⟨y,?_,(R2.ext hx1 v).1 _ u2⟩
  rw [Nat.zero_add]
  exact fcell_new (upd_self _ _ _) hqlt e2 (by simpa using u1)
 obtain ⟨arrx,tx,f2,f3,fin,f4⟩:=hw.cells hgx'
 obtain ⟨p1,p2,p3⟩:=hw1.hp x _ hg1
 have hlv:=(BAt_live (b:=.cells (pre++.ms i 0 len cap ez::suf)) rfl).1 p2
 have hx2:Ext (s.freeze i (vs.length * sz)) ((s.freeze i (vs.length * sz)).put x (.cells (pre++.sl .no vs::suf)) (s.freeze i (vs.length * sz)).w):=Ext.put hlv (Nat.le_refl _) fun _ _=>rfl
 refine ⟨(s.freeze i (vs.length * sz)).put x (.cells (pre++.sl .no vs::suf)) (s.freeze i (vs.length * sz)).w,rfl,?_,hx1.trans hx2,?_,htv.ext (hx1.trans hx2)⟩
 ·refine ⟨hw1.os,hw1.tape,hw1.output,hw1.size,hw1.old,hw1.prot,hw1.cold,hw1.inb,hw1.ob,fun j b hj=>?_⟩
  simp only [St.put,PH.put] at hj
  split at hj
  ·next ej =>
   cases hj
   subst ej
   refine ⟨p1,(BAt_live (b:=.cells (pre++.sl .no vs::suf)) rfl).2 hlv,?_⟩
   obtain ⟨xs1,xs2,q1,q2,q3⟩:=RVs.split f3
   obtain ⟨y,ys,rfl,r1,r2⟩:=RVs_cons.1 q3
   refine ⟨arrx,tx,f2,?_⟩
   rw [q1]
   exact ((R2s.ext (hx1.trans hx2) _).1 _ q2).append (RVs_cons.2 ⟨y,ys,rfl,(R2.ext hx2 _).1 _ (hslice y r1),(R2s.ext (hx1.trans hx2) _).1 _ r2⟩)
  ·obtain ⟨q1,q2,q3⟩:=hw1.hp j b hj
   exact ⟨q1,BAt.congr (s':=(s.freeze i (vs.length * sz)).put x (.cells (pre++.sl .no vs::suf)) (s.freeze i (vs.length * sz)).w) (s:=s.freeze i (vs.length * sz)) rfl rfl q2,q3.ext hx2 rfl⟩
 ·simp only [St.put,hh1,HE_put]
end
def mkaP (A : AP) (t : TypeId) : Bool :=
 match A.under t with
 |some (.slice e)=>match A.info e with
  |some ie=>match ie.zero with
   |some z=>match z.cells.size == ie.size && Nat.ble 1 ie.size,ofCells z.cells.toList with
    |true,some cs=>(PV.ofAVs cs).isSome
    |_,_=>false
   |none=>false
  |none=>false
 |_=>false
class Mka (A:AP) (t:Nat):Prop where
 ok:mkaP A t=true
theorem ofAVs_app:∀ {a b:List AV} {x y:List PV},PV.ofAVs a=some x→PV.ofAVs b=some y→PV.ofAVs (a++b)=some (x++y)
 |[],b,x,y,h,k=>by
  cases h
  exact k
 |v :: a, b, x, y, h, k => by
  simp only [PV.ofAVs] at h
  simp only [List.cons_append,PV.ofAVs]
  cases hv:PV.ofAV v with
  |none=>simp [hv] at h
  |some v' =>
   cases ha:PV.ofAVs a with
   |none=>simp [hv,ha] at h
   |some a' =>
    simp [hv,ha] at h
    subst h
    rw [ofAVs_app ha k]
    rfl
theorem ofAVs_copies {cs:List AV} {ps:List PV} (h:PV.ofAVs cs=some ps):∀ n,∃ vs,PV.ofAVs (acopies cs n)=some vs
 |0=>⟨[],rfl⟩
 |n+1=>let ⟨vs,hv⟩:=ofAVs_copies h n;⟨ps++vs,ofAVs_app h hv⟩
theorem Mka.get {A:AP} {t:Nat} (h:Mka A t):∃ e,A.under t=some (.slice e)∧∀ n,∃ zs vs,azeros A e n=some zs∧PV.ofAVs zs=some vs:=by
 have h1:=h.ok
 unfold mkaP at h1
 split at h1
 case h_2=>cases h1
 next e hu =>
 split at h1
 case h_2=>cases h1
 next ie hie =>
 split at h1
 case h_2=>cases h1
 next zz hz =>
 split at h1
 case h_2=>cases h1
 next cs hb hcs =>
 obtain ⟨ps,hps⟩:=Option.isSome_iff_exists.1 h1
 refine ⟨e,hu,fun n=>?_⟩
 obtain ⟨vs,hv⟩:=ofAVs_copies hps n
 refine ⟨acopies cs n,vs,?_,hv⟩
 unfold azeros
 simp only [hie,hz,hb,hcs]
section
variable {C:Cx} {F:EQ} {X:EX} {k:List KI} {e:EL} {ds:List Nat} {K:PV→PH→Prop} {n:Nat} {l:HL}
variable {d:Option Tmp} {type:TypeId} {pos:String} {after:Array Edge} {guard:Option (Nat×Bool)}
theorem Ope.apLa {t tx sz bytes sz' bytes':Nat} {agg agg':Bool} {x y:Operand} {tl':Tail} {vs ws:List PV} [hs:Slc C.A t agg sz bytes] [hm:Mka C.A t] [hs':Slc C.A tx agg' sz' bytes'] (hx:pev (lget e) x=some (.sl .ex vs)) (hy:pev (lget e) y=some (.sl tl' ws)) (hne:ws≠[])
  (hb1:(vs.length+ws.length) * bytes≤140737488355328) (hb2:vs.length+ws.length≤1000000000) (h1:1≤sz) (hv:∀ v∈vs,v.nc=sz) (hw:∀ v∈ws,v.nc=sz∧PV.allOne v.cells=true)
  (hK:∀ c post ez,vs.length+ws.length≤c→K (.ms n 0 (vs.length+ws.length) c ez) (HE (n+1) ((n,some (.cells (flat (vs++ws)++post)))::l))) :
  Ope C X { dst:=d,op:=.call { callee:=.builtin .append,args:=#[x,y],argTypes:=#[t,tx] },type,pos,after,guard } e ds (HE n l) K:=by
 obtain ⟨el,ti,q1,q2,q3,q4,q5⟩:=hs.get
 obtain ⟨d',ti',h4,h5,rfl,rfl⟩:=q2.get
 rw [q3] at h5
 cases h5
 subst q4
 obtain ⟨el',ti',q1',_⟩:=hs'.get
 obtain ⟨el2,r1,r4⟩:=hm.get
 rw [q1] at r1
 cases r1
 unfold Ope
 simp only [pop,pkind,ploud,pargs,hx,hy,PAppend,q1,q1',q3]
 refine .inr ⟨hne,hb1,hb2,h1,q5,Each.of hv,Each.of hw,.inr (.inr ⟨r4,fun c vs' p1 p2=>?_⟩)⟩
 rw [HE_add]
 exact hK c vs' _ p1
end
end Go.Pv
namespace Go.Pv
open Go.Proofs Go.Am
set_option maxRecDepth 10000
instance:Mka A0 23:=⟨by kernel_rfl⟩
theorem und_jobs:A0.under 23=some (.slice 48):=by kernel_rfl
def Job.lon (n:Int) (j:Job):Job:={ j with hi:=j.hi+n }
def Shp.lon (n:Int) (s:Shp):Shp:=⟨s.su,s.jo.map (Job.lon n)⟩
def lonN (n:Int):Nat→List Job→List Job
  | 0,js=>js
  | _+1,[]=>[]
  | i+1,j::js=>j.lon n::lonN n i js
theorem lonN_all (n:Int):∀ js:List Job,lonN n js.length js=js.map (Job.lon n)
  | []=>rfl
  | j::js=>by simp only [List.length_cons,lonN,List.map_cons,lonN_all n js]
theorem lonN_len (n:Int):∀ (i:Nat) (js:List Job),(lonN n i js).length=js.length
  | 0,_=>rfl
  | _+1,[]=>rfl
  | i+1,j::js=>by simp only [lonN,List.length_cons,lonN_len n i js]
theorem pputs_app (A B:List PV) (a o:Nat) (vs:List PV) (h:A.length=a):pputs (A++B) (a+o) vs=A++pputs B o vs:=by
  subst h
  unfold pputs
  rw [List.take_append,List.drop_append]
  have e1:A.length+o - A.length=o:=by omega
  have e2:A.length+o+vs.length - A.length=o+vs.length:=by omega
  rw [e1,e2,List.take_of_length_le (by omega),List.drop_eq_nil_of_le (by omega)]
  simp [List.append_assoc]
theorem pputs_at (A B:List PV) (o:Nat) (vs:List PV) (h:o+vs.length≤A.length):pputs (A++B) o vs=pputs A o vs++B:=by
  unfold pputs
  rw [List.take_append_of_le_length (by omega),List.drop_append_of_le_length (by omega)]
  simp [List.append_assoc]
theorem flat_jobs:∀ S:List Job,(flat (S.map Job.v)).length=8 * S.length
  | []=>rfl
  | s :: S => by
    simp only [List.map_cons,flat,List.length_append,flat_jobs S,List.length_cons]
    show 8+_=_
    omega
theorem pputs_lon (n:Int) (post:List PV):∀ (i:Nat) (js:List Job) (h:i < js.length),
    pputs (flat ((lonN n i js).map Job.v)++post) (8 * i+2) [I (js[i].hi+n)]=flat ((lonN n (i+1) js).map Job.v)++post
  | 0, j :: js, h => by
    simp only [lonN,List.map_cons,flat,List.append_assoc]
    rw [Nat.mul_zero,Nat.zero_add,pputs_at _ _ _ _ (by show _≤8;simp only [List.length_cons,List.length_nil];omega)]
    rfl
  | i + 1, j :: js, h => by
    have ih:=pputs_lon n post i js (by simpa using h)
    simp only [lonN,List.map_cons,flat,List.append_assoc,List.getElem_cons_succ]
    rw [show 8 * (i+1)+2=8+(8 * i+2) from by omega,pputs_app _ _ 8 _ _ rfl,ih]
theorem get_lon (n:Int) (post:List PV):∀ (i:Nat) (js:List Job) (h:i < js.length),(flat ((lonN n i js).map Job.v)++post)[8 * i+2]?=some (I js[i].hi)
  | 0,j::js,h=>rfl
  | i + 1, j :: js, h => by
    have ih:=get_lon n post i js (by simpa using h)
    simp only [lonN,List.map_cons,flat,List.append_assoc,List.getElem_cons_succ]
    rw [show 8 * (i+1)+2=8+(8 * i+2) from by omega,List.getElem?_append_right (by show 8≤_;omega)]
    show (_:List PV)[8+(8 * i+2) - 8]?=_
    rw [show 8+(8 * i+2) - 8=8 * i+2 from by omega]
    exact ih
theorem f98e (tl:Tail):Fn P0 98 [.sl tl (([]:List Job).map Job.v)] (.sl .ex []):=by
  refine PFun.of (C:=c98) (cx_ok _ _ _) rfl (fn:=Try.f98) (by kernel_rfl) (c:=_) rfl rfl rfl ?_
  refine Run.seq (Run.region (cx_ok _ _ _) (Reg.op rfl (Ope.asg rfl ?_)))
  refine Reg.nil (Run.seq (Run.seq (Run.nilS (cx_ok _ _ _) (x:=0) (tl:=tl) (vs:=[]) rfl rfl und_jobs rfl rfl (fun b hb=>?_))))
  refine Run.condX rfl (fun hc=>?_) fun hc=>?_
  ·refine Run.seq (Run.region (cx_ok _ _ _) (Reg.op rfl (Ope.asg rfl ?_)))
   exact Reg.nil (Run.ret (Jmp.code (fin_ret (.tmp rfl .nil) rfl rfl)))
  ·refine Run.skip (Run.seq (Run.region (cx_ok _ _ _) (Reg.op rfl (Ope.bsl rfl rfl rfl rfl ?_))))
   refine Reg.op rfl (Ope.mov rfl ?_)
   refine Reg.op rfl (Ope.ap0 rfl rfl ?_)
   refine Reg.op rfl (Ope.asg rfl ?_)
   exact Reg.nil (Run.ret (fin_ret (.tmp rfl .nil) rfl rfl))
theorem f98l (tl:Tail) (js:List Job) (hne:js≠[]) (hl:js.length≤1000) (n:Nat) (l:HL):PCall P0 98 [.sl tl (js.map Job.v)] (HE n l) (fun v h'=>∃ cp post ez,js.length≤cp∧v=.ms n 0 js.length cp ez∧h'=HE (n+1) ((n,some (.cells (flat (js.map Job.v)++post)))::l)) fun _ _=>False:=by
  have hne':js.map Job.v≠[]:=fun h=>hne (List.map_eq_nil_iff.1 h)
  have hln:([]:List PV).length+(js.map Job.v).length=js.length:=by simp
  refine PCall.ofH (C:=c98) (cx_ok _ _ _) rfl (fn:=Try.f98) (by kernel_rfl) (c:=_) rfl rfl rfl (fun hok=>?_)
  refine Run.seq (Run.region (cx_ok _ _ _) (Reg.op rfl (Ope.asg rfl ?_)))
  refine Reg.nil (Run.seq (Run.seq (Run.nilS (cx_ok _ _ _) (x:=0) (tl:=tl) (vs:=js.map Job.v) rfl rfl und_jobs rfl rfl (fun b hb=>?_))))
  refine Run.condX rfl (fun hc=>?_) fun hc=>?_
  ·(exfalso;rw [hb hne'] at hc;cases hc)
  ·refine Run.skip (Run.seq (Run.region (cx_ok _ _ _) (Reg.op rfl (Ope.bsl rfl rfl rfl rfl ?_))))
   refine Reg.op rfl (Ope.mov rfl ?_)
   refine Reg.op rfl (Ope.apLa rfl rfl hne' (by rw [hln];omega) (by rw [hln];omega) (by decide) (by simp) (by intro v hv;obtain ⟨_,_,rfl⟩:=List.mem_map.1 hv;exact ⟨rfl,rfl⟩) (fun cp post ez hcp=>?_))
   rw [hln]
   refine Reg.op rfl (Ope.asg rfl ?_)
   exact Reg.nil (Run.ret (finH_ret (.tmp rfl .nil) (Nat.le_refl _) (fun _ _ h=>h) ⟨cp,post,ez,by omega,rfl,rfl⟩))
section
variable (s:Shp) {t1 t2:Tail} (h1:t1.isOwn=false) (h2:t2.isOwn=false)
include h1 h2
theorem f80e (hj:s.jo=[]) (n:Int):Fn P0 80 [s.v t1 t2,I n] ((s.lon n).v t1 .ex):=by
  have hbc:PV.bds 0 [.sl t2 (s.jo.map Job.v)]=true:=by simp only [PV.bds,bd_sl (f:=Job.v) h2 (fun _=>rfl),Bool.and_true]
  have hc:=f98e t2
  have hbr:PV.bd 0 (.agg [.sl t1 (s.su.map I),.sl .ex []])=true:=bd_agg (bds_cons (bd_sl (f:=I) h1 (fun _=>rfl) _) rfl)
  obtain ⟨su,jo⟩:=s
  simp only at hj
  subst hj
  refine PFun.of (C:=c80) (cx_ok _ _ _) rfl (fn:=Try.f80) (by kernel_rfl) (c:=_) rfl rfl rfl ?_
  refine Run.seq (Run.region (cx_ok _ _ _) (Reg.op rfl (Ope.boxL rfl rfl ?_)))
  refine Reg.op rfl (Ope.newL rfl ?_)
  refine Reg.nil (Run.seq (Run.region (cx_ok _ _ _) (Reg.op rfl (Ope.fld rfl rfl ?_))))
  refine Reg.op rfl (Ope.fld rfl rfl ?_)
  refine Reg.op rfl (Ope.load rfl rfl ?_)
  refine Reg.op rfl (Ope.cf rfl rfl hc hbc ?_)
  refine Reg.op rfl (Ope.fld rfl rfl ?_)
  refine Reg.op rfl (Ope.fld rfl rfl ?_)
  refine Reg.op0 (Ope.store rfl rfl rfl rfl rfl rfl ?_)
  refine Reg.nil (Run.seq (Run.seq (Run.region (cx_ok _ _ _) (Reg.op rfl (Ope.fld rfl rfl ?_)))))
  refine Reg.op rfl (Ope.fld rfl rfl ?_)
  refine Reg.op rfl (Ope.load rfl rfl ?_)
  first | refine Reg.op rfl (Ope.len rfl (List.length_map _) ?_) | refine Reg.op rfl (Ope.len rfl rfl ?_) | refine Reg.op rfl (Ope.lenL rfl ?_)
  refine Reg.op rfl (Ope.mov rfl ?_)
  refine Reg.nil (Run.block (Run.loop (α:=Nat) (fun i=>[(2,.ptr 0 0),(4,.ptr 1 0),(15,I 0),(16,I i)]) (fun _=>HE 2 [(0,some (.cells [.sl t1 (su.map I),.sl .ex []])),(1,some (.cells [.sl .ex [],.sl .ex []])),(0,some (.cells [.sl t1 (su.map I),.sl t2 []]))]) (fun i=>i=0) (fun i=>i) 0 ⟨rfl,rfl,rfl,rfl,trivial⟩ rfl rfl (fun i hi=>?_)))
  subst hi
  refine Run.seq (Run.region (cx_ok _ _ _) (Reg.op rfl (Ope.lt rfl rfl ?_)))
  refine Reg.nil (Run.seq (Run.condX rfl (fun hc=>?_) fun hc=>?_))
  ·first
   |(exfalso;omega)
   |refine Run.skip (Run.seq (Run.block (Run.seq (Run.region (cx_ok _ _ _) (Reg.op rfl (Ope.mov rfl ?_))))))
    refine Reg.op rfl (Ope.asg rfl ?_)
    refine Reg.nil (Run.region (cx_ok _ _ _) (Reg.op rfl (Ope.fld rfl rfl ?_)))
    refine Reg.op rfl (Ope.fld rfl rfl ?_)
    refine Reg.op rfl (Ope.load rfl rfl ?_)
    refine Reg.op rfl (Ope.mov rfl ?_)
    first | refine Reg.op rfl (Ope.idxM rfl rfl rfl (by first | assumption | omega) (fun _=>rfl) ?_) | refine Reg.op rfl (Ope.idxL rfl rfl rfl (by first | assumption | omega) ?_)
    refine Reg.op rfl (Ope.fld rfl rfl ?_)
    refine Reg.op rfl (Ope.fld rfl rfl ?_)
    refine Reg.op rfl (Ope.load rfl rfl ?_)
    refine Reg.op rfl (Ope.mov rfl ?_)
    refine Reg.op rfl (Ope.add rfl rfl (by omega) ?_)
    first | refine Reg.op rfl (Ope.idxM rfl rfl rfl (by first | assumption | omega) (fun _=>rfl) ?_) | refine Reg.op rfl (Ope.idxL rfl rfl rfl (by first | assumption | omega) ?_)
    refine Reg.op rfl (Ope.fld rfl rfl ?_)
    refine Reg.op rfl (Ope.fld rfl rfl ?_)
    refine Reg.op0 (Ope.store rfl rfl rfl rfl rfl rfl ?_)
    refine Reg.nil (Run.bend (Run.region (cx_ok _ _ _) (Reg.op rfl (Ope.add rfl rfl (by omega) ?_))))
    refine Reg.op rfl (Ope.mov rfl ?_)
    refine Reg.nil (Run.lend ?_)
  ·first
   |(exfalso;omega)
   |refine Run.exit (Jmp.code (Jmp.round (Jmp.here (Run.seq (Run.region (cx_ok _ _ _) (Reg.op rfl (Ope.load rfl rfl ?_)))))))
    refine Reg.op0 (Ope.store rfl rfl rfl rfl rfl rfl ?_)
    exact Reg.nil (Run.ret (fin_ret (.cell rfl rfl .nil) hbr rfl))
theorem f80l {H:Int} (hs:s.ok H) (hne:s.jo≠[]) (n:Int) (hn:0≤n∧n≤100):Fn P0 80 [s.v t1 t2,I n] ((s.lon n).v t1 .no):=by
  have hjv:=hs.jv
  have hH:=hs.hH
  have hl6:=hs.jo
  have hc:=fun m l=>f98l t2 s.jo hne (by omega) m l
  have hbr:PV.bd 0 (.agg [.sl t1 (s.su.map I),.sl .no ((s.jo.map (Job.lon n)).map Job.v)])=true:=bd_agg (bds_cons (bd_sl (f:=I) h1 (fun _=>rfl) _) (bds_cons (bd_sl (f:=Job.v) (tl:=.no) rfl (fun _=>rfl) _) rfl))
  obtain ⟨su,jo⟩:=s
  simp only at hjv hl6 hc hne hbr
  refine PFun.of (C:=c80) (cx_ok _ _ _) rfl (fn:=Try.f80) (by kernel_rfl) (c:=_) rfl rfl rfl ?_
  refine Run.seq (Run.region (cx_ok _ _ _) (Reg.op rfl (Ope.boxL rfl rfl ?_)))
  refine Reg.op rfl (Ope.newL rfl ?_)
  refine Reg.nil (Run.seq (Run.region (cx_ok _ _ _) (Reg.op rfl (Ope.fld rfl rfl ?_))))
  refine Reg.op rfl (Ope.fld rfl rfl ?_)
  refine Reg.op rfl (Ope.load rfl rfl ?_)
  refine Reg.op rfl (Ope.call rfl rfl rfl ((hc _ _).mono (fun v h' q=>?_) fun _ _ q=>q.elim))
  obtain ⟨cp,post,ez,hcp,rfl,rfl⟩:=q
  refine Reg.op rfl (Ope.fld rfl rfl ?_)
  refine Reg.op rfl (Ope.fld rfl rfl ?_)
  refine Reg.op0 (Ope.store rfl rfl ((hget_tl (by omega)).trans rfl) rfl rfl rfl ?_)
  refine Reg.nil (Run.seq (Run.seq (Run.region (cx_ok _ _ _) (Reg.op rfl (Ope.fld rfl rfl ?_)))))
  refine Reg.op rfl (Ope.fld rfl rfl ?_)
  refine Reg.op rfl (Ope.loadH rfl hget_hd rfl ?_)
  refine Reg.op rfl (Ope.lenL rfl ?_)
  refine Reg.op rfl (Ope.mov rfl ?_)
  refine Reg.nil (Run.block (Run.wide (m:=3) (l':=[(2,some (.cells (flat ((lonN n 0 jo).map Job.v)++post))),(0,some (.cells [.sl t1 (su.map I),.ms 2 0 jo.length cp ez])),(1,some (.cells [.sl .ex [],.sl .ex []]))]) (Nat.le_refl _) ⟨rfl,rfl,rfl,trivial⟩ ?_))
  refine Run.loop (α:=Nat) (fun i=>[(1,I n),(2,.ptr 0 0),(4,.ptr 1 0),(15,I jo.length),(16,I i)]) (fun i=>HE 3 [(2,some (.cells (flat ((lonN n i jo).map Job.v)++post))),(0,some (.cells [.sl t1 (su.map I),.ms 2 0 jo.length cp ez])),(1,some (.cells [.sl .ex [],.sl .ex []]))]) (fun i=>i≤jo.length) (fun i=>jo.length - i) 0 ⟨rfl,rfl,rfl,rfl,rfl,trivial⟩ rfl (Nat.zero_le _) (fun i hi=>?_)
  refine Run.seq (Run.region (cx_ok _ _ _) (Reg.op rfl (Ope.lt rfl rfl ?_)))
  refine Reg.nil (Run.seq (Run.condX rfl (fun hc=>?_) fun hc=>?_))
  ·refine Run.skip (Run.seq (Run.block (Run.seq ?_)))
   have hlt:i < jo.length:=by omega
   have hmi:=(hjv i hlt).mi
   have hgl:=get_lon n post i jo hlt
   have hpl:=pputs_lon n post i jo hlt
   have hll:=lonN_len n i jo
   have hflat:(flat ((lonN n i jo).map Job.v)++post).length=8 * jo.length+post.length:=by rw [List.length_append,flat_jobs,hll]
   have hld:∀ o,o=8 * i+2→loadK false 1 [(2,some (PBlk.cells (flat ((lonN n i jo).map Job.v)++post))),(0,some (.cells [.sl t1 (su.map I),.ms 2 0 jo.length cp ez])),(1,some (.cells [.sl .ex [],.sl .ex []]))] (.ptr 2 o)=some (I jo[i].hi):=fun o ho=>by
     subst ho
     show nthK _ _=_
     rw [nthK_eq]
     exact hgl
   refine Run.region (cx_ok _ _ _) (Reg.op rfl (Ope.mov rfl ?_))
   refine Reg.op rfl (Ope.asg rfl ?_)
   refine Reg.nil (Run.region (cx_ok _ _ _) (Reg.op rfl (Ope.fld rfl rfl ?_)))
   refine Reg.op rfl (Ope.fld rfl rfl ?_)
   refine Reg.op rfl (Ope.load rfl rfl ?_)
   refine Reg.op rfl (Ope.mov rfl ?_)
   refine Reg.op rfl (Ope.idxL (m:=i) rfl rfl rfl hlt ?_)
   refine Reg.op rfl (Ope.fld rfl rfl ?_)
   refine Reg.op rfl (Ope.fld rfl rfl ?_)
   refine Reg.op rfl (Ope.load rfl (hld _ (by show 0+i * 8+1+1=8 * i+2;omega)) ?_)
   refine Reg.op rfl (Ope.mov rfl ?_)
   refine Reg.op rfl (Ope.add rfl rfl (by omega) ?_)
   refine Reg.op rfl (Ope.idxL (m:=i) rfl rfl rfl hlt ?_)
   refine Reg.op rfl (Ope.fld rfl rfl ?_)
   refine Reg.op rfl (Ope.fld rfl rfl ?_)
   refine Reg.op0 (Ope.storeP rfl rfl rfl rfl rfl (by rw [hflat];show (0+i * 8)+1+1+1≤_;omega) ?_)
   refine Reg.nil (Run.bend (Run.wide (m:=3) (l':=[(2,some (.cells (flat ((lonN n (i+1) jo).map Job.v)++post))),(0,some (.cells [.sl t1 (su.map I),.ms 2 0 jo.length cp ez])),(1,some (.cells [.sl .ex [],.sl .ex []]))]) (Nat.le_refl _) ⟨congrArg (fun l=>some (PBlk.cells l)) (by rw [← hpl];show pputs _ (0+i * 8+1+1) _=_;congr 1;omega),rfl,rfl,trivial⟩ ?_))
   refine Run.region (cx_ok _ _ _) (Reg.op rfl (Ope.add rfl rfl (by omega) ?_))
   refine Reg.op rfl (Ope.mov rfl ?_)
   exact Reg.nil (Run.lend ⟨i+1,by omega,by omega,⟨rfl,rfl,rfl,rfl,rfl,trivial⟩,rfl,rfl⟩)
  ·refine Run.exit (Jmp.code (Jmp.round (Jmp.here (Run.seq ?_))))
   obtain rfl:i=jo.length:=by omega
   rw [lonN_all]
   refine Run.frzB (x:=0) (i:=2) (pre:=[.sl t1 (su.map I)]) (suf:=[]) (vs:=(jo.map (Job.lon n)).map Job.v) (post:=post) (sz:=8) rfl rfl (by decide) (by simp) (by omega) (by intro v hv;obtain ⟨_,_,rfl⟩:=List.mem_map.1 hv;rfl) ?_
   refine Run.region (cx_ok _ _ _) (Reg.op rfl (Ope.load rfl rfl ?_))
   refine Reg.op0 (Ope.store rfl rfl rfl rfl rfl rfl ?_)
   exact Reg.nil (Run.ret (fin_ret (.cell rfl rfl .nil) hbr rfl))
theorem f80 {H:Int} (hs:s.ok H) (n:Int) (hn:0≤n∧n≤100):∃ t3:Tail,t3.isOwn=false∧Fn P0 80 [s.v t1 t2,I n] ((s.lon n).v t1 t3):=by
  by_cases h:s.jo=[]
  · have := f80e s h1 h2 h n
    exact ⟨.ex,rfl,this⟩
  · exact ⟨.no,rfl,f80l s h1 h2 hs h n hn⟩
def Shp.rgt (s:Shp) (o:List Nat):Bool:=(s.flt (s.alg Shp.p0 o)).isNone
theorem f79 {H:Int} (hs:s.ok H) (tl:Tail) (htl:tl.isOwn=false) (o:List Nat) (hl:o.length≤100) (ho:∀ i∈o,i < s.jo.length):Fn P0 79 [s.v t1 t2,.sl tl (o.map N)] (B (s.rgt o)):=by
  have hf:=f77 s h1 h2 hs tl htl o hl ho
  have hbo:=bd_ord s h1 h2 tl htl o
  unfold Shp.rgt
  cases hfl:s.flt (s.alg Shp.p0 o) with
  | none =>
    rw [hfl] at hf
    refine PFun.of (C:=c79) (cx_ok _ _ _) rfl (fn:=Try.f79) (by kernel_rfl) (c:=_) rfl rfl rfl ?_
    refine Run.seq (Run.region (cx_ok _ _ _) (Reg.op rfl (Ope.boxF rfl rfl ?_)))
    refine Reg.op rfl (Ope.asg rfl ?_)
    refine Reg.nil (Run.seq (Run.region (cx_ok _ _ _) (Reg.op rfl (Ope.load rfl rfl ?_))))
    refine Reg.op rfl (Ope.mov rfl ?_)
    refine Reg.op rfl (Ope.cf rfl rfl hf hbo ?_)
    refine Reg.op rfl (Ope.mov rfl ?_)
    refine Reg.op rfl (Ope.ext rfl rfl ?_)
    refine Reg.op rfl (Ope.ext rfl rfl ?_)
    refine Reg.op rfl (Ope.newL rfl ?_)
    refine Reg.op0 (Ope.store rfl rfl rfl rfl rfl rfl ?_)
    refine Reg.op rfl (Ope.asg rfl ?_)
    refine Reg.nil (Run.seq (Run.region (cx_ok _ _ _) (Reg.op rfl (Ope.mov rfl ?_))))
    refine Reg.op rfl (Ope.not rfl ?_)
    refine Reg.op rfl (Ope.asg rfl ?_)
    exact Reg.nil (Run.ret (fin_ret (.tmp rfl .nil) rfl rfl))
  | some q =>
    obtain ⟨j,r⟩:=q
    rw [hfl] at hf
    refine PFun.of (C:=c79) (cx_ok _ _ _) rfl (fn:=Try.f79) (by kernel_rfl) (c:=_) rfl rfl rfl ?_
    refine Run.seq (Run.region (cx_ok _ _ _) (Reg.op rfl (Ope.boxF rfl rfl ?_)))
    refine Reg.op rfl (Ope.asg rfl ?_)
    refine Reg.nil (Run.seq (Run.region (cx_ok _ _ _) (Reg.op rfl (Ope.load rfl rfl ?_))))
    refine Reg.op rfl (Ope.mov rfl ?_)
    refine Reg.op rfl (Ope.cf rfl rfl hf hbo ?_)
    refine Reg.op rfl (Ope.mov rfl ?_)
    refine Reg.op rfl (Ope.ext rfl rfl ?_)
    refine Reg.op rfl (Ope.ext rfl rfl ?_)
    refine Reg.op rfl (Ope.newL rfl ?_)
    refine Reg.op0 (Ope.store rfl rfl rfl rfl rfl rfl ?_)
    refine Reg.op rfl (Ope.asg rfl ?_)
    refine Reg.nil (Run.seq (Run.region (cx_ok _ _ _) (Reg.op rfl (Ope.mov rfl ?_))))
    refine Reg.op rfl (Ope.not rfl ?_)
    refine Reg.op rfl (Ope.asg rfl ?_)
    exact Reg.nil (Run.ret (fin_ret (.tmp rfl .nil) rfl rfl))
theorem f51f {H:Int} (hs:s.ok H) (tl:Tail) (htl:tl.isOwn=false) (o:List Nat) (hl:o.length≤100) (ho:∀ i∈o,i < s.jo.length) {j:Nat} {r:Int} (hfl:s.flt (s.alg Shp.p0 o)=some (j,r)):Fn P0 51 [s.v t1 t2,.sl tl (o.map N)] (.agg [I j,I r]):=by
  have hf:=f77 s h1 h2 hs tl htl o hl ho
  have hbo:=bd_ord s h1 h2 tl htl o
  rw [hfl] at hf
  refine PFun.of (C:=c51) (cx_ok _ _ _) rfl (fn:=Try.f51) (by kernel_rfl) (c:=_) rfl rfl rfl ?_
  refine Run.seq (Run.region (cx_ok _ _ _) (Reg.op rfl (Ope.boxF rfl rfl ?_)))
  refine Reg.op rfl (Ope.newL rfl ?_)
  refine Reg.nil (Run.seq (Run.region (cx_ok _ _ _) (Reg.op rfl (Ope.load rfl rfl ?_))))
  refine Reg.op rfl (Ope.mov rfl ?_)
  refine Reg.op rfl (Ope.cf rfl rfl hf hbo ?_)
  refine Reg.op rfl (Ope.mov rfl ?_)
  refine Reg.op rfl (Ope.ext rfl rfl ?_)
  refine Reg.op rfl (Ope.ext rfl rfl ?_)
  refine Reg.op rfl (Ope.newL rfl ?_)
  refine Reg.op0 (Ope.store rfl rfl rfl rfl rfl rfl ?_)
  refine Reg.op rfl (Ope.asg rfl ?_)
  refine Reg.nil (Run.seq (Run.region (cx_ok _ _ _) (Reg.op rfl (Ope.mov rfl ?_))))
  refine Reg.op rfl (Ope.cf rfl rfl (f71t 4) rfl ?_)
  refine Reg.nil (Run.seq (Run.region (cx_ok _ _ _) (Reg.op rfl (Ope.load rfl rfl ?_))))
  refine Reg.op0 (Ope.store rfl rfl rfl rfl rfl rfl ?_)
  exact Reg.nil (Run.ret (fin_ret (.cell rfl rfl .nil) rfl rfl))
end
end Go.Pv
namespace Go.Pv
open Go.Am Go.RowKit
def strk (a:Int) (q:Nat):Int:=IntKind.i64.wrap ((BitVec.ofInt 64 a &&& ~~~BitVec.ofInt 64 (q:Int)).toNat:Nat)
section
variable {C:Cx} {X:EX} {e:EL} {ds:List Nat} {h:PH} {K:PV→PH→Prop}
variable {d:Option Tmp} {type:TypeId} {pos:String} {after:Array Edge} {guard:Option (Nat×Bool)}
theorem Ope.andNotI {t t':TypeId} {x y:Operand} {a b:Int} {q:Nat} (hx:pev (lget e) x=some (I a)) (hy:pev (lget e) y=some (I b)) (hb:b=(q:Int)) (hK:K (I (strk a q)) h) :
  Ope C X { dst:=d,op:=.binOp .andNot t x y t',type,pos,after,guard } e ds h K:=by
 subst hb
 refine Ope.bin hx hy (v:=I (strk a q)) ?_ hK
 simp only [abin,aint,decide_true,plit,strk]
 rfl
theorem wrap_zero {v:Nat} (hv:v < 2 ^ 64):IntKind.i64.wrap (v:Int)=0↔v=0:=by
 have e:IntKind.i64.wrap (v:Int)=if v < 2 ^ 63 then (v:Int) else (v:Int) - 2 ^ 64:=by
  unfold IntKind.wrap
  have h1:(v:Int) % (2 ^ IntKind.i64.bits:Int)=v:=by
   show (v:Int) % 18446744073709551616=v
   omega
  have h2:(2 ^ (IntKind.i64.bits - 1):Int)=9223372036854775808:=by decide
  have h3:(2 ^ IntKind.i64.bits:Int)=18446744073709551616:=by decide
  have h4:IntKind.i64.signed=true:=rfl
  simp only [h1,h2,h4,Bool.true_and,decide_eq_true_eq,h3]
  by_cases hc:v < 2 ^ 63
  ·rw [if_pos hc,if_neg (by omega)];omega
  ·rw [if_neg hc,if_pos (by omega)];omega
 rw [e]
 split<;>omega
theorem strk_zero {a:Int} {q:Nat} (ha:-9223372036854775808≤a) (ha':a≤9223372036854775807) (hq:q < 2 ^ 63):strk a q=0↔0≤a∧a.toNat &&& (2 ^ 64 - 1 - q)=0:=by
 have hqn:(BitVec.ofInt 64 (q:Int)).toNat=q:=ofInt_nat (n:=64) (by omega)
 have hlt:(BitVec.ofInt 64 a &&& ~~~BitVec.ofInt 64 (q:Int)).toNat < 2 ^ 64:=BitVec.isLt _
 unfold strk
 rw [wrap_zero hlt,BitVec.toNat_and,BitVec.toNat_not,hqn]
 rcases Int.lt_or_le a 0 with h | h
 ·have e1:(BitVec.ofInt 64 a).toNat=(a+18446744073709551616).toNat:=by
   rw [BitVec.toNat_ofInt]
   congr 1
   show a % 18446744073709551616=_
   omega
  constructor
  ·intro h0
   have hb:=congrArg (fun n=>n.testBit 63) h0
   have b1:(BitVec.ofInt 64 a).toNat.testBit 63=true:=by
    rw [e1,Nat.testBit_eq_decide_div_mod_eq]
    exact decide_eq_true (by omega)
   have b2:(2 ^ 64 - 1 - q).testBit 63=true:=by
    rw [Nat.testBit_eq_decide_div_mod_eq]
    exact decide_eq_true (by omega)
   simp only [Nat.testBit_and,b1,b2,Nat.zero_testBit] at hb
   cases hb
  ·intro h0;omega
 ·have e1:(BitVec.ofInt 64 a).toNat=a.toNat:=by
   rw [BitVec.toNat_ofInt]
   congr 1
   show a % 18446744073709551616=_
   omega
  rw [e1]
  exact ⟨fun h0=>⟨h,h0⟩,fun h0=>h0.2⟩
end
end Go.Pv
