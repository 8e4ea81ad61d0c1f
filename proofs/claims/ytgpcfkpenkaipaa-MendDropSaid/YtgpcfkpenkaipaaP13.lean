/- Parts of the proof: Pv45, Pv46, Pv47, M2, Pv48, Pv49 -/
import Derived.Test.YtgpcfkpenkaipaaP11
import Derived.Test.YtgpcfkpenkaipaaP12
set_option linter.unusedVariables false
set_option linter.unusedSimpArgs false
set_option linter.unusedSectionVars false
namespace Go.Pv
open Go.Am Go.RowKit
section
variable {C:Cx} {F:EQ} {X:EX} {k:List KI} {e:EL} {ds:List Nat} {h:PH}
theorem Run.drawB (hC:C.Ok) {id:Nat} {ops:Array Oper} (i:Nat) (ord:List (Nat×Bool×Bool)) (hd:drwS C.M ops.toList=some ord) (hr:DraS C F X k (fun h'=>h'.get i=h.get i) ops.toList ord e ds h):Run C F X (.c (.region id ops true)::k) e ds h :=
 Run.drawS hC _ ord hd hr
theorem StabS.at {t:TypeId} {a:Operand} {i o:Nat} {g:Option PBlk} {dd:Option Nat} {type:TypeId} {pos:String} {after:Array Edge} {guard:Option (Nat×Bool)} (ha:pev (lget e) a=some (.ptr i o)):StabS C.A C.E (fun h=>h.get i=g) (lget e) { dst:=dd,op:=.load t a,type,pos,after,guard }:=by
 intro h h' h1 h2
 simp only [pquiet,ha]
 unfold pload
 simp only [h1,h2]
end
end Go.Pv
namespace Go.Pv
open Go.Am Go.RowKit
section
variable {s:St} {A:AP} {P:Program} {E:Eqs} {w0:Base} {M:Nat→Bool} {sz:Nat} {b:Frame} {k:List Item} {cs:List Frame}
theorem preg_go2 (hA:A.Ok P) (hE:E.Ok P) (hm:b.mode=.run) {ops:Array Oper} {Q:PQ} {X:T PV→List Nat→PV→PH→Prop} {ds:List Nat} {tl:T PV} (os2:List Oper):∀ (os:List Oper) (i:Nat) (s:St) (t:T PV) (arr:Array Value),ops.toList.drop i=os++os2 →
  preg A E P M sz ops.toList os t s.h (fun t h=>preg A E P M sz ops.toList os2 t h (fun t h=>Q .normal t ds h) (X (tless t os2) ds)) (X tl ds)→PW w0 s→TV s t.get arr→(TV s tl.get arr∧∀ o∈os,∀ i v,tl.get i=some v→o.dst≠some i)→arr.size=sz→(∀ i∈ds,i < s.h.next) →
  POut P w0 s sz b k cs Q X (lone (on b arr (dls s ds) (.inRegion ops ((List.range ops.size).drop i)::k)) cs s.w)
 |[],i,s,t,arr,hos,hp,hw,ht,htl,hsz,hds =>
  preg_go hA hE hm os2 i s t arr (by simpa using hos) hp hw ht ⟨fun i v hi=>ht i v (tless_get _ _ _ _ hi).1,fun o ho i v hi=>(tless_get _ _ _ _ hi).2 o ho⟩ hsz hds
 |o :: os, i, s, t, arr, hos, hp, hw, ht, htl, hsz, hds => by
  have hlt:i < ops.size:=by
   rcases Nat.lt_or_ge i ops.size with h1 | h1
   ·exact h1
   ·rw [List.drop_eq_nil_of_le (by simpa using h1)] at hos;cases hos
  have hdr:=List.drop_eq_getElem_cons (l:=ops.toList) (i:=i) (by simpa using hlt)
  rw [hos] at hdr
  simp only [List.cons_append,List.cons.injEq] at hdr
  obtain ⟨hd1,hd2⟩:=hdr
  have ho:ops[i]?=some o:=by rw [Array.getElem?_eq_getElem hlt,hd1];simp
  have er:(List.range ops.size).drop i=i::(List.range ops.size).drop (i+1):=by
   rw [List.drop_eq_getElem_cons (by simpa using hlt)]
   simp
  rw [er]
  simp only [preg] at hp
  split at hp
  ·exact hp.elim
  next hdst =>
  have hdst':dstIn arr.size o.dst=true:=by rw [hsz];exact hdst
  have run:pop A E P M t.get s.h o (fun v h'=>preg A E P M sz ops.toList os (tput t o.dst v) h' (fun t h=>preg A E P M sz ops.toList os2 t h (fun t h=>Q .normal t ds h) (X (tless t os2) ds)) (X tl ds)) (X tl ds)→Region.wanted o (yielded ops arr)=true →
    POut P w0 s sz b k cs Q X (lone (on b arr (dls s ds) (.inRegion ops (i::(List.range ops.size).drop (i+1))::k)) cs s.w):=by
   intro hp hwt
   rcases op_go (b:=b) (k:=k) (cs:=cs) (dl:=dls s ds) (rest:=(List.range ops.size).drop (i+1)) hA hE hw ht hp ho hwt hm with ⟨x,v,s',h1,h2,h3,h4,h5⟩ | ⟨x,v,s',todo,h1,h2,h3,h4,h5⟩
   ·refine POut.of_steps h5 (POut.ext h2 ?_)
    rw [← dls_ext h2 hds]
    exact preg_go2 hA hE hm os2 os (i+1) s' (tput t o.dst v) (putA arr o.dst x) hd2.symm h4 h1 ((ht.ext h2).put hdst' h3) ⟨(htl.1.ext h2).putNot (htl.2 o (by simp)),fun p hp=>htl.2 p (List.mem_cons_of_mem _ hp)⟩ (by rw [putA_size];exact hsz) fun j hj=>Nat.lt_of_lt_of_le (hds j hj) h2.next
   ·refine ⟨s',arr,ds,h1,h2,hsz,fun j hj=>Nat.lt_of_lt_of_le (hds j hj) h2.next,.inr (.inr ⟨tl,v,x,todo,h4,h3,htl.1.ext h2,?_⟩)⟩
    rw [dls_ext h2 hds]
    exact h5
  have pass:preg A E P M sz ops.toList os (tput t o.dst (.tup [])) s.h (fun t h=>preg A E P M sz ops.toList os2 t h (fun t h=>Q .normal t ds h) (X (tless t os2) ds)) (X tl ds)→Region.wanted o (yielded ops arr)=false →
    POut P w0 s sz b k cs Q X (lone (on b arr (dls s ds) (.inRegion ops (i::(List.range ops.size).drop (i+1))::k)) cs s.w):=by
   intro hp hwt
   exact POut.of_steps (op_pass ho hwt hm) (preg_go2 hA hE hm os2 os (i+1) s (tput t o.dst (.tup [])) (putA arr o.dst undef) hd2.symm hp hw (ht.put hdst' (rv_undef s)) ⟨htl.1.putNot (htl.2 o (by simp)),fun p hp=>htl.2 p (List.mem_cons_of_mem _ hp)⟩ (by rw [putA_size];exact hsz) hds)
  split at hp
  ·next hg=>exact run hp (by simp [Region.wanted,hg])
  ·next j want hg =>
   split at hp
   ·exact hp.elim
   next p hpj =>
   have hpj':ops[j]?=some p:=by simpa using hpj
   split at hp
   ·exact hp.elim
   next d hd =>
   split at hp
   ·next q hq =>
    have hwt:=wanted_of ht hg hpj' hd hq
    split at hp
    ·cases q with
     |true=>exact run hp (by simpa using hwt)
     |false=>exact pass hp (by simpa using hwt)
    ·cases q with
     |true=>exact pass hp (by simpa using hwt)
     |false=>exact run hp (by simpa using hwt)
   ·next hq=>exact pass hp (wanted_not ht hg hpj' hd hq)
   ·exact hp.elim
theorem PWP.region2 (hA:A.Ok P) (hE:E.Ok P) {id:Nat} {ops:Array Oper} (n:Nat) {rnd:Option Nat} {fi:FuncId} {Q:PQ} {X:T PV→List Nat→PV→PH→Prop} {t:T PV} {ds:List Nat} {h:PH}
  (hp:preg A E P M sz ops.toList (ops.toList.take n) t h (fun t h=>preg A E P M sz ops.toList (ops.toList.drop n) t h (fun t h=>Q .normal t ds h) (X (tless t (ops.toList.drop n)) ds)) (X (tless t (ops.toList.take n)) ds)) :
  PWP P fi sz rnd (.region id ops false) Q X t ds h:=by
 intro w0 s arr b k cs a1 a2 a3 a4 a5 a6 a7 a8 a9
 subst a2
 refine POut.of_steps (step_on (k':=.inRegion ops (List.range ops.size)::k) a6 (by simp [stepG.exec,on])) ?_
 have:=preg_go2 (k:=k) (cs:=cs) (M:=M) (b:=b) hA hE a6 (ops.toList.drop n) (ops.toList.take n) 0 s t arr (by simp) hp a1 a3 ⟨fun i v hi=>a3 i v (tless_get _ _ _ _ hi).1,fun o ho i v hi=>(tless_get _ _ _ _ hi).2 o ho⟩ a4 a5
 simpa using this
end
def RegP (C:Cx) (K:EL→PH→Prop) (X:EX) (all os:List Oper) (e:EL) (ds:List Nat) (h:PH):Prop :=
 ∀ t:T PV,t.get=lget e→preg C.A C.E C.P C.M C.sz all os t h (fun t h=>∃ e',t.get=lget e'∧K e' h) (X ds)
section
variable {C:Cx} {K:EL→PH→Prop} {X:EX} {e:EL} {ds:List Nat} {h:PH} {all os:List Oper}
theorem RegP.nil (hK:K e h):RegP C K X all [] e ds h:=fun t ht=>⟨e,ht,hK⟩
theorem RegP.op {d:Nat} {op:Op} {type:TypeId} {pos:String} {after:Array Edge} (hd:Nat.blt d C.sz=true)
  (ho:Ope C X { dst:=some d,op,type,pos,after,guard:=none } e ds h fun v h'=>RegP C K X all os ((d,v)::e) ds h'):RegP C K X all ({ dst:=some d,op,type,pos,after,guard:=none }::os) e ds h:=by
 intro t ht
 simp only [preg,dstIn,hd]
 unfold Ope at ho
 rw [ht]
 exact pop_mono ho (fun v h' hv=>hv _ (put_get ht d v)) fun _ _ hx=>hx
end
section
variable {C:Cx} {fn:Func} {n:Nat} {R X:PV→PH→Prop} {e:EL} {h:PH}
end
end Go.Pv
namespace Go.Pv
open Go.Am Go.RowKit
section
variable {C:Cx} {X:EX} {e:EL} {ds:List Nat} {h:PH} {K:PV→PH→Prop}
variable {d:Option Tmp} {type:TypeId} {pos:String} {after:Array Edge} {guard:Option (Nat×Bool)}
theorem Ope.andNotN {t t':TypeId} {x y:Operand} {kk:IntKind} {a b:Int} {p q:Nat} (hx:pev (lget e) x=some (.lit (.int kk a))) (hy:pev (lget e) y=some (.lit (.int kk b))) (ha:a=(p:Int)) (hb:b=(q:Int)) (hp:p < 2 ^ (kk.bits - 1)) (hq:q < 2 ^ (kk.bits - 1)) (hK:K (.lit (.int kk ((p &&& (2 ^ kk.bits - 1 - q):Nat):Int))) h) :
  Ope C X { dst:=d,op:=.binOp .andNot t x y t',type,pos,after,guard } e ds h K:=by
 subst ha hb
 refine Ope.bin hx hy (v:=.lit (.int kk ((p &&& (2 ^ kk.bits - 1 - q):Nat):Int))) ?_ hK
 have hlt:p &&& (2 ^ kk.bits - 1 - q) < 2 ^ (kk.bits - 1):=Nat.lt_of_le_of_lt Nat.and_le_left hp
 simp only [abin,aint,decide_true,plit,BitVec.toNat_and,BitVec.toNat_not,ofInt_nat (lt_bits hp),ofInt_nat (lt_bits hq),wrap_nat hlt]
 rfl
theorem Ope.neB {t t':TypeId} {x y:Operand} {a b:Bool} (hb:C.A.under t=some .bool) (hx:pev (lget e) x=some (B a)) (hy:pev (lget e) y=some (B b)) (hK:K (B (!(a == b))) h) :
  Ope C X { dst:=d,op:=.binOp .neq t x y t',type,pos,after,guard } e ds h K:=by
 refine Ope.quiet rfl ?_ hK
 have hn:pnil C.A t (B a) (B b)=none:=by simp only [pnil,hb]
 simp only [pquiet,hx,hy,pbin,PV.toAV,abin,aequal,aeqv,hb,bothNil,plit,PV.ofAV,hn]
end
end Go.Pv
namespace Go.Pv
open Go.Proofs Go.Am
set_option maxRecDepth 10000
abbrev N (x:Nat):PV:=I ((x:Nat):Int)
def st2 (a b c:Int):Nat→Int
  | 0=>a
  | 1=>b
  | _=>c
structure JobOk (m n i:Nat) (H:Int) (j:Job):Prop where
  kd:0≤j.kd∧j.kd < m
  mi:1≤j.lo∧j.lo≤j.hi∧j.hi≤H
  fr:0≤j.fr∧j.fr≤300
  so:0≤j.so∧j.so≤300
  bt:0≤j.bt∧j.bt≤300
  co:0≤j.co∧j.co≤50
  af:0≤j.af∧j.af.toNat < 2 ^ n∧j.af.toNat.testBit i=false
structure Shp.ok (s:Shp) (H:Int):Prop where
  su:s.su.length≤3
  jo:s.jo.length≤6
  hH:H≤100
  sv:∀ x∈s.su,0≤x∧x≤30
  jv:∀ i (h:i < s.jo.length),JobOk s.su.length s.jo.length i H s.jo[i]
theorem Shp.ok.set {s:Shp} {H:Int} (h:s.ok H) {q:Nat} (hq:q < s.su.length):0≤s.set q∧s.set q≤30:=by
  rw [Shp.set_at hq]
  exact h.sv _ (List.getElem_mem hq)
theorem Shp.ok.job {s:Shp} {H:Int} (h:s.ok H) {i:Nat} (hi:i < s.jo.length):JobOk s.su.length s.jo.length i H (s.job i):=by
  rw [Shp.job_at hi]
  exact h.jv i hi
structure Pst.ok (p:Pst) (b:Int):Prop where
  f0:0≤p.f0∧p.f0≤b
  f1:0≤p.f1∧p.f1≤b
structure Wrk.ok (w:Wrk) (b:Int):Prop where
  d0:0≤w.d0∧w.d0≤b
  d1:0≤w.d1∧w.d1≤b
theorem f71t (e:Int):Fn P0 71 [B true,I e] (.tup []):=by
  refine PFun.of (C:=c71) (cx_ok _ _ _) rfl (fn:=Try.f71) (by kernel_rfl) (c:=_) rfl rfl rfl ?_
  refine Run.seq (Run.region (cx_ok _ _ _) (Reg.op rfl (Ope.mov rfl ?_)))
  refine Reg.op rfl (Ope.not rfl ?_)
  refine Reg.nil (Run.condX rfl (fun hc=>?_) fun hc=>?_)
  ·exact absurd hc (by decide)
  ·exact Run.skip (fin_end .nil rfl rfl)
theorem f99 (m n:Int):Fn P0 99 [I m,I n] (B (decide (0≤n) && decide (n≤m))):=by
  refine PFun.of (C:=c99) (cx_ok _ _ _) rfl (fn:=Try.f99) (by kernel_rfl) (c:=_) rfl rfl rfl ?_
  refine Run.seq (Run.region (cx_ok _ _ _) (Reg.op rfl (Ope.asg rfl ?_)))
  refine Reg.nil (Run.seq (Run.region (cx_ok _ _ _) (Reg.op rfl (Ope.mov rfl ?_))))
  refine Reg.op rfl (Ope.ge rfl rfl ?_)
  refine Reg.op rfl (Ope.mov rfl ?_)
  refine Reg.splitX rfl rfl (fun hg=>?_) fun hg=>?_
  ·refine Reg.on rfl rfl rfl (Ope.mov rfl ?_)
   refine Reg.on rfl rfl rfl (Ope.mov rfl ?_)
   refine Reg.on rfl rfl rfl (Ope.le rfl rfl ?_)
   refine Reg.op rfl (Ope.pickT rfl rfl ?_)
   refine Reg.op rfl (Ope.asg rfl ?_)
   refine Reg.nil (Run.ret (fin_ret (.tmp rfl .nil) rfl ?_))
   (simp [*];first | done | rfl | omega)
  ·refine Reg.off rfl rfl rfl (Reg.off rfl rfl rfl (Reg.off rfl rfl rfl (Reg.op rfl (Ope.pickF rfl rfl ?_))))
   refine Reg.op rfl (Ope.asg rfl ?_)
   refine Reg.nil (Run.ret (fin_ret (.tmp rfl .nil) rfl ?_))
   (simp [*];first | done | rfl | omega)
theorem f94 (m n:Int):Fn P0 94 [I m,I n] (B (decide (0≤n) && decide (n < m))):=by
  refine PFun.of (C:=c94) (cx_ok _ _ _) rfl (fn:=Try.f94) (by kernel_rfl) (c:=_) rfl rfl rfl ?_
  refine Run.seq (Run.region (cx_ok _ _ _) (Reg.op rfl (Ope.asg rfl ?_)))
  refine Reg.nil (Run.seq (Run.region (cx_ok _ _ _) (Reg.op rfl (Ope.mov rfl ?_))))
  refine Reg.op rfl (Ope.ge rfl rfl ?_)
  refine Reg.op rfl (Ope.mov rfl ?_)
  refine Reg.splitX rfl rfl (fun hg=>?_) fun hg=>?_
  ·refine Reg.on rfl rfl rfl (Ope.mov rfl ?_)
   refine Reg.on rfl rfl rfl (Ope.mov rfl ?_)
   refine Reg.on rfl rfl rfl (Ope.lt rfl rfl ?_)
   refine Reg.op rfl (Ope.pickT rfl rfl ?_)
   refine Reg.op rfl (Ope.asg rfl ?_)
   refine Reg.nil (Run.ret (fin_ret (.tmp rfl .nil) rfl ?_))
   (simp [*];first | done | rfl | omega)
  ·refine Reg.off rfl rfl rfl (Reg.off rfl rfl rfl (Reg.off rfl rfl rfl (Reg.op rfl (Ope.pickF rfl rfl ?_))))
   refine Reg.op rfl (Ope.asg rfl ?_)
   refine Reg.nil (Run.ret (fin_ret (.tmp rfl .nil) rfl ?_))
   (simp [*];first | done | rfl | omega)
theorem f74 (a b:Int):Fn P0 74 [.agg [I a,I b]] (.agg [I a,I b]):=by
  refine PFun.of (C:=c74) (cx_ok _ _ _) rfl (fn:=Try.f74) (by kernel_rfl) (c:=_) rfl rfl rfl ?_
  refine Run.seq (Run.region (cx_ok _ _ _) (Reg.op rfl (Ope.boxF rfl rfl ?_)))
  refine Reg.op rfl (Ope.newL rfl ?_)
  refine Reg.nil (Run.seq (Run.region (cx_ok _ _ _) (Reg.op rfl (Ope.idxA rfl rfl rfl rfl ?_))))
  refine Reg.op rfl (Ope.load rfl rfl ?_)
  refine Reg.op rfl (Ope.idxA rfl rfl rfl rfl ?_)
  refine Reg.op rfl (Ope.load rfl rfl ?_)
  refine Reg.op rfl (Ope.bld rfl rfl ?_)
  refine Reg.op0 (Ope.store rfl rfl rfl rfl rfl rfl ?_)
  exact Reg.nil (Run.ret (fin_ret (.cell rfl rfl .nil) rfl rfl))
theorem f111 (a b:Int):Fn P0 111 [.agg [I a,I b]] (I b):=by
  refine PFun.of (C:=c111) (cx_ok _ _ _) rfl (fn:=Try.f111) (by kernel_rfl) (c:=_) rfl rfl rfl ?_
  refine Run.seq (Run.region (cx_ok _ _ _) (Reg.op rfl (Ope.boxF rfl rfl ?_)))
  refine Reg.op rfl (Ope.asg rfl ?_)
  refine Reg.nil (Run.seq (Run.region (cx_ok _ _ _) (Reg.op rfl (Ope.idxA rfl rfl rfl rfl ?_))))
  refine Reg.op rfl (Ope.load rfl rfl ?_)
  refine Reg.op rfl (Ope.asg rfl ?_)
  exact Reg.nil (Run.ret (fin_ret (.tmp rfl .nil) rfl rfl))
theorem f109 (a b:Int):Fn P0 109 [.agg [I a,I b]] (.agg [I a,I b]):=by
  refine PFun.of (C:=c109) (cx_ok _ _ _) rfl (fn:=Try.f109) (by kernel_rfl) (c:=_) rfl rfl rfl ?_
  refine Run.seq (Run.region (cx_ok _ _ _) (Reg.op rfl (Ope.boxF rfl rfl ?_)))
  refine Reg.op rfl (Ope.newL rfl ?_)
  refine Reg.nil (Run.seq (Run.region (cx_ok _ _ _) (Reg.op rfl (Ope.fld rfl rfl ?_))))
  refine Reg.op rfl (Ope.load rfl rfl ?_)
  refine Reg.op rfl (Ope.fld rfl rfl ?_)
  refine Reg.op rfl (Ope.load rfl rfl ?_)
  refine Reg.op rfl (Ope.bld rfl rfl ?_)
  refine Reg.op0 (Ope.store rfl rfl rfl rfl rfl rfl ?_)
  exact Reg.nil (Run.ret (fin_ret (.cell rfl rfl .nil) rfl rfl))
theorem f84 (x:Nat):Fn P0 84 [N x] (Pst.v ⟨x,-1,0,0⟩):=by
  refine PFun.of (C:=c84) (cx_ok _ _ _) rfl (fn:=Try.f84) (by kernel_rfl) (c:=_) rfl rfl rfl ?_
  refine Run.seq (Run.region (cx_ok _ _ _) (Reg.op rfl (Ope.newL rfl ?_)))
  refine Reg.nil (Run.seq (Run.region (cx_ok _ _ _) (Reg.op rfl (Ope.mov rfl ?_))))
  refine Reg.op rfl (Ope.bld rfl rfl ?_)
  refine Reg.op0 (Ope.store rfl rfl rfl rfl rfl rfl ?_)
  exact Reg.nil (Run.ret (fin_ret (.cell rfl rfl .nil) rfl rfl))
def allN (n:Nat):Nat:=1 * 2 ^ n - 1
theorem pow6 {n:Nat} (h:n≤6):1≤2 ^ n∧2 ^ n≤64:=⟨Nat.pow_pos (by decide),Nat.pow_le_pow_right (by decide:0 < 2) h⟩
section
variable (s:Shp) (t1 t2:Tail)
theorem f89 (hn:s.jo.length≤6):Fn P0 89 [s.v t1 t2] (N (allN s.jo.length)):=by
  have hp:=pow6 hn
  have e:((1 * 2 ^ s.jo.length:Nat):Int) - 1=((allN s.jo.length:Nat):Int):=by unfold allN;omega
  refine PFun.of (C:=c89) (cx_ok _ _ _) rfl (fn:=Try.f89) (by kernel_rfl) (c:=_) rfl rfl rfl ?_
  refine Run.seq (Run.region (cx_ok _ _ _) (Reg.op rfl (Ope.boxF rfl rfl ?_)))
  refine Reg.op rfl (Ope.asg rfl ?_)
  refine Reg.nil (Run.seq (Run.region (cx_ok _ _ _) (Reg.op rfl (Ope.fld rfl rfl ?_))))
  refine Reg.op rfl (Ope.fld rfl rfl ?_)
  refine Reg.op rfl (Ope.load rfl rfl ?_)
  refine Reg.op rfl (Ope.len (m:=s.jo.length) rfl (by simp) ?_)
  refine Reg.op rfl (Ope.shlN (p:=1) (m:=s.jo.length) rfl rfl rfl rfl (by omega) (by omega) ?_)
  refine Reg.op rfl (Ope.sub rfl rfl (by omega) ?_)
  rw [e]
  refine Reg.op rfl (Ope.asg rfl ?_)
  exact Reg.nil (Run.ret (fin_ret (.tmp rfl .nil) rfl rfl))
theorem f108 {H b:Int} (hs:s.ok H) (p:Pst) (hp:p.ok b) (hb:b≤1000000) (q:Nat) (hq:q < s.su.length):Fn P0 108 [s.v t1 t2,p.v,I q] (.agg [I (s.rdy p q).1,I (s.rdy p q).2]):=by
  obtain ⟨J,kd,f0,f1⟩:=p
  obtain ⟨h0,h1⟩:=hp
  simp only at h0 h1
  have hse:=hs.set hq
  have hsu:=Shp.set_at hq
  refine PFun.of (C:=c108) (cx_ok _ _ _) rfl (fn:=Try.f108) (by kernel_rfl) (c:=_) rfl rfl rfl ?_
  refine Run.seq (Run.region (cx_ok _ _ _) (Reg.op rfl (Ope.boxF rfl rfl ?_)))
  refine Reg.op rfl (Ope.boxF rfl rfl ?_)
  refine Reg.op rfl (Ope.newL rfl ?_)
  refine Reg.nil (Run.seq (Run.region (cx_ok _ _ _) (Reg.op rfl (Ope.fld rfl rfl ?_))))
  refine Reg.op rfl (Ope.load rfl rfl ?_)
  refine Reg.op rfl (Ope.newL rfl ?_)
  refine Reg.op0 (Ope.store rfl rfl rfl rfl rfl rfl ?_)
  refine Reg.nil (Run.seq (Run.seq (Run.region (cx_ok _ _ _) (Reg.op rfl (Ope.mov rfl ?_)))))
  refine Reg.op rfl (Ope.fld rfl rfl ?_)
  refine Reg.op rfl (Ope.load rfl rfl ?_)
  refine Reg.op rfl (Ope.ne rfl rfl ?_)
  refine Reg.nil (Run.condX rfl (fun hc=>?_) fun hc=>?_)
  ·first
   |(exfalso;omega)
   |refine Run.seq (Run.region (cx_ok _ _ _) (Reg.op rfl (Ope.mov rfl ?_)))
    refine Reg.nil (Run.block ?_)
    have hne:¬ (q:Int)=kd:=by simpa using hc
    have hr:s.rdy ⟨J,kd,f0,f1⟩ q=(f0+s.set q,f1+s.set q):=if_neg hne
    rw [hr]
    generalize s.set q=x at *
    refine Run.wide (m:=2) (l':=[(1,some (.cells [I (st2 f0 (f0+x) (f0+x) 0),I (st2 f1 f1 (f1+x) 0)])),(0,some (.cells [I 0,I 0]))]) (Nat.le_refl _) ⟨rfl,rfl,trivial⟩ ?_
    refine Run.loop (α:=Nat) (fun i=>[(2,I q),(3,.fp (s.v t1 t2)),(6,.ptr 0 0),(7,.ptr 1 0),(15,I i)]) (fun i=>HE 2 [(1,some (.cells [I (st2 f0 (f0+x) (f0+x) i),I (st2 f1 f1 (f1+x) i)])),(0,some (.cells [I 0,I 0]))]) (fun i=>i≤2) (fun i=>2 - i) 0 ⟨rfl,rfl,rfl,rfl,rfl,trivial⟩ rfl (Nat.zero_le _) (fun i hi=>?_)
    rcases (by omega:i=0∨i=1∨i=2) with rfl | rfl | rfl
    ·refine Run.seq (Run.region (cx_ok _ _ _) (Reg.op rfl (Ope.lt rfl rfl ?_)))
     refine Reg.nil (Run.seq (Run.condX rfl (fun hc=>?_) fun hc=>?_))
     ·first
      |(exfalso;omega)
      |refine Run.skip (Run.seq (Run.block (Run.seq ?_)))
       have e00:st2 f0 (f0+x) (f0+x) 0=f0:=rfl
       have e11:st2 f1 f1 (f1+x) 1=f1:=rfl
       refine Run.region (cx_ok _ _ _) (Reg.op rfl (Ope.mov rfl ?_))
       refine Reg.op rfl (Ope.asg rfl ?_)
       refine Reg.nil (Run.drawB (cx_ok _ _ _) 1 [(0,true,false),(1,true,false),(2,true,false),(3,true,false),(4,true,false),(5,true,false),(6,true,false),(7,true,false),(8,true,false),(9,true,false),(10,true,false),(11,true,false)] (by kernel_rfl) (DraS.opQ rfl rfl rfl (Ope.mov rfl ?_)))
       refine DraS.opQ rfl rfl rfl (Ope.idxA rfl rfl rfl rfl ?_)
       refine DraS.opQ rfl rfl rfl (Ope.loadH rfl rfl rfl ?_)
       refine DraS.opQ rfl rfl rfl (Ope.fld rfl rfl ?_)
       refine DraS.opQ rfl rfl rfl (Ope.fld rfl rfl ?_)
       refine DraS.opQ rfl rfl rfl (Ope.load rfl rfl ?_)
       refine DraS.opQ rfl rfl rfl (Ope.mov rfl ?_)
       refine DraS.opQ rfl rfl rfl (Ope.idxM (m:=q) (f:=I) rfl rfl rfl hq (fun _=>rfl) ?_)
       rw [← hsu]
       refine DraS.opQ rfl rfl rfl (Ope.load rfl rfl ?_)
       refine DraS.opQ rfl rfl rfl (Ope.add rfl rfl (by omega) ?_)
       refine DraS.opQ rfl rfl rfl (Ope.idxA rfl rfl rfl rfl ?_)
       refine DraS.opQ rfl rfl rfl (Ope.store rfl rfl rfl rfl rfl rfl ?_)
       refine DraS.nil (Run.bend ?_)
       first
       | refine Run.wide (m:=2) (l':=[(1,some (.cells [I (st2 f0 (f0+x) (f0+x) 1),I (st2 f1 f1 (f1+x) 1)])),(0,some (.cells [I 0,I 0]))]) (Nat.le_refl _) ⟨rfl,rfl,trivial⟩ ?_
       | refine Run.wide (m:=2) (l':=[(1,some (.cells [I (st2 f0 (f0+x) (f0+x) 2),I (st2 f1 f1 (f1+x) 2)])),(0,some (.cells [I 0,I 0]))]) (Nat.le_refl _) ⟨rfl,rfl,trivial⟩ ?_
       refine Run.region (cx_ok _ _ _) (Reg.op rfl (Ope.add rfl rfl (by omega) ?_))
       refine Reg.op rfl (Ope.mov rfl ?_)
       refine Reg.nil ?_
       first
       | exact Run.lend ⟨1,by decide,by decide,⟨rfl,rfl,rfl,rfl,rfl,trivial⟩,rfl,rfl⟩
       | exact Run.lend ⟨2,by decide,by decide,⟨rfl,rfl,rfl,rfl,rfl,trivial⟩,rfl,rfl⟩
     ·first
      |(exfalso;omega)
      |refine Run.exit (Jmp.code (Jmp.round (Jmp.here (Run.seq ?_))))
       first
       | (rw [show s.rdy ⟨J,kd,f0,f1⟩ q=(f0,f1) from if_pos (by simpa using hc)])
       | skip
       refine Run.region (cx_ok _ _ _) (Reg.op rfl (Ope.load rfl rfl ?_))
       refine Reg.op0 (Ope.store rfl rfl rfl rfl rfl rfl ?_)
       exact Reg.nil (Run.ret (fin_ret (.cell rfl rfl .nil) rfl rfl))
    ·refine Run.seq (Run.region (cx_ok _ _ _) (Reg.op rfl (Ope.lt rfl rfl ?_)))
     refine Reg.nil (Run.seq (Run.condX rfl (fun hc=>?_) fun hc=>?_))
     ·first
      |(exfalso;omega)
      |refine Run.skip (Run.seq (Run.block (Run.seq ?_)))
       have e00:st2 f0 (f0+x) (f0+x) 0=f0:=rfl
       have e11:st2 f1 f1 (f1+x) 1=f1:=rfl
       refine Run.region (cx_ok _ _ _) (Reg.op rfl (Ope.mov rfl ?_))
       refine Reg.op rfl (Ope.asg rfl ?_)
       refine Reg.nil (Run.drawB (cx_ok _ _ _) 1 [(0,true,false),(1,true,false),(2,true,false),(3,true,false),(4,true,false),(5,true,false),(6,true,false),(7,true,false),(8,true,false),(9,true,false),(10,true,false),(11,true,false)] (by kernel_rfl) (DraS.opQ rfl rfl rfl (Ope.mov rfl ?_)))
       refine DraS.opQ rfl rfl rfl (Ope.idxA rfl rfl rfl rfl ?_)
       refine DraS.opQ rfl rfl rfl (Ope.loadH rfl rfl rfl ?_)
       refine DraS.opQ rfl rfl rfl (Ope.fld rfl rfl ?_)
       refine DraS.opQ rfl rfl rfl (Ope.fld rfl rfl ?_)
       refine DraS.opQ rfl rfl rfl (Ope.load rfl rfl ?_)
       refine DraS.opQ rfl rfl rfl (Ope.mov rfl ?_)
       refine DraS.opQ rfl rfl rfl (Ope.idxM (m:=q) (f:=I) rfl rfl rfl hq (fun _=>rfl) ?_)
       rw [← hsu]
       refine DraS.opQ rfl rfl rfl (Ope.load rfl rfl ?_)
       refine DraS.opQ rfl rfl rfl (Ope.add rfl rfl (by omega) ?_)
       refine DraS.opQ rfl rfl rfl (Ope.idxA rfl rfl rfl rfl ?_)
       refine DraS.opQ rfl rfl rfl (Ope.store rfl rfl rfl rfl rfl rfl ?_)
       refine DraS.nil (Run.bend ?_)
       first
       | refine Run.wide (m:=2) (l':=[(1,some (.cells [I (st2 f0 (f0+x) (f0+x) 1),I (st2 f1 f1 (f1+x) 1)])),(0,some (.cells [I 0,I 0]))]) (Nat.le_refl _) ⟨rfl,rfl,trivial⟩ ?_
       | refine Run.wide (m:=2) (l':=[(1,some (.cells [I (st2 f0 (f0+x) (f0+x) 2),I (st2 f1 f1 (f1+x) 2)])),(0,some (.cells [I 0,I 0]))]) (Nat.le_refl _) ⟨rfl,rfl,trivial⟩ ?_
       refine Run.region (cx_ok _ _ _) (Reg.op rfl (Ope.add rfl rfl (by omega) ?_))
       refine Reg.op rfl (Ope.mov rfl ?_)
       refine Reg.nil ?_
       first
       | exact Run.lend ⟨1,by decide,by decide,⟨rfl,rfl,rfl,rfl,rfl,trivial⟩,rfl,rfl⟩
       | exact Run.lend ⟨2,by decide,by decide,⟨rfl,rfl,rfl,rfl,rfl,trivial⟩,rfl,rfl⟩
     ·first
      |(exfalso;omega)
      |refine Run.exit (Jmp.code (Jmp.round (Jmp.here (Run.seq ?_))))
       first
       | (rw [show s.rdy ⟨J,kd,f0,f1⟩ q=(f0,f1) from if_pos (by simpa using hc)])
       | skip
       refine Run.region (cx_ok _ _ _) (Reg.op rfl (Ope.load rfl rfl ?_))
       refine Reg.op0 (Ope.store rfl rfl rfl rfl rfl rfl ?_)
       exact Reg.nil (Run.ret (fin_ret (.cell rfl rfl .nil) rfl rfl))
    ·refine Run.seq (Run.region (cx_ok _ _ _) (Reg.op rfl (Ope.lt rfl rfl ?_)))
     refine Reg.nil (Run.seq (Run.condX rfl (fun hc=>?_) fun hc=>?_))
     ·first
      |(exfalso;omega)
      |refine Run.skip (Run.seq (Run.block (Run.seq ?_)))
       have e00:st2 f0 (f0+x) (f0+x) 0=f0:=rfl
       have e11:st2 f1 f1 (f1+x) 1=f1:=rfl
       refine Run.region (cx_ok _ _ _) (Reg.op rfl (Ope.mov rfl ?_))
       refine Reg.op rfl (Ope.asg rfl ?_)
       refine Reg.nil (Run.drawB (cx_ok _ _ _) 1 [(0,true,false),(1,true,false),(2,true,false),(3,true,false),(4,true,false),(5,true,false),(6,true,false),(7,true,false),(8,true,false),(9,true,false),(10,true,false),(11,true,false)] (by kernel_rfl) (DraS.opQ rfl rfl rfl (Ope.mov rfl ?_)))
       refine DraS.opQ rfl rfl rfl (Ope.idxA rfl rfl rfl rfl ?_)
       refine DraS.opQ rfl rfl rfl (Ope.loadH rfl rfl rfl ?_)
       refine DraS.opQ rfl rfl rfl (Ope.fld rfl rfl ?_)
       refine DraS.opQ rfl rfl rfl (Ope.fld rfl rfl ?_)
       refine DraS.opQ rfl rfl rfl (Ope.load rfl rfl ?_)
       refine DraS.opQ rfl rfl rfl (Ope.mov rfl ?_)
       refine DraS.opQ rfl rfl rfl (Ope.idxM (m:=q) (f:=I) rfl rfl rfl hq (fun _=>rfl) ?_)
       rw [← hsu]
       refine DraS.opQ rfl rfl rfl (Ope.load rfl rfl ?_)
       refine DraS.opQ rfl rfl rfl (Ope.add rfl rfl (by omega) ?_)
       refine DraS.opQ rfl rfl rfl (Ope.idxA rfl rfl rfl rfl ?_)
       refine DraS.opQ rfl rfl rfl (Ope.store rfl rfl rfl rfl rfl rfl ?_)
       refine DraS.nil (Run.bend ?_)
       first
       | refine Run.wide (m:=2) (l':=[(1,some (.cells [I (st2 f0 (f0+x) (f0+x) 1),I (st2 f1 f1 (f1+x) 1)])),(0,some (.cells [I 0,I 0]))]) (Nat.le_refl _) ⟨rfl,rfl,trivial⟩ ?_
       | refine Run.wide (m:=2) (l':=[(1,some (.cells [I (st2 f0 (f0+x) (f0+x) 2),I (st2 f1 f1 (f1+x) 2)])),(0,some (.cells [I 0,I 0]))]) (Nat.le_refl _) ⟨rfl,rfl,trivial⟩ ?_
       refine Run.region (cx_ok _ _ _) (Reg.op rfl (Ope.add rfl rfl (by omega) ?_))
       refine Reg.op rfl (Ope.mov rfl ?_)
       refine Reg.nil ?_
       first
       | exact Run.lend ⟨1,by decide,by decide,⟨rfl,rfl,rfl,rfl,rfl,trivial⟩,rfl,rfl⟩
       | exact Run.lend ⟨2,by decide,by decide,⟨rfl,rfl,rfl,rfl,rfl,trivial⟩,rfl,rfl⟩
     ·first
      |(exfalso;omega)
      |refine Run.exit (Jmp.code (Jmp.round (Jmp.here (Run.seq ?_))))
       first
       | (rw [show s.rdy ⟨J,kd,f0,f1⟩ q=(f0,f1) from if_pos (by simpa using hc)])
       | skip
       refine Run.region (cx_ok _ _ _) (Reg.op rfl (Ope.load rfl rfl ?_))
       refine Reg.op0 (Ope.store rfl rfl rfl rfl rfl rfl ?_)
       exact Reg.nil (Run.ret (fin_ret (.cell rfl rfl .nil) rfl rfl))
  ·first
   |(exfalso;omega)
   |refine Run.skip (Run.seq ?_)
    first
    | (rw [show s.rdy ⟨J,kd,f0,f1⟩ q=(f0,f1) from if_pos (by simpa using hc)])
    | skip
    refine Run.region (cx_ok _ _ _) (Reg.op rfl (Ope.load rfl rfl ?_))
    refine Reg.op0 (Ope.store rfl rfl rfl rfl rfl rfl ?_)
    exact Reg.nil (Run.ret (fin_ret (.cell rfl rfl .nil) rfl rfl))
end
end Go.Pv
namespace Go.Pv
open Go.Am Go.RowKit
def loudsOf (M:Nat→Bool) (all:List Oper):List Nat:=(List.range all.length).filter (loudI M all)
def lexts (an:T Nat):Nat→List Nat→List (List Nat)
 |0,_=>[[]]
 |f+1,rem=>match rem with
  |[]=>[[]]
  |_=>rem.flatMap fun i=>match rem.all fun j=>Nat.beq i j || !((anc an i).testBit j) with
   |true=>(lexts an f (rem.filter fun j=>!(Nat.beq i j))).map (i::·)
   |false=>[]
def asapL (M:Nat→Bool) (an:T Nat) (all:List Oper):Nat→Nat→List Nat→List Nat
 |0,_,_=>[]
 |f+1,seen,lo=>match ready1 M an false seen all 0 with
  |some i=>i::asapL M an all f (Nat.lor seen (2 ^ i)) lo
  |none=>match lo with
   |[]=>[]
   |l::lo=>l::asapL M an all f (Nat.lor seen (2 ^ l)) lo
def ordLOk (M:Nat→Bool) (an:T Nat) (all:List Oper):Nat→Option Nat→List Nat→Bool
 |seen,_,[]=>Nat.beq seen (2 ^ all.length - 1)
 |seen,last,i::rest=>match Nat.blt i all.length && !seen.testBit i && Nat.beq (Nat.land (anc an i) seen) (anc an i) && (loudI M all i || (match last with
   |none=>true
   |some l=>(anc an i).testBit l)) with
  |true=>ordLOk M an all (Nat.lor seen (2 ^ i)) (match loudI M all i with
   |true=>some i
   |false=>last) rest
  |false=>false
def maskOf (M:Nat→Bool) (an:T Nat) (all:List Oper) (ord:List Nat) (i:Nat):Nat :=
 ((ord.takeWhile fun j=>!(Nat.beq i j)).filter (loudI M all)).foldl (fun m l=>Nat.lor (Nat.lor m (anc an l)) (2 ^ l)) (anc an i)
def anL (M:Nat→Bool) (an:T Nat) (all:List Oper) (ord:List Nat):T Nat:=T.ofList ((List.range all.length).map (maskOf M an all ord)) 0 .nil
def listEq:List Nat→List Nat→Bool
 |[],[]=>true
 |x::xs,y::ys=>Nat.beq x y && listEq xs ys
 |_,_=>false
theorem listEq_eq:∀ {xs ys:List Nat},listEq xs ys=true→xs=ys
 |[],[],_=>rfl
 |[],_::_,h=>by cases h
 |_::_,[],h=>by cases h
 |x::xs,y::ys,h=>by
  simp only [listEq,Bool.and_eq_true] at h
  rw [Nat.eq_of_beq_eq_true h.1,listEq_eq h.2]
def drw1 (M:Nat→Bool) (an:T Nat) (all:List Oper) (lo:List Nat):Option (List (Nat×Bool)) :=
 match ordLOk M an all 0 none (asapL M an all all.length 0 lo) && listEq ((asapL M an all all.length 0 lo).filter (loudI M all)) lo with
 |true=>flagK M (anL M an all (asapL M an all all.length 0 lo)) all (asapL M an all all.length 0 lo)
 |false=>none
def drwAll (M:Nat→Bool) (an:T Nat) (all:List Oper):List (List Nat)→Option (List (List (Nat×Bool)))
 |[]=>some []
 |lo::los=>match drw1 M an all lo with
  |some fl=>match drwAll M an all los with
   |some fls=>some (fl::fls)
   |none=>none
  |none=>none
def drwL (M:Nat→Bool) (ops:List Oper):Option (List (List (Nat×Bool))) :=
 match pstat M ops with
 |none=>none
 |some an=>drwAll M an ops (lexts an (loudsOf M ops).length (loudsOf M ops))
theorem drwAll_mem {M:Nat→Bool} {an:T Nat} {all:List Oper}:∀ {los:List (List Nat)} {fls:List (List (Nat×Bool))},drwAll M an all los=some fls→∀ lo∈los,∃ fl∈fls,drw1 M an all lo=some fl
 |[],_,_,lo,hl=>by cases hl
 |x::los,fls,h,lo,hl=>by
  simp only [drwAll] at h
  split at h
  case h_2=>cases h
  next fl hfl =>
  split at h
  case h_2=>cases h
  next fls' hfls =>
  cases h
  rcases List.mem_cons.1 hl with rfl | hl
  ·exact ⟨fl,List.mem_cons_self ..,hfl⟩
  ·obtain ⟨g,g1,g2⟩:=drwAll_mem hfls lo hl
   exact ⟨g,List.mem_cons_of_mem _ g1,g2⟩
theorem lexts_mem {an:T Nat}:∀ (f:Nat) (rem lo:List Nat),rem.length≤f→lo.Nodup→(∀ i,i∈lo↔i∈rem)→(∀ a i c,lo=a++i::c→∀ j∈lo,(anc an i).testBit j=true→j≠i→j∈a)→lo∈lexts an f rem
 |0,rem,lo,hf,hn,hm,ho=>by
  have:rem=[]:=List.eq_nil_of_length_eq_zero (by omega)
  subst this
  cases lo with
  |nil=>simp [lexts]
  |cons x xs=>exact absurd ((hm x).1 (by simp)) (by simp)
 |f + 1, rem, lo, hf, hn, hm, ho => by
  cases rem with
  |nil =>
   cases lo with
   |nil=>simp [lexts]
   |cons x xs=>exact absurd ((hm x).1 (by simp)) (by simp)
  |cons r rs =>
   cases lo with
   |nil=>exact absurd ((hm r).2 (by simp)) (by simp)
   |cons x xs =>
    have hx:x∈r::rs:=(hm x).1 (by simp)
    have hxn:x ∉ xs:=(List.nodup_cons.1 hn).1
    simp only [lexts]
    refine List.mem_flatMap.2 ⟨x,hx,?_⟩
    have hall:((r::rs).all fun j=>Nat.beq x j || !((anc an x).testBit j))=true:=by
     refine List.all_eq_true.2 fun j hj=>?_
     by_cases hxj:x=j
     ·subst hxj;simp
     ·cases hb:(anc an x).testBit j with
      |false=>simp
      |true =>
       have:=ho [] x xs rfl j ((hm j).2 hj) hb (fun e=>hxj e.symm)
       cases this
    rw [hall]
    refine List.mem_map.2 ⟨xs,?_,rfl⟩
    have hbeq:∀ j,(!(Nat.beq x j))=true↔j≠x:=fun j=>by
     rw [Bool.not_eq_true']
     constructor
     ·intro h e;subst e;simp at h
     ·intro h
      cases hb:Nat.beq x j with
      |false=>rfl
      |true=>exact absurd (Nat.eq_of_beq_eq_true hb).symm h
    refine lexts_mem f _ xs ?_ (List.nodup_cons.1 hn).2 (fun i=>?_) (fun a i c e j hj hb hji=>?_)
    ·have h1:((r::rs).filter fun j=>!(Nat.beq x j)).length < (r::rs).length:=by
      refine List.length_filter_lt_length_iff_exists.2 ⟨x,hx,?_⟩
      simp
     omega
    ·rw [List.mem_filter,hbeq,← hm i]
     constructor
     ·intro hi
      exact ⟨List.mem_cons_of_mem _ hi,fun e=>hxn (by rw [← e];exact hi)⟩
     ·rintro ⟨hi,hne⟩
      rcases List.mem_cons.1 hi with rfl | hi
      ·exact absurd rfl hne
      ·exact hi
    ·have:=ho (x::a) i c (by rw [e];rfl) j (List.mem_cons_of_mem _ hj) hb hji
     rcases List.mem_cons.1 this with rfl | h
     ·exact absurd hj hxn
     ·exact h
structure OrdL (M:Nat→Bool) (an:T Nat) (all:List Oper) (ord:List Nat):Prop where
 at_:∀ a i c,ord=a++i::c→i < all.length∧i ∉ a∧(∀ j,(anc an i).testBit j=true→j∈a)∧(loudI M all i=false→∀ a1 l a2,a=a1++l::a2→loudI M all l=true→(∀ x∈a2,loudI M all x=false)→(anc an i).testBit l=true)
 mem:∀ i,i < all.length→i∈ord
theorem ordLOk_spec {M:Nat→Bool} {an:T Nat} {all:List Oper}:∀ (rest a:List Nat) (seen:Nat) (last:Option Nat),ordLOk M an all seen last rest=true→(∀ j,seen.testBit j=true↔j∈a) →
  (∀ a1 l a2,a=a1++l::a2→loudI M all l=true→(∀ x∈a2,loudI M all x=false)→last=some l) →
  (∀ b i c,rest=b++i::c→i < all.length∧i ∉ a++b∧(∀ j,(anc an i).testBit j=true→j∈a++b)∧(loudI M all i=false→∀ a1 l a2,a++b=a1++l::a2→loudI M all l=true→(∀ x∈a2,loudI M all x=false)→(anc an i).testBit l=true))∧∀ i,i < all.length→i∈a++rest
 |[],a,seen,last,h,h1,h2=>by
  refine ⟨fun b i c e=>by simp at e,fun i hi=>?_⟩
  simp only [ordLOk] at h
  have h:=Nat.eq_of_beq_eq_true h
  rw [List.append_nil,← h1,h,Nat.testBit_two_pow_sub_one]
  simpa using hi
 |x :: rest, a, seen, last, h, h1, h2 => by
  simp only [ordLOk] at h
  split at h
  case h_2=>cases h
  next hx =>
  simp only [Bool.and_eq_true,Bool.not_eq_true',Bool.or_eq_true] at hx
  obtain ⟨⟨⟨x1,x2⟩,x3⟩,x4⟩:=hx
  have hxa:x ∉ a:=fun hc=>by rw [(h1 x).2 hc] at x2;cases x2
  have hlast:∀ a1 l a2,a++[x]=a1++l::a2→loudI M all l=true→(∀ y∈a2,loudI M all y=false)→(match loudI M all x with
    |true=>some x
    |false=>last)=some l:=by
   intro a1 l a2 e hl hq
   rcases List.eq_nil_or_concat a2 with rfl | ⟨a2',y,rfl⟩
   ·obtain ⟨rfl,e2⟩:=List.append_inj' e rfl
    cases e2
    rw [hl]
   ·rw [List.concat_eq_append,← List.cons_append,← List.append_assoc] at e
    obtain ⟨e1,e2⟩:=List.append_inj' e rfl
    cases e2
    have hxq:=hq x (by simp)
    rw [hxq]
    exact h2 a1 l a2' e1 hl fun y hy=>hq y (by simp [hy])
  obtain ⟨p1,p2⟩:=ordLOk_spec rest (a++[x]) _ _ h
   (fun j => by
    rw [bit_lor,Bool.or_eq_true,h1,decide_eq_true_eq,List.mem_append,List.mem_singleton]
    exact ⟨fun h=>h.imp id Eq.symm,fun h=>h.imp id Eq.symm⟩) hlast
  refine ⟨fun b i c e=>?_,fun i hi=>by have:=p2 i hi;rwa [List.append_assoc,List.singleton_append] at this⟩
  cases b with
  |nil =>
   simp only [List.nil_append,List.cons.injEq] at e
   obtain ⟨rfl,rfl⟩:=e
   rw [List.append_nil]
   refine ⟨(T.blt_iff _ _).1 x1,hxa,fun j hj=>(h1 j).1 (land_sub x3 hj),fun hq a1 l a2 e hl hq2=>?_⟩
   have:=h2 a1 l a2 e hl hq2
   rw [this,hq] at x4
   simpa using x4
  |cons y b =>
   simp only [List.cons_append,List.cons.injEq] at e
   obtain ⟨rfl,rfl⟩:=e
   have:=p1 b i c rfl
   rwa [List.append_assoc,List.singleton_append] at this
theorem ordL_of {M:Nat→Bool} {an:T Nat} {all:List Oper} {ord:List Nat} (h:ordLOk M an all 0 none ord=true):OrdL M an all ord:=by
 obtain ⟨p1,p2⟩:=ordLOk_spec ord [] 0 none h (fun j=>by simp) (fun a1 l a2 e=>by simp at e)
 exact ⟨fun a i c e=>by simpa using p1 a i c e,fun i hi=>by simpa using p2 i hi⟩
theorem takeWhile_before {i:Nat}:∀ {a c:List Nat},i ∉ a→(a++i::c).takeWhile (fun j=>!(Nat.beq i j))=a
 |[],c,_=>by simp
 |x::a,c,h=>by
  have hne:i≠x:=fun e=>h (by simp [e])
  have hb:Nat.beq i x=false:=by
   cases hb:Nat.beq i x with
   |false=>rfl
   |true=>exact absurd (Nat.eq_of_beq_eq_true hb) hne
  simp only [List.cons_append,List.takeWhile_cons,hb,Bool.not_false,if_true]
  rw [takeWhile_before fun h'=>h (List.mem_cons_of_mem _ h')]
theorem bit_fold (an:T Nat) (j:Nat):∀ (ls:List Nat) (m:Nat),(ls.foldl (fun m l=>Nat.lor (Nat.lor m (anc an l)) (2 ^ l)) m).testBit j=true↔m.testBit j=true∨∃ l∈ls,j=l∨(anc an l).testBit j=true
 |[],m=>by simp
 |l::ls,m=>by
  simp only [List.foldl_cons]
  rw [bit_fold an j ls,bit_lor]
  have e:(Nat.lor m (anc an l)).testBit j=(m.testBit j || (anc an l).testBit j):=Nat.testBit_or ..
  rw [e]
  simp only [Bool.or_eq_true,decide_eq_true_eq,List.mem_cons,exists_eq_or_imp]
  constructor
  ·rintro (((h | h) | h) | h)
   ·exact .inl h
   ·exact .inr (.inl (.inr h))
   ·exact .inr (.inl (.inl h.symm))
   ·exact .inr (.inr h)
  ·rintro (h | (h | h) | h)
   ·exact .inl (.inl (.inl h))
   ·exact .inl (.inr h.symm)
   ·exact .inl (.inl (.inr h))
   ·exact .inr h
theorem anL_bit {M:Nat→Bool} {an:T Nat} {all:List Oper} {ord a c:List Nat} {i j:Nat} (hi:i < all.length) (he:ord=a++i::c) (hia:i ∉ a) :
  (anc (anL M an all ord) i).testBit j=true↔(anc an i).testBit j=true∨∃ l∈a,loudI M all l=true∧(j=l∨(anc an l).testBit j=true):=by
 have hget:(anL M an all ord).get i=some (maskOf M an all ord i):=by
  unfold anL
  rw [T.get_ofList]
  simp [hi]
 have hm:anc (anL M an all ord) i=maskOf M an all ord i:=by unfold anc;rw [hget];rfl
 rw [hm]
 unfold maskOf
 rw [he,takeWhile_before hia,bit_fold]
 simp only [List.mem_filter]
 constructor
 ·rintro (h | ⟨l,⟨h1,h2⟩,h3⟩)
  ·exact .inl h
  ·exact .inr ⟨l,h1,h2,h3⟩
 ·rintro (h | ⟨l,h1,h2,h3⟩)
  ·exact .inl h
  ·exact .inr ⟨l,⟨h1,h2⟩,h3⟩
theorem OrdL.split {M:Nat→Bool} {an:T Nat} {all:List Oper} {ord:List Nat} (hO:OrdL M an all ord) {i:Nat} (hi:i < all.length):∃ a c,ord=a++i::c∧i ∉ a:=by
 obtain ⟨a,c,e⟩:=List.append_of_mem (hO.mem i hi)
 exact ⟨a,c,e,(hO.at_ a i c e).2.1⟩
theorem loudAt_I {M:Nat→Bool} {all:List Oper} {i:Nat}:loudAt M all i=loudI M all i:=by
 unfold loudAt loudI
 rw [nthK_eq]
 cases all[i]?<;>rfl
theorem OrdL.ord {M:Nat→Bool} {an:T Nat} {all:List Oper} {ord:List Nat} (hO:OrdL M an all ord):Ord M (anL M an all ord) all ord:=by
 refine ⟨fun a i c e=>?_,hO.mem⟩
 obtain ⟨h1,h2,h3,h4⟩:=hO.at_ a i c e
 refine ⟨h1,h2,fun j hj=>?_,fun l hl hll=>?_⟩
 ·rcases (anL_bit h1 e h2).1 hj with h | ⟨l,g1,g2,rfl | g3⟩
  ·exact h3 j h
  ·exact g1
  ·obtain ⟨a1,a2,rfl⟩:=List.append_of_mem g1
   have:=(hO.at_ a1 l (a2++i::c) (by rw [e];simp)).2.2.1 j g3
   exact List.mem_append_left _ this
 ·rw [loudAt_I] at hll
  exact (anL_bit h1 e h2).2 (.inr ⟨l,hl,hll,.inl rfl⟩)
theorem OrdL.stat {M:Nat→Bool} {an:T Nat} {all:List Oper} {ord:List Nat} (hO:OrdL M an all ord) (hS:PStat M all an):PStat M all (anL M an all ord):=by
 refine ⟨hS.dst,fun i j o o' d h1 h2 h3 h4=>?_⟩
 have hi:i < all.length:=(List.getElem?_eq_some_iff.1 h1).1
 have hj:j < all.length:=(List.getElem?_eq_some_iff.1 h2).1
 obtain ⟨a,c,e,hia⟩:=hO.split hi
 obtain ⟨a',c',e',hja⟩:=hO.split hj
 exact (hS.look i j o o' d h1 h2 h3 h4).imp (fun h=>(anL_bit hi e hia).2 (.inl h)) fun h=>⟨h.1,(anL_bit hj e' hja).2 (.inl h.2)⟩
end Go.Pv
namespace Go.Pv
open Go.Am Go.RowKit
theorem lin_step {ops:Array Oper} (fl tp:Nat) (listed:Array Bool):(Region.linearise.go .any ops (fl+1) tp listed []=[]∧Region.ready .any ops listed=[]) ∨
  ∃ i tp',i∈Region.ready .any ops listed∧Region.linearise.go .any ops (fl+1) tp listed []=i::Region.linearise.go .any ops fl tp' (listed.setIfInBounds i true) []:=by
 simp only [Region.linearise.go]
 cases hi:(Region.ready .any ops listed)[tp % (Region.ready .any ops listed).length]? with
 |none =>
  have hnil:Region.ready .any ops listed=[]:=by
   cases hr:Region.ready .any ops listed with
   |nil=>rfl
   |cons x xs =>
    rw [hr] at hi
    have hlt:tp % (x::xs).length < (x::xs).length:=Nat.mod_lt _ (by simp)
    simp at hi
    simp at hlt
    omega
  have hi2:=hi
  unfold Region.ready at hi2
  rw [hi2]
  exact .inl ⟨rfl,hnil⟩
 |some i =>
  have hi2:=hi
  unfold Region.ready at hi2
  rw [hi2]
  simp only []
  rw [linearise_go_acc,List.reverse_singleton,List.singleton_append]
  exact .inr ⟨i,_,List.mem_of_getElem? hi,rfl⟩
theorem lin_spec {ops : Array Oper} {an : T Nat} (hG : PEdge ops.toList an) : ∀ (fl tp : Nat) (listed : Array Bool), listed.size = ops.size → listed.toList.count false ≤ fl →
  (∀ a i c,Region.linearise.go .any ops fl tp listed []=a++i::c→∃ o,ops[i]?=some o∧listed[i]?=some false∧i ∉ a∧∀ e∈o.after.toList,Region.binds .any e=true→listed.getD e.on false=true∨e.on∈a) ∧
  ∀ j,j < ops.size→listed[j]?=some true∨j∈Region.linearise.go .any ops fl tp listed []
 |0,tp,listed,hsz,hc=>by
  simp only [Region.linearise.go,List.reverse_nil]
  refine ⟨fun a i c e=>by simp at e,fun j hj=>.inl ?_⟩
  have h0:listed.toList.count false=0:=by omega
  have hj':j < listed.size:=by omega
  rw [Array.getElem?_eq_getElem hj']
  cases hv:listed[j] with
  |true=>rfl
  |false =>
   have:false∈listed.toList:=by rw [← hv];simp
   exact absurd this (List.count_eq_zero.1 h0)
 |fl + 1, tp, listed, hsz, hc => by
  rcases lin_step (ops:=ops) fl tp listed with ⟨h,hnil⟩ | ⟨i,tp',hi,h⟩
  ·rw [h]
   refine ⟨fun a i c e=>by simp at e,fun j=>?_⟩
   induction j using Nat.strongRecOn with
   |_ j ihj =>
    intro hj
    refine .inl ?_
    have ho:=Array.getElem?_eq_getElem hj
    have hj':j < listed.size:=by omega
    rw [Array.getElem?_eq_getElem hj']
    cases hv:listed[j] with
    |true=>rfl
    |false =>
     exfalso
     have hlj:listed[j]?=some false:=by rw [Array.getElem?_eq_getElem hj',hv]
     have:j∈Region.ready .any ops listed:=by
      refine ready_mem' ho (by rw [Array.getD_eq_getD_getElem?,hlj];rfl) fun e he hb=>?_
      have h1:=hG.edge j _ (by rw [Array.getElem?_toList];exact ho) e he hb
      rcases ihj e.on h1 (by omega) with h2 | h2
      ·rw [Array.getD_eq_getD_getElem?,h2]
       rfl
      ·cases h2
     rw [hnil] at this
     cases this
  ·obtain ⟨r1,r2,o,r3,r4⟩:=ready_spec' hi
   have hi':i < listed.size:=by omega
   have hli:listed[i]?=some false:=by
    rw [Array.getD_eq_getD_getElem?,Array.getElem?_eq_getElem hi'] at r2
    rw [Array.getElem?_eq_getElem hi']
    simpa using r2
   have hc':(listed.setIfInBounds i true).toList.count false≤fl:=by
    have h1:=count_set' (l:=listed.toList) (i:=i) (by rw [Array.getElem?_toList];exact hli)
    rw [Array.toList_setIfInBounds]
    omega
   obtain ⟨p1,p2⟩:=lin_spec hG fl tp' (listed.setIfInBounds i true) (by simpa using hsz) hc'
   rw [h]
   refine ⟨fun a x c e=>?_,fun j hj=>?_⟩
   ·cases a with
    |nil =>
     simp only [List.nil_append,List.cons.injEq] at e
     obtain ⟨rfl,_⟩:=e
     exact ⟨o,r3,hli,by simp,fun e he hb=>.inl (r4 e he hb)⟩
    |cons y a =>
     simp only [List.cons_append,List.cons.injEq] at e
     obtain ⟨rfl,e⟩:=e
     obtain ⟨o',q1,q2,q3,q4⟩:=p1 a x c e
     have hne:i≠x:=fun hc=>by
      subst hc
      rw [Array.getElem?_setIfInBounds_self_of_lt hi'] at q2
      cases q2
     rw [Array.getElem?_setIfInBounds_ne hne] at q2
     refine ⟨o',q1,q2,fun hm=>?_,fun e he hb=>?_⟩
     ·rcases List.mem_cons.1 hm with h1 | h1
      ·exact hne h1.symm
      ·exact q3 h1
     ·rcases q4 e he hb with h1 | h1
      ·by_cases hie:i=e.on
       ·exact .inr (by rw [← hie];simp)
       ·rw [Array.getD_eq_getD_getElem?,Array.getElem?_setIfInBounds_ne hie,← Array.getD_eq_getD_getElem?] at h1
        exact .inl h1
      ·exact .inr (List.mem_cons_of_mem _ h1)
   ·by_cases hij:i=j
    ·exact .inr (by rw [hij];simp)
    ·rcases p2 j hj with h1 | h1
     ·rw [Array.getElem?_setIfInBounds_ne hij] at h1
      exact .inl h1
     ·exact .inr (List.mem_cons_of_mem _ h1)
theorem nodup_split:∀ {L:List Nat},(∀ a i c,L=a++i::c→i ∉ a)→L.Nodup
 |[],_=>List.nodup_nil
 |x::xs,h=>by
  refine List.nodup_cons.2 ⟨fun hx=>?_,nodup_split fun a i c e hm=>h (x::a) i c (by rw [e];rfl) (List.mem_cons_of_mem _ hm)⟩
  obtain ⟨a,c,e⟩:=List.append_of_mem hx
  exact h (x::a) x c (by rw [e];rfl) (by simp)
theorem split_uniq {i:Nat}:∀ {x x' y y':List Nat},x++i::y=x'++i::y'→i ∉ x→i ∉ x'→x=x'
 |[],[],_,_,_,_,_=>rfl
 |[],z::x',_,_,e,_,h=>by
  simp only [List.nil_append,List.cons_append,List.cons.injEq] at e
  exact absurd (by rw [e.1];simp) h
 |z::x,[],_,_,e,h,_=>by
  simp only [List.nil_append,List.cons_append,List.cons.injEq] at e
  exact absurd (by rw [e.1];simp) h
 |z::x,z'::x',y,y',e,h,h'=>by
  simp only [List.cons_append,List.cons.injEq] at e
  rw [e.1,split_uniq e.2 (fun hm=>h (List.mem_cons_of_mem _ hm)) fun hm=>h' (List.mem_cons_of_mem _ hm)]
theorem lin_anc {ops:Array Oper} {an:T Nat} (hG:PEdge ops.toList an) {L:List Nat} (hL:∀ a i c,L=a++i::c→∃ o,ops[i]?=some o∧∀ e∈o.after.toList,Region.binds .any e=true→e.on∈a) :
  ∀ (n:Nat) (a:List Nat) (i:Nat) (c:List Nat),a.length≤n→L=a++i::c→∀ j,(anc an i).testBit j=true→j∈a:=by
 intro n
 induction n with
 |zero =>
  intro a i c hn e j hj
  obtain ⟨o,h1,h2⟩:=hL a i c e
  obtain ⟨ed,e1,e2,e3⟩:=hG.back i o (by rw [Array.getElem?_toList];exact h1) j hj
  have:=h2 ed e1 e2
  rw [List.eq_nil_of_length_eq_zero (by omega:a.length=0)] at this
  cases this
 |succ n ih =>
  intro a i c hn e j hj
  obtain ⟨o,h1,h2⟩:=hL a i c e
  obtain ⟨ed,e1,e2,e3⟩:=hG.back i o (by rw [Array.getElem?_toList];exact h1) j hj
  have hm:=h2 ed e1 e2
  rcases e3 with rfl | e3
  ·exact hm
  ·obtain ⟨a1,a2,rfl⟩:=List.append_of_mem hm
   have:=ih a1 ed.on (a2++i::c) (by simp at hn;omega) (by rw [e];simp) j e3
   exact List.mem_append_left _ this
section
variable {A:AP} {P:Program} {E:Eqs} {w0:Base} {M:Nat→Bool} {sz:Nat} {an:T Nat} {ord:List Nat} {K:T PV→PH→Prop} {X:PV→PH→Prop}
theorem draw_list (hA:A.Ok P) (hE:E.Ok P) {ops:Array Oper} (hO:Ord M an ops.toList ord) (hS:PStat M ops.toList an) {b:Frame} {k:List Item} {cs:List Frame} {dl:List Deferred} (hm:b.mode=.run) :
  ∀ (L : List Nat) (s : St) (arr : Array Value) (Dn : Nat → Prop) (pre rest : List Nat) (rds : List (Nat × Oper × PV)) (t : T PV), DInv A E P M sz an ops.toList ord K X w0 s arr Dn pre rest rds t →
   (∀ a i c,L=a++i::c→(∃ o,ops[i]?=some o)∧¬ Dn i∧i ∉ a∧∀ j,(anc an i).testBit j=true→Dn j∨j∈a) →
   (∃ s' arr' Dn' pre' rest' rds' t', Ext s s' ∧ DInv A E P M sz an ops.toList ord K X w0 s' arr' Dn' pre' rest' rds' t' ∧ (∀ j, Dn j ∨ j ∈ L → Dn' j) ∧
    Steps P (lone (on b arr dl (.inRegion ops L::k)) cs s.w) (lone (on b arr' dl (.inRegion ops []::k)) cs s'.w)) ∨
   ∃ x v s' arr' todo,PW w0 s'∧Ext s s'∧RV s' v x∧X v s'.h∧(arr'.size=sz∧∀ i,(∀ o∈ops.toList,o.dst≠some i)→arr'[i]?=arr[i]?) ∧
    Steps P (lone (on b arr dl (.inRegion ops L::k)) cs s.w) (lone { on b arr' dl todo with mode:=.panicking [{ v:=x,recovered:=false }] } cs s'.w)
 |[],s,arr,Dn,pre,rest,rds,t,I,_=>.inl ⟨s,arr,Dn,pre,rest,rds,t,Ext.refl s,I,fun j hj=>hj.elim id fun h=>by (cases h),.refl _ _⟩
 |i :: L, s, arr, Dn, pre, rest, rds, t, I, hL => by
  obtain ⟨⟨o,ho⟩,hn,_,hanc⟩:=hL [] i L rfl
  have hanc':∀ j,(anc an i).testBit j=true→Dn j:=fun j hj=>(hanc j hj).elim id fun h=>by cases h
  rcases I.one hA hE hO hS rfl hm ho hn hanc' (k:=k) (cs:=cs) (dl:=dl) L with ⟨s1,arr1,pre1,rest1,rds1,t1,u1,u2,uk,u3⟩ | ⟨x,v,s1,todo,u1,u2,u3,u4,u5⟩
  ·have hL':∀ a x c,L=a++x::c→(∃ o,ops[x]?=some o)∧¬ (Dn x∨x=i)∧x ∉ a∧∀ j,(anc an x).testBit j=true→(Dn j∨j=i)∨j∈a:=by
    intro a x c e
    obtain ⟨h1,h2,h3,h4⟩:=hL (i::a) x c (by rw [e];rfl)
    refine ⟨h1,fun hc=>hc.elim h2 fun hxi=>h3 (by simp [hxi]),fun hm=>h3 (List.mem_cons_of_mem _ hm),fun j hj=>?_⟩
    rcases h4 j hj with h | h
    ·exact .inl (.inl h)
    ·rcases List.mem_cons.1 h with h | h
     ·exact .inl (.inr h)
     ·exact .inr h
   rcases draw_list hA hE hO hS hm L s1 arr1 _ pre1 rest1 rds1 t1 u2 hL' with ⟨s2,arr2,Dn2,pre2,rest2,rds2,t2,v1,v2,v3,v4⟩ | ⟨x,v,s2,arr2,todo,v1,v2,v3,v4,v5,v6⟩
   ·refine .inl ⟨s2,arr2,Dn2,pre2,rest2,rds2,t2,u1.trans v1,v2,fun j hj=>v3 j ?_,u3.trans v4⟩
    rcases hj with hj | hj
    ·exact .inl (.inl hj)
    ·rcases List.mem_cons.1 hj with hj | hj
     ·exact .inl (.inr hj)
     ·exact .inr hj
   ·exact .inr ⟨x,v,s2,arr2,todo,v1,u1.trans v2,v3,v4,⟨v5.1,fun y hy=>(v5.2 y hy).trans (uk y (hy o (List.mem_of_getElem? (by rw [Array.getElem?_toList];exact ho))))⟩,u3.trans v6⟩
  ·exact .inr ⟨x,v,s1,arr,todo,u1,u2,u3,u4,⟨I.size,fun _ _=>rfl⟩,u5⟩
theorem PWP.drawL (hA:A.Ok P) (hE:E.Ok P) (hP:P.follows .mixedOrders=true) {id:Nat} {ops:Array Oper} {rnd:Option Nat} {fi:FuncId} {Q:PQ} {X:T PV→List Nat→PV→PH→Prop} {t:T PV} {ds:List Nat} {h:PH} {fls:List (List (Nat×Bool))}
  (hd:drwL M ops.toList=some fls) (hp:∀ fl∈fls,pdra A E P M sz ops.toList fl t h (fun t h=>Q .normal t ds h) (X (tless t ops.toList) ds)):PWP P fi sz rnd (.region id ops true) Q X t ds h:=by
 intro w0 s arr b k cs a1 a2 a3 a4 a5 a6 a7 a8 a9
 subst a2
 unfold drwL at hd
 split at hd
 ·cases hd
 next an hst =>
 have hS:=pstat_ok hst
 have hG:=pstat_edge hst
 have hstep:Steps P (lone (on b arr (dls s ds) (.code (.region id ops true)::k)) cs s.w)
   (lone (on b arr (dls s ds) (.inRegion ops (Region.linearise.go .any ops ops.size (s.w.tape s.w.drawn (.order b.fn id)) (Array.replicate ops.size false) [])::k)) cs s.w.drew):=by
  refine .one (step_lone_go ?_)
  rw [stepG_run (fr:=on b arr (dls s ds) (.code (.region id ops true)::k)) a6]
  simp [stepG.exec,choose,Sem.run,Question.forced,Question.cut,Region.schedule,hP,Region.linearise,on]
 obtain ⟨l1,l2⟩:=lin_spec hG ops.size (s.w.tape s.w.drawn (.order b.fn id)) (Array.replicate ops.size false) (by simp) (by simp [List.count_replicate])
 generalize Region.linearise.go .any ops ops.size (s.w.tape s.w.drawn (.order b.fn id)) (Array.replicate ops.size false) []=L at hstep l1 l2
 have hno:∀ j,(Array.replicate ops.size false).getD j false=false:=fun j=>by
  rw [Array.getD_eq_getD_getElem?,Array.getElem?_replicate]
  split<;>rfl
 have lsp:∀ a i c,L=a++i::c→∃ o,ops[i]?=some o∧∀ e∈o.after.toList,Region.binds .any e=true→e.on∈a:=fun a i c e=>by
  obtain ⟨o,h1,_,_,h4⟩:=l1 a i c e
  refine ⟨o,h1,fun e he hb=>(h4 e he hb).elim (fun h=>?_) fun h=>h⟩
  rw [hno] at h
  cases h
 have lmem:∀ j,j < ops.size→j∈L:=fun j hj=>(l2 j hj).elim (fun h=>by rw [Array.getElem?_replicate] at h;split at h<;>cases h) fun h=>h
 have lnot:∀ a i c,L=a++i::c→i ∉ a:=fun a i c e=>(l1 a i c e).elim fun o h=>h.2.2.1
 have lnd:=nodup_split lnot
 have lanc:∀ a i c,L=a++i::c→∀ j,(anc an i).testBit j=true→j∈a:=fun a i c e=>lin_anc hG lsp a.length a i c (Nat.le_refl _) e
 have llt:∀ i∈L,i < ops.size:=fun i hi=>by
  obtain ⟨a,c,e⟩:=List.append_of_mem hi
  obtain ⟨o,h1,_⟩:=lsp a i c e
  exact (Array.getElem?_eq_some_iff.1 h1).1
 have hlo:L.filter (loudI M ops.toList)∈lexts an (loudsOf M ops.toList).length (loudsOf M ops.toList):=by
  refine lexts_mem _ _ _ (Nat.le_refl _) (lnd.filter _) (fun i=>?_) (fun a i c e j hj hb hji=>?_)
  ·simp only [loudsOf,List.mem_filter,List.mem_range,Array.length_toList]
   exact ⟨fun ⟨h1,h2⟩=>⟨llt i h1,h2⟩,fun ⟨h1,h2⟩=>⟨lmem i h1,h2⟩⟩
  ·have hiL:i∈L.filter (loudI M ops.toList):=by rw [e];simp
   obtain ⟨hiL,hli⟩:=List.mem_filter.1 hiL
   obtain ⟨a',c',e'⟩:=List.append_of_mem hiL
   have e2:a'.filter (loudI M ops.toList)++i::c'.filter (loudI M ops.toList)=a++i::c:=by
    rw [← e,e',List.filter_append,List.filter_cons,if_pos hli]
   have hia:i ∉ a:=by
    have:=lnd.filter (loudI M ops.toList)
    rw [e] at this
    exact fun hm=>(List.nodup_append.1 this).2.2 i hm i (by simp) rfl
   have:=split_uniq e2 (fun hm=>lnot a' i c' e' (List.mem_filter.1 hm).1) hia
   rw [← this]
   exact List.mem_filter.2 ⟨lanc a' i c' e' j hb,(List.mem_filter.1 hj).2⟩
 obtain ⟨fl,hfl1,hfl2⟩:=drwAll_mem hd _ hlo
 unfold drw1 at hfl2
 split at hfl2
 case h_2=>cases hfl2
 next hok =>
 simp only [Bool.and_eq_true] at hok
 generalize asapL M an ops.toList ops.toList.length 0 (L.filter (loudI M ops.toList))=ord at hok hfl2
 have hOL:=ordL_of hok.1
 have hlou:=listEq_eq hok.2
 have hO:=hOL.ord
 have hS':=hOL.stat hS
 have hF:=dra_drawF hO hS' hfl2 fl [] [] t s.h rfl (fun r hr=>by cases hr) (hp fl hfl1)
 rw [(flagK_spec _ _ hfl2).1] at hF
 have hfull : ∀ a i c, L = a ++ i :: c → (∃ o, ops[i]? = some o) ∧ ¬ False ∧ i ∉ a ∧ ∀ j, (anc (anL M an ops.toList ord) i).testBit j = true → False ∨ j ∈ a := by
  intro a i c e
  obtain ⟨o,h1,_⟩:=lsp a i c e
  refine ⟨⟨o,h1⟩,fun h=>h,lnot a i c e,fun j hj=>.inr ?_⟩
  have hi:i < ops.toList.length:=by
   have:=(Array.getElem?_eq_some_iff.1 h1).1
   simpa using this
  obtain ⟨p,q,e',hip⟩:=hOL.split hi
  have loudsEq:∀ (a c p q:List Nat) (l:Nat),L=a++l::c→ord=p++l::q→loudI M ops.toList l=true→p.filter (loudI M ops.toList)=a.filter (loudI M ops.toList):=by
   intro a c p q l e1 e2 hl
   have h2:p.filter (loudI M ops.toList)++l::q.filter (loudI M ops.toList)=a.filter (loudI M ops.toList)++l::c.filter (loudI M ops.toList):=by
    have:=hlou
    rw [e1,e2,List.filter_append,List.filter_append,List.filter_cons,List.filter_cons,if_pos hl,if_pos hl] at this
    exact this
   exact split_uniq h2 (fun hm=>(hOL.at_ p l q e2).2.1 (List.mem_filter.1 hm).1) fun hm=>lnot a l c e1 (List.mem_filter.1 hm).1
  have hlouds : ∀ l ∈ p, loudI M ops.toList l = true → l ∈ a := by
   intro l hl hll
   cases hli:loudI M ops.toList i with
   |true =>
    have:=loudsEq a c p q i e e' hli
    exact (List.mem_filter.1 (by rw [← this];exact List.mem_filter.2 ⟨hl,hll⟩)).1
   |false =>
    have hlast : ∀ (p : List Nat), (∃ l ∈ p, loudI M ops.toList l = true) → ∃ p1 m p2, p = p1 ++ m :: p2 ∧ loudI M ops.toList m = true ∧ ∀ x ∈ p2, loudI M ops.toList x = false := by
     intro p
     induction p with
     |nil=>rintro ⟨l,hl,_⟩;cases hl
     |cons y p ih =>
      intro hex
      by_cases hp:∃ l∈p,loudI M ops.toList l=true
      ·obtain ⟨p1,m,p2,rfl,h1,h2⟩:=ih hp
       exact ⟨y::p1,m,p2,rfl,h1,h2⟩
      ·obtain ⟨l,hl,hll⟩:=hex
       rcases List.mem_cons.1 hl with rfl | hl
       ·exact ⟨[],l,p,rfl,hll,fun x hx=>by
         cases hb:loudI M ops.toList x with
         |false=>rfl
         |true=>exact absurd ⟨x,hx,hb⟩ hp⟩
       ·exact absurd ⟨l,hl,hll⟩ hp
    obtain ⟨p1,m,p2,hp12,hm1,hm2⟩:=hlast p ⟨l,hl,hll⟩
    have hmi:=(hOL.at_ p i q e').2.2.2 hli p1 m p2 hp12 hm1 hm2
    have hma:=lanc a i c e m hmi
    obtain ⟨b1,b2,hb⟩:=List.append_of_mem hma
    have heq:=loudsEq b1 (b2++i::c) p1 (p2++i::q) m (by rw [e,hb];simp) (by rw [e',hp12];simp) hm1
    rw [hp12] at hl
    rcases List.mem_append.1 hl with hl | hl
    ·have:l∈b1:=(List.mem_filter.1 (by rw [← heq];exact List.mem_filter.2 ⟨hl,hll⟩)).1
     rw [hb]
     exact List.mem_append_left _ this
    ·rcases List.mem_cons.1 hl with rfl | hl
     ·exact hma
     ·rw [hm2 l hl] at hll
      cases hll
  rcases (anL_bit hi e' hip).1 hj with h | ⟨l,g1,g2,rfl | g3⟩
  ·exact lanc a i c e j h
  ·exact hlouds j g1 g2
  ·have hla:=hlouds l g1 g2
   obtain ⟨b1,b2,hb⟩:=List.append_of_mem hla
   have:=lanc b1 l (b2++i::c) (by rw [e,hb];simp) j g3
   rw [hb]
   exact List.mem_append_left _ this
 have hx0:=Ext.drew s
 obtain ⟨pre,rest,rds,t1,q1,q2,q3,q4,q5,q6,q7⟩:=absorb (E:=E) (sz:=sz) hO hS' (fun _=>False) ord [] [] t rfl hF (fun i hi=>by cases hi)
 have I:DInv A E P M sz (anL M an ops.toList ord) ops.toList ord (fun t h=>Q .normal t ds h) (X (tless t ops.toList) ds) w0 (s.wat s.w.drew) arr (fun _=>False) pre rest rds t1:=by
  refine ⟨a1.drew,q1,q3,q4,fun _ hc=>hc.elim,fun i hi hl=>(by have:=q6 i hi hl;cases this),fun _ hc=>hc.elim,q5,fun x v hx hw=>?_,a4⟩
  rw [q7 x fun i hi _ o ho hd=>(hw i o ho hd).elim (fun h=>h) fun h=>h hi] at hx
  obtain ⟨y,y1,y2⟩:=a3 x v hx
  exact ⟨y,y1,(R2.ext hx0 v).1 _ y2⟩
 rcases draw_list (k:=k) (cs:=cs) (dl:=dls s ds) hA hE hO hS' a6 L _ arr _ pre rest rds t1 I hfull with
  ⟨s',arr',Dn',pre',rest',rds',t',u1,u2,u3,u4⟩ | ⟨x,v,s',arr',todo,u1,u2,u3,u4,u5,u6⟩
 ·have hxs:=hx0.trans u1
  have hall:∀ (j:Nat) (o:Oper),ops.toList[j]?=some o→Dn' j:=fun j o ho=>u3 j (.inr (lmem j (by simpa using (List.getElem?_eq_some_iff.1 ho).1)))
  have hrest:rest'=[]:=by
   cases rest' with
   |nil=>rfl
   |cons i r =>
    have h1:=hO.at_ pre' i r u2.split
    exact absurd (u2.dnIn i (u3 i (.inr (lmem i (by simpa using h1.1))))) h1.2.1
  subst hrest
  have hF':=u2.F
  simp only [pdrawF] at hF'
  refine ⟨s',arr',ds,u2.pw,hxs,u2.size,fun i hi=>Nat.lt_of_lt_of_le (a5 i hi) hxs.next,.inl ⟨t',hF',fun x v hx=>u2.tm x v hx fun j o ho _=>.inl (hall j o ho),?_⟩⟩
  rw [dls_ext hxs a5]
  exact (hstep.trans u4).trans (step_on a6 (by simp [stepG.exec,on]))
 ·have hxs:=hx0.trans u2
  refine ⟨s',arr',ds,u1,hxs,u5.1,fun i hi=>Nat.lt_of_lt_of_le (a5 i hi) hxs.next,.inr (.inr ⟨tless t ops.toList,v,x,todo,u4,u3,fun i u hi=>?_,?_⟩)⟩
  ·obtain ⟨g1,g2⟩:=tless_get _ _ _ _ hi
   obtain ⟨y,y1,y2⟩:=a3 i u g1
   exact ⟨y,(u5.2 i g2).trans y1,(R2.ext hxs u).1 _ y2⟩
  ·rw [dls_ext hxs a5]
   exact hstep.trans u6
end
section
variable {C:Cx} {F:EQ} {X:EX} {k:List KI} {e:EL} {ds:List Nat} {h:PH}
def Dras (C:Cx) (F:EQ) (X:EX) (k:List KI) (all:List Oper) (e:EL) (ds:List Nat) (h:PH):List (List (Nat×Bool))→Prop
 |[]=>True
 |fl::fls=>Dra C F X k all fl e ds h∧Dras C F X k all e ds h fls
theorem Dras.mem {all:List Oper}:∀ {fls:List (List (Nat×Bool))},Dras C F X k all e ds h fls→∀ fl∈fls,Dra C F X k all fl e ds h
 |[],_,fl,hm=>by cases hm
 |x::fls,hd,fl,hm=>by
  rcases List.mem_cons.1 hm with rfl | hm
  ·exact hd.1
  ·exact Dras.mem hd.2 fl hm
theorem Run.drawL (hC:C.Ok) {id:Nat} {ops:Array Oper} (fls:List (List (Nat×Bool))) (hd:drwL C.M ops.toList=some fls) (hr:Dras C F X k ops.toList e ds h fls):Run C F X (.c (.region id ops true)::k) e ds h:=by
 refine Run.intro (PWP.drawL (M:=C.M) hC.A hC.E hC.f hd fun fl hfl=>?_)
 have:=hr.mem fl hfl
 unfold Dra at this
 exact this (TE e) (TE_getf e)
end
end Go.Pv
