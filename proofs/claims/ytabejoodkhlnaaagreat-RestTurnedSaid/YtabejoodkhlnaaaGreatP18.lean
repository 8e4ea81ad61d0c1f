/- Parts of the proof: T34, Pv53, T36, T37, T38, T39 -/
import Derived.Test.YtabejoodkhlnaaaGreatP17
set_option linter.unusedVariables false
set_option linter.unusedSimpArgs false
namespace Go.Pv
open Go.Proofs Go.Am
set_option maxRecDepth 10000
theorem rstOf_self (R:Rst):rstOf R.m R.o0 R.t0 R.r0 R.f0 R.o1 R.t1 R.r1 R.f1=R:=rfl
theorem f36 (R:Rst) (hv:validR R.m R.o0 R.t0 R.r0 R.f0 R.o1 R.t1 R.r1 R.f1=true) (tl:Tail) (htl:tl.isOwn=false) (xs:List Int) (hx:∀ x∈xs,x=0∨x=1) (hl:xs.length=R.m) :
    Fn P0 36 [.agg R.cells,.sl tl (xs.map I)] (B (rt R zeroRid xs)):=by
  have hm16:R.m≤16:=(valid_iff.1 hv).1
  have hc:=check R.m R.o0 R.t0 R.r0 R.f0 R.o1 R.t1 R.r1 R.f1 tl htl xs (by omega)
  have hp:planOk R.m xs=true:=planOk_iff.2 ⟨hx,by omega⟩
  unfold checkV at hc
  rw [if_pos hv,if_pos hp,rstOf_self] at hc
  have hr:=rt_fault R xs zeroRid
  have hb:PV.bds 0 [.agg R.cells,.sl tl (xs.map I)]=true:=by
    simp only [PV.bds,bd_sl (f:=I) htl (fun _=>rfl) xs,Bool.and_true]
    rfl
  cases hrt:rt R zeroRid xs with
  | true =>
    rw [hrt] at hr
    rw [if_neg (hr.1 rfl)] at hc
    refine PFun.of (C:=c36) (cx_ok _ _ _) rfl (fn:=Tryz.f36) (by kernel_rfl) (c:=_) rfl rfl rfl ?_
    refine Run.seq (Run.region (cx_ok _ _ _) (Reg.op rfl (Ope.boxF rfl rfl ?_)))
    refine Reg.op rfl (Ope.asg rfl ?_)
    refine Reg.nil (Run.seq (Run.region (cx_ok _ _ _) (Reg.op rfl (Ope.load rfl rfl ?_))))
    refine Reg.op rfl (Ope.mov rfl ?_)
    refine Reg.op rfl (Ope.cf rfl rfl hc hb ?_)
    refine Reg.op rfl (Ope.mov rfl ?_)
    refine Reg.op rfl (Ope.ext rfl rfl ?_)
    refine Reg.op rfl (Ope.ext rfl rfl ?_)
    refine Reg.op rfl (Ope.ext rfl rfl ?_)
    refine Reg.op rfl (Ope.asg rfl ?_)
    refine Reg.op rfl (Ope.asg rfl ?_)
    refine Reg.op rfl (Ope.asg rfl ?_)
    refine Reg.nil (Run.seq (Run.region (cx_ok _ _ _) (Reg.op rfl (Ope.mov rfl ?_))))
    refine Reg.op rfl (Ope.eq rfl rfl ?_)
    refine Reg.op rfl (Ope.asg rfl ?_)
    refine Reg.nil (Run.ret (fin_ret (.tmp rfl .nil) rfl ?_))
    rfl
  | false =>
    rw [hrt] at hr
    have hpos:0 < (faultV R zeroRid xs).2:=by
      have:¬ ¬ 0 < (faultV R zeroRid xs).2:=fun h=>by cases hr.2 h
      omega
    rw [if_pos hpos] at hc
    refine PFun.of (C:=c36) (cx_ok _ _ _) rfl (fn:=Tryz.f36) (by kernel_rfl) (c:=_) rfl rfl rfl ?_
    refine Run.seq (Run.region (cx_ok _ _ _) (Reg.op rfl (Ope.boxF rfl rfl ?_)))
    refine Reg.op rfl (Ope.asg rfl ?_)
    refine Reg.nil (Run.seq (Run.region (cx_ok _ _ _) (Reg.op rfl (Ope.load rfl rfl ?_))))
    refine Reg.op rfl (Ope.mov rfl ?_)
    refine Reg.op rfl (Ope.cf rfl rfl hc hb ?_)
    refine Reg.op rfl (Ope.mov rfl ?_)
    refine Reg.op rfl (Ope.ext rfl rfl ?_)
    refine Reg.op rfl (Ope.ext rfl rfl ?_)
    refine Reg.op rfl (Ope.ext rfl rfl ?_)
    refine Reg.op rfl (Ope.asg rfl ?_)
    refine Reg.op rfl (Ope.asg rfl ?_)
    refine Reg.op rfl (Ope.asg rfl ?_)
    refine Reg.nil (Run.seq (Run.region (cx_ok _ _ _) (Reg.op rfl (Ope.mov rfl ?_))))
    refine Reg.op rfl (Ope.eq rfl rfl ?_)
    refine Reg.op rfl (Ope.asg rfl ?_)
    refine Reg.nil (Run.ret (fin_ret (.tmp rfl .nil) rfl ?_))
    rfl
end Go.Pv
namespace Go.Pv
open Go.Am Go.RowKit
section
variable {C:Cx} {X:EX} {e:EL} {ds:List Nat} {n:Nat} {l:HL} {h:PH} {K:PV→PH→Prop}
variable {d:Option Tmp} {type:TypeId} {pos:String} {after:Array Edge} {guard:Option (Nat×Bool)}
theorem Ope.slA {t len:Nat} {agg:Bool} {x:Operand} {vs:List PV} [hf:Arr C.A t len agg 1] (hx:pev (lget e) x=some (.fp (.agg vs))) (hl:vs.length=len) (hv:vs.all (fun v=>!v.isAgg)=true)
  (hK:K (.sl .ex vs) h):Ope C X { dst:=d,op:=.slice t x none none none,type,pos,after,guard } e ds h K:=by
 refine Ope.quiet rfl ?_ hK
 obtain ⟨el,h1,h2⟩:=hf.get
 obtain ⟨d',ti',h4,h5,h6,h7⟩:=h2.get
 subst hl
 have hb:Nat.beq ti'.size 1=true:=by rw [h7];rfl
 have hb2:Nat.beq vs.length vs.length=true:=Nat.beq_refl _
 simp only [pquiet,hx,popt,pslice,h1,h5,hb,hb2,hv]
theorem Ope.eqV {t t':TypeId} {x y:Operand} {p q:PV} {b:Bool} (hx:pev (lget e) x=some p) (hy:pev (lget e) y=some q) (hb:pbin C.A C.E .eql t x y p q=some (B b)) (hK:K (B b) h) :
  Ope C X { dst:=d,op:=.binOp .eql t x y t',type,pos,after,guard } e ds h K:=by
 refine Ope.quiet rfl ?_ hK
 simp only [pquiet,hx,hy,hb]
end
end Go.Pv
namespace Go.Pv
open Go.Proofs Go.Am
set_option maxRecDepth 10000
theorem f174 (tl:Tail) (htl:tl.isOwn=false) (a b:Int):Fn P0 174 [.sl tl [I a,I b]] (I (max a b)):=by
  refine PFun.of (C:=c174) (cx_ok _ _ _) rfl (fn:=Tryz.f174) (by kernel_rfl) (c:=_) rfl rfl rfl ?_
  refine Run.seq (Run.region (cx_ok _ _ _) (Reg.op rfl (Ope.asg rfl ?_)))
  refine Reg.nil (Run.seq (Run.seq (Run.region (cx_ok _ _ _) (Reg.op rfl (Ope.mov rfl ?_)))))
  refine Reg.op rfl (Ope.len (m:=2) rfl rfl ?_)
  refine Reg.op rfl (Ope.lt rfl rfl ?_)
  refine Reg.nil (Run.condX rfl (fun hc=>?_) fun hc=>?_)
  ·exfalso;omega
  ·refine Run.skip (Run.seq (Run.region (cx_ok _ _ _) (Reg.op rfl (Ope.mov rfl ?_))))
   refine Reg.op rfl (Ope.idxS (m:=0) rfl rfl rfl rfl rfl ?_)
   refine Reg.op rfl (Ope.load rfl rfl ?_)
   refine Reg.op rfl (Ope.asg rfl ?_)
   refine Reg.nil (Run.seq (Run.seq (Run.region (cx_ok _ _ _) (Reg.op rfl (Ope.asg rfl ?_)))))
   refine Reg.nil (Run.block (Run.loop (α:=Nat×Int) (fun s=>[(0,.sl tl [I a,I b]),(3,I s.2),(4,I s.1)]) (fun _=>HE 0 []) (fun s=>(s.1=1∧s.2=a)∨(s.1=2∧s.2=max a b)) (fun s=>2 - s.1) (1,a) ⟨rfl,rfl,rfl,trivial⟩ rfl (.inl ⟨rfl,rfl⟩) (fun s hs=>?_)))
   obtain ⟨i,v⟩:=s
   rcases hs with ⟨h1,h2⟩ | ⟨h1,h2⟩<;>simp only at h1 h2<;>subst i v
   ·refine Run.seq (Run.seq (Run.region (cx_ok _ _ _) (Reg.op rfl (Ope.mov rfl ?_))))
    refine Reg.op rfl (Ope.mov rfl ?_)
    refine Reg.op rfl (Ope.len (m:=2) rfl rfl ?_)
    refine Reg.op rfl (Ope.lt rfl rfl ?_)
    refine Reg.nil (Run.condX rfl (fun hc=>?_) fun hc=>?_)
    ·refine Run.skip (Run.seq (Run.block (Run.region (cx_ok _ _ _) (Reg.op rfl (Ope.mov rfl ?_)))))
     refine Reg.op rfl (Ope.mov rfl ?_)
     refine Reg.op rfl (Ope.mov rfl ?_)
     refine Reg.op rfl (Ope.idxS (m:=1) rfl rfl rfl rfl rfl ?_)
     refine Reg.op rfl (Ope.load rfl rfl ?_)
     refine Reg.op rfl (Ope.maxI rfl rfl ?_)
     refine Reg.op rfl (Ope.asg rfl ?_)
     refine Reg.nil (Run.bend (Run.region (cx_ok _ _ _) (Reg.op rfl (Ope.mov rfl ?_))))
     refine Reg.op rfl (Ope.add rfl rfl (by omega) ?_)
     refine Reg.op rfl (Ope.asg rfl ?_)
     exact Reg.nil (Run.lend ⟨(2,max a b),by simp only;omega,.inr ⟨rfl,rfl⟩,⟨rfl,rfl,rfl,trivial⟩,rfl,rfl⟩)
    ·(exfalso;omega)
   ·refine Run.seq (Run.seq (Run.region (cx_ok _ _ _) (Reg.op rfl (Ope.mov rfl ?_))))
    refine Reg.op rfl (Ope.mov rfl ?_)
    refine Reg.op rfl (Ope.len (m:=2) rfl rfl ?_)
    refine Reg.op rfl (Ope.lt rfl rfl ?_)
    refine Reg.nil (Run.condX rfl (fun hc=>?_) fun hc=>?_)
    ·(exfalso;omega)
    ·refine Run.exit (Jmp.code (Jmp.round (Jmp.here (Run.seq (Run.region (cx_ok _ _ _) (Reg.op rfl (Ope.mov rfl ?_)))))))
     refine Reg.op rfl (Ope.asg rfl ?_)
     refine Reg.nil (Run.ret (fin_ret (.tmp rfl .nil) rfl ?_))
     rfl
theorem f175 (tl:Tail) (htl:tl.isOwn=false) (a b:Int):Fn P0 175 [.sl tl [I a,I b]] (I (min a b)):=by
  refine PFun.of (C:=c175) (cx_ok _ _ _) rfl (fn:=Tryz.f175) (by kernel_rfl) (c:=_) rfl rfl rfl ?_
  refine Run.seq (Run.region (cx_ok _ _ _) (Reg.op rfl (Ope.asg rfl ?_)))
  refine Reg.nil (Run.seq (Run.seq (Run.region (cx_ok _ _ _) (Reg.op rfl (Ope.mov rfl ?_)))))
  refine Reg.op rfl (Ope.len (m:=2) rfl rfl ?_)
  refine Reg.op rfl (Ope.lt rfl rfl ?_)
  refine Reg.nil (Run.condX rfl (fun hc=>?_) fun hc=>?_)
  ·exfalso;omega
  ·refine Run.skip (Run.seq (Run.region (cx_ok _ _ _) (Reg.op rfl (Ope.mov rfl ?_))))
   refine Reg.op rfl (Ope.idxS (m:=0) rfl rfl rfl rfl rfl ?_)
   refine Reg.op rfl (Ope.load rfl rfl ?_)
   refine Reg.op rfl (Ope.asg rfl ?_)
   refine Reg.nil (Run.seq (Run.seq (Run.region (cx_ok _ _ _) (Reg.op rfl (Ope.asg rfl ?_)))))
   refine Reg.nil (Run.block (Run.loop (α:=Nat×Int) (fun s=>[(0,.sl tl [I a,I b]),(3,I s.2),(4,I s.1)]) (fun _=>HE 0 []) (fun s=>(s.1=1∧s.2=a)∨(s.1=2∧s.2=min a b)) (fun s=>2 - s.1) (1,a) ⟨rfl,rfl,rfl,trivial⟩ rfl (.inl ⟨rfl,rfl⟩) (fun s hs=>?_)))
   obtain ⟨i,v⟩:=s
   rcases hs with ⟨h1,h2⟩ | ⟨h1,h2⟩<;>simp only at h1 h2<;>subst i v
   ·refine Run.seq (Run.seq (Run.region (cx_ok _ _ _) (Reg.op rfl (Ope.mov rfl ?_))))
    refine Reg.op rfl (Ope.mov rfl ?_)
    refine Reg.op rfl (Ope.len (m:=2) rfl rfl ?_)
    refine Reg.op rfl (Ope.lt rfl rfl ?_)
    refine Reg.nil (Run.condX rfl (fun hc=>?_) fun hc=>?_)
    ·refine Run.skip (Run.seq (Run.block (Run.region (cx_ok _ _ _) (Reg.op rfl (Ope.mov rfl ?_)))))
     refine Reg.op rfl (Ope.mov rfl ?_)
     refine Reg.op rfl (Ope.mov rfl ?_)
     refine Reg.op rfl (Ope.idxS (m:=1) rfl rfl rfl rfl rfl ?_)
     refine Reg.op rfl (Ope.load rfl rfl ?_)
     refine Reg.op rfl (Ope.minI rfl rfl ?_)
     refine Reg.op rfl (Ope.asg rfl ?_)
     refine Reg.nil (Run.bend (Run.region (cx_ok _ _ _) (Reg.op rfl (Ope.mov rfl ?_))))
     refine Reg.op rfl (Ope.add rfl rfl (by omega) ?_)
     refine Reg.op rfl (Ope.asg rfl ?_)
     exact Reg.nil (Run.lend ⟨(2,min a b),by simp only;omega,.inr ⟨rfl,rfl⟩,⟨rfl,rfl,rfl,trivial⟩,rfl,rfl⟩)
    ·(exfalso;omega)
   ·refine Run.seq (Run.seq (Run.region (cx_ok _ _ _) (Reg.op rfl (Ope.mov rfl ?_))))
    refine Reg.op rfl (Ope.mov rfl ?_)
    refine Reg.op rfl (Ope.len (m:=2) rfl rfl ?_)
    refine Reg.op rfl (Ope.lt rfl rfl ?_)
    refine Reg.nil (Run.condX rfl (fun hc=>?_) fun hc=>?_)
    ·(exfalso;omega)
    ·refine Run.exit (Jmp.code (Jmp.round (Jmp.here (Run.seq (Run.region (cx_ok _ _ _) (Reg.op rfl (Ope.mov rfl ?_)))))))
     refine Reg.op rfl (Ope.asg rfl ?_)
     refine Reg.nil (Run.ret (fin_ret (.tmp rfl .nil) rfl ?_))
     rfl
theorem f124 (tl:Tail) (htl:tl.isOwn=false) (a b:Int) (ha:0≤a∧a≤16) (hb:0≤b∧b≤16):Fn P0 124 [.sl tl [I a,I b]] (I (max a b - min a b)):=by
  refine PFun.of (C:=c124) (cx_ok _ _ _) rfl (fn:=Tryz.f124) (by kernel_rfl) (c:=_) rfl rfl rfl ?_
  refine Run.seq (Run.region (cx_ok _ _ _) (Reg.op rfl (Ope.asg rfl ?_)))
  refine Reg.nil (Run.seq (Run.region (cx_ok _ _ _) (Reg.op rfl (Ope.mov rfl ?_))))
  refine Reg.op rfl (Ope.cf rfl rfl (f174 tl htl a b) (by cases tl<;>first | rfl | cases htl) ?_)
  refine Reg.op rfl (Ope.mov rfl ?_)
  refine Reg.op rfl (Ope.cf rfl rfl (f175 tl htl a b) (by cases tl<;>first | rfl | cases htl) ?_)
  refine Reg.op rfl (Ope.sub rfl rfl (by omega) ?_)
  refine Reg.op rfl (Ope.asg rfl ?_)
  refine Reg.nil (Run.ret (fin_ret (.tmp rfl .nil) rfl ?_))
  rfl
def dif (d:Rid):Int:=max d.a d.b - min d.a d.b
theorem f123 (d:Rid) (hd:d.ok 16):Fn P0 123 [.agg d.cells] (wV (dif d,[])):=by
  obtain ⟨⟨hd1,hd2⟩,⟨hd3,hd4⟩,hd5,hd6⟩:=hd
  refine PFun.of (C:=c123) (cx_ok _ _ _) rfl (fn:=Tryz.f123) (by kernel_rfl) (c:=_) rfl rfl rfl ?_
  refine Run.seq (Run.region (cx_ok _ _ _) (Reg.op rfl (Ope.boxL rfl rfl ?_)))
  refine Reg.op rfl (Ope.newL rfl ?_)
  refine Reg.nil (Run.seq (Run.frz (d:=1) true rfl rfl rfl ?_))
  refine Run.region (cx_ok _ _ _) (Reg.op rfl (Ope.fld rfl rfl ?_))
  refine Reg.op rfl (Ope.slA (vs:=[I d.a,I d.b]) rfl rfl rfl ?_)
  refine Reg.op rfl (Ope.cf rfl rfl (f124 .ex rfl _ _ ⟨hd3,hd4⟩ ⟨hd5,hd6⟩) rfl ?_)
  refine Reg.op rfl (Ope.bld rfl rfl ?_)
  refine Reg.op0 (Ope.store rfl rfl rfl rfl rfl rfl ?_)
  refine Reg.nil (Run.ret (fin_ret (.cell rfl rfl .nil) rfl ?_))
  rfl
theorem f125 (d:Rid) (x:Int) (w:Int×List Int) (hl:w.2.length≤16):Fn P0 125 [rideV d x,wV w] (wV (w.1,x::w.2)):=by
  have h120:=f120 w hl d x
  obtain ⟨c,xs⟩:=w
  refine PFun.of (C:=c125) (cx_ok _ _ _) rfl (fn:=Tryz.f125) (by kernel_rfl) (c:=_) rfl rfl rfl ?_
  refine Run.seq (Run.region (cx_ok _ _ _) (Reg.op rfl (Ope.boxF rfl rfl ?_)))
  refine Reg.op rfl (Ope.boxF rfl rfl ?_)
  refine Reg.op rfl (Ope.newL rfl ?_)
  refine Reg.nil (Run.seq (Run.region (cx_ok _ _ _) (Reg.op rfl (Ope.load rfl rfl ?_))))
  refine Reg.op rfl (Ope.load rfl rfl ?_)
  refine Reg.op rfl (Ope.cf rfl rfl h120 (by show (PV.bd 0 (wV (c,xs)) && (_ && true))=true;rw [wV_bd];rfl) ?_)
  refine Reg.op0 (Ope.store rfl rfl rfl rfl rfl rfl ?_)
  refine Reg.nil (Run.ret (fin_ret (.cell rfl rfl .nil) (wV_bd 0 (_,x::xs)) ?_))
  rfl
theorem f69:Fn P0 69 [] (.agg [.fn (.func 123) [] [],.fn (.func 125) [] [],.fn (.func 122) [] []]):=by
  refine PFun.of (C:=c69) (cx_ok _ _ _) rfl (fn:=Tryz.f69) (by kernel_rfl) (c:=_) rfl rfl rfl ?_
  refine Run.seq (Run.region (cx_ok _ _ _) (Reg.op rfl (Ope.newL rfl ?_)))
  refine Reg.nil (Run.seq (Run.region (cx_ok _ _ _) (Reg.op rfl (Ope.bld rfl rfl ?_))))
  refine Reg.op0 (Ope.store rfl rfl rfl rfl rfl rfl ?_)
  exact Reg.nil (Run.ret (fin_ret (.cell rfl rfl .nil) rfl rfl))
def askE:Ask where
  fe:=123
  fs:=125
  E:=fun d=>(dif d,[])
  S:=fun _ x w=>(w.1,x::w.2)
  B:=fun k w=>w.2.length=k∧0≤w.1∧w.1≤16
theorem askE_ok:askE.ok where
  e:=fun d hd=>f123 d hd
  s:=fun d x w k hd hx hb hk=>f125 d x w (by have:=hb.1;omega)
  be:=fun d hd=>by
    obtain ⟨⟨hd1,hd2⟩,⟨hd3,hd4⟩,hd5,hd6⟩:=hd
    exact ⟨rfl,show 0≤max d.a d.b - min d.a d.b by omega,show max d.a d.b - min d.a d.b≤16 by omega⟩
  bs:=fun d x w k hx hb=>⟨congrArg (·+1) hb.1,hb.2⟩
theorem f24 (h a0 b0 c0 d0 a1 b1 c1 d1:Int) (w:Int×List Int) (k:Int) (hf:Fn P0 115 [.fn (.func 116) [] [.fp (.agg [I h,I a0,I b0,I c0,I d0,I a1,I b1,I c1,I d1]),.fp (B true),.fp (.agg askE.q)]] (.tup [wV w,I k])) :
    Fn P0 24 [.agg [I h,I a0,I b0,I c0,I d0,I a1,I b1,I c1,I d1]] (.tup [I w.1,.sl (wt w.2) (w.2.map I),I k]):=by
  refine PFun.of (C:=c24) (cx_ok _ _ _) rfl (fn:=Tryz.f24) (by kernel_rfl) (c:=_) rfl rfl rfl ?_
  refine Run.seq (Run.region (cx_ok _ _ _) (Reg.op rfl (Ope.boxF rfl rfl ?_)))
  refine Reg.op rfl (Ope.asg rfl ?_)
  refine Reg.op rfl (Ope.asg rfl ?_)
  refine Reg.op rfl (Ope.asg rfl ?_)
  refine Reg.nil (Run.seq (Run.drawL (cx_ok _ _ _) [[(0,false),(1,true),(2,true),(3,true),(4,true),(5,true),(6,true),(7,true),(8,true)],[(0,false),(1,true),(6,true),(2,true),(3,true),(4,true),(5,true),(7,true),(8,true)],[(0,false),(6,true),(1,true),(2,true),(3,true),(4,true),(5,true),(7,true),(8,true)]] (by kernel_rfl) ⟨?_,?_,?_,trivial⟩))
  ·refine Dra.op' rfl rfl rfl (.load rfl) (Ope.load rfl rfl ?_)
   refine Dra.op' rfl rfl rfl .sure (Ope.cf rfl rfl (f69) rfl ?_)
   refine Dra.op' rfl rfl rfl .sure (Ope.cf rfl rfl (f66 askE _ _ _ _ _ _ _ _ _ _ _ hf) rfl ?_)
   refine Dra.op' rfl rfl rfl .sure (Ope.mov rfl ?_)
   refine Dra.op' rfl rfl rfl .sure (Ope.ext rfl rfl ?_)
   refine Dra.op' rfl rfl rfl .sure (Ope.ext rfl rfl ?_)
   refine Dra.op' rfl rfl rfl .sure (Ope.newL rfl ?_)
   refine Dra.op' rfl rfl rfl .sure (Ope.store rfl rfl rfl rfl rfl rfl ?_)
   refine Dra.op' rfl rfl rfl .sure (Ope.asg rfl ?_)
   refine Dra.nil (Run.seq (Run.draw (cx_ok _ _ _) [(0,true),(1,true),(2,true),(3,true),(4,true),(5,true),(6,true),(7,true)] (by kernel_rfl) (Dra.op' rfl rfl rfl .sure (Ope.fld rfl rfl ?_))))
   refine Dra.op' rfl rfl rfl .sure (Ope.load rfl rfl ?_)
   refine Dra.op' rfl rfl rfl .sure (Ope.fld rfl rfl ?_)
   refine Dra.op' rfl rfl rfl .sure (Ope.load rfl rfl ?_)
   refine Dra.op' rfl rfl rfl .sure (Ope.mov rfl ?_)
   refine Dra.op' rfl rfl rfl .sure (Ope.asg rfl ?_)
   refine Dra.op' rfl rfl rfl .sure (Ope.asg rfl ?_)
   refine Dra.op' rfl rfl rfl .sure (Ope.asg rfl ?_)
   exact Dra.nil (Run.ret (fin_ret (.tmp rfl (.tmp rfl (.tmp rfl .nil))) (tup_bd _ _ _) rfl))
  ·refine Dra.op' rfl rfl rfl (.load rfl) (Ope.load rfl rfl ?_)
   refine Dra.op' rfl rfl rfl .sure (Ope.cf rfl rfl (f69) rfl ?_)
   refine Dra.op' rfl rfl rfl .sure (Ope.newL rfl ?_)
   refine Dra.op' rfl rfl rfl .sure (Ope.cf rfl rfl (f66 askE _ _ _ _ _ _ _ _ _ _ _ hf) rfl ?_)
   refine Dra.op' rfl rfl rfl .sure (Ope.mov rfl ?_)
   refine Dra.op' rfl rfl rfl .sure (Ope.ext rfl rfl ?_)
   refine Dra.op' rfl rfl rfl .sure (Ope.ext rfl rfl ?_)
   refine Dra.op' rfl rfl rfl .sure (Ope.store rfl rfl rfl rfl rfl rfl ?_)
   refine Dra.op' rfl rfl rfl .sure (Ope.asg rfl ?_)
   refine Dra.nil (Run.seq (Run.draw (cx_ok _ _ _) [(0,true),(1,true),(2,true),(3,true),(4,true),(5,true),(6,true),(7,true)] (by kernel_rfl) (Dra.op' rfl rfl rfl .sure (Ope.fld rfl rfl ?_))))
   refine Dra.op' rfl rfl rfl .sure (Ope.load rfl rfl ?_)
   refine Dra.op' rfl rfl rfl .sure (Ope.fld rfl rfl ?_)
   refine Dra.op' rfl rfl rfl .sure (Ope.load rfl rfl ?_)
   refine Dra.op' rfl rfl rfl .sure (Ope.mov rfl ?_)
   refine Dra.op' rfl rfl rfl .sure (Ope.asg rfl ?_)
   refine Dra.op' rfl rfl rfl .sure (Ope.asg rfl ?_)
   refine Dra.op' rfl rfl rfl .sure (Ope.asg rfl ?_)
   exact Dra.nil (Run.ret (fin_ret (.tmp rfl (.tmp rfl (.tmp rfl .nil))) (tup_bd _ _ _) rfl))
  ·refine Dra.op' rfl rfl rfl (.load rfl) (Ope.load rfl rfl ?_)
   refine Dra.op' rfl rfl rfl .sure (Ope.newL rfl ?_)
   refine Dra.op' rfl rfl rfl .sure (Ope.cf rfl rfl (f69) rfl ?_)
   refine Dra.op' rfl rfl rfl .sure (Ope.cf rfl rfl (f66 askE _ _ _ _ _ _ _ _ _ _ _ hf) rfl ?_)
   refine Dra.op' rfl rfl rfl .sure (Ope.mov rfl ?_)
   refine Dra.op' rfl rfl rfl .sure (Ope.ext rfl rfl ?_)
   refine Dra.op' rfl rfl rfl .sure (Ope.ext rfl rfl ?_)
   refine Dra.op' rfl rfl rfl .sure (Ope.store rfl rfl rfl rfl rfl rfl ?_)
   refine Dra.op' rfl rfl rfl .sure (Ope.asg rfl ?_)
   refine Dra.nil (Run.seq (Run.draw (cx_ok _ _ _) [(0,true),(1,true),(2,true),(3,true),(4,true),(5,true),(6,true),(7,true)] (by kernel_rfl) (Dra.op' rfl rfl rfl .sure (Ope.fld rfl rfl ?_))))
   refine Dra.op' rfl rfl rfl .sure (Ope.load rfl rfl ?_)
   refine Dra.op' rfl rfl rfl .sure (Ope.fld rfl rfl ?_)
   refine Dra.op' rfl rfl rfl .sure (Ope.load rfl rfl ?_)
   refine Dra.op' rfl rfl rfl .sure (Ope.mov rfl ?_)
   refine Dra.op' rfl rfl rfl .sure (Ope.asg rfl ?_)
   refine Dra.op' rfl rfl rfl .sure (Ope.asg rfl ?_)
   refine Dra.op' rfl rfl rfl .sure (Ope.asg rfl ?_)
   exact Dra.nil (Run.ret (fin_ret (.tmp rfl (.tmp rfl (.tmp rfl .nil))) (tup_bd _ _ _) rfl))
theorem f24b (R:Rst) (hR:R.ok) (hv:validR R.m R.o0 R.t0 R.r0 R.f0 R.o1 R.t1 R.r1 R.f1=true) (hn:R.best askE=none):Fn P0 24 [.agg R.cells] (.tup [I 0,.sl .ex [],I 4]) :=
  f24 _ _ _ _ _ _ _ _ _ (0,[]) _ (f115er (f116b askE askE_ok R hR hv hn) rfl)
theorem f24c (R:Rst) (hR:R.ok) (hv:validR R.m R.o0 R.t0 R.r0 R.f0 R.o1 R.t1 R.r1 R.f1=true) (w:Int×List Int) (hn:R.best askE=some w):Fn P0 24 [.agg R.cells] (.tup [I w.1,.sl (wt w.2) (w.2.map I),I 0]) :=
  f24 _ _ _ _ _ _ _ _ _ w _ (f115ok (f116c askE askE_ok R hR hv w hn) rfl)
end Go.Pv
namespace Go.Pv
open Go.Proofs Go.Am
set_option maxRecDepth 10000
abbrev sV (p:Int×Int):PV:=.agg [I p.1,I p.2]
def hull (p q:Int×Int):Int×Int:=(min p.1 q.1,max p.2 q.2)
def joinS (p q:Option (Int×Int)):Option (Int×Int) :=
  match p,q with
  | some a,some b=>some (hull a b)
  | some a,none=>some a
  | none,q=>q
def idS (p:Int×Int):Int×Int:=p
def Rid.tot (d:Rid) (u:Nat):Int:=if u=0 then d.a else d.b
def spn (u:Nat) (R:Rst):Nat→Rid→Option (Int×Int)
  | 0,d=>some (d.tot u,d.tot u)
  | k+1,d=>joinS (if R.brk d 0=0 then (spn u R k (d.then 0)).map idS else none) (if R.brk d 1=0 then (spn u R k (d.then 1)).map idS else none)
abbrev qS (u:Nat):List PV:=[.fn (.func 129) [] [.fp (I u)],.fn (.func 130) [] [],.fn (.func 131) [] []]
theorem f72 (u:Nat):Fn P0 72 [I u] (.agg (qS u)):=by
  refine PFun.of (C:=c72) (cx_ok _ _ _) rfl (fn:=Tryz.f72) (by kernel_rfl) (c:=_) rfl rfl rfl ?_
  refine Run.seq (Run.region (cx_ok _ _ _) (Reg.op rfl (Ope.boxF rfl rfl ?_)))
  refine Reg.op rfl (Ope.newL rfl ?_)
  refine Reg.nil (Run.seq (Run.region (cx_ok _ _ _) (Reg.op rfl (Ope.mkf rfl rfl ?_))))
  refine Reg.op rfl (Ope.bld rfl rfl ?_)
  refine Reg.op0 (Ope.store rfl rfl rfl rfl rfl rfl ?_)
  exact Reg.nil (Run.ret (fin_ret (.cell rfl rfl .nil) rfl rfl))
theorem f129 (u:Nat) (hu:u=0∨u=1) (d:Rid):Fn P0 129 [.agg d.cells,.fp (I u)] (sV (d.tot u,d.tot u)):=by
  rcases hu with rfl | rfl
  all_goals
    refine PFun.of (C:=c129) (cx_ok _ _ _) rfl (fn:=Tryz.f129) (by kernel_rfl) (c:=_) rfl rfl rfl ?_
    refine Run.seq (Run.region (cx_ok _ _ _) (Reg.op rfl (Ope.boxF rfl rfl ?_)))
    refine Reg.op rfl (Ope.newL rfl ?_)
    refine Reg.nil (Run.seq (Run.draw (cx_ok _ _ _) [(0,true),(1,true),(2,true),(3,true),(4,true),(5,true),(6,true),(7,true),(8,true),(9,true)] (by kernel_rfl) (Dra.op' rfl rfl rfl .sure (Ope.load rfl rfl ?_))))
    refine Dra.op' rfl rfl rfl .sure (Ope.fld rfl rfl ?_)
    refine Dra.op' rfl rfl rfl .sure (Ope.idxA rfl rfl rfl rfl ?_)
    refine Dra.op' rfl rfl rfl .sure (Ope.load rfl rfl ?_)
    refine Dra.op' rfl rfl rfl .sure (Ope.load rfl rfl ?_)
    refine Dra.op' rfl rfl rfl .sure (Ope.fld rfl rfl ?_)
    refine Dra.op' rfl rfl rfl .sure (Ope.idxA rfl rfl rfl rfl ?_)
    refine Dra.op' rfl rfl rfl .sure (Ope.load rfl rfl ?_)
    refine Dra.op' rfl rfl rfl .sure (Ope.bld rfl rfl ?_)
    refine Dra.op' rfl rfl rfl .sure (Ope.store rfl rfl rfl rfl rfl rfl ?_)
    refine Dra.nil (Run.ret (fin_ret (.cell rfl rfl .nil) rfl ?_))
    rfl
theorem f130 (d:Rid) (x:Int) (p:Int×Int):Fn P0 130 [rideV d x,sV p] (sV (idS p)):=by
  refine PFun.of (C:=c130) (cx_ok _ _ _) rfl (fn:=Tryz.f130) (by kernel_rfl) (c:=_) rfl rfl rfl ?_
  refine Run.seq (Run.region (cx_ok _ _ _) (Reg.op rfl (Ope.boxF rfl rfl ?_)))
  refine Reg.op rfl (Ope.boxF rfl rfl ?_)
  refine Reg.op rfl (Ope.newL rfl ?_)
  refine Reg.nil (Run.seq (Run.region (cx_ok _ _ _) (Reg.op rfl (Ope.load rfl rfl ?_))))
  refine Reg.op0 (Ope.store rfl rfl rfl rfl rfl rfl ?_)
  exact Reg.nil (Run.ret (fin_ret (.cell rfl rfl .nil) rfl rfl))
theorem f131 (p q:Int×Int):Fn P0 131 [sV p,sV q] (sV (hull p q)):=by
  refine PFun.of (C:=c131) (cx_ok _ _ _) rfl (fn:=Tryz.f131) (by kernel_rfl) (c:=_) rfl rfl rfl ?_
  refine Run.seq (Run.region (cx_ok _ _ _) (Reg.op rfl (Ope.boxF rfl rfl ?_)))
  refine Reg.op rfl (Ope.boxF rfl rfl ?_)
  refine Reg.op rfl (Ope.newL rfl ?_)
  refine Reg.nil (Run.seq (Run.region (cx_ok _ _ _) (Reg.op rfl (Ope.fld rfl rfl ?_))))
  refine Reg.op rfl (Ope.load rfl rfl ?_)
  refine Reg.op rfl (Ope.fld rfl rfl ?_)
  refine Reg.op rfl (Ope.load rfl rfl ?_)
  refine Reg.op rfl (Ope.minI rfl rfl ?_)
  refine Reg.op rfl (Ope.fld rfl rfl ?_)
  refine Reg.op rfl (Ope.load rfl rfl ?_)
  refine Reg.op rfl (Ope.fld rfl rfl ?_)
  refine Reg.op rfl (Ope.load rfl rfl ?_)
  refine Reg.op rfl (Ope.maxI rfl rfl ?_)
  refine Reg.op rfl (Ope.bld rfl rfl ?_)
  refine Reg.op0 (Ope.store rfl rfl rfl rfl rfl rfl ?_)
  exact Reg.nil (Run.ret (fin_ret (.cell rfl rfl .nil) rfl rfl))
end Go.Pv
namespace Go.Pv
open Go.Proofs Go.Am
set_option maxRecDepth 10000
instance:Mpt A0 209 148 (.sl .ex []):=⟨by kernel_rfl⟩
theorem f178a (tl:Tail) (htl:tl.isOwn=false) (xs:List (Int×Int)) (hl:xs.length < 2):Fn P0 178 [.fn (.func 131) [] [],.sl tl (xs.map sV)] (.sl tl (xs.map sV)):=by
  refine PFun.of (C:=c178) (cx_ok _ _ _) rfl (fn:=Tryz.f178) (by kernel_rfl) (c:=_) rfl rfl rfl ?_
  refine Run.seq (Run.region (cx_ok _ _ _) (Reg.op rfl (Ope.asg rfl ?_)))
  refine Reg.nil (Run.seq (Run.seq (Run.region (cx_ok _ _ _) (Reg.op rfl (Ope.mov rfl ?_)))))
  first | refine Reg.op rfl (Ope.len rfl (List.length_map _) ?_) | refine Reg.op rfl (Ope.len rfl rfl ?_) | refine Reg.op rfl (Ope.lenL rfl ?_)
  refine Reg.op rfl (Ope.lt rfl rfl ?_)
  refine Reg.nil (Run.condX rfl (fun hc=>?_) fun hc=>?_)
  ·refine Run.seq (Run.region (cx_ok _ _ _) (Reg.op rfl (Ope.mov rfl ?_)))
   refine Reg.op rfl (Ope.asg rfl ?_)
   refine Reg.nil (Run.ret (Jmp.code (fin_ret (.tmp rfl .nil) (bd_sl (f:=sV) htl (fun _=>rfl) _) ?_)))
   rfl
  ·exfalso;omega
theorem f178b (tl:Tail) (htl:tl.isOwn=false) (p q:Int×Int):Fn P0 178 [.fn (.func 131) [] [],.sl tl [sV p,sV q]] (.sl .ex [sV (hull p q)]):=by
  refine PFun.of (C:=c178) (cx_ok _ _ _) rfl (fn:=Tryz.f178) (by kernel_rfl) (c:=_) rfl rfl rfl ?_
  refine Run.seq (Run.region (cx_ok _ _ _) (Reg.op rfl (Ope.asg rfl ?_)))
  refine Reg.nil (Run.seq (Run.seq (Run.region (cx_ok _ _ _) (Reg.op rfl (Ope.mov rfl ?_)))))
  refine Reg.op rfl (Ope.len (m:=2) rfl rfl ?_)
  refine Reg.op rfl (Ope.lt rfl rfl ?_)
  refine Reg.nil (Run.condX rfl (fun hc=>?_) fun hc=>?_)
  ·exfalso;omega
  ·refine Run.skip (Run.seq (Run.region (cx_ok _ _ _) (Reg.op rfl (Ope.mov rfl ?_))))
   refine Reg.op rfl (Ope.idxS (m:=0) rfl rfl rfl rfl rfl ?_)
   refine Reg.op rfl (Ope.load rfl rfl ?_)
   refine Reg.op rfl (Ope.newL rfl ?_)
   refine Reg.op0 (Ope.store rfl rfl rfl rfl rfl rfl ?_)
   refine Reg.nil (Run.seq (Run.seq (Run.wide (l':=[(0,some (.cells [I p.1,I p.2]))]) (Nat.le_refl _) ⟨rfl,trivial⟩ ?_)))
   refine Run.region (cx_ok _ _ _) (Reg.op rfl (Ope.mov rfl ?_))
   refine Reg.op rfl (Ope.slD (m:=1) rfl rfl rfl (by show 1≤2;decide) (by intro v hv;simp at hv;rcases hv with rfl | rfl<;>rfl) ?_)
   refine Reg.op rfl (Ope.len (m:=1) rfl rfl ?_)
   refine Reg.op rfl (Ope.mov rfl ?_)
   refine Reg.nil (Run.block (Run.loop (α:=Nat) (fun k=>[(0,.fn (.func 131) [] []),(5,.ptr 0 0),(16,.sl (stail tl 2 2) [sV q]),(17,I 1),(18,I k)]) (pick2 (HE 1 [(0,some (.cells [I p.1,I p.2]))]) (HE 2 [(0,some (.cells [I (hull p q).1,I (hull p q).2]))])) (fun k=>k≤1) (fun k=>1 - k) 0 ⟨rfl,rfl,rfl,rfl,rfl,trivial⟩ rfl (by decide) (fun k hk=>?_)))
   rcases (by omega:k=0∨k=1) with rfl | rfl
   ·refine Run.seq (Run.region (cx_ok _ _ _) (Reg.op rfl (Ope.lt rfl rfl ?_)))
    refine Reg.nil (Run.seq (Run.condX rfl (fun hc=>?_) fun hc=>?_))
    ·refine Run.skip (Run.seq (Run.block (Run.seq (Run.region (cx_ok _ _ _) (Reg.op rfl (Ope.idxS (m:=0) rfl rfl rfl rfl rfl ?_))))))
     refine Reg.op rfl (Ope.load rfl rfl ?_)
     refine Reg.op rfl (Ope.newL rfl ?_)
     refine Reg.op0 (Ope.store rfl rfl hget_hd rfl rfl rfl ?_)
     refine Reg.nil (Run.frz (d:=7) true rfl hget_hd rfl ?_)
     refine Run.region (cx_ok _ _ _) (Reg.op rfl (Ope.mov rfl ?_))
     refine Reg.op rfl (Ope.load rfl rfl ?_)
     refine Reg.op rfl (Ope.load rfl rfl ?_)
     refine Reg.op rfl (Ope.cf rfl rfl (f131 p q) rfl ?_)
     refine Reg.op0 (Ope.store rfl rfl rfl rfl rfl rfl ?_)
     refine Reg.nil (Run.bend (Run.wide (m:=2) (l':=[(0,some (.cells [I (hull p q).1,I (hull p q).2]))]) (Nat.le_refl _) ⟨rfl,trivial⟩ ?_))
     refine Run.region (cx_ok _ _ _) (Reg.op rfl (Ope.add rfl rfl (by omega) ?_))
     refine Reg.op rfl (Ope.mov rfl ?_)
     exact Reg.nil (Run.lend ⟨1,by decide,by decide,⟨rfl,rfl,rfl,rfl,rfl,trivial⟩,rfl,rfl⟩)
    ·exfalso;omega
   ·refine Run.seq (Run.region (cx_ok _ _ _) (Reg.op rfl (Ope.lt rfl rfl ?_)))
    refine Reg.nil (Run.seq (Run.condX rfl (fun hc=>?_) fun hc=>?_))
    ·exfalso;omega
    ·refine Run.exit (Jmp.code (Jmp.round (Jmp.here (Run.seq (Run.region (cx_ok _ _ _) (Reg.op rfl (Ope.load rfl rfl ?_)))))))
     refine Reg.op rfl (Ope.bsl rfl rfl rfl rfl ?_)
     refine Reg.op rfl (Ope.asg rfl ?_)
     refine Reg.nil (Run.ret (fin_ret (.tmp rfl .nil) rfl ?_))
     rfl
def VS (u:Nat) (R:Rst) (d:Rid):List PV:=(spn u R (R.m - (d.a+d.b).toNat) d).toList.map sV
theorem VS_at {u:Nat} {R:Rst} {d:Rid} {k:Nat} (hk:d.a+d.b+k=R.m) (h0:0≤d.a+d.b:=by omega):VS u R d=(spn u R k d).toList.map sV:=by
  unfold VS
  rw [show R.m - (d.a+d.b).toNat=k from by omega]
theorem bds_sV:∀ xs:List (Int×Int),PV.bds 4 (xs.map sV)=true
  | []=>rfl
  | x :: xs => by
    simp only [List.map_cons,PV.bds,bds_sV xs,Bool.and_true]
    rfl
theorem VS_bd (u:Nat) (R:Rst) (d:Rid):PV.bds 4 (VS u R d)=true:=bds_sV _
theorem VS_bd4 {u:Nat} {R:Rst} {d:Rid} {tl:Tail} (htl:tl.isOwn=false):(PV.sl tl (VS u R d)).bd 4=true:=by
  cases tl<;>simp only [Tail.isOwn,Bool.true_eq_false] at htl<;>simp [PV.bd,VS_bd]
def stepsS (u:Nat) (R:Rst) (k:Nat) (d:Rid) (i:Nat):List (Int×Int):=((nextX R d 0).take i).flatMap fun x=>((spn u R k (d.then x)).map idS).toList
theorem stepsS_succ {u:Nat} {R:Rst} {k:Nat} {d:Rid} {i:Nat} {x:Int} (h:(nextX R d 0)[i]?=some x):stepsS u R k d (i+1)=stepsS u R k d i++((spn u R k (d.then x)).map idS).toList:=by
  obtain ⟨hlt,hx⟩:=List.getElem?_eq_some_iff.1 h
  simp only [stepsS,List.take_succ_eq_append_getElem hlt,hx,List.flatMap_append,List.flatMap_cons,List.flatMap_nil,List.append_nil]
theorem stepsS_len (u : Nat) (R : Rst) (k : Nat) (d : Rid) : ∀ i, (stepsS u R k d i).length ≤ i
  | 0=>by simp [stepsS]
  | i + 1 => by
    cases h:(nextX R d 0)[i]? with
    | none =>
      have:stepsS u R k d (i+1)=stepsS u R k d i:=by
        have hl:=List.getElem?_eq_none_iff.1 h
        simp only [stepsS]
        rw [List.take_of_length_le (by omega),List.take_of_length_le (by omega)]
      rw [this]
      exact Nat.le_succ_of_le (stepsS_len u R k d i)
    | some x =>
      rw [stepsS_succ h,List.length_append]
      have:=stepsS_len u R k d i
      have:=opt_len ((spn u R k (d.then x)).map idS)
      omega
theorem joinedS_ok (u:Nat) (R:Rst) (hm16:R.m≤16) (k:Nat) (d:Rid) (h0:0≤d.a+d.b) (hk:d.a+d.b+(k+1:Nat)=R.m):∃ tl:Tail,tl.isOwn=false∧Fn P0 178 [.fn (.func 131) [] [],.sl .no ((stepsS u R k d (nextX R d 0).length).map sV)] (.sl tl (VS u R d)):=by
  rw [VS_at hk]
  have hall:stepsS u R k d (nextX R d 0).length=(if R.brk d 0=0 then (spn u R k (d.then 0)).map idS else none).toList++(if R.brk d 1=0 then (spn u R k (d.then 1)).map idS else none).toList:=by
    simp only [stepsS,List.take_length,nextX]
    split<;>split<;>simp
  rw [hall]
  simp only [spn]
  cases ha:(if R.brk d 0=0 then (spn u R k (d.then 0)).map idS else none) with
  | none=>exact ⟨.no,rfl,f178a .no rfl _ (by have:=opt_len (if R.brk d 1=0 then (spn u R k (d.then 1)).map idS else none);simp only [Option.toList_none,List.nil_append];omega)⟩
  | some a =>
    cases hb:(if R.brk d 1=0 then (spn u R k (d.then 1)).map idS else none) with
    | none=>exact ⟨.no,rfl,f178a .no rfl [a] (by simp)⟩
    | some b=>exact ⟨.ex,rfl,f178b .no rfl a b⟩
abbrev capsS (u:Nat) (R:Rst):List PV:=[.fp (.agg R.cells),.fp (.agg (qS u)),.fp (.mp 1),.ptr 3 0]
abbrev cloS (u:Nat) (R:Rst):PBlk:=.cells [.fn (.func 177) [] (capsS u R)]
theorem f177z (u:Nat) (hu:u=0∨u=1) (R:Rst) (hR:R.ok) (i:Nat) (d:Rid) (es:List (AV×PV×Nat)) (clock:Nat) (hd:d.ok i) (hi:i≤16) (hk:d.a+d.b=R.m) (hm:MemoV (VS u R) es) :
    PCall P0 177 (.agg d.cells::capsS u R) (HE 4 [(1,some (.map es clock)),(3,some (cloS u R))]) (fun v h'=>∃ es' clock',h'=HE 4 [(1,some (.map es' clock')),(3,some (cloS u R))]∧(MemoV (VS u R) es'∧∃ tl:Tail,tl.isOwn=false∧v=.sl tl (VS u R d))) fun _ _=>False:=by
  obtain ⟨⟨hd1,hd2⟩,⟨hd3,hd4⟩,hd5,hd6⟩:=hd
  refine PCall.ofH (C:=c177) (cx_ok _ _ _) rfl (fn:=Tryz.f177) (by kernel_rfl) (c:=_) rfl rfl rfl (fun hok=>?_)
  refine Run.seq (Run.region (cx_ok _ _ _) (Reg.op rfl (Ope.boxF rfl rfl ?_)))
  refine Reg.op rfl (Ope.asg rfl ?_)
  refine Reg.nil (Run.seq (Run.seq (Run.draw (cx_ok _ _ _) [(0,true),(2,true),(3,true),(4,false),(1,true),(5,true)] (by kernel_rfl) (Dra.op' rfl rfl rfl .sure (Ope.load rfl rfl ?_)))))
  refine Dra.op' rfl rfl rfl .sure (Ope.fld rfl rfl ?_)
  refine Dra.op' rfl rfl rfl .sure (Ope.fld rfl rfl ?_)
  refine Dra.op' rfl rfl rfl (.load rfl) (Ope.load rfl rfl ?_)
  refine Dra.op' rfl rfl rfl .sure (Ope.cf rfl rfl (f164 _ _ _ _ (by omega) (by omega)) rfl ?_)
  refine Dra.op' rfl rfl rfl .sure (Ope.eq rfl rfl ?_)
  refine Dra.nil (Run.condX rfl (fun hc=>?_) fun hc=>?_)
  ·refine Run.seq (Run.region (cx_ok _ _ _) (Reg.op rfl (Ope.fld rfl rfl ?_)))
   refine Reg.op rfl (Ope.load rfl rfl ?_)
   refine Reg.op rfl (Ope.load rfl rfl ?_)
   refine Reg.op rfl (Ope.cf rfl rfl (f129 u hu d) rfl ?_)
   refine Reg.op rfl (Ope.bsl rfl rfl rfl rfl ?_)
   refine Reg.op rfl (Ope.asg rfl ?_)
   exact Reg.nil (Run.ret (Jmp.code (finC_ret (.tmp rfl .nil) rfl (by rw [HE_cut4 rfl rfl rfl rfl];exact ok4 (MemoV.bd (VS_bd u R) hm) rfl) ⟨es,clock,HE_cut4 rfl rfl rfl rfl,hm,.ex,rfl,by rw [VS_at (k:=0) (by simpa using hk)];rfl⟩)))
  ·exfalso;omega
theorem f177s (u : Nat) (hu : u = 0 ∨ u = 1) (R : Rst) (hR : R.ok) (k i : Nat)
    (ih:∀ (d:Rid) (es:List (AV×PV×Nat)) (clock:Nat),d.ok (i+1)→d.a+d.b+k=R.m→MemoV (VS u R) es→PCall P0 177 (.agg d.cells::capsS u R) (HE 4 [(1,some (.map es clock)),(3,some (cloS u R))]) (fun v h'=>∃ es' clock',h'=HE 4 [(1,some (.map es' clock')),(3,some (cloS u R))]∧(MemoV (VS u R) es'∧∃ tl:Tail,tl.isOwn=false∧v=.sl tl (VS u R d))) fun _ _=>False)
    (d:Rid) (es:List (AV×PV×Nat)) (clock:Nat) (hd:d.ok i) (hi:i+(k+1)≤16) (hk:d.a+d.b+(k+1:Nat)=R.m) (hm:MemoV (VS u R) es) :
    PCall P0 177 (.agg d.cells::capsS u R) (HE 4 [(1,some (.map es clock)),(3,some (cloS u R))]) (fun v h'=>∃ es' clock',h'=HE 4 [(1,some (.map es' clock')),(3,some (cloS u R))]∧(MemoV (VS u R) es'∧∃ tl:Tail,tl.isOwn=false∧v=.sl tl (VS u R d))) fun _ _=>False:=by
  have hdo:=hd
  obtain ⟨⟨hd1,hd2⟩,⟨hd3,hd4⟩,hd5,hd6⟩:=hd
  have hm16:=hR.1
  have hd16:d.ok 16:=⟨⟨hd1,by omega⟩,⟨hd3,by omega⟩,hd5,by omega⟩
  refine PCall.ofH (C:=c177) (cx_ok _ _ _) rfl (fn:=Tryz.f177) (by kernel_rfl) (c:=_) rfl rfl rfl (fun hok=>?_)
  refine Run.seq (Run.region (cx_ok _ _ _) (Reg.op rfl (Ope.boxF rfl rfl ?_)))
  refine Reg.op rfl (Ope.asg rfl ?_)
  refine Reg.nil (Run.seq (Run.seq (Run.draw (cx_ok _ _ _) [(0,true),(2,true),(3,true),(4,false),(1,true),(5,true)] (by kernel_rfl) (Dra.op' rfl rfl rfl .sure (Ope.load rfl rfl ?_)))))
  refine Dra.op' rfl rfl rfl .sure (Ope.fld rfl rfl ?_)
  refine Dra.op' rfl rfl rfl .sure (Ope.fld rfl rfl ?_)
  refine Dra.op' rfl rfl rfl (.load rfl) (Ope.load rfl rfl ?_)
  refine Dra.op' rfl rfl rfl .sure (Ope.cf rfl rfl (f164 _ _ _ _ (by omega) (by omega)) rfl ?_)
  refine Dra.op' rfl rfl rfl .sure (Ope.eq rfl rfl ?_)
  refine Dra.nil (Run.condX rfl (fun hc=>?_) fun hc=>?_)
  ·exfalso;omega
  ·refine Run.skip (Run.seq (Run.seq ?_))
   obtain ⟨r,hr1,hr2⟩:=MemoV.find d es 0 hm
   refine Run.region (cx_ok _ _ _) (Reg.op rfl (Ope.load rfl rfl ?_))
   refine Reg.op rfl (Ope.load rfl rfl ?_)
   rcases r with _ | ⟨jj,vv⟩
   all_goals refine Reg.op rfl (Ope.look rfl rfl (keyA_of d) rfl (keyA_check d) hr1 ?_)
   ·refine Reg.op rfl (Ope.mov rfl ?_)
    refine Reg.op rfl (Ope.ext rfl rfl ?_)
    refine Reg.op rfl (Ope.ext rfl rfl ?_)
    refine Reg.op rfl (Ope.asg rfl ?_)
    refine Reg.op rfl (Ope.asg rfl ?_)
    refine Reg.nil (Run.seq (Run.region (cx_ok _ _ _) (Reg.op rfl (Ope.mov rfl ?_))))
    refine Reg.nil (Run.condX rfl (fun hc=>?_) fun hc=>?_)
    ·(cases hc;done)
    ·refine Run.skip (Run.seq (Run.region (cx_ok _ _ _) (Reg.op rfl (Ope.newL rfl ?_))))
     refine Reg.nil (Run.seq (Run.seq (Run.region (cx_ok _ _ _) (Reg.op rfl (Ope.load rfl rfl ?_)))))
     refine Reg.op rfl (Ope.load rfl rfl ?_)
     refine Reg.op rfl (Ope.cf rfl rfl (f166 R d) rfl ?_)
     refine Reg.nil ?_
     refine Run.block (Run.rangeF (cx_ok _ _ _) rfl (α:=List (AV×PV×Nat)×Nat×List (Int×Int)×Option Nat) (fun s=>(4,some (.cells [.sl (tlP s.2.2.2) (s.2.2.1.map sV)]))::(ownP s.2.2.2++[(1,some (.map s.1 s.2.1)),(0,none),(2,none),(3,some (cloS u R))])) (fun s=>nxP s.2.2.2) (fun q s=>MemoV (VS u R) s.1∧s.2.2.1=stepsS u R k d q∧(s.2.2.2=none↔s.2.2.1=[])) rfl (f192 R hR d hd16 (by omega)) rfl rfl ⟨Tryz.f177,by kernel_rfl⟩ (es,clock,[],none) ⟨hm,by simp [stepsS],by simp⟩ (Hsub.cons rfl (Hsub.cons rfl (Hsub.cons rfl (Hsub.cons rfl (Hsub.cons rfl Hsub.nil))))) (by rintro ⟨_,_,_,_ | j⟩ p hp<;>simp [ownP] at hp<;>rcases hp with rfl | rfl | rfl | rfl | rfl | rfl<;>simp) (by intro p hp;simp [ownP] at hp;rcases hp with rfl | rfl | rfl | rfl | rfl<;>simp) (by simp [nxP]) (fun q s v hv hI m hm1 hm2 lb=>?_) (fun s hI m hm1 hm2=>?_))
     ·obtain ⟨es1,clock1,st,ow⟩:=s
      obtain ⟨hI1,hI2,hI3⟩:=hI
      simp only at hm1 hI1 hI2 hI3
      obtain ⟨μ,rfl⟩:∃ μ,m=μ+7:=⟨m - 7,by omega⟩
      obtain ⟨x,hx,rfl⟩:∃ x,(nextX R d 0)[q]?=some x∧v=rideV d x:=by
        rw [List.getElem?_map] at hv
        cases hq:(nextX R d 0)[q]? with
        | none=>rw [hq] at hv;cases hv
        | some x=>rw [hq] at hv;cases hv;exact ⟨x,rfl,rfl⟩
      obtain ⟨hx01,hbx⟩:=nextX_mem (List.mem_of_getElem? hx)
      have hq2:q < 2:=by
        have:=(List.getElem?_eq_some_iff.1 hx).1
        have:=nextX_len R d
        omega
      have hst:st.length≤q:=by rw [hI2];exact stepsS_len u R k d q
      have hsucc:=stepsS_succ (u:=u) (k:=k) hx
      have ihx:=ih (d.then x) es1 clock1 (Rid.ok_then hdo) (by rcases hx01 with rfl | rfl<;>simp [Rid.then]<;>omega) hI1
      show Run _ _ _ _ _ [] (HE (μ+7) ((6,some lb)::(5,some .dfr)::(4,some (.cells [.sl (tlP ow) (st.map sV)]))::(ownP ow++[(1,some (.map es1 clock1)),(0,none),(2,none),(3,some (cloS u R))])))
      rcases hcn:spn u R k (d.then x) with _ | b<;>rcases ow with _ | j<;>(have hVx:VS u R (d.then x)=_:=VS_at (k:=k) (by rcases hx01 with rfl | rfl<;>simp [Rid.then]<;>omega) (by rcases hx01 with rfl | rfl<;>simp [Rid.then]<;>omega))<;>rw [hVx,hcn] at ihx<;>rw [hcn] at hsucc<;>simp only [nxP] at hm1<;>first | (obtain rfl:st=[]:=hI3.1 rfl) | skip
      ·refine Run.region (Cx.Ok.rnd (cx_ok _ _ _)) (Reg.op rfl (Ope.newL rfl ?_))
       refine Reg.op0 (Ope.store rfl rfl hget_hd rfl rfl rfl ?_)
       refine Reg.nil (Run.done ⟨rfl,rfl,_,_,rfl,(hget_tl (by omega)).trans ((hget_tl (by omega)).trans hget_hd),fun lb2=>?_⟩)
       refine Run.block (Run.seq (Run.frz (d:=10) true rfl ((hget_tl (by omega)).trans hget_hd) rfl ?_))
       refine Run.wideS (m:=μ+8) (Nat.le_refl _) (hs_round6 (by omega) (by rfl) (by repeat (first | rfl | refine (hget_tl (by omega)).trans ?_))) ?_
       refine Run.region (Cx.Ok.rnd (cx_ok _ _ _)) (Reg.op rfl (Ope.loadH rfl rfl rfl ?_))
       refine Reg.op rfl (Ope.fld rfl rfl ?_)
       refine Reg.op rfl (Ope.load rfl rfl ?_)
       refine Reg.op rfl (Ope.callM4 (clo:=cloS u R) rfl rfl rfl rfl rfl rfl (by omega) rfl (MemoV.bd (VS_bd u R) hI1) rfl ihx (fun v es2 clock2 hq=>?_))
       obtain ⟨hq1,tl,htl,rfl⟩:=hq
       first
         | refine Reg.op rfl (Ope.len (m:=0) rfl rfl ?_)
         | refine Reg.op rfl (Ope.len (m:=1) rfl rfl ?_)
       refine Reg.op rfl (Ope.mov rfl ?_)
       refine Reg.nil (Run.block ?_)
       first
         | refine Run.loop (α:=Nat) (fun z=>[(2,.fp (.agg (qS u))),(9,.ptr 4 0),(10,.fp (rideV d x)),(39,.sl tl []),(40,I ((0:Nat):Int)),(41,I z)]) (Function.const Nat _) (fun z=>z=0) (fun _=>0) 0 ⟨rfl,rfl,rfl,rfl,rfl,rfl,trivial⟩ rfl rfl (fun z hz=>?_)
         | refine Run.loop (α:=Nat) (fun z=>[(2,.fp (.agg (qS u))),(9,.ptr 4 0),(10,.fp (rideV d x)),(39,.sl tl [sV b]),(40,I ((1:Nat):Int)),(41,I z)]) (pick2 _ (HE (μ+10) [(4,some (.cells [.sl (.own (μ+9)) ((st++[idS b]).map sV)])),(μ+9,some .own),(1,some (.map es2 clock2)),(6,some lb2),(5,some .dfr),(0,none),(2,none),(3,some (cloS u R))])) (fun z=>z≤1) (fun z=>1 - z) 0 ⟨rfl,rfl,rfl,rfl,rfl,rfl,trivial⟩ rfl (by decide) (fun z hz=>?_)
         | refine Run.loop (α:=Nat) (fun z=>[(2,.fp (.agg (qS u))),(9,.ptr 4 0),(10,.fp (rideV d x)),(39,.sl tl [sV b]),(40,I ((1:Nat):Int)),(41,I z)]) (pick2 _ (HE (μ+10) [(4,some (.cells [.sl (.own (μ+9)) (([]++[idS b]).map sV)])),(μ+9,some .own),(1,some (.map es2 clock2)),(6,some lb2),(5,some .dfr),(0,none),(2,none),(3,some (cloS u R))])) (fun z=>z≤1) (fun z=>1 - z) 0 ⟨rfl,rfl,rfl,rfl,rfl,rfl,trivial⟩ rfl (by decide) (fun z hz=>?_)
       rcases (by omega:z=0∨z=1) with rfl | rfl
       ·refine Run.seq (Run.region (Cx.Ok.rnd (cx_ok _ _ _)) (Reg.op rfl (Ope.lt rfl rfl ?_)))
        refine Reg.nil (Run.seq (Run.condX rfl (fun hc=>?_) fun hc=>?_))
        ·(exfalso;omega)
        ·refine Run.exit (Jmp.code (Jmp.round (Jmp.here (Run.bend ?_))))
         first
           | exact Run.done ⟨rfl,_,_,rfl,by omega,rfl,(es2,clock2,[],none),by show 7≤_;omega,(Hsub.cons rfl (Hsub.cons rfl (Hsub.cons rfl (Hsub.cons rfl (Hsub.cons rfl (Hsub.cons rfl Hsub.nil)))))),hq1,by rw [hsucc,← hI2];rfl,by simp⟩
           | exact Run.done ⟨rfl,_,_,rfl,by omega,rfl,(es2,clock2,st,some j),by show j+8≤_;omega,(Hsub.cons rfl (Hsub.cons rfl (Hsub.cons ((hget_tl (by omega)).trans ((hget_tl (by omega)).trans ((hget_tl (by omega)).trans ((hget_tl (by omega)).trans hget_hd)))) (Hsub.cons rfl (Hsub.cons rfl (Hsub.cons rfl (Hsub.cons rfl Hsub.nil))))))),hq1,by rw [hsucc,← hI2];exact (List.append_nil st).symm,hI3⟩
           | exact Run.done ⟨rfl,_,_,rfl,by omega,rfl,(es2,clock2,[]++[idS b],some (μ+2)),by show μ+2+8≤μ+10;omega,(Hsub.cons rfl (Hsub.cons rfl (Hsub.cons ((hget_tl (by omega)).trans hget_hd) (Hsub.cons rfl (Hsub.cons rfl (Hsub.cons rfl (Hsub.cons rfl Hsub.nil))))))),hq1,by rw [hsucc,← hI2];rfl,by simp⟩
           | exact Run.done ⟨rfl,_,_,rfl,by omega,rfl,(es2,clock2,st++[idS b],some (μ+2)),by show μ+2+8≤μ+10;omega,(Hsub.cons rfl (Hsub.cons rfl (Hsub.cons ((hget_tl (by omega)).trans hget_hd) (Hsub.cons rfl (Hsub.cons rfl (Hsub.cons rfl (Hsub.cons rfl Hsub.nil))))))),hq1,by rw [hsucc,← hI2];rfl,by simp⟩
       ·refine Run.seq (Run.region (Cx.Ok.rnd (cx_ok _ _ _)) (Reg.op rfl (Ope.lt rfl rfl ?_)))
        refine Reg.nil (Run.seq (Run.condX rfl (fun hc=>?_) fun hc=>?_))
        ·(exfalso;omega)
        ·(exfalso;omega)
      ·refine Run.region (Cx.Ok.rnd (cx_ok _ _ _)) (Reg.op rfl (Ope.newL rfl ?_))
       refine Reg.op0 (Ope.store rfl rfl hget_hd rfl rfl rfl ?_)
       refine Reg.nil (Run.done ⟨rfl,rfl,_,_,rfl,(hget_tl (by omega)).trans ((hget_tl (by omega)).trans hget_hd),fun lb2=>?_⟩)
       refine Run.block (Run.seq (Run.frz (d:=10) true rfl ((hget_tl (by omega)).trans hget_hd) rfl ?_))
       refine Run.wideS (m:=μ+8) (Nat.le_refl _) (hs_round6 (by omega) (by rfl) (by repeat (first | rfl | refine (hget_tl (by omega)).trans ?_))) ?_
       refine Run.region (Cx.Ok.rnd (cx_ok _ _ _)) (Reg.op rfl (Ope.loadH rfl rfl rfl ?_))
       refine Reg.op rfl (Ope.fld rfl rfl ?_)
       refine Reg.op rfl (Ope.load rfl rfl ?_)
       refine Reg.op rfl (Ope.callM4 (clo:=cloS u R) rfl rfl rfl rfl rfl rfl (by omega) rfl (MemoV.bd (VS_bd u R) hI1) rfl ihx (fun v es2 clock2 hq=>?_))
       obtain ⟨hq1,tl,htl,rfl⟩:=hq
       first
         | refine Reg.op rfl (Ope.len (m:=0) rfl rfl ?_)
         | refine Reg.op rfl (Ope.len (m:=1) rfl rfl ?_)
       refine Reg.op rfl (Ope.mov rfl ?_)
       refine Reg.nil (Run.block ?_)
       first
         | refine Run.loop (α:=Nat) (fun z=>[(2,.fp (.agg (qS u))),(9,.ptr 4 0),(10,.fp (rideV d x)),(39,.sl tl []),(40,I ((0:Nat):Int)),(41,I z)]) (Function.const Nat _) (fun z=>z=0) (fun _=>0) 0 ⟨rfl,rfl,rfl,rfl,rfl,rfl,trivial⟩ rfl rfl (fun z hz=>?_)
         | refine Run.loop (α:=Nat) (fun z=>[(2,.fp (.agg (qS u))),(9,.ptr 4 0),(10,.fp (rideV d x)),(39,.sl tl [sV b]),(40,I ((1:Nat):Int)),(41,I z)]) (pick2 _ (HE (μ+10) [(4,some (.cells [.sl (.own (μ+9)) ((st++[idS b]).map sV)])),(μ+9,some .own),(1,some (.map es2 clock2)),(6,some lb2),(5,some .dfr),(0,none),(2,none),(3,some (cloS u R))])) (fun z=>z≤1) (fun z=>1 - z) 0 ⟨rfl,rfl,rfl,rfl,rfl,rfl,trivial⟩ rfl (by decide) (fun z hz=>?_)
         | refine Run.loop (α:=Nat) (fun z=>[(2,.fp (.agg (qS u))),(9,.ptr 4 0),(10,.fp (rideV d x)),(39,.sl tl [sV b]),(40,I ((1:Nat):Int)),(41,I z)]) (pick2 _ (HE (μ+10) [(4,some (.cells [.sl (.own (μ+9)) (([]++[idS b]).map sV)])),(μ+9,some .own),(1,some (.map es2 clock2)),(6,some lb2),(5,some .dfr),(0,none),(2,none),(3,some (cloS u R))])) (fun z=>z≤1) (fun z=>1 - z) 0 ⟨rfl,rfl,rfl,rfl,rfl,rfl,trivial⟩ rfl (by decide) (fun z hz=>?_)
       rcases (by omega:z=0∨z=1) with rfl | rfl
       ·refine Run.seq (Run.region (Cx.Ok.rnd (cx_ok _ _ _)) (Reg.op rfl (Ope.lt rfl rfl ?_)))
        refine Reg.nil (Run.seq (Run.condX rfl (fun hc=>?_) fun hc=>?_))
        ·(exfalso;omega)
        ·refine Run.exit (Jmp.code (Jmp.round (Jmp.here (Run.bend ?_))))
         first
           | exact Run.done ⟨rfl,_,_,rfl,by omega,rfl,(es2,clock2,[],none),by show 7≤_;omega,(Hsub.cons rfl (Hsub.cons rfl (Hsub.cons rfl (Hsub.cons rfl (Hsub.cons rfl (Hsub.cons rfl Hsub.nil)))))),hq1,by rw [hsucc,← hI2];rfl,by simp⟩
           | exact Run.done ⟨rfl,_,_,rfl,by omega,rfl,(es2,clock2,st,some j),by show j+8≤_;omega,(Hsub.cons rfl (Hsub.cons rfl (Hsub.cons ((hget_tl (by omega)).trans ((hget_tl (by omega)).trans ((hget_tl (by omega)).trans ((hget_tl (by omega)).trans hget_hd)))) (Hsub.cons rfl (Hsub.cons rfl (Hsub.cons rfl (Hsub.cons rfl Hsub.nil))))))),hq1,by rw [hsucc,← hI2];exact (List.append_nil st).symm,hI3⟩
           | exact Run.done ⟨rfl,_,_,rfl,by omega,rfl,(es2,clock2,[]++[idS b],some (μ+2)),by show μ+2+8≤μ+10;omega,(Hsub.cons rfl (Hsub.cons rfl (Hsub.cons ((hget_tl (by omega)).trans hget_hd) (Hsub.cons rfl (Hsub.cons rfl (Hsub.cons rfl (Hsub.cons rfl Hsub.nil))))))),hq1,by rw [hsucc,← hI2];rfl,by simp⟩
           | exact Run.done ⟨rfl,_,_,rfl,by omega,rfl,(es2,clock2,st++[idS b],some (μ+2)),by show μ+2+8≤μ+10;omega,(Hsub.cons rfl (Hsub.cons rfl (Hsub.cons ((hget_tl (by omega)).trans hget_hd) (Hsub.cons rfl (Hsub.cons rfl (Hsub.cons rfl (Hsub.cons rfl Hsub.nil))))))),hq1,by rw [hsucc,← hI2];rfl,by simp⟩
       ·refine Run.seq (Run.region (Cx.Ok.rnd (cx_ok _ _ _)) (Reg.op rfl (Ope.lt rfl rfl ?_)))
        refine Reg.nil (Run.seq (Run.condX rfl (fun hc=>?_) fun hc=>?_))
        ·(exfalso;omega)
        ·(exfalso;omega)
      ·refine Run.region (Cx.Ok.rnd (cx_ok _ _ _)) (Reg.op rfl (Ope.newL rfl ?_))
       refine Reg.op0 (Ope.store rfl rfl hget_hd rfl rfl rfl ?_)
       refine Reg.nil (Run.done ⟨rfl,rfl,_,_,rfl,(hget_tl (by omega)).trans ((hget_tl (by omega)).trans hget_hd),fun lb2=>?_⟩)
       refine Run.block (Run.seq (Run.frz (d:=10) true rfl ((hget_tl (by omega)).trans hget_hd) rfl ?_))
       refine Run.wideS (m:=μ+8) (Nat.le_refl _) (hs_round6 (by omega) (by rfl) (by repeat (first | rfl | refine (hget_tl (by omega)).trans ?_))) ?_
       refine Run.region (Cx.Ok.rnd (cx_ok _ _ _)) (Reg.op rfl (Ope.loadH rfl rfl rfl ?_))
       refine Reg.op rfl (Ope.fld rfl rfl ?_)
       refine Reg.op rfl (Ope.load rfl rfl ?_)
       refine Reg.op rfl (Ope.callM4 (clo:=cloS u R) rfl rfl rfl rfl rfl rfl (by omega) rfl (MemoV.bd (VS_bd u R) hI1) rfl ihx (fun v es2 clock2 hq=>?_))
       obtain ⟨hq1,tl,htl,rfl⟩:=hq
       first
         | refine Reg.op rfl (Ope.len (m:=0) rfl rfl ?_)
         | refine Reg.op rfl (Ope.len (m:=1) rfl rfl ?_)
       refine Reg.op rfl (Ope.mov rfl ?_)
       refine Reg.nil (Run.block ?_)
       first
         | refine Run.loop (α:=Nat) (fun z=>[(2,.fp (.agg (qS u))),(9,.ptr 4 0),(10,.fp (rideV d x)),(39,.sl tl []),(40,I ((0:Nat):Int)),(41,I z)]) (Function.const Nat _) (fun z=>z=0) (fun _=>0) 0 ⟨rfl,rfl,rfl,rfl,rfl,rfl,trivial⟩ rfl rfl (fun z hz=>?_)
         | refine Run.loop (α:=Nat) (fun z=>[(2,.fp (.agg (qS u))),(9,.ptr 4 0),(10,.fp (rideV d x)),(39,.sl tl [sV b]),(40,I ((1:Nat):Int)),(41,I z)]) (pick2 _ (HE (μ+10) [(4,some (.cells [.sl (.own (μ+9)) ((st++[idS b]).map sV)])),(μ+9,some .own),(1,some (.map es2 clock2)),(6,some lb2),(5,some .dfr),(0,none),(2,none),(3,some (cloS u R))])) (fun z=>z≤1) (fun z=>1 - z) 0 ⟨rfl,rfl,rfl,rfl,rfl,rfl,trivial⟩ rfl (by decide) (fun z hz=>?_)
         | refine Run.loop (α:=Nat) (fun z=>[(2,.fp (.agg (qS u))),(9,.ptr 4 0),(10,.fp (rideV d x)),(39,.sl tl [sV b]),(40,I ((1:Nat):Int)),(41,I z)]) (pick2 _ (HE (μ+10) [(4,some (.cells [.sl (.own (μ+9)) (([]++[idS b]).map sV)])),(μ+9,some .own),(1,some (.map es2 clock2)),(6,some lb2),(5,some .dfr),(0,none),(2,none),(3,some (cloS u R))])) (fun z=>z≤1) (fun z=>1 - z) 0 ⟨rfl,rfl,rfl,rfl,rfl,rfl,trivial⟩ rfl (by decide) (fun z hz=>?_)
       rcases (by omega:z=0∨z=1) with rfl | rfl
       ·refine Run.seq (Run.region (Cx.Ok.rnd (cx_ok _ _ _)) (Reg.op rfl (Ope.lt rfl rfl ?_)))
        refine Reg.nil (Run.seq (Run.condX rfl (fun hc=>?_) fun hc=>?_))
        ·refine Run.skip (Run.seq (Run.block (Run.seq (Run.region (Cx.Ok.rnd (cx_ok _ _ _)) (Reg.op rfl (Ope.idxS (m:=0) rfl rfl rfl rfl rfl ?_))))))
         refine Reg.op rfl (Ope.load rfl rfl ?_)
         refine Reg.op rfl (Ope.newL rfl ?_)
         refine Reg.op0 (Ope.store rfl rfl hget_hd rfl rfl rfl ?_)
         refine Reg.nil (Run.frz (d:=12) true rfl hget_hd rfl ?_)
         refine Run.drawB (Cx.Ok.rnd (cx_ok _ _ _)) 4 [(0,false,false),(1,true,false),(2,true,false),(3,true,false),(4,true,false),(5,true,true),(6,true,false),(7,true,false),(8,true,false)] (by kernel_rfl) (DraS.opR rfl rfl rfl rfl (StabS.at rfl) (Ope.loadH rfl rfl rfl ?_))
         refine DraS.opQ rfl rfl rfl (Ope.fld rfl rfl ?_)
         refine DraS.opQ rfl rfl rfl (Ope.load rfl rfl ?_)
         refine DraS.opQ rfl rfl rfl (Ope.load rfl rfl ?_)
         refine DraS.opQ rfl rfl rfl (Ope.load rfl rfl ?_)
         refine DraS.opS rfl rfl rfl (Ope.cf rfl rfl (f130 d x b) rfl ?_)
         refine ⟨rfl,?_⟩
         refine DraS.opQ rfl rfl rfl (Ope.bsl rfl rfl rfl rfl ?_)
         first
           | refine DraS.opQ rfl rfl rfl (Ope.apO rfl rfl (by simp) (by simp) (by simp) (by decide) (by simp) (by intro v hv;simp only [List.mem_singleton] at hv;subst hv;exact ⟨rfl,rfl⟩) ?_)
           | refine DraS.opQ rfl rfl rfl (Ope.apP (j:=j+7) rfl rfl (by simp) (by simpa using fun h=>absurd (hI3.2 h) (by simp)) (by repeat (first | exact hget_hd | refine (hget_tl (by omega)).trans ?_)) (by simp;omega) (by simp;omega) (by decide) (by intro v hv;obtain ⟨_,_,rfl⟩:=List.mem_map.1 hv;rfl) (by intro v hv;simp only [List.mem_singleton] at hv;subst hv;exact ⟨rfl,rfl⟩) ?_)
         refine DraS.opQ rfl rfl rfl (Ope.store rfl rfl ((hget_tl (by omega)).trans (by first | rfl | exact (hget_tl (by omega)).trans rfl)) rfl rfl rfl ?_)
         refine DraS.nil (Run.bend ?_)
         first
           | refine Run.wide (m:=μ+10) (l':=[(4,some (.cells [.sl (.own (μ+9)) (([]++[idS b]).map sV)])),(μ+9,some .own),(1,some (.map es2 clock2)),(6,some lb2),(5,some .dfr),(0,none),(2,none),(3,some (cloS u R))]) (Nat.le_refl _) (Hsub.cons rfl (Hsub.cons ((hget_tl (by omega)).trans hget_hd) (Hsub.cons rfl (Hsub.cons rfl (Hsub.cons rfl (Hsub.cons rfl (Hsub.cons rfl (Hsub.cons rfl Hsub.nil)))))))) ?_
           | refine Run.wide (m:=μ+10) (l':=[(4,some (.cells [.sl (.own (μ+9)) ((st++[idS b]).map sV)])),(μ+9,some .own),(1,some (.map es2 clock2)),(6,some lb2),(5,some .dfr),(0,none),(2,none),(3,some (cloS u R))]) (Nat.le_refl _) (Hsub.cons (by rw [List.map_append];rfl) (Hsub.cons ((hget_tl (by omega)).trans hget_hd) (Hsub.cons rfl (Hsub.cons rfl (Hsub.cons rfl (Hsub.cons rfl (Hsub.cons rfl (Hsub.cons rfl Hsub.nil)))))))) ?_
         refine Run.region (Cx.Ok.rnd (cx_ok _ _ _)) (Reg.op rfl (Ope.add rfl rfl (by omega) ?_))
         refine Reg.op rfl (Ope.mov rfl ?_)
         exact Reg.nil (Run.lend ⟨1,by decide,by decide,⟨rfl,rfl,rfl,rfl,rfl,rfl,trivial⟩,rfl,rfl⟩)
        ·(exfalso;omega)
       ·refine Run.seq (Run.region (Cx.Ok.rnd (cx_ok _ _ _)) (Reg.op rfl (Ope.lt rfl rfl ?_)))
        refine Reg.nil (Run.seq (Run.condX rfl (fun hc=>?_) fun hc=>?_))
        ·(exfalso;omega)
        ·refine Run.exit (Jmp.code (Jmp.round (Jmp.here (Run.bend ?_))))
         first
           | exact Run.done ⟨rfl,_,_,rfl,by omega,rfl,(es2,clock2,[],none),by show 7≤_;omega,(Hsub.cons rfl (Hsub.cons rfl (Hsub.cons rfl (Hsub.cons rfl (Hsub.cons rfl (Hsub.cons rfl Hsub.nil)))))),hq1,by rw [hsucc,← hI2];rfl,by simp⟩
           | exact Run.done ⟨rfl,_,_,rfl,by omega,rfl,(es2,clock2,st,some j),by show j+8≤_;omega,(Hsub.cons rfl (Hsub.cons rfl (Hsub.cons ((hget_tl (by omega)).trans ((hget_tl (by omega)).trans ((hget_tl (by omega)).trans ((hget_tl (by omega)).trans hget_hd)))) (Hsub.cons rfl (Hsub.cons rfl (Hsub.cons rfl (Hsub.cons rfl Hsub.nil))))))),hq1,by rw [hsucc,← hI2];exact (List.append_nil st).symm,hI3⟩
           | exact Run.done ⟨rfl,_,_,rfl,by omega,rfl,(es2,clock2,[]++[idS b],some (μ+2)),by show μ+2+8≤μ+10;omega,(Hsub.cons rfl (Hsub.cons rfl (Hsub.cons ((hget_tl (by omega)).trans hget_hd) (Hsub.cons rfl (Hsub.cons rfl (Hsub.cons rfl (Hsub.cons rfl Hsub.nil))))))),hq1,by rw [hsucc,← hI2];rfl,by simp⟩
           | exact Run.done ⟨rfl,_,_,rfl,by omega,rfl,(es2,clock2,st++[idS b],some (μ+2)),by show μ+2+8≤μ+10;omega,(Hsub.cons rfl (Hsub.cons rfl (Hsub.cons ((hget_tl (by omega)).trans hget_hd) (Hsub.cons rfl (Hsub.cons rfl (Hsub.cons rfl (Hsub.cons rfl Hsub.nil))))))),hq1,by rw [hsucc,← hI2];rfl,by simp⟩
      ·refine Run.region (Cx.Ok.rnd (cx_ok _ _ _)) (Reg.op rfl (Ope.newL rfl ?_))
       refine Reg.op0 (Ope.store rfl rfl hget_hd rfl rfl rfl ?_)
       refine Reg.nil (Run.done ⟨rfl,rfl,_,_,rfl,(hget_tl (by omega)).trans ((hget_tl (by omega)).trans hget_hd),fun lb2=>?_⟩)
       refine Run.block (Run.seq (Run.frz (d:=10) true rfl ((hget_tl (by omega)).trans hget_hd) rfl ?_))
       refine Run.wideS (m:=μ+8) (Nat.le_refl _) (hs_round6 (by omega) (by rfl) (by repeat (first | rfl | refine (hget_tl (by omega)).trans ?_))) ?_
       refine Run.region (Cx.Ok.rnd (cx_ok _ _ _)) (Reg.op rfl (Ope.loadH rfl rfl rfl ?_))
       refine Reg.op rfl (Ope.fld rfl rfl ?_)
       refine Reg.op rfl (Ope.load rfl rfl ?_)
       refine Reg.op rfl (Ope.callM4 (clo:=cloS u R) rfl rfl rfl rfl rfl rfl (by omega) rfl (MemoV.bd (VS_bd u R) hI1) rfl ihx (fun v es2 clock2 hq=>?_))
       obtain ⟨hq1,tl,htl,rfl⟩:=hq
       first
         | refine Reg.op rfl (Ope.len (m:=0) rfl rfl ?_)
         | refine Reg.op rfl (Ope.len (m:=1) rfl rfl ?_)
       refine Reg.op rfl (Ope.mov rfl ?_)
       refine Reg.nil (Run.block ?_)
       first
         | refine Run.loop (α:=Nat) (fun z=>[(2,.fp (.agg (qS u))),(9,.ptr 4 0),(10,.fp (rideV d x)),(39,.sl tl []),(40,I ((0:Nat):Int)),(41,I z)]) (Function.const Nat _) (fun z=>z=0) (fun _=>0) 0 ⟨rfl,rfl,rfl,rfl,rfl,rfl,trivial⟩ rfl rfl (fun z hz=>?_)
         | refine Run.loop (α:=Nat) (fun z=>[(2,.fp (.agg (qS u))),(9,.ptr 4 0),(10,.fp (rideV d x)),(39,.sl tl [sV b]),(40,I ((1:Nat):Int)),(41,I z)]) (pick2 _ (HE (μ+10) [(4,some (.cells [.sl (.own (μ+9)) ((st++[idS b]).map sV)])),(μ+9,some .own),(1,some (.map es2 clock2)),(6,some lb2),(5,some .dfr),(0,none),(2,none),(3,some (cloS u R))])) (fun z=>z≤1) (fun z=>1 - z) 0 ⟨rfl,rfl,rfl,rfl,rfl,rfl,trivial⟩ rfl (by decide) (fun z hz=>?_)
         | refine Run.loop (α:=Nat) (fun z=>[(2,.fp (.agg (qS u))),(9,.ptr 4 0),(10,.fp (rideV d x)),(39,.sl tl [sV b]),(40,I ((1:Nat):Int)),(41,I z)]) (pick2 _ (HE (μ+10) [(4,some (.cells [.sl (.own (μ+9)) (([]++[idS b]).map sV)])),(μ+9,some .own),(1,some (.map es2 clock2)),(6,some lb2),(5,some .dfr),(0,none),(2,none),(3,some (cloS u R))])) (fun z=>z≤1) (fun z=>1 - z) 0 ⟨rfl,rfl,rfl,rfl,rfl,rfl,trivial⟩ rfl (by decide) (fun z hz=>?_)
       rcases (by omega:z=0∨z=1) with rfl | rfl
       ·refine Run.seq (Run.region (Cx.Ok.rnd (cx_ok _ _ _)) (Reg.op rfl (Ope.lt rfl rfl ?_)))
        refine Reg.nil (Run.seq (Run.condX rfl (fun hc=>?_) fun hc=>?_))
        ·refine Run.skip (Run.seq (Run.block (Run.seq (Run.region (Cx.Ok.rnd (cx_ok _ _ _)) (Reg.op rfl (Ope.idxS (m:=0) rfl rfl rfl rfl rfl ?_))))))
         refine Reg.op rfl (Ope.load rfl rfl ?_)
         refine Reg.op rfl (Ope.newL rfl ?_)
         refine Reg.op0 (Ope.store rfl rfl hget_hd rfl rfl rfl ?_)
         refine Reg.nil (Run.frz (d:=12) true rfl hget_hd rfl ?_)
         refine Run.drawB (Cx.Ok.rnd (cx_ok _ _ _)) 4 [(0,false,false),(1,true,false),(2,true,false),(3,true,false),(4,true,false),(5,true,true),(6,true,false),(7,true,false),(8,true,false)] (by kernel_rfl) (DraS.opR rfl rfl rfl rfl (StabS.at rfl) (Ope.loadH rfl rfl rfl ?_))
         refine DraS.opQ rfl rfl rfl (Ope.fld rfl rfl ?_)
         refine DraS.opQ rfl rfl rfl (Ope.load rfl rfl ?_)
         refine DraS.opQ rfl rfl rfl (Ope.load rfl rfl ?_)
         refine DraS.opQ rfl rfl rfl (Ope.load rfl rfl ?_)
         refine DraS.opS rfl rfl rfl (Ope.cf rfl rfl (f130 d x b) rfl ?_)
         refine ⟨rfl,?_⟩
         refine DraS.opQ rfl rfl rfl (Ope.bsl rfl rfl rfl rfl ?_)
         first
           | refine DraS.opQ rfl rfl rfl (Ope.apO rfl rfl (by simp) (by simp) (by simp) (by decide) (by simp) (by intro v hv;simp only [List.mem_singleton] at hv;subst hv;exact ⟨rfl,rfl⟩) ?_)
           | refine DraS.opQ rfl rfl rfl (Ope.apP (j:=j+7) rfl rfl (by simp) (by simpa using fun h=>absurd (hI3.2 h) (by simp)) (by repeat (first | exact hget_hd | refine (hget_tl (by omega)).trans ?_)) (by simp;omega) (by simp;omega) (by decide) (by intro v hv;obtain ⟨_,_,rfl⟩:=List.mem_map.1 hv;rfl) (by intro v hv;simp only [List.mem_singleton] at hv;subst hv;exact ⟨rfl,rfl⟩) ?_)
         refine DraS.opQ rfl rfl rfl (Ope.store rfl rfl ((hget_tl (by omega)).trans (by first | rfl | exact (hget_tl (by omega)).trans rfl)) rfl rfl rfl ?_)
         refine DraS.nil (Run.bend ?_)
         first
           | refine Run.wide (m:=μ+10) (l':=[(4,some (.cells [.sl (.own (μ+9)) (([]++[idS b]).map sV)])),(μ+9,some .own),(1,some (.map es2 clock2)),(6,some lb2),(5,some .dfr),(0,none),(2,none),(3,some (cloS u R))]) (Nat.le_refl _) (Hsub.cons rfl (Hsub.cons ((hget_tl (by omega)).trans hget_hd) (Hsub.cons rfl (Hsub.cons rfl (Hsub.cons rfl (Hsub.cons rfl (Hsub.cons rfl (Hsub.cons rfl Hsub.nil)))))))) ?_
           | refine Run.wide (m:=μ+10) (l':=[(4,some (.cells [.sl (.own (μ+9)) ((st++[idS b]).map sV)])),(μ+9,some .own),(1,some (.map es2 clock2)),(6,some lb2),(5,some .dfr),(0,none),(2,none),(3,some (cloS u R))]) (Nat.le_refl _) (Hsub.cons (by rw [List.map_append];rfl) (Hsub.cons ((hget_tl (by omega)).trans hget_hd) (Hsub.cons rfl (Hsub.cons rfl (Hsub.cons rfl (Hsub.cons rfl (Hsub.cons rfl (Hsub.cons rfl Hsub.nil)))))))) ?_
         refine Run.region (Cx.Ok.rnd (cx_ok _ _ _)) (Reg.op rfl (Ope.add rfl rfl (by omega) ?_))
         refine Reg.op rfl (Ope.mov rfl ?_)
         exact Reg.nil (Run.lend ⟨1,by decide,by decide,⟨rfl,rfl,rfl,rfl,rfl,rfl,trivial⟩,rfl,rfl⟩)
        ·(exfalso;omega)
       ·refine Run.seq (Run.region (Cx.Ok.rnd (cx_ok _ _ _)) (Reg.op rfl (Ope.lt rfl rfl ?_)))
        refine Reg.nil (Run.seq (Run.condX rfl (fun hc=>?_) fun hc=>?_))
        ·(exfalso;omega)
        ·refine Run.exit (Jmp.code (Jmp.round (Jmp.here (Run.bend ?_))))
         first
           | exact Run.done ⟨rfl,_,_,rfl,by omega,rfl,(es2,clock2,[],none),by show 7≤_;omega,(Hsub.cons rfl (Hsub.cons rfl (Hsub.cons rfl (Hsub.cons rfl (Hsub.cons rfl (Hsub.cons rfl Hsub.nil)))))),hq1,by rw [hsucc,← hI2];rfl,by simp⟩
           | exact Run.done ⟨rfl,_,_,rfl,by omega,rfl,(es2,clock2,st,some j),by show j+8≤_;omega,(Hsub.cons rfl (Hsub.cons rfl (Hsub.cons ((hget_tl (by omega)).trans ((hget_tl (by omega)).trans ((hget_tl (by omega)).trans ((hget_tl (by omega)).trans hget_hd)))) (Hsub.cons rfl (Hsub.cons rfl (Hsub.cons rfl (Hsub.cons rfl Hsub.nil))))))),hq1,by rw [hsucc,← hI2];exact (List.append_nil st).symm,hI3⟩
           | exact Run.done ⟨rfl,_,_,rfl,by omega,rfl,(es2,clock2,[]++[idS b],some (μ+2)),by show μ+2+8≤μ+10;omega,(Hsub.cons rfl (Hsub.cons rfl (Hsub.cons ((hget_tl (by omega)).trans hget_hd) (Hsub.cons rfl (Hsub.cons rfl (Hsub.cons rfl (Hsub.cons rfl Hsub.nil))))))),hq1,by rw [hsucc,← hI2];rfl,by simp⟩
           | exact Run.done ⟨rfl,_,_,rfl,by omega,rfl,(es2,clock2,st++[idS b],some (μ+2)),by show μ+2+8≤μ+10;omega,(Hsub.cons rfl (Hsub.cons rfl (Hsub.cons ((hget_tl (by omega)).trans hget_hd) (Hsub.cons rfl (Hsub.cons rfl (Hsub.cons rfl (Hsub.cons rfl Hsub.nil))))))),hq1,by rw [hsucc,← hI2];rfl,by simp⟩
     ·obtain ⟨es1,clock1,st,ow⟩:=s
      obtain ⟨hI1,hI2,hI3⟩:=hI
      simp only at hI1 hI2 hI3
      rw [List.length_map] at hI2
      subst hI2
      obtain ⟨tl,htl,hj⟩:=joinedS_ok u R hm16 k d (by omega) hk
      refine Run.bend (Run.seq ?_)
      refine Run.wideS (m:=m) (l':=[(5,some .dfr),(4,some (.cells [.sl (tlP ow) ((stepsS u R k d (nextX R d 0).length).map sV)])),(1,some (.map es1 clock1)),(0,none),(2,none),(3,some (cloS u R))]) (Nat.le_refl _) (by cases ow with
          | none=>exact hs_refl
          | some j=>exact hs_keep (hs_keep (hs_skip hs_refl rfl))) ?_
      refine Run.weakS (i:=4) rfl ?_
      refine Run.drawS (cx_ok _ _ _) (fun _=>True) [(0,false,false),(1,false,false),(2,true,false),(3,true,false),(4,true,false),(5,true,true),(6,true,false)] (by kernel_rfl) (DraS.opR rfl rfl rfl trivial (StabS.frozen rfl) (Ope.load rfl rfl ?_))
      refine DraS.opR rfl rfl rfl trivial (StabS.frozen rfl) (Ope.load rfl rfl ?_)
      refine DraS.opQ rfl rfl rfl (Ope.fld rfl rfl ?_)
      refine DraS.opQ rfl rfl rfl (Ope.load rfl rfl ?_)
      refine DraS.opQ rfl rfl rfl (Ope.load rfl rfl ?_)
      refine DraS.opS rfl rfl rfl (Ope.cf rfl rfl hj (by simp only [List.nil_append,List.append_nil,PV.bds,bd_sl (f:=sV) (tl:=.no) rfl (fun _=>rfl),Bool.and_true];rfl) ?_)
      refine ⟨trivial,?_⟩
      obtain ⟨r,hr3,hr4⟩:=MemoV.find d es1 0 hI1
      refine DraS.opQ rfl rfl rfl (Ope.mset rfl rfl rfl (keyA_of d) rfl (keyA_check d) hr3 (fun j v hjv=>by obtain ⟨_,e,h1,h2,_⟩:=hr4 j v hjv;exact ⟨e,by simpa using h1,by rw [h2];exact keyA_same d⟩) (fun j v hjv=>?_) (fun hnn=>?_))
      ·refine DraS.nil (Run.seq ?_)
       obtain ⟨es3,he3,hmem,hhas⟩:∃ es3,es3=_∧MemoV (VS u R) es3∧∃ e∈es3,e.1=keyA d:=by
         first
           | exact ⟨_,rfl,MemoV.set (j:=j) hI1 htl,psetAt_has (by obtain ⟨_,e,h1,_⟩:=hr4 j v hjv;have:=(List.getElem?_eq_some_iff.1 h1).1;omega)⟩
           | exact ⟨_,rfl,MemoV.app (clock:=clock1) hI1 htl,_,List.mem_append_right _ (List.mem_singleton.2 rfl),rfl⟩
       obtain ⟨jj,vv,hf1,hf2⟩:=MemoV.has d _ 0 hmem hhas
       obtain ⟨tl2,htl2,rfl⟩:=MemoV.val hmem hf2
       rw [he3] at hf1 hmem
       refine Run.region (cx_ok _ _ _) (Reg.op rfl (Ope.load rfl rfl ?_))
       refine Reg.op rfl (Ope.load rfl rfl ?_)
       refine Reg.op rfl (Ope.look rfl rfl (keyA_of d) rfl (keyA_check d) hf1 ?_)
       refine Reg.op rfl (Ope.asg rfl ?_)
       refine Reg.nil (Run.ret ?_)
       first
         | exact finC_retD rfl (.tmp rfl .nil) (VS_bd4 htl2) (by rw [HE_cut4 rfl rfl rfl rfl];exact ok4 (MemoV.bd (VS_bd u R) hmem) rfl) ⟨_,_,HE_cut4 rfl rfl rfl rfl,hmem,tl2,htl2,rfl⟩
         | obtain ⟨_, e0, he1, he2, he3⟩ := hr2 jj vv rfl
           obtain ⟨tl,htl,rfl⟩:=MemoV.val hm ⟨e0,List.mem_of_getElem? he1,he2,he3⟩
           exact finC_ret (.tmp rfl .nil) (VS_bd4 htl) (by rw [HE_cut4 rfl rfl rfl rfl];exact ok4 (MemoV.bd (VS_bd u R) hm) rfl) ⟨es,clock,HE_cut4 rfl rfl rfl rfl,hm,tl,htl,rfl⟩
      ·refine DraS.nil (Run.seq ?_)
       obtain ⟨es3,he3,hmem,hhas⟩:∃ es3,es3=_∧MemoV (VS u R) es3∧∃ e∈es3,e.1=keyA d:=by
         first
           | exact ⟨_,rfl,MemoV.set (j:=j) hI1 htl,psetAt_has (by obtain ⟨_,e,h1,_⟩:=hr4 j v hjv;have:=(List.getElem?_eq_some_iff.1 h1).1;omega)⟩
           | exact ⟨_,rfl,MemoV.app (clock:=clock1) hI1 htl,_,List.mem_append_right _ (List.mem_singleton.2 rfl),rfl⟩
       obtain ⟨jj,vv,hf1,hf2⟩:=MemoV.has d _ 0 hmem hhas
       obtain ⟨tl2,htl2,rfl⟩:=MemoV.val hmem hf2
       rw [he3] at hf1 hmem
       refine Run.region (cx_ok _ _ _) (Reg.op rfl (Ope.load rfl rfl ?_))
       refine Reg.op rfl (Ope.load rfl rfl ?_)
       refine Reg.op rfl (Ope.look rfl rfl (keyA_of d) rfl (keyA_check d) hf1 ?_)
       refine Reg.op rfl (Ope.asg rfl ?_)
       refine Reg.nil (Run.ret ?_)
       first
         | exact finC_retD rfl (.tmp rfl .nil) (VS_bd4 htl2) (by rw [HE_cut4 rfl rfl rfl rfl];exact ok4 (MemoV.bd (VS_bd u R) hmem) rfl) ⟨_,_,HE_cut4 rfl rfl rfl rfl,hmem,tl2,htl2,rfl⟩
         | obtain ⟨_, e0, he1, he2, he3⟩ := hr2 jj vv rfl
           obtain ⟨tl,htl,rfl⟩:=MemoV.val hm ⟨e0,List.mem_of_getElem? he1,he2,he3⟩
           exact finC_ret (.tmp rfl .nil) (VS_bd4 htl) (by rw [HE_cut4 rfl rfl rfl rfl];exact ok4 (MemoV.bd (VS_bd u R) hm) rfl) ⟨es,clock,HE_cut4 rfl rfl rfl rfl,hm,tl,htl,rfl⟩
   ·refine Reg.op rfl (Ope.mov rfl ?_)
    refine Reg.op rfl (Ope.ext rfl rfl ?_)
    refine Reg.op rfl (Ope.ext rfl rfl ?_)
    refine Reg.op rfl (Ope.asg rfl ?_)
    refine Reg.op rfl (Ope.asg rfl ?_)
    refine Reg.nil (Run.seq (Run.region (cx_ok _ _ _) (Reg.op rfl (Ope.mov rfl ?_))))
    refine Reg.nil (Run.condX rfl (fun hc=>?_) fun hc=>?_)
    ·refine Run.seq (Run.region (cx_ok _ _ _) (Reg.op rfl (Ope.mov rfl ?_)))
     refine Reg.op rfl (Ope.asg rfl ?_)
     refine Reg.nil (Run.ret (Jmp.code ?_))
     first
       | exact finC_retD rfl (.tmp rfl .nil) (VS_bd4 htl2) (by rw [HE_cut4 rfl rfl rfl rfl];exact ok4 (MemoV.bd (VS_bd u R) hmem) rfl) ⟨_,_,HE_cut4 rfl rfl rfl rfl,hmem,tl2,htl2,rfl⟩
       | obtain ⟨_, e0, he1, he2, he3⟩ := hr2 jj vv rfl
         obtain ⟨tl,htl,rfl⟩:=MemoV.val hm ⟨e0,List.mem_of_getElem? he1,he2,he3⟩
         exact finC_ret (.tmp rfl .nil) (VS_bd4 htl) (by rw [HE_cut4 rfl rfl rfl rfl];exact ok4 (MemoV.bd (VS_bd u R) hm) rfl) ⟨es,clock,HE_cut4 rfl rfl rfl rfl,hm,tl,htl,rfl⟩
    ·(cases hc;done)
theorem f177 (u:Nat) (hu:u=0∨u=1) (R:Rst) (hR:R.ok):∀ (k i:Nat) (d:Rid) (es:List (AV×PV×Nat)) (clock:Nat),d.ok i→i+k≤16→d.a+d.b+k=R.m→MemoV (VS u R) es →
    PCall P0 177 (.agg d.cells::capsS u R) (HE 4 [(1,some (.map es clock)),(3,some (cloS u R))]) (fun v h'=>∃ es' clock',h'=HE 4 [(1,some (.map es' clock')),(3,some (cloS u R))]∧(MemoV (VS u R) es'∧∃ tl:Tail,tl.isOwn=false∧v=.sl tl (VS u R d))) fun _ _=>False
  | 0,i,d,es,clock,hd,hi,hk,hm=>f177z u hu R hR i d es clock hd (by omega) (by simpa using hk) hm
  | k+1,i,d,es,clock,hd,hi,hk,hm=>f177s u hu R hR k i (fun d' es' c' h1 h2 h3=>f177 u hu R hR k (i+1) d' es' c' h1 (by omega) h2 h3) d es clock hd hi hk hm
end Go.Pv
namespace Go.Pv
open Go.Proofs Go.Am
set_option maxRecDepth 10000
def Rst.hrs (R:Rst) (u:Nat):Option (Int×Int):=spn u R R.m zeroRid
def hrsV:Option (Int×Int)→PV
  | none=>.tup [sV (0,0),B false]
  | some p=>.tup [sV p,B true]
theorem f128 (u:Nat) (hu:u=0∨u=1) (R:Rst) (hR:R.ok):Fn P0 128 [.agg R.cells,.agg (qS u)] (hrsV (R.hrs u)):=by
  have h177:=f177 u hu R hR R.m 0 zeroRid [] 0 (by simp [Rid.ok,zeroRid]) (by have:=hR.1;omega) (by simp [zeroRid]) (fun e he=>by cases he)
  have hVz:VS u R zeroRid=(R.hrs u).toList.map sV:=VS_at (k:=R.m) (by simp [zeroRid]) (by decide)
  rw [hVz] at h177
  generalize (R.hrs u)=c at *
  rcases c with _ | c
  all_goals
    refine PFun.of (C:=c128) (cx_ok _ _ _) rfl (fn:=Tryz.f128) (by kernel_rfl) (c:=_) rfl rfl rfl ?_
    refine Run.seq (Run.region (cx_ok _ _ _) (Reg.op rfl (Ope.boxF rfl rfl ?_)))
    refine Reg.op rfl (Ope.boxF rfl rfl ?_)
    refine Reg.op rfl (Ope.newL rfl ?_)
    refine Reg.op rfl (Ope.asg rfl ?_)
    refine Reg.nil (Run.seq (Run.region (cx_ok _ _ _) (Reg.op rfl (Ope.mmap ?_))))
    refine Reg.op rfl (Ope.newL rfl ?_)
    refine Reg.op0 (Ope.store rfl rfl hget_hd rfl rfl rfl ?_)
    refine Reg.nil (Run.seq (Run.frz (d:=6) false rfl hget_hd rfl ?_))
    refine Run.region (cx_ok _ _ _) (Reg.op rfl (Ope.newL rfl ?_))
    refine Reg.nil (Run.seq (Run.region (cx_ok _ _ _) (Reg.op rfl (Ope.mkf rfl rfl ?_))))
    refine Reg.op0 (Ope.store rfl rfl hget_hd rfl rfl rfl ?_)
    refine Reg.nil (Run.seq (Run.seq (Run.region (cx_ok _ _ _) (Reg.op rfl (Ope.loadH rfl rfl rfl ?_)))))
    refine Reg.op rfl (Ope.bld rfl rfl ?_)
    refine Reg.op rfl (Ope.callM4h (clo:=cloS u R) (es:=[]) (clock:=0) rfl rfl rfl rfl rfl rfl rfl (by omega) rfl (fun e he=>by cases he) rfl h177 (fun v es2 clock2 hq=>?_))
    obtain ⟨hq1,tl,htl,rfl⟩:=hq
    first
      | refine Reg.op rfl (Ope.len (m:=0) rfl rfl ?_)
      | refine Reg.op rfl (Ope.len (m:=1) rfl rfl ?_)
    refine Reg.op rfl (Ope.mov rfl ?_)
    refine Reg.nil (Run.block ?_)
    first
      | refine Run.loop (α:=Nat) (fun z=>[(4,.ptr 0 0),(5,B false),(14,.sl tl []),(15,I ((0:Nat):Int)),(16,I z)]) (Function.const Nat _) (fun z=>z=0) (fun _=>0) 0 ⟨rfl,rfl,rfl,rfl,rfl,trivial⟩ rfl rfl (fun z hz=>?_)
      | refine Run.loop (α:=Nat) (fun z=>[(4,.ptr 0 0),(5,B false),(14,.sl tl [sV c]),(15,I ((1:Nat):Int)),(16,I z)]) (Function.const Nat _) (fun z=>z=0) (fun _=>0) 0 ⟨rfl,rfl,rfl,rfl,rfl,trivial⟩ rfl rfl (fun z hz=>?_)
    subst hz
    refine Run.seq (Run.region (cx_ok _ _ _) (Reg.op rfl (Ope.lt rfl rfl ?_)))
    refine Reg.nil (Run.seq (Run.condX rfl (fun hc=>?_) fun hc=>?_))
    ·first
     |(exfalso;omega)
     |refine Run.skip (Run.seq (Run.block (Run.seq (Run.region (cx_ok _ _ _) (Reg.op rfl (Ope.idxS (m:=0) rfl rfl rfl rfl rfl ?_))))))
      refine Reg.op rfl (Ope.load rfl rfl ?_)
      refine Reg.op rfl (Ope.newL rfl ?_)
      refine Reg.op0 (Ope.store rfl rfl hget_hd rfl rfl rfl ?_)
      refine Reg.nil (Run.seq (Run.region (cx_ok _ _ _) (Reg.op rfl (Ope.load rfl rfl ?_))))
      refine Reg.op0 (Ope.store rfl rfl rfl rfl rfl rfl ?_)
      refine Reg.op rfl (Ope.asg rfl ?_)
      exact Reg.nil (Run.ret (Jmp.retB (Jmp.code (Jmp.round (Jmp.retB (Jmp.code (fin_ret (.cell rfl rfl (.tmp rfl .nil)) rfl rfl)))))))
    ·first
     |(exfalso;omega)
     |refine Run.exit (Jmp.code (Jmp.round (Jmp.here (Run.seq (Run.region (cx_ok _ _ _) (Reg.op rfl (Ope.load rfl rfl ?_)))))))
      refine Reg.op0 (Ope.store rfl rfl rfl rfl rfl rfl ?_)
      refine Reg.op rfl (Ope.asg rfl ?_)
      exact Reg.nil (Run.ret (fin_ret (.cell rfl rfl (.tmp rfl .nil)) rfl rfl))
theorem d176n {n:Nat} {l:HL} {K:PH→Prop} (hK:K (HE n l)):PDefer A0 P0 176 [.ptr 1 0] (.lit .nilifc) (HE n l) K:=by
  refine PDefer.of (C:=c176) (fd:=Tryz.f176) (by kernel_rfl) rfl rfl rfl rfl rfl rfl rfl rfl rfl rfl ?_
  refine Run.block (Run.seq (Run.region (cx_ok _ _ _) ?_))
  first | refine Reg.op rfl (Ope.eq rfl rfl ?_) | refine Reg.op rfl (Ope.eqI rfl rfl ?_) | refine Reg.op rfl (Ope.eqN rfl rfl rfl ?_)
  refine Reg.nil (Run.condX rfl (fun hc=>?_) fun hc=>?_)
  ·refine Run.region (cx_ok _ _ _) (Reg.op rfl (Ope.asg rfl ?_))
   exact Reg.nil (Run.bend (Run.done ⟨.inl rfl,trivial,hK⟩))
  ·exact absurd hc (by decide)
theorem d176e {n:Nat} {l:HL} {K:PH→Prop} {k z:Int} (hz:hget l 1=some (.cells [I z])) (hK:K (HE n ((1,some (.cells [I k]))::l))):PDefer A0 P0 176 [.ptr 1 0] (.ifc 30 (I k)) (HE n l) K:=by
  refine PDefer.of (C:=c176) (fd:=Tryz.f176) (by kernel_rfl) rfl rfl rfl rfl rfl rfl rfl rfl rfl rfl ?_
  refine Run.block (Run.seq (Run.region (cx_ok _ _ _) ?_))
  first | refine Reg.op rfl (Ope.eq rfl rfl ?_) | refine Reg.op rfl (Ope.eqI rfl rfl ?_) | refine Reg.op rfl (Ope.eqN rfl rfl rfl ?_)
  refine Reg.nil (Run.condX rfl (fun hc=>?_) fun hc=>?_)
  ·exact absurd hc (by decide)
  ·refine Run.seq (Run.region (cx_ok _ _ _) ?_)
   first | refine Reg.op rfl (Ope.tasY rfl rfl ?_) | refine Reg.op rfl (Ope.tasN rfl rfl ?_)
   refine Reg.op rfl (Ope.ext rfl rfl ?_)
   refine Reg.op rfl (Ope.ext rfl rfl ?_)
   refine Reg.nil (Run.condX rfl (fun hc=>?_) fun hc=>?_)
   ·refine Run.seq (Run.region (cx_ok _ _ _) (Reg.op rfl (Ope.asg rfl ?_)))
    refine Reg.nil (Run.region (cx_ok _ _ _) (Reg.op rfl (Ope.mov rfl ?_)))
    refine Reg.op0 (Ope.store rfl rfl hz rfl rfl rfl ?_)
    exact Reg.nil (Run.bend (Run.done ⟨.inl rfl,trivial,hK⟩))
   ·exact absurd hc (by decide)
theorem f126ok {fa:Nat} {caps:List PV} {a b:Int} (hf:Fn P0 fa caps (.agg [I a,I b])) (hb:PV.bds 0 caps=true):Fn P0 126 [.fn (.func fa) [] caps] (.tup [.agg [I a,I b],I 0]):=by
  unfold Fn PFun
  show PCall P0 126 _ (HE 0 []) _ _
  refine PCall.ofT (C:=c126) (cx_ok _ _ _) (fn:=Tryz.f126) (by kernel_rfl) (c:=_) rfl rfl ?_
  refine Til.seq rfl rfl ?_
  refine Run.region (cx_ok _ _ _) ?_
  refine Reg.op rfl (Ope.newL rfl ?_)
  refine Reg.op rfl (Ope.newL rfl ?_)
  refine Reg.nil ?_
  refine Run.done ⟨rfl,rfl,?_⟩
  refine Til.defer (cx_ok _ _ _) rfl rfl (by kernel_rfl) [(2,.ptr 0 0),(3,.ptr 1 0)] rfl rfl rfl rfl rfl rfl rfl rfl (Ope.mkf rfl rfl ⟨rfl,rfl⟩) rfl rfl ⟨rfl,rfl,trivial⟩ ?_
  refine Reg.op rfl (Ope.mov rfl ?_)
  refine Reg.op rfl (Ope.cf rfl rfl (by simpa using hf) (by simpa using hb) ?_)
  refine Reg.op0 (Ope.store rfl rfl rfl rfl rfl rfl ?_)
  refine Reg.op0 (Ope.store rfl rfl rfl rfl rfl rfl ?_)
  refine Reg.nil ?_
  refine Run.done ⟨rfl,trivial,d176n ?_⟩
  exact ResE.ofF (.cell rfl rfl (.cell rfl rfl .nil)) rfl rfl
theorem f126er {fa:Nat} {caps:List PV} {k:Int} (hf:Pan P0 fa caps (.ifc 30 (I k))) (hb:PV.bds 0 caps=true):Fn P0 126 [.fn (.func fa) [] caps] (.tup [.agg [I 0,I 0],I k]):=by
  unfold Fn PFun
  show PCall P0 126 _ (HE 0 []) _ _
  refine PCall.ofT (C:=c126) (cx_ok _ _ _) (fn:=Tryz.f126) (by kernel_rfl) (c:=_) rfl rfl ?_
  refine Til.seq rfl rfl ?_
  refine Run.region (cx_ok _ _ _) ?_
  refine Reg.op rfl (Ope.newL rfl ?_)
  refine Reg.op rfl (Ope.newL rfl ?_)
  refine Reg.nil ?_
  refine Run.done ⟨rfl,rfl,?_⟩
  refine Til.defer (cx_ok _ _ _) rfl rfl (by kernel_rfl) [(2,.ptr 0 0),(3,.ptr 1 0)] rfl rfl rfl rfl rfl rfl rfl rfl (Ope.mkf rfl rfl ⟨rfl,rfl⟩) rfl rfl ⟨rfl,rfl,trivial⟩ ?_
  refine Reg.op rfl (Ope.mov rfl ?_)
  refine Reg.op rfl (Ope.cp rfl rfl (by simpa using hf) (by simpa using hb) ⟨trivial,d176e rfl ?_⟩)
  exact ResE.ofF (.cell rfl rfl (.cell rfl rfl .nil)) rfl rfl
theorem f127b (u:Nat) (hu:u=0∨u=1) (R:Rst) (hR:R.ok) (hv:validR R.m R.o0 R.t0 R.r0 R.f0 R.o1 R.t1 R.r1 R.f1=true) (hn:(R.hrs u)=none):Pan P0 127 [.fp (.agg R.cells),.fp (B true),.fp (.agg (qS u))] (.ifc 30 (I 4)):=by
  have h128:=f128 u hu R hR
  rw [hn] at h128
  refine PFun.of (C:=c127) (cx_ok _ _ _) rfl (fn:=Tryz.f127) (by kernel_rfl) (c:=_) rfl rfl rfl ?_
  refine Run.seq (Run.region (cx_ok _ _ _) (Reg.op rfl (Ope.newL rfl ?_)))
  refine Reg.nil (Run.seq (Run.region (cx_ok _ _ _) (Reg.op rfl (Ope.load rfl rfl ?_))))
  refine Reg.op rfl (Ope.cf rfl rfl (f54t _ _ _ _ _ _ _ _ _ hv) rfl ?_)
  refine Reg.op rfl (Ope.newL rfl ?_)
  refine Reg.op0 (Ope.store rfl rfl hget_hd rfl rfl rfl ?_)
  refine Reg.nil (Run.seq (Run.region (cx_ok _ _ _) (Reg.op rfl (Ope.load rfl rfl ?_))))
  refine Reg.op rfl (Ope.cf rfl rfl (f55t' _ rfl) rfl ?_)
  refine Reg.nil (Run.seq (Run.region (cx_ok _ _ _) (Reg.op rfl (Ope.load rfl rfl ?_))))
  refine Reg.op rfl (Ope.load rfl rfl ?_)
  refine Reg.op rfl (Ope.cf rfl rfl (h128) rfl ?_)
  refine Reg.op rfl (Ope.mov rfl ?_)
  refine Reg.op rfl (Ope.ext rfl rfl ?_)
  refine Reg.op rfl (Ope.ext rfl rfl ?_)
  refine Reg.op rfl (Ope.newL rfl ?_)
  refine Reg.op0 (Ope.store rfl rfl hget_hd rfl rfl rfl ?_)
  refine Reg.op rfl (Ope.asg rfl ?_)
  refine Reg.nil (Run.seq (Run.region (cx_ok _ _ _) (Reg.op rfl (Ope.mov rfl ?_))))
  refine Reg.op rfl (Ope.cp rfl rfl (f55f' _ rfl) rfl (fin_panic rfl rfl))
theorem f127c (u:Nat) (hu:u=0∨u=1) (R:Rst) (hR:R.ok) (hv:validR R.m R.o0 R.t0 R.r0 R.f0 R.o1 R.t1 R.r1 R.f1=true) (p:Int×Int) (hn:(R.hrs u)=some p):Fn P0 127 [.fp (.agg R.cells),.fp (B true),.fp (.agg (qS u))] (sV p):=by
  have h128:=f128 u hu R hR
  rw [hn] at h128
  refine PFun.of (C:=c127) (cx_ok _ _ _) rfl (fn:=Tryz.f127) (by kernel_rfl) (c:=_) rfl rfl rfl ?_
  refine Run.seq (Run.region (cx_ok _ _ _) (Reg.op rfl (Ope.newL rfl ?_)))
  refine Reg.nil (Run.seq (Run.region (cx_ok _ _ _) (Reg.op rfl (Ope.load rfl rfl ?_))))
  refine Reg.op rfl (Ope.cf rfl rfl (f54t _ _ _ _ _ _ _ _ _ hv) rfl ?_)
  refine Reg.op rfl (Ope.newL rfl ?_)
  refine Reg.op0 (Ope.store rfl rfl hget_hd rfl rfl rfl ?_)
  refine Reg.nil (Run.seq (Run.region (cx_ok _ _ _) (Reg.op rfl (Ope.load rfl rfl ?_))))
  refine Reg.op rfl (Ope.cf rfl rfl (f55t' _ rfl) rfl ?_)
  refine Reg.nil (Run.seq (Run.region (cx_ok _ _ _) (Reg.op rfl (Ope.load rfl rfl ?_))))
  refine Reg.op rfl (Ope.load rfl rfl ?_)
  refine Reg.op rfl (Ope.cf rfl rfl (h128) rfl ?_)
  refine Reg.op rfl (Ope.mov rfl ?_)
  refine Reg.op rfl (Ope.ext rfl rfl ?_)
  refine Reg.op rfl (Ope.ext rfl rfl ?_)
  refine Reg.op rfl (Ope.newL rfl ?_)
  refine Reg.op0 (Ope.store rfl rfl hget_hd rfl rfl rfl ?_)
  refine Reg.op rfl (Ope.asg rfl ?_)
  refine Reg.nil (Run.seq (Run.region (cx_ok _ _ _) (Reg.op rfl (Ope.mov rfl ?_))))
  refine Reg.op rfl (Ope.cf rfl rfl (f55t' _ rfl) rfl ?_)
  refine Reg.nil (Run.seq (Run.region (cx_ok _ _ _) (Reg.op rfl (Ope.load rfl rfl ?_))))
  refine Reg.op0 (Ope.store rfl rfl rfl rfl rfl rfl ?_)
  exact Reg.nil (Run.ret (fin_ret (.cell rfl rfl .nil) rfl rfl))
theorem f70 (u:Nat) (h a0 b0 c0 d0 a1 b1 c1 d1:Int) (a b k:Int) (hf:Fn P0 126 [.fn (.func 127) [] [.fp (.agg [I h,I a0,I b0,I c0,I d0,I a1,I b1,I c1,I d1]),.fp (B true),.fp (.agg (qS u))]] (.tup [.agg [I a,I b],I k])) :
    Fn P0 70 [.agg [I h,I a0,I b0,I c0,I d0,I a1,I b1,I c1,I d1],B true,.agg (qS u)] (.tup [.agg [I a,I b],I k]):=by
  refine PFun.of (C:=c70) (cx_ok _ _ _) rfl (fn:=Tryz.f70) (by kernel_rfl) (c:=_) rfl rfl rfl ?_
  refine Run.seq (Run.region (cx_ok _ _ _) (Reg.op rfl (Ope.boxF rfl rfl ?_)))
  refine Reg.op rfl (Ope.boxF rfl rfl ?_)
  refine Reg.op rfl (Ope.boxF rfl rfl ?_)
  refine Reg.op rfl (Ope.newL rfl ?_)
  refine Reg.op rfl (Ope.asg rfl ?_)
  refine Reg.nil (Run.seq (Run.region (cx_ok _ _ _) (Reg.op rfl (Ope.mkf rfl rfl ?_))))
  refine Reg.op rfl (Ope.cf rfl rfl (hf) rfl ?_)
  refine Reg.op rfl (Ope.ext rfl rfl ?_)
  refine Reg.op rfl (Ope.ext rfl rfl ?_)
  refine Reg.op0 (Ope.store rfl rfl rfl rfl rfl rfl ?_)
  refine Reg.op rfl (Ope.asg rfl ?_)
  exact Reg.nil (Run.ret (fin_ret (.cell rfl rfl (.tmp rfl .nil)) rfl rfl))
theorem f71t {u:Nat} (hu:u=0∨u=1):Fn P0 71 [I u] (B true):=by
  have h:=f71 u
  rcases hu with rfl | rfl<;>exact h
theorem f27 (u:Nat) (hu:u=0∨u=1) (h a0 b0 c0 d0 a1 b1 c1 d1:Int) (a b k:Int) (hf:Fn P0 126 [.fn (.func 127) [] [.fp (.agg [I h,I a0,I b0,I c0,I d0,I a1,I b1,I c1,I d1]),.fp (B true),.fp (.agg (qS u))]] (.tup [.agg [I a,I b],I k])) :
    Fn P0 27 [.agg [I h,I a0,I b0,I c0,I d0,I a1,I b1,I c1,I d1],I u] (.tup [.agg [I a,I b],I k]):=by
  refine PFun.of (C:=c27) (cx_ok _ _ _) rfl (fn:=Tryz.f27) (by kernel_rfl) (c:=_) rfl rfl rfl ?_
  refine Run.seq (Run.region (cx_ok _ _ _) (Reg.op rfl (Ope.boxF rfl rfl ?_)))
  refine Reg.op rfl (Ope.newL rfl ?_)
  refine Reg.op rfl (Ope.asg rfl ?_)
  refine Reg.nil (Run.seq (Run.draw (cx_ok _ _ _) [(0,false),(1,true),(3,true),(2,true),(4,true),(5,true),(6,true),(7,true),(8,true),(9,true)] (by kernel_rfl) (Dra.op' rfl rfl rfl (.load rfl) (Ope.load rfl rfl ?_))))
  refine Dra.op' rfl rfl rfl .sure (Ope.mov rfl ?_)
  refine Dra.op' rfl rfl rfl .sure (Ope.mov rfl ?_)
  refine Dra.op' rfl rfl rfl .sure (Ope.cf rfl rfl (f71t hu) rfl ?_)
  refine Dra.op' rfl rfl rfl .sure (Ope.cf rfl rfl (f72 u) rfl ?_)
  refine Dra.op' rfl rfl rfl .sure (Ope.cf rfl rfl (f70 u _ _ _ _ _ _ _ _ _ _ _ _ hf) rfl ?_)
  refine Dra.op' rfl rfl rfl .sure (Ope.ext rfl rfl ?_)
  refine Dra.op' rfl rfl rfl .sure (Ope.ext rfl rfl ?_)
  refine Dra.op' rfl rfl rfl .sure (Ope.store rfl rfl rfl rfl rfl rfl ?_)
  refine Dra.op' rfl rfl rfl .sure (Ope.asg rfl ?_)
  exact Dra.nil (Run.ret (fin_ret (.cell rfl rfl (.tmp rfl .nil)) rfl rfl))
theorem f27b (u:Nat) (hu:u=0∨u=1) (R:Rst) (hR:R.ok) (hv:validR R.m R.o0 R.t0 R.r0 R.f0 R.o1 R.t1 R.r1 R.f1=true) (hn:R.hrs u=none):Fn P0 27 [.agg R.cells,I u] (.tup [.agg [I 0,I 0],I 4]) :=
  f27 u hu _ _ _ _ _ _ _ _ _ _ _ _ (f126er (f127b u hu R hR hv hn) rfl)
theorem f27c (u:Nat) (hu:u=0∨u=1) (R:Rst) (hR:R.ok) (hv:validR R.m R.o0 R.t0 R.r0 R.f0 R.o1 R.t1 R.r1 R.f1=true) (p:Int×Int) (hn:R.hrs u=some p):Fn P0 27 [.agg R.cells,I u] (.tup [.agg [I p.1,I p.2],I 0]) :=
  f27 u hu _ _ _ _ _ _ _ _ _ _ _ _ (f126ok (f127c u hu R hR hv p hn) rfl)
end Go.Pv
