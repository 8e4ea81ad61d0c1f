/- Parts of the proof: M19, Pv67, M20, M21, M22, Pv68 -/
import Derived.Test.YtgpcfkpenkaipaaP18
import Derived.Test.YtgpcfkpenkaipaaP17
import Derived.Test.YtgpcfkpenkaipaaP10
import Derived.Test.YtgpcfkpenkaipaaP14
import Derived.Test.YtgpcfkpenkaipaaP11
set_option linter.unusedVariables false
set_option linter.unusedSimpArgs false
set_option linter.unusedSectionVars false
namespace Go.Pv
open Go.Proofs Go.Am
set_option maxRecDepth 10000
section
variable (s:Shp) {t1 t2:Tail} (h1:t1.isOwn=false) (h2:t2.isOwn=false)
include h1 h2
theorem goOnAll {H:Int} (hs:s.ok H):∀ (k:Nat) (p:Pst) (es:List (AV×PV×Nat)) (clock:Nat),k≤6→p.good s.jo.length k→MemoW (VO s) es →
    PCall P0 102 [s.v t1 t2,p.v,fnO s t1 t2] (HE 4 [(1,some (.map es clock)),(3,some (cloO s t1 t2))]) (fun v h'=>∃ es' clock',h'=HE 4 [(1,some (.map es' clock')),(3,some (cloO s t1 t2))]∧(MemoW (VO s) es'∧v=(s.out k p).v)) fun _ _=>False
  | 0,p,es,clock,_,hp,hm=>f102z s h1 h2 hs p es clock hp hm
  | k+1,p,es,clock,hk,hp,hm=>f102s s h1 h2 hs k (fun p' i es' c' g hi hb hm'=>f101 s h1 h2 hs k (fun p2 es2 c2 g2 hm2=>goOnAll hs k p2 es2 c2 (by omega) g2 hm2) p' i g hk hi hb es' c' hm') p es clock hk hp hm
theorem f83 {H:Int} (hs:s.ok H) (k:Nat) (p:Pst) (hk:k≤6) (hp:p.good s.jo.length k):Fn P0 83 [s.v t1 t2,p.v] (s.out k p).v:=by
  have hgo:=goOnAll s h1 h2 hs k p [] 0 hk hp (fun e he=>by cases he)
  have hbg:PV.bds 4 [s.v t1 t2,p.v,fnO s t1 t2]=true:=bds_consN (bd_shN s h1 h2 4) (bds_consN rfl (bds_consN (by have:=bd_capsO s h1 h2;simp only [fnO,PV.bd,this,Bool.and_true];rfl) rfl))
  have hcb:=bd_cloO s h1 h2
  have hbo:=bd_olk 0 (s.out k p)
  generalize s.out k p=o at *
  refine PFun.of (C:=c83) (cx_ok _ _ _) rfl (fn:=Try.f83) (by kernel_rfl) (c:=_) rfl rfl rfl ?_
  refine Run.seq (Run.region (cx_ok _ _ _) (Reg.op rfl (Ope.boxF rfl rfl ?_)))
  refine Reg.op rfl (Ope.boxF rfl rfl ?_)
  refine Reg.op rfl (Ope.newL rfl ?_)
  refine Reg.nil (Run.seq (Run.region (cx_ok _ _ _) (Reg.op rfl (Ope.mmap ?_))))
  refine Reg.op rfl (Ope.newL rfl ?_)
  refine Reg.op0 (Ope.store rfl rfl hget_hd rfl rfl rfl ?_)
  refine Reg.nil (Run.seq (Run.frz (d:=5) false rfl hget_hd rfl ?_))
  refine Run.region (cx_ok _ _ _) (Reg.op rfl (Ope.newL rfl ?_))
  refine Reg.nil (Run.seq (Run.region (cx_ok _ _ _) (Reg.op rfl (Ope.mkf rfl rfl ?_))))
  refine Reg.op0 (Ope.store rfl rfl hget_hd rfl rfl rfl ?_)
  refine Reg.nil (Run.seq (Run.region (cx_ok _ _ _) (Reg.op rfl (Ope.load rfl rfl ?_))))
  refine Reg.op rfl (Ope.load rfl rfl ?_)
  refine Reg.op rfl (Ope.loadH rfl rfl rfl ?_)
  refine Reg.op rfl (Ope.callM4h (clo:=cloO s t1 t2) (es:=[]) (clock:=0) rfl rfl rfl rfl rfl rfl rfl (by omega) hbg (fun e he=>by cases he) hcb hgo (fun v es2 clock2 hq=>?_))
  obtain ⟨_,rfl⟩:=hq
  refine Reg.op0 (Ope.store rfl rfl rfl rfl rfl rfl ?_)
  exact Reg.nil (Run.ret (fin_ret (.cell rfl rfl .nil) hbo rfl))
theorem good0 {H:Int} (hs:s.ok H) (x:Nat) (hx:x < 2 ^ s.jo.length):(⟨x,-1,0,0⟩:Pst).good s.jo.length (lft s.jo.length x):=by
  have hl:=lft_le (J:=x) s.jo.length
  have hn:=hs.jo
  have h430:430 * ((lft s.jo.length x:Nat):Int)≤10000:=by omega
  exact ⟨hx,rfl,⟨Int.le_refl _,by show (0:Int)≤_;omega⟩,⟨Int.le_refl _,by show (0:Int)≤_;omega⟩⟩
theorem lft_le6 {H:Int} (hs:s.ok H) (x:Nat):lft s.jo.length x≤6:=Nat.le_trans (lft_le _) hs.jo
theorem f83x {H:Int} (hs:s.ok H) (x:Nat) (hx:x < 2 ^ s.jo.length):Fn P0 83 [s.v t1 t2,(⟨x,-1,0,0⟩:Pst).v] (s.out (lft s.jo.length x) ⟨x,-1,0,0⟩).v :=
  f83 s h1 h2 hs _ _ (lft_le6 s h1 h2 hs x) (good0 s h1 h2 hs x hx)
def Shp.all (s:Shp):Olk:=s.out s.jo.length Shp.p0
omit h1 h2 in
theorem lft_0:∀ n,lft n 0=n
  | 0=>rfl
  | n+1=>by simp [lft,lft_0 n]
theorem f83a {H:Int} (hs:s.ok H):Fn P0 83 [s.v t1 t2,Shp.p0.v] s.all.v:=by
  have h:=f83x s h1 h2 hs 0 (Nat.two_pow_pos _)
  rw [lft_0] at h
  exact h
theorem f57 {H:Int} (hs:s.ok H):Fn P0 57 [s.v t1 t2] (I s.all.n):=by
  have hst:=f84 0
  have hou:=f83a s h1 h2 hs
  have hbp:PV.bds 0 [s.v t1 t2,Shp.p0.v]=true:=bd_shpV s h1 h2 rfl
  generalize s.all=o at *
  refine PFun.of (C:=c57) (cx_ok _ _ _) rfl (fn:=Try.f57) (by kernel_rfl) (c:=_) rfl rfl rfl ?_
  refine Run.seq (Run.region (cx_ok _ _ _) (Reg.op rfl (Ope.boxF rfl rfl ?_)))
  refine Reg.op rfl (Ope.asg rfl ?_)
  refine Reg.nil (Run.seq (Run.draw (cx_ok _ _ _) [(0,false),(1,true),(2,true),(3,true),(4,true)] (by kernel_rfl) (Dra.op' rfl rfl rfl (.load rfl) (Ope.load rfl rfl ?_))))
  refine Dra.op' rfl rfl rfl .sure (Ope.cf rfl rfl (hst) rfl ?_)
  refine Dra.op' rfl rfl rfl .sure (Ope.cf rfl rfl hou hbp ?_)
  refine Dra.op' rfl rfl rfl .sure (Ope.field rfl rfl ?_)
  refine Dra.op' rfl rfl rfl .sure (Ope.asg rfl ?_)
  exact Dra.nil (Run.ret (fin_ret (.tmp rfl .nil) rfl rfl))
theorem f64y {H:Int} (hs:s.ok H) (hn:0 < s.all.n):Fn P0 64 [s.v t1 t2] s.all.v:=by
  have hst:=f84 0
  have hou:=f83a s h1 h2 hs
  have hbp:PV.bds 0 [s.v t1 t2,Shp.p0.v]=true:=bd_shpV s h1 h2 rfl
  have hre:=f71t 4
  have hbo:=bd_olk 0 s.all
  generalize s.all=o at *
  have hn':(0:Int) < o.n:=by omega
  refine PFun.of (C:=c64) (cx_ok _ _ _) rfl (fn:=Try.f64) (by kernel_rfl) (c:=_) rfl rfl rfl ?_
  refine Run.seq (Run.region (cx_ok _ _ _) (Reg.op rfl (Ope.boxF rfl rfl ?_)))
  refine Reg.op rfl (Ope.newL rfl ?_)
  refine Reg.nil (Run.seq (Run.drawL (cx_ok _ _ _) [[(0,false),(1,true),(2,true),(3,true),(4,true)],[(0,false),(1,true),(3,true),(2,true),(4,true)],[(0,false),(3,true),(1,true),(2,true),(4,true)]] (by kernel_rfl) ⟨?_,?_,?_,trivial⟩))
  ·refine Dra.op' rfl rfl rfl (.load rfl) (Ope.load rfl rfl ?_)
   refine Dra.op' rfl rfl rfl .sure (Ope.cf rfl rfl (hst) rfl ?_)
   refine Dra.op' rfl rfl rfl .sure (Ope.cf rfl rfl hou hbp ?_)
   refine Dra.op' rfl rfl rfl .sure (Ope.newL rfl ?_)
   refine Dra.op' rfl rfl rfl .sure (Ope.store rfl rfl hget_hd rfl rfl rfl ?_)
   refine Dra.nil (Run.seq (Run.frz (d:=3) true rfl hget_hd rfl ?_))
   refine Run.region (cx_ok _ _ _) (Reg.op rfl (Ope.fld rfl rfl ?_))
   refine Reg.op rfl (Ope.load rfl rfl ?_)
   refine Reg.op rfl (Ope.gt rfl rfl ?_)
   refine Reg.op rfl (Ope.cf rfl rfl (by rw [decide_eq_true hn'];exact hre) rfl ?_)
   refine Reg.nil (Run.seq (Run.region (cx_ok _ _ _) (Reg.op rfl (Ope.load rfl rfl ?_))))
   refine Reg.op0 (Ope.store rfl rfl rfl rfl rfl rfl ?_)
   exact Reg.nil (Run.ret (fin_ret (.cell rfl rfl .nil) hbo rfl))
  ·refine Dra.op' rfl rfl rfl (.load rfl) (Ope.load rfl rfl ?_)
   refine Dra.op' rfl rfl rfl .sure (Ope.cf rfl rfl (hst) rfl ?_)
   refine Dra.op' rfl rfl rfl .sure (Ope.newL rfl ?_)
   refine Dra.op' rfl rfl rfl .sure (Ope.cf rfl rfl hou hbp ?_)
   refine Dra.op' rfl rfl rfl .sure (Ope.store rfl rfl hget_hd rfl rfl rfl ?_)
   refine Dra.nil (Run.seq (Run.frz (d:=3) true rfl hget_hd rfl ?_))
   refine Run.region (cx_ok _ _ _) (Reg.op rfl (Ope.fld rfl rfl ?_))
   refine Reg.op rfl (Ope.load rfl rfl ?_)
   refine Reg.op rfl (Ope.gt rfl rfl ?_)
   refine Reg.op rfl (Ope.cf rfl rfl (by rw [decide_eq_true hn'];exact hre) rfl ?_)
   refine Reg.nil (Run.seq (Run.region (cx_ok _ _ _) (Reg.op rfl (Ope.load rfl rfl ?_))))
   refine Reg.op0 (Ope.store rfl rfl rfl rfl rfl rfl ?_)
   exact Reg.nil (Run.ret (fin_ret (.cell rfl rfl .nil) hbo rfl))
  ·refine Dra.op' rfl rfl rfl (.load rfl) (Ope.load rfl rfl ?_)
   refine Dra.op' rfl rfl rfl .sure (Ope.newL rfl ?_)
   refine Dra.op' rfl rfl rfl .sure (Ope.cf rfl rfl (hst) rfl ?_)
   refine Dra.op' rfl rfl rfl .sure (Ope.cf rfl rfl hou hbp ?_)
   refine Dra.op' rfl rfl rfl .sure (Ope.store rfl rfl hget_hd rfl rfl rfl ?_)
   refine Dra.nil (Run.seq (Run.frz (d:=3) true rfl hget_hd rfl ?_))
   refine Run.region (cx_ok _ _ _) (Reg.op rfl (Ope.fld rfl rfl ?_))
   refine Reg.op rfl (Ope.load rfl rfl ?_)
   refine Reg.op rfl (Ope.gt rfl rfl ?_)
   refine Reg.op rfl (Ope.cf rfl rfl (by rw [decide_eq_true hn'];exact hre) rfl ?_)
   refine Reg.nil (Run.seq (Run.region (cx_ok _ _ _) (Reg.op rfl (Ope.load rfl rfl ?_))))
   refine Reg.op0 (Ope.store rfl rfl rfl rfl rfl rfl ?_)
   exact Reg.nil (Run.ret (fin_ret (.cell rfl rfl .nil) hbo rfl))
end
end Go.Pv
namespace Go.Pv
open Go.Am Go.RowKit
section
variable {C:Cx} {X:EX} {e:EL} {ds:List Nat} {h:PH} {K:PV→PH→Prop}
variable {d:Option Tmp} {type:TypeId} {pos:String} {after:Array Edge} {guard:Option (Nat×Bool)}
theorem Ope.addU {t t':TypeId} {x y:Operand} {kk:IntKind} {a b:Int} {p q:Nat} (hx:pev (lget e) x=some (.lit (.int kk a))) (hy:pev (lget e) y=some (.lit (.int kk b))) (ha:a=(p:Int)) (hb:b=(q:Int)) (hp:p+q < 2 ^ (kk.bits - 1)) (hK:K (.lit (.int kk ((p+q:Nat):Int))) h) :
  Ope C X { dst:=d,op:=.binOp .add t x y t',type,pos,after,guard } e ds h K:=by
 subst ha hb
 refine Ope.bin hx hy (v:=.lit (.int kk ((p+q:Nat):Int))) ?_ hK
 simp only [abin,aint,decide_true,plit]
 rw [← Int.natCast_add,fwrap_eq,wrap_nat hp]
 rfl
end
end Go.Pv
namespace Go.Pv
open Go.Proofs Go.Am
set_option maxRecDepth 10000
def oc1 (x:Nat):Nat:=((x >>> 1) &&& 6148914691236517205)+(x &&& 6148914691236517205)
def oc2 (x:Nat):Nat:=((oc1 x >>> 2) &&& 3689348814741910323)+(oc1 x &&& 3689348814741910323)
def oc3 (x:Nat):Nat:=((oc2 x >>> 4)+oc2 x) &&& 1085102592571150095
def oc4 (x:Nat):Nat:=oc3 x+oc3 x >>> 8
def oc5 (x:Nat):Nat:=oc4 x+oc4 x >>> 16
def oc6 (x:Nat):Nat:=oc5 x+oc5 x >>> 32
def cn (x:Nat):Nat:=6 - lft 6 x
theorem oc_all:∀ x,x < 64→(oc1 x < 64∧oc2 x < 64∧oc3 x < 64∧oc4 x < 64∧oc5 x < 64∧oc6 x < 64)∧(oc6 x &&& 127)=cn x:=by decide
abbrev U (x:Nat):PV:=.lit (.int .u64 ((x:Nat):Int))
theorem shr_le (x n:Nat):x >>> n≤x:=Nat.shiftRight_le _ _
theorem f107 (x:Nat) (hx:x < 64):Fn P0 107 [U x] (N (cn x)):=by
  obtain ⟨⟨b1,b2,b3,b4,b5,b6⟩,hc⟩:=oc_all x hx
  have e1:((x >>> 1) &&& 6148914691236517205)+(x &&& 6148914691236517205)=oc1 x:=rfl
  have e2:((oc1 x >>> 2) &&& 3689348814741910323)+(oc1 x &&& 3689348814741910323)=oc2 x:=rfl
  have e3:((oc2 x >>> 4)+oc2 x) &&& 1085102592571150095=oc3 x:=rfl
  have e4:oc3 x+oc3 x >>> 8=oc4 x:=rfl
  have e5:oc4 x+oc4 x >>> 16=oc5 x:=rfl
  have e6:oc5 x+oc5 x >>> 32=oc6 x:=rfl
  generalize oc1 x=y1 at *
  generalize oc2 x=y2 at *
  generalize oc3 x=y3 at *
  generalize oc4 x=y4 at *
  generalize oc5 x=y5 at *
  generalize oc6 x=y6 at *
  generalize cn x=z at *
  have l0:=shr_le x 1
  have l1:=shr_le y1 2
  have l2:=shr_le y2 4
  have l3:=shr_le y3 8
  have l4:=shr_le y4 16
  have l5:=shr_le y5 32
  have z64:(64:Nat) < 2 ^ 63:=by decide
  refine PFun.of (C:=c107) (cx_ok _ _ _) rfl (fn:=Try.f107) (by kernel_rfl) (c:=_) rfl rfl rfl ?_
  refine Run.seq (Run.region (cx_ok _ _ _) (Reg.op rfl (Ope.asg rfl ?_)))
  refine Reg.nil (Run.seq (Run.region (cx_ok _ _ _) (Reg.op rfl (Ope.mov rfl ?_))))
  refine Reg.op rfl (Ope.shrN (p:=x) (m:=1) rfl rfl rfl rfl (by decide) ?_)
  refine Reg.op rfl (Ope.andN (p:=x >>> 1) (q:=6148914691236517205) rfl rfl rfl rfl (by show _ < 2 ^ 64;omega) (by decide) ?_)
  refine Reg.op rfl (Ope.mov rfl ?_)
  refine Reg.op rfl (Ope.andN (p:=x) (q:=6148914691236517205) rfl rfl rfl rfl (by show _ < 2 ^ 64;omega) (by decide) ?_)
  refine Reg.op rfl (Ope.addU (p:=(x >>> 1) &&& 6148914691236517205) (q:=x &&& 6148914691236517205) rfl rfl rfl rfl (by show _ < 2 ^ 63;rw [e1];omega) ?_)
  refine Reg.op rfl (Ope.asg rfl ?_)
  refine Reg.nil (Run.seq ?_)
  rw [e1]
  refine Run.region (cx_ok _ _ _) (Reg.op rfl (Ope.mov rfl ?_))
  refine Reg.op rfl (Ope.shrN (p:=y1) (m:=2) rfl rfl rfl rfl (by decide) ?_)
  refine Reg.op rfl (Ope.andN (p:=y1 >>> 2) (q:=3689348814741910323) rfl rfl rfl rfl (by show _ < 2 ^ 64;omega) (by decide) ?_)
  refine Reg.op rfl (Ope.mov rfl ?_)
  refine Reg.op rfl (Ope.andN (p:=y1) (q:=3689348814741910323) rfl rfl rfl rfl (by show _ < 2 ^ 64;omega) (by decide) ?_)
  refine Reg.op rfl (Ope.addU (p:=(y1 >>> 2) &&& 3689348814741910323) (q:=y1 &&& 3689348814741910323) rfl rfl rfl rfl (by show _ < 2 ^ 63;rw [e2];omega) ?_)
  refine Reg.op rfl (Ope.asg rfl ?_)
  refine Reg.nil (Run.seq ?_)
  rw [e2]
  refine Run.region (cx_ok _ _ _) (Reg.op rfl (Ope.mov rfl ?_))
  refine Reg.op rfl (Ope.shrN (p:=y2) (m:=4) rfl rfl rfl rfl (by decide) ?_)
  refine Reg.op rfl (Ope.mov rfl ?_)
  refine Reg.op rfl (Ope.addU (p:=y2 >>> 4) (q:=y2) rfl rfl rfl rfl (by show _ < 2 ^ 63;omega) ?_)
  refine Reg.op rfl (Ope.andN (p:=y2 >>> 4+y2) (q:=1085102592571150095) rfl rfl rfl rfl (by show _ < 2 ^ 64;omega) (by decide) ?_)
  refine Reg.op rfl (Ope.asg rfl ?_)
  refine Reg.nil (Run.seq ?_)
  rw [e3]
  refine Run.region (cx_ok _ _ _) (Reg.op rfl (Ope.mov rfl ?_))
  refine Reg.op rfl (Ope.mov rfl ?_)
  refine Reg.op rfl (Ope.shrN (p:=y3) (m:=8) rfl rfl rfl rfl (by decide) ?_)
  refine Reg.op rfl (Ope.addU (p:=y3) (q:=y3 >>> 8) rfl rfl rfl rfl (by show _ < 2 ^ 63;omega) ?_)
  refine Reg.op rfl (Ope.asg rfl ?_)
  refine Reg.nil (Run.seq ?_)
  rw [e4]
  refine Run.region (cx_ok _ _ _) (Reg.op rfl (Ope.mov rfl ?_))
  refine Reg.op rfl (Ope.mov rfl ?_)
  refine Reg.op rfl (Ope.shrN (p:=y4) (m:=16) rfl rfl rfl rfl (by decide) ?_)
  refine Reg.op rfl (Ope.addU (p:=y4) (q:=y4 >>> 16) rfl rfl rfl rfl (by show _ < 2 ^ 63;omega) ?_)
  refine Reg.op rfl (Ope.asg rfl ?_)
  refine Reg.nil (Run.seq ?_)
  rw [e5]
  refine Run.region (cx_ok _ _ _) (Reg.op rfl (Ope.mov rfl ?_))
  refine Reg.op rfl (Ope.mov rfl ?_)
  refine Reg.op rfl (Ope.shrN (p:=y5) (m:=32) rfl rfl rfl rfl (by decide) ?_)
  refine Reg.op rfl (Ope.addU (p:=y5) (q:=y5 >>> 32) rfl rfl rfl rfl (by show _ < 2 ^ 63;omega) ?_)
  refine Reg.op rfl (Ope.asg rfl ?_)
  refine Reg.nil (Run.seq ?_)
  rw [e6]
  refine Run.region (cx_ok _ _ _) (Reg.op rfl (Ope.mov rfl ?_))
  refine Reg.op rfl (Ope.conv (b:=((y6:Nat):Int)) rfl (wrap_in _ (by omega) (by omega)) ?_)
  refine Reg.op rfl (Ope.andN (p:=y6) (q:=127) rfl rfl rfl rfl (by show _ < 2 ^ 64;omega) (by decide) ?_)
  refine Reg.op rfl (Ope.asg rfl ?_)
  refine Reg.nil (Run.ret (fin_ret (.tmp rfl .nil) rfl ?_))
  (show PV.lit _=PV.lit _;rw [hc])
theorem f92 (x:Nat) (hx:x < 64):Fn P0 92 [U x] (N (cn x)):=by
  have h:=f107 x hx
  refine PFun.of (C:=c92) (cx_ok _ _ _) rfl (fn:=Try.f92) (by kernel_rfl) (c:=_) rfl rfl rfl ?_
  refine Run.seq (Run.region (cx_ok _ _ _) (Reg.op rfl (Ope.asg rfl ?_)))
  refine Reg.nil (Run.seq (Run.condF rfl (Run.skip (Run.seq (Run.region (cx_ok _ _ _) (Reg.op rfl (Ope.mov rfl ?_)))))))
  refine Reg.op rfl (Ope.cf rfl rfl (h) rfl ?_)
  refine Reg.op rfl (Ope.asg rfl ?_)
  exact Reg.nil (Run.ret (fin_ret (.tmp rfl .nil) rfl rfl))
theorem f91 (x:Nat) (hx:x < 64):Fn P0 91 [N x] (N (cn x)):=by
  have h:=f92 x hx
  refine PFun.of (C:=c91) (cx_ok _ _ _) rfl (fn:=Try.f91) (by kernel_rfl) (c:=_) rfl rfl rfl ?_
  refine Run.seq (Run.region (cx_ok _ _ _) (Reg.op rfl (Ope.asg rfl ?_)))
  refine Reg.nil (Run.seq (Run.region (cx_ok _ _ _) (Reg.op rfl (Ope.mov rfl ?_))))
  refine Reg.op rfl (Ope.conv (b:=((x:Nat):Int)) rfl (wrap_nat (by show x < 2 ^ 63;omega)) ?_)
  refine Reg.op rfl (Ope.cf rfl rfl (h) rfl ?_)
  refine Reg.op rfl (Ope.asg rfl ?_)
  exact Reg.nil (Run.ret (fin_ret (.tmp rfl .nil) rfl rfl))
end Go.Pv
namespace Go.Pv
open Go.Proofs Go.Am
set_option maxRecDepth 10000
theorem hs_roundG {z m:Nat} {a b c d:Option PBlk} {rest:HL} (hm5:m≠z) (h5:hget rest z=none) (hm:hget rest m=none):∀ i x,hget ((z,d)::rest) i=some x→hget ((m,none)::(z,d)::(m,a)::(m,b)::(z,c)::rest) i=some x:=by
  intro i x h
  by_cases h1:i=m
  · subst h1
    rw [hget_tl hm5,hm] at h
    cases h
  · rw [hget_tl h1]
    by_cases h2:i=z
    · subst h2
      rw [hget_hd] at h ⊢
      exact h
    · rw [hget_tl h2] at h ⊢
      rw [hget_tl h1,hget_tl h1,hget_tl h2]
      exact h
theorem f90 (tl:Tail) (htl:tl.isOwn=false) (a:Nat) (L:List Nat) (hl:L.length≤1000) (ha:∀ x∈a::L,x < 64):Fn P0 90 [.sl tl ((a::L).map N),.agg [.fn (.func 91) [] []]] (N (leastBy (fun x=>(cn x:Int)) a L)):=by
  have hw:=fun x hx=>f91 x hx
  have hmem:∀ i,i≤L.length→leastBy (fun x=>(cn x:Int)) a (L.take i) < 64:=fun i hi=>by
    have h:=leastBy_mem (fun x=>(cn x:Int)) (L.take i) a
    refine ha _ ?_
    rcases List.mem_cons.1 h with h | h
    · rw [h];exact List.mem_cons_self ..
    · exact List.mem_cons_of_mem _ (List.mem_of_mem_take h)
  refine PFun.of (C:=c90) (cx_ok _ _ _) rfl (fn:=Try.f90) (by kernel_rfl) (c:=_) rfl rfl rfl ?_
  refine Run.seq (Run.region (cx_ok _ _ _) (Reg.op rfl (Ope.boxF rfl rfl ?_)))
  refine Reg.op rfl (Ope.asg rfl ?_)
  refine Reg.nil (Run.seq (Run.region (cx_ok _ _ _) (Reg.op rfl (Ope.mov rfl ?_))))
  refine Reg.op rfl (Ope.idxM (m:=0) (f:=N) rfl rfl rfl (by simp) (fun _=>rfl) ?_)
  refine Reg.op rfl (Ope.load rfl rfl ?_)
  refine Reg.op rfl (Ope.asg rfl ?_)
  refine Reg.nil (Run.seq (Run.seq (Run.region (cx_ok _ _ _) (Reg.op rfl (Ope.mov rfl ?_)))))
  refine Reg.op rfl (Ope.slD (m:=1) rfl rfl rfl (by simp) (by intro v hv;obtain ⟨_,_,rfl⟩:=List.mem_map.1 hv;rfl) ?_)
  refine Reg.op rfl (Ope.len (m:=L.length) rfl (by simp) ?_)
  refine Reg.op rfl (Ope.mov rfl ?_)
  refine Reg.nil (Run.block (Run.loop (α:=Nat) (fun t=>[(3,.fp (.agg [.fn (.func 91) [] []])),(5,N (leastBy (fun x=>(cn x:Int)) a (L.take t))),(12,.sl (stail tl ((a::L).map N).length ((a::L).map N).length) (L.map N)),(13,I L.length),(14,I t)]) (fun t=>HE 0 []) (fun t=>t≤L.length) (fun t=>L.length - t) 0 ⟨rfl,rfl,rfl,rfl,rfl,trivial⟩ rfl (Nat.zero_le _) (fun i hi=>?_)))
  refine Run.seq (Run.region (cx_ok _ _ _) (Reg.op rfl (Ope.lt rfl rfl ?_)))
  refine Reg.nil (Run.seq (Run.condX rfl (fun hc=>?_) fun hc=>?_))
  ·refine Run.skip (Run.seq (Run.block (Run.seq ?_)))
   have hlt:i < L.length:=by omega
   have es:leastBy (fun x=>(cn x:Int)) a (L.take (i+1))=if (cn L[i]:Int) < (cn (leastBy (fun x=>(cn x:Int)) a (L.take i)):Int) then L[i] else leastBy (fun x=>(cn x:Int)) a (L.take i):=by rw [List.take_succ_eq_append_getElem hlt,leastBy_snoc]
   have h64:=hmem i hi
   have hL64:L[i] < 64:=ha _ (List.mem_cons_of_mem _ (List.getElem_mem hlt))
   generalize leastBy (fun x=>(cn x:Int)) a (L.take i)=b at *
   refine Run.region (cx_ok _ _ _) (Reg.op rfl (Ope.idxM (m:=i) (f:=N) rfl rfl rfl hlt (fun _=>rfl) ?_))
   refine Reg.op rfl (Ope.load rfl rfl ?_)
   refine Reg.op rfl (Ope.asg rfl ?_)
   refine Reg.nil (Run.seq (Run.draw (cx_ok _ _ _) [(0,true),(1,true),(2,true),(4,true),(5,false),(6,true),(3,true),(7,true),(8,true)] (by kernel_rfl) (Dra.op' rfl rfl rfl .sure (Ope.fld rfl rfl ?_))))
   refine Dra.op' rfl rfl rfl .sure (Ope.load rfl rfl ?_)
   refine Dra.op' rfl rfl rfl .sure (Ope.mov rfl ?_)
   refine Dra.op' rfl rfl rfl .sure (Ope.fld rfl rfl ?_)
   refine Dra.op' rfl rfl rfl (.load rfl) (Ope.load rfl rfl ?_)
   refine Dra.op' rfl rfl rfl .sure (Ope.mov rfl ?_)
   refine Dra.op' rfl rfl rfl .sure (Ope.cf rfl rfl (hw L[i] hL64) rfl ?_)
   refine Dra.op' rfl rfl rfl .sure (Ope.cf rfl rfl (hw b h64) rfl ?_)
   refine Dra.op' rfl rfl rfl .sure (Ope.lt rfl rfl ?_)
   refine Dra.nil (Run.condX rfl (fun hc=>?_) fun hc=>?_)
   ·refine Run.region (cx_ok _ _ _) (Reg.op rfl (Ope.mov rfl ?_))
    refine Reg.op rfl (Ope.asg rfl ?_)
    refine Reg.nil (Run.bend (Run.region (cx_ok _ _ _) (Reg.op rfl (Ope.add rfl rfl (by omega) ?_))))
    refine Reg.op rfl (Ope.mov rfl ?_)
    refine Reg.nil ?_
    first
    | exact Run.lend ⟨i+1,by omega,by show i+1≤L.length;omega,⟨rfl,by rw [es,if_pos (by assumption)];rfl,rfl,rfl,rfl,trivial⟩,rfl,rfl⟩
    | exact Run.lend ⟨i+1,by omega,by show i+1≤L.length;omega,⟨rfl,by rw [es,if_neg (by assumption)];rfl,rfl,rfl,rfl,trivial⟩,rfl,rfl⟩
   ·refine Run.skip (Run.bend (Run.region (cx_ok _ _ _) (Reg.op rfl (Ope.add rfl rfl (by omega) ?_))))
    refine Reg.op rfl (Ope.mov rfl ?_)
    refine Reg.nil ?_
    first
    | exact Run.lend ⟨i+1,by omega,by show i+1≤L.length;omega,⟨rfl,by rw [es,if_pos (by assumption)];rfl,rfl,rfl,rfl,trivial⟩,rfl,rfl⟩
    | exact Run.lend ⟨i+1,by omega,by show i+1≤L.length;omega,⟨rfl,by rw [es,if_neg (by assumption)];rfl,rfl,rfl,rfl,trivial⟩,rfl,rfl⟩
  ·refine Run.exit (Jmp.code (Jmp.round (Jmp.here (Run.seq ?_))))
   obtain rfl:i=L.length:=by omega
   rw [List.take_length]
   refine Run.region (cx_ok _ _ _) (Reg.op rfl (Ope.mov rfl ?_))
   refine Reg.op rfl (Ope.asg rfl ?_)
   exact Reg.nil (Run.ret (fin_ret (.tmp rfl .nil) rfl rfl))
def Shp.lo (s:Shp) (x:Nat):Bool:=decide (0 < (s.out (lft s.jo.length x) ⟨x,-1,0,0⟩).n)
def Shp.loL (s:Shp) (q:Nat):List Nat:=(List.range q).filter s.lo
theorem loL_succ (s:Shp) (q:Nat):s.loL (q+1)=s.loL q++if s.lo q=true then [q] else []:=by
  simp only [Shp.loL,List.range_succ,List.filter_append,List.filter_cons,List.filter_nil]
theorem loL_len (s:Shp) (q:Nat):(s.loL q).length≤q:=Nat.le_trans (List.length_filter_le _ _) (by simp)
theorem loL_mem {s:Shp} {q x:Nat} (h:x∈s.loL q):x < q:=List.mem_range.1 (List.mem_filter.1 h).1
def Shp.drp (s:Shp):Nat:=match s.loL (2 ^ s.jo.length) with
  | []=>0
  | a::L=>leastBy (fun x=>(cn x:Int)) a L
def Shp.fst1 (s:Shp) (a i:Nat):Nat:=if 0 < (s.out (s.jo.length - 1) (s.aft (s.wrk Shp.p0 i))).n then a ||| 1 * 2 ^ i else a
def Shp.fstQ (s:Shp) (q:Nat):Nat:=((s.nxt Shp.p0).take q).foldl s.fst1 0
def Shp.fst (s:Shp):Nat:=(s.nxt Shp.p0).foldl s.fst1 0
theorem fstQ_succ {s:Shp} {q i:Nat} (h:(s.nxt Shp.p0)[q]?=some i):s.fstQ (q+1)=s.fst1 (s.fstQ q) i:=by
  obtain ⟨hlt,hx⟩:=List.getElem?_eq_some_iff.1 h
  simp only [Shp.fstQ,List.take_succ_eq_append_getElem hlt,hx,List.foldl_append,List.foldl_cons,List.foldl_nil]
theorem fst1_lt {s:Shp} {a i:Nat} (hi:i < 6) (ha:a < 64):s.fst1 a i < 64:=by
  unfold Shp.fst1
  split
  · exact Nat.or_lt_two_pow (n:=6) ha (by rw [Nat.one_mul];exact Nat.pow_lt_pow_right (by decide) hi)
  · exact ha
section
variable (s:Shp) {t1 t2:Tail} (h1:t1.isOwn=false) (h2:t2.isOwn=false)
include h1 h2
theorem f67 {H:Int} (hs:s.ok H):Fn P0 67 [s.v t1 t2] (N s.drp):=by
  have hall:=f89 s t1 t2 hs.jo
  have hbs:PV.bds 0 [s.v t1 t2]=true:=bd_shpV s h1 h2 rfl
  have hbp:∀ p:Pst,PV.bds 0 [s.v t1 t2,p.v]=true:=fun p=>bd_shpV s h1 h2 rfl
  have hou:=fun x hx=>f83x s h1 h2 hs x hx
  have h64:2 ^ s.jo.length≤64:=Nat.pow_le_pow_right (n:=2) (by decide) hs.jo
  have hpos:0 < 2 ^ s.jo.length:=Nat.two_pow_pos _
  have hsucc:=loL_succ s
  have hlen:=loL_len s
  have hlo:∀ x,s.lo x=decide (0 < (s.out (lft s.jo.length x) ⟨x,-1,0,0⟩).n):=fun x=>rfl
  have hmem:∀ q x,x∈s.loL q→x < q:=fun q x h=>loL_mem h
  have hlast:s.lo (allN s.jo.length)=true:=by
    rw [hlo]
    have:lft s.jo.length (allN s.jo.length)=0:=(lft_all (by unfold allN;omega)).2 rfl
    rw [this]
    rfl
  have hcons:∃ a L,s.loL (2 ^ s.jo.length)=a::L∧s.drp=leastBy (fun x=>(cn x:Int)) a L:=by
    unfold Shp.drp
    cases hq:s.loL (2 ^ s.jo.length) with
    | nil =>
      have:allN s.jo.length∈s.loL (2 ^ s.jo.length):=List.mem_filter.2 ⟨List.mem_range.2 (by unfold allN;omega),hlast⟩
      rw [hq] at this
      cases this
    | cons a L=>exact ⟨a,L,rfl,rfl⟩
  have hal:allN s.jo.length+1=2 ^ s.jo.length:=by unfold allN;omega
  generalize s.loL=LO at *
  generalize s.lo=lo at *
  generalize allN s.jo.length=A at *
  generalize 2 ^ s.jo.length=M at *
  refine PFun.of (C:=c67) (cx_ok _ _ _) rfl (fn:=Try.f67) (by kernel_rfl) (c:=_) rfl rfl rfl ?_
  refine Run.seq (Run.region (cx_ok _ _ _) (Reg.op rfl (Ope.boxF rfl rfl ?_)))
  refine Reg.op rfl (Ope.asg rfl ?_)
  refine Reg.nil (Run.seq (Run.region (cx_ok _ _ _) (Reg.op rfl (Ope.asg rfl ?_))))
  refine Reg.nil (Run.seq (Run.seq (Run.region (cx_ok _ _ _) (Reg.op rfl (Ope.load rfl rfl ?_)))))
  refine Reg.op rfl (Ope.cf rfl rfl hall hbs ?_)
  refine Reg.op rfl (Ope.add rfl rfl (by omega) ?_)
  refine Reg.op rfl (Ope.mov rfl ?_)
  refine Reg.nil (Run.block ?_)
  have hL0:LO 0=[]:=List.eq_nil_of_length_eq_zero (by have:=hlen 0;omega)
  refine Run.loop (α:=Nat×Option Nat×Nat) (fun t=>[(1,.fp (s.v t1 t2)),(3,.sl (tlU t.2.1) ((LO t.1).map N)),(7,I M),(8,I t.1)]) (fun t=>HE t.2.2 (ownU t.2.1++[])) (fun t=>t.1≤M∧(∀ j,t.2.1=some j→j < t.2.2∧LO t.1≠[])) (fun t=>M - t.1) (0,none,0) ⟨rfl,by rw [hL0];rfl,(by rw [← hal];rfl),rfl,trivial⟩ rfl ⟨Nat.zero_le _,(fun j hj=>by cases hj)⟩ (fun t ht=>?_)
  obtain ⟨i,o',m⟩:=t
  obtain ⟨hi,hO⟩:=ht
  simp only at hi hO
  show Run _ _ _ _ [(1,.fp (s.v t1 t2)),(3,.sl (tlU o') ((LO i).map N)),(7,I M),(8,I i)] [] (HE m (ownU o'++[]))
  refine Run.seq (Run.region (cx_ok _ _ _) (Reg.op rfl (Ope.lt rfl rfl ?_)))
  refine Reg.nil (Run.seq (Run.condX rfl (fun hc=>?_) fun hc=>?_))
  ·refine Run.skip (Run.seq (Run.block (Run.seq ?_)))
   have hlt:i < M:=by omega
   have hst:=f84 i
   have hoi:=hou i hlt
   have hs1:=hsucc i
   have hl1:=hlen i
   have hli:=hlo i
   generalize s.out (lft s.jo.length i) ⟨i,-1,0,0⟩=oi at *
   refine Run.region (cx_ok _ _ _) (Reg.op rfl (Ope.mov rfl ?_))
   refine Reg.op rfl (Ope.asg rfl ?_)
   refine Reg.nil (Run.seq (Run.draw (cx_ok _ _ _) [(0,false),(1,true),(2,true),(3,true),(4,true),(5,true)] (by kernel_rfl) (Dra.op' rfl rfl rfl (.load rfl) (Ope.load rfl rfl ?_))))
   refine Dra.op' rfl rfl rfl .sure (Ope.mov rfl ?_)
   refine Dra.op' rfl rfl rfl .sure (Ope.cf rfl rfl hst rfl ?_)
   refine Dra.op' rfl rfl rfl .sure (Ope.cf rfl rfl hoi (hbp _) ?_)
   refine Dra.op' rfl rfl rfl .sure (Ope.field rfl rfl ?_)
   refine Dra.op' rfl rfl rfl .sure (Ope.gt rfl rfl ?_)
   refine Dra.nil (Run.condX rfl (fun hc=>?_) fun hc=>?_)
   ·refine Run.region (cx_ok _ _ _) (Reg.op rfl (Ope.mov rfl ?_))
    refine Reg.op rfl (Ope.mov rfl ?_)
    refine Reg.op rfl (Ope.bsl rfl rfl rfl rfl ?_)
    refine Reg.op rfl (Ope.apU (o':=o') (vs:=(LO i).map N) (ws:=[N i]) rfl rfl (by simp) (fun j hj=>⟨by have:=(hO j hj).2;simpa using this,rfl⟩) (by simp only [List.length_map,List.length_singleton];omega) (by simp only [List.length_map,List.length_singleton];omega) (by decide) (by intro v hv;obtain ⟨_,_,rfl⟩:=List.mem_map.1 hv;rfl) (by intro v hv;simp only [List.mem_singleton] at hv;subst hv;exact ⟨rfl,rfl⟩) ?_)
    refine Reg.op rfl (Ope.asg rfl ?_)
    refine Reg.nil (Run.bend (Run.region (cx_ok _ _ _) (Reg.op rfl (Ope.add rfl rfl (by omega) ?_))))
    refine Reg.op rfl (Ope.mov rfl ?_)
    refine Reg.nil ?_
    first
    | exact Run.lend ⟨(i+1,some m,m+1),by show M - (i+1) < M - i;omega,⟨by show i+1≤M;omega,fun j hj=>by cases hj;exact ⟨Nat.lt_succ_self _,by rw [hs1,if_pos (by rw [hli,decide_eq_true_eq];omega)];simp⟩⟩,⟨rfl,congrArg (fun l=>some (PV.sl (.own m) l)) (by rw [hs1,if_pos (by rw [hli,decide_eq_true_eq];omega),List.map_append];rfl),rfl,rfl,trivial⟩,rfl,rfl⟩
    | exact Run.lend ⟨(i+1,o',m),by show M - (i+1) < M - i;omega,⟨by show i+1≤M;omega,fun j hj=>by have:=hO j hj;exact ⟨this.1,by rw [hs1,if_neg (by rw [hli,decide_eq_true_eq];omega),List.append_nil];exact this.2⟩⟩,⟨rfl,congrArg (fun l=>some (PV.sl (tlU o') l)) (by rw [hs1,if_neg (by rw [hli,decide_eq_true_eq];omega),List.append_nil]),rfl,rfl,trivial⟩,rfl,rfl⟩
   ·refine Run.skip (Run.bend (Run.region (cx_ok _ _ _) (Reg.op rfl (Ope.add rfl rfl (by omega) ?_))))
    refine Reg.op rfl (Ope.mov rfl ?_)
    refine Reg.nil ?_
    first
    | exact Run.lend ⟨(i+1,some m,m+1),by show M - (i+1) < M - i;omega,⟨by show i+1≤M;omega,fun j hj=>by cases hj;exact ⟨Nat.lt_succ_self _,by rw [hs1,if_pos (by rw [hli,decide_eq_true_eq];omega)];simp⟩⟩,⟨rfl,congrArg (fun l=>some (PV.sl (.own m) l)) (by rw [hs1,if_pos (by rw [hli,decide_eq_true_eq];omega),List.map_append];rfl),rfl,rfl,trivial⟩,rfl,rfl⟩
    | exact Run.lend ⟨(i+1,o',m),by show M - (i+1) < M - i;omega,⟨by show i+1≤M;omega,fun j hj=>by have:=hO j hj;exact ⟨this.1,by rw [hs1,if_neg (by rw [hli,decide_eq_true_eq];omega),List.append_nil];exact this.2⟩⟩,⟨rfl,congrArg (fun l=>some (PV.sl (tlU o') l)) (by rw [hs1,if_neg (by rw [hli,decide_eq_true_eq];omega),List.append_nil]),rfl,rfl,trivial⟩,rfl,rfl⟩
  ·refine Run.exit (Jmp.code (Jmp.round (Jmp.here (Run.seq ?_))))
   obtain rfl:i=M:=by omega
   refine Run.weakT (d:=3) rfl ?_
   obtain ⟨a,L,hq,hd⟩:=hcons
   rw [hq,hd]
   have hle:=f90 .no rfl a L (by have:=hlen i;rw [hq] at this;simp only [List.length_cons] at this;omega) (fun x hx=>by have:=hmem i x (by rw [hq];exact hx);omega)
   refine Run.region (cx_ok _ _ _) (Reg.op rfl (Ope.mov rfl ?_))
   refine Reg.op rfl (Ope.bld rfl rfl ?_)
   refine Reg.op rfl (Ope.cf rfl rfl hle (bds_cons (bd_sl (f:=N) (tl:=.no) rfl (fun _=>rfl) _) rfl) ?_)
   refine Reg.op rfl (Ope.asg rfl ?_)
   exact Reg.nil (Run.ret (fin_ret (.tmp rfl .nil) rfl rfl))
theorem f59 {H:Int} (hs:s.ok H):Fn P0 59 [s.v t1 t2] (N s.fst):=by
  have hbs:∀ p:Pst,PV.bds 0 [s.v t1 t2,p.v]=true:=fun p=>bd_shpV s h1 h2 rfl
  have hbw:∀ w:Wrk,PV.bds 0 [s.v t1 t2,w.v]=true:=fun w=>bd_shpV s h1 h2 rfl
  have hst:=f84 0
  have hnx:=f86 s h1 h2 Shp.p0
  have hg0:=good0 s h1 h2 hs 0 (Nat.two_pow_pos _)
  rw [lft_0] at hg0
  have hny:=f105 s h1 h2 hs Shp.p0 hg0.b (by have:=hs.jo;omega) (by omega) (by show 0 < 64;decide)
  have hn6:=hs.jo
  have hsucc:=fun {q i:Nat} h=>fstQ_succ (s:=s) (q:=q) (i:=i) h
  refine PFun.of (C:=c59) (cx_ok _ _ _) rfl (fn:=Try.f59) (by kernel_rfl) (c:=_) rfl rfl rfl ?_
  refine Run.seq (Run.region (cx_ok _ _ _) (Reg.op rfl (Ope.boxF rfl rfl ?_)))
  refine Reg.op rfl (Ope.asg rfl ?_)
  refine Reg.nil (Run.seq (Run.region (cx_ok _ _ _) (Reg.op rfl (Ope.newL rfl ?_))))
  refine Reg.op0 (Ope.store rfl rfl rfl rfl rfl rfl ?_)
  refine Reg.nil (Run.seq (Run.seq (Run.draw (cx_ok _ _ _) [(0,false),(1,true),(2,true)] (by kernel_rfl) (Dra.op' rfl rfl rfl (.load rfl) (Ope.load rfl rfl ?_)))))
  refine Dra.op' rfl rfl rfl .sure (Ope.cf rfl rfl hst rfl ?_)
  refine Dra.op' rfl rfl rfl .sure (Ope.cf rfl rfl hnx (hbs _) ?_)
  refine Dra.nil (Run.block (Run.rangeF (cx_ok _ _ _) rfl (α:=Nat) (fun t=>[(0,some (.cells [N t]))]) (fun _=>3) (fun q t=>t=s.fstQ q∧t < 64) rfl hny rfl rfl ⟨Try.f59,by kernel_rfl⟩ 0 ⟨rfl,by decide⟩ (Hsub.cons rfl Hsub.nil) (by intro t p hp;simp at hp;rcases hp with rfl;simp) (by intro p hp;simp at hp;rcases hp with rfl;simp) (by simp) (fun q t v hv hI m hm1 hm2 lb=>?_) (fun t hI m hm1 hm2=>?_)))
  ·obtain ⟨hI1,hI2⟩:=hI
   obtain ⟨μ,rfl⟩:∃ μ,m=μ+3:=⟨m - 3,by omega⟩
   obtain ⟨x,hx,rfl⟩:∃ x,(s.nxt Shp.p0)[q]?=some x∧v=(s.wrk Shp.p0 x).v:=by
     rw [List.getElem?_map] at hv
     cases hq:(s.nxt Shp.p0)[q]? with
     | none=>rw [hq] at hv;cases hv
     | some x=>rw [hq] at hv;cases hv;exact ⟨x,rfl,rfl⟩
   obtain ⟨hxn,hbx⟩:=nxt_J (List.mem_of_getElem? hx)
   have hsq:=hsucc hx
   rw [← hI1] at hsq
   obtain ⟨k,hk⟩:∃ k,s.jo.length=k+1:=⟨s.jo.length - 1,by omega⟩
   have hgk:Shp.p0.good s.jo.length (k+1):=by rw [← hk];exact hg0
   obtain ⟨g1,g2⟩:=good_next hs hgk (by omega) hxn hbx
   have haf:=f87 s h1 h2 (s.wrk Shp.p0 x) (by show 0 < 64;decide) hxn hn6
   have hou:=f83 s h1 h2 hs k _ (by omega) g1
   have hf1:s.fst1 t x=if 0 < (s.out k (s.aft (s.wrk Shp.p0 x))).n then t ||| 1 * 2 ^ x else t:=by
     unfold Shp.fst1
     rw [hk,Nat.add_sub_cancel]
   have hlt1:=fst1_lt (s:=s) (i:=x) (by omega) hI2
   have hwj:(s.wrk Shp.p0 x).j=x:=rfl
   have hpow:1 * 2 ^ x < 64:=by rw [Nat.one_mul];exact Nat.pow_lt_pow_right (n:=6) (by decide) (by omega)
   generalize s.out k (s.aft (s.wrk Shp.p0 x))=o1 at *
   generalize s.wrk Shp.p0 x=w at *
   subst hwj
   show Run _ _ _ _ _ [] (HE (μ+3) ((2,some lb)::(1,some .dfr)::[(0,some (.cells [N t]))]))
   refine Run.region (Cx.Ok.rnd (cx_ok _ _ _)) (Reg.op rfl (Ope.newL rfl ?_))
   refine Reg.op0 (Ope.store rfl rfl hget_hd rfl rfl rfl ?_)
   refine Reg.nil (Run.done ⟨rfl,rfl,_,_,rfl,(hget_tl (by omega)).trans ((hget_tl (by omega)).trans hget_hd),fun lb2=>?_⟩)
   refine Run.block (Run.seq (Run.frz (d:=4) true rfl ((hget_tl (by omega)).trans hget_hd) rfl ?_))
   refine Run.wideS (m:=μ+4) (Nat.le_refl _) (hs_roundG (z:=2) (by omega) (by rfl) (by repeat (first | rfl | refine (hget_tl (by omega)).trans ?_))) ?_
   refine Run.draw (Cx.Ok.rnd (cx_ok _ _ _)) [(0,false),(1,true),(2,true),(3,true),(4,true),(5,true),(6,true)] (by kernel_rfl) (Dra.op' rfl rfl rfl (.load rfl) (Ope.load rfl rfl ?_))
   refine Dra.op' rfl rfl rfl .sure (Ope.load rfl rfl ?_)
   refine Dra.op' rfl rfl rfl .sure (Ope.load rfl rfl ?_)
   refine Dra.op' rfl rfl rfl .sure (Ope.cf rfl rfl haf (hbw _) ?_)
   refine Dra.op' rfl rfl rfl .sure (Ope.cf rfl rfl hou (hbs _) ?_)
   refine Dra.op' rfl rfl rfl .sure (Ope.field rfl rfl ?_)
   refine Dra.op' rfl rfl rfl .sure (Ope.gt rfl rfl ?_)
   refine Dra.nil (Run.condX rfl (fun hc=>?_) fun hc=>?_)
   ·refine Run.draw (Cx.Ok.rnd (cx_ok _ _ _)) [(0,true),(1,true),(2,true),(3,true),(4,true),(5,true)] (by kernel_rfl) (Dra.op' rfl rfl rfl .sure (Ope.load rfl rfl ?_))
    refine Dra.op' rfl rfl rfl .sure (Ope.fld rfl rfl ?_)
    refine Dra.op' rfl rfl rfl .sure (Ope.load rfl rfl ?_)
    refine Dra.op' rfl rfl rfl .sure (Ope.shlN (p:=1) (m:=w.j) rfl rfl rfl rfl (by omega) (by omega) ?_)
    refine Dra.op' rfl rfl rfl .sure (Ope.orN (p:=t) (q:=1 * 2 ^ w.j) rfl rfl rfl rfl (by show _ < 2 ^ 63;omega) (by show _ < 2 ^ 63;omega) ?_)
    refine Dra.op' rfl rfl rfl .sure (Ope.store rfl rfl rfl rfl rfl rfl ?_)
    refine Dra.nil (Run.bend ?_)
    first
      | exact Run.done ⟨rfl,_,_,rfl,by omega,rfl,t ||| 1 * 2 ^ w.j,by show 3≤_;omega,Hsub.cons rfl (Hsub.cons rfl Hsub.nil),by rw [hsq,hf1,if_pos (by omega)],by rw [hf1,if_pos (by omega)] at hlt1;exact hlt1⟩
      | exact Run.done ⟨rfl,_,_,rfl,by omega,rfl,t,by show 3≤_;omega,Hsub.cons rfl (Hsub.cons rfl Hsub.nil),by rw [hsq,hf1,if_neg (by omega)],hI2⟩
   ·refine Run.skip (Run.bend ?_)
    first
      | exact Run.done ⟨rfl,_,_,rfl,by omega,rfl,t ||| 1 * 2 ^ w.j,by show 3≤_;omega,Hsub.cons rfl (Hsub.cons rfl Hsub.nil),by rw [hsq,hf1,if_pos (by omega)],by rw [hf1,if_pos (by omega)] at hlt1;exact hlt1⟩
      | exact Run.done ⟨rfl,_,_,rfl,by omega,rfl,t,by show 3≤_;omega,Hsub.cons rfl (Hsub.cons rfl Hsub.nil),by rw [hsq,hf1,if_neg (by omega)],hI2⟩
  ·obtain ⟨hI1,hI2⟩:=hI
   rw [List.length_map] at hI1
   have hfst:s.fst=t:=by rw [hI1,Shp.fst,Shp.fstQ,List.take_length]
   rw [hfst]
   refine Run.bend (Run.seq (Run.region (cx_ok _ _ _) (Reg.op rfl (Ope.load rfl rfl ?_))))
   refine Reg.op rfl (Ope.asg rfl ?_)
   exact Reg.nil (Run.ret (fin_retD rfl (.tmp rfl .nil) rfl rfl))
end
end Go.Pv
namespace Go.Pv
open Go.Proofs Go.Am
set_option maxRecDepth 10000
section
variable (s:Shp) {t1 t2:Tail} (h1:t1.isOwn=false) (h2:t2.isOwn=false)
include h1 h2
theorem f20ok (hv:s.val=true) (hs:s.ok 30):Fn P0 20 [s.v t1 t2] (.tup [N s.all.n,I 0]):=by
  have hbs:PV.bds 0 [s.v t1 t2]=true:=bd_shpV s h1 h2 rfl
  have hb:PV.bds 0 [s.v t1 t2,.fn (.func 57) [] []]=true:=bd_shpV s h1 h2 rfl
  have hS:=hs.su
  have hJ:=hs.jo
  have hf:=f56ok s h1 h2 (by omega) (by omega) 57 [] _ hv hbs rfl (f57 s h1 h2 hs)
  refine PFun.of (C:=c20) (cx_ok _ _ _) rfl (fn:=Try.f20) (by kernel_rfl) (c:=_) rfl rfl rfl ?_
  refine Run.seq (Run.region (cx_ok _ _ _) (Reg.op rfl (Ope.boxF rfl rfl ?_)))
  refine Reg.op rfl (Ope.asg rfl ?_)
  refine Reg.op rfl (Ope.asg rfl ?_)
  refine Reg.nil (Run.seq (Run.region (cx_ok _ _ _) (Reg.op rfl (Ope.load rfl rfl ?_))))
  refine Reg.op rfl (Ope.cf rfl rfl hf hb ?_)
  refine Reg.op rfl (Ope.ext rfl rfl ?_)
  refine Reg.op rfl (Ope.ext rfl rfl ?_)
  refine Reg.op rfl (Ope.asg rfl ?_)
  refine Reg.op rfl (Ope.asg rfl ?_)
  exact Reg.nil (Run.ret (fin_ret (.tmp rfl (.tmp rfl .nil)) rfl rfl))
theorem f22ok (hv:s.val=true) (hs:s.ok 30):Fn P0 22 [s.v t1 t2] (.tup [N s.fst,I 0]):=by
  have hbs:PV.bds 0 [s.v t1 t2]=true:=bd_shpV s h1 h2 rfl
  have hb:PV.bds 0 [s.v t1 t2,.fn (.func 59) [] []]=true:=bd_shpV s h1 h2 rfl
  have hS:=hs.su
  have hJ:=hs.jo
  have hf:=f56ok s h1 h2 (by omega) (by omega) 59 [] _ hv hbs rfl (f59 s h1 h2 hs)
  refine PFun.of (C:=c22) (cx_ok _ _ _) rfl (fn:=Try.f22) (by kernel_rfl) (c:=_) rfl rfl rfl ?_
  refine Run.seq (Run.region (cx_ok _ _ _) (Reg.op rfl (Ope.boxF rfl rfl ?_)))
  refine Reg.op rfl (Ope.asg rfl ?_)
  refine Reg.op rfl (Ope.asg rfl ?_)
  refine Reg.nil (Run.seq (Run.region (cx_ok _ _ _) (Reg.op rfl (Ope.load rfl rfl ?_))))
  refine Reg.op rfl (Ope.cf rfl rfl hf hb ?_)
  refine Reg.op rfl (Ope.ext rfl rfl ?_)
  refine Reg.op rfl (Ope.ext rfl rfl ?_)
  refine Reg.op rfl (Ope.asg rfl ?_)
  refine Reg.op rfl (Ope.asg rfl ?_)
  exact Reg.nil (Run.ret (fin_ret (.tmp rfl (.tmp rfl .nil)) rfl rfl))
theorem f30ok (hv:s.val=true) (hs:s.ok 30):Fn P0 30 [s.v t1 t2] (.tup [N s.drp,I 0]):=by
  have hbs:PV.bds 0 [s.v t1 t2]=true:=bd_shpV s h1 h2 rfl
  have hb:PV.bds 0 [s.v t1 t2,.fn (.func 67) [] []]=true:=bd_shpV s h1 h2 rfl
  have hS:=hs.su
  have hJ:=hs.jo
  have hf:=f56ok s h1 h2 (by omega) (by omega) 67 [] _ hv hbs rfl (f67 s h1 h2 hs)
  refine PFun.of (C:=c30) (cx_ok _ _ _) rfl (fn:=Try.f30) (by kernel_rfl) (c:=_) rfl rfl rfl ?_
  refine Run.seq (Run.region (cx_ok _ _ _) (Reg.op rfl (Ope.boxF rfl rfl ?_)))
  refine Reg.op rfl (Ope.asg rfl ?_)
  refine Reg.op rfl (Ope.asg rfl ?_)
  refine Reg.nil (Run.seq (Run.region (cx_ok _ _ _) (Reg.op rfl (Ope.load rfl rfl ?_))))
  refine Reg.op rfl (Ope.cf rfl rfl hf hb ?_)
  refine Reg.op rfl (Ope.ext rfl rfl ?_)
  refine Reg.op rfl (Ope.ext rfl rfl ?_)
  refine Reg.op rfl (Ope.asg rfl ?_)
  refine Reg.op rfl (Ope.asg rfl ?_)
  exact Reg.nil (Run.ret (fin_ret (.tmp rfl (.tmp rfl .nil)) rfl rfl))
theorem f26ok (hv:s.val=true) (hs:s.ok 30) (hn:0 < s.all.n):Fn P0 26 [s.v t1 t2] (.tup [I s.all.c,.sl (otl s.all.o) (s.all.o.map N),I 0]):=by
  have hbs:PV.bds 0 [s.v t1 t2]=true:=bd_shpV s h1 h2 rfl
  have hb:PV.bds 0 [s.v t1 t2,.fn (.func 64) [] []]=true:=bd_shpV s h1 h2 rfl
  have hS:=hs.su
  have hJ:=hs.jo
  have hf:=f63ok s h1 h2 (by omega) (by omega) 64 [] _ _ _ _ _ hv hbs (bd_olk 0 s.all) (f64y s h1 h2 hs hn)
  have hbo:PV.bd 0 (.sl (otl s.all.o) (s.all.o.map N))=true:=bd_sl (f:=N) (otl_own _) (fun _=>rfl) _
  have hbt:PV.bds 0 [I s.all.c,.sl (otl s.all.o) (s.all.o.map N),I 0]=true:=by simp only [PV.bds,hbo];rfl
  generalize s.all=o at *
  refine PFun.of (C:=c26) (cx_ok _ _ _) rfl (fn:=Try.f26) (by kernel_rfl) (c:=_) rfl rfl rfl ?_
  refine Run.seq (Run.region (cx_ok _ _ _) (Reg.op rfl (Ope.boxF rfl rfl ?_)))
  refine Reg.op rfl (Ope.asg rfl ?_)
  refine Reg.op rfl (Ope.asg rfl ?_)
  refine Reg.op rfl (Ope.asg rfl ?_)
  refine Reg.nil (Run.seq (Run.region (cx_ok _ _ _) (Reg.op rfl (Ope.load rfl rfl ?_))))
  refine Reg.op rfl (Ope.cf rfl rfl hf hb ?_)
  refine Reg.op rfl (Ope.mov rfl ?_)
  refine Reg.op rfl (Ope.ext rfl rfl ?_)
  refine Reg.op rfl (Ope.ext rfl rfl ?_)
  refine Reg.op rfl (Ope.newL rfl ?_)
  refine Reg.op0 (Ope.store rfl rfl hget_hd rfl rfl rfl ?_)
  refine Reg.op rfl (Ope.asg rfl ?_)
  refine Reg.nil (Run.seq (Run.draw (cx_ok _ _ _) [(0,true),(1,true),(2,true),(3,true),(4,true),(5,true),(6,true),(7,true)] (by kernel_rfl) (Dra.op' rfl rfl rfl .sure (Ope.fld rfl rfl ?_))))
  refine Dra.op' rfl rfl rfl .sure (Ope.load rfl rfl ?_)
  refine Dra.op' rfl rfl rfl .sure (Ope.fld rfl rfl ?_)
  refine Dra.op' rfl rfl rfl .sure (Ope.load rfl rfl ?_)
  refine Dra.op' rfl rfl rfl .sure (Ope.mov rfl ?_)
  refine Dra.op' rfl rfl rfl .sure (Ope.asg rfl ?_)
  refine Dra.op' rfl rfl rfl .sure (Ope.asg rfl ?_)
  refine Dra.op' rfl rfl rfl .sure (Ope.asg rfl ?_)
  exact Dra.nil (Run.ret (fin_ret (.tmp rfl (.tmp rfl (.tmp rfl .nil))) hbt rfl))
theorem f28ok (hv:s.val=true) (hs:s.ok 30) (hn:0 < s.all.n):Fn P0 28 [s.v t1 t2] (.tup [I s.all.t,I 0]):=by
  have hbs:PV.bds 0 [s.v t1 t2]=true:=bd_shpV s h1 h2 rfl
  have hb:PV.bds 0 [s.v t1 t2,.fn (.func 64) [] []]=true:=bd_shpV s h1 h2 rfl
  have hS:=hs.su
  have hJ:=hs.jo
  have hf:=f63ok s h1 h2 (by omega) (by omega) 64 [] _ _ _ _ _ hv hbs (bd_olk 0 s.all) (f64y s h1 h2 hs hn)
  have hbo:PV.bd 0 (.sl (otl s.all.o) (s.all.o.map N))=true:=bd_sl (f:=N) (otl_own _) (fun _=>rfl) _
  have hbt:PV.bds 0 [I s.all.t,I 0]=true:=by simp only [PV.bds,hbo];rfl
  generalize s.all=o at *
  refine PFun.of (C:=c28) (cx_ok _ _ _) rfl (fn:=Try.f28) (by kernel_rfl) (c:=_) rfl rfl rfl ?_
  refine Run.seq (Run.region (cx_ok _ _ _) (Reg.op rfl (Ope.boxF rfl rfl ?_)))
  refine Reg.op rfl (Ope.asg rfl ?_)
  refine Reg.op rfl (Ope.asg rfl ?_)
  refine Reg.nil (Run.seq (Run.region (cx_ok _ _ _) (Reg.op rfl (Ope.load rfl rfl ?_))))
  refine Reg.op rfl (Ope.cf rfl rfl hf hb ?_)
  refine Reg.op rfl (Ope.mov rfl ?_)
  refine Reg.op rfl (Ope.ext rfl rfl ?_)
  refine Reg.op rfl (Ope.ext rfl rfl ?_)
  refine Reg.op rfl (Ope.newL rfl ?_)
  refine Reg.op0 (Ope.store rfl rfl hget_hd rfl rfl rfl ?_)
  refine Reg.op rfl (Ope.asg rfl ?_)
  refine Reg.nil (Run.seq (Run.region (cx_ok _ _ _) (Reg.op rfl (Ope.fld rfl rfl ?_))))
  refine Reg.op rfl (Ope.load rfl rfl ?_)
  refine Reg.op rfl (Ope.mov rfl ?_)
  refine Reg.op rfl (Ope.asg rfl ?_)
  refine Reg.op rfl (Ope.asg rfl ?_)
  exact Reg.nil (Run.ret (fin_ret (.tmp rfl (.tmp rfl .nil)) hbt rfl))
end
end Go.Pv
namespace Go.Pv
open Go.Am Go.RowKit
def PLive (A:AP) (h:PH) (t tx:TypeId) (s x:PV) (K:PV→PH→Prop):Prop :=
 ∃ e ex ti,A.under t=some (.slice e)∧A.under tx=some (.slice ex)∧A.info e=some ti∧∃ i len cap ez tl' news l post,s=.ms i 0 len cap ez∧x=.sl tl' news∧len=l.length∧len≤cap∧h.get i=some (.cells (flat l++post)) ∧
  post.length=(cap - len) * ti.size∧Each (fun v=>v.nc=ti.size) l∧Each (fun v=>v.nc=ti.size∧PV.allOne v.cells=true) news∧(l.length+news.length) * ti.bytes≤140737488355328∧l.length+news.length≤1000000000 ∧
  (∀ n,∃ zs vs,azeros A e n=some zs∧PV.ofAVs zs=some vs) ∧
  (∀ vs,l.length+news.length≤cap→vs.length=(cap - (l.length+news.length)) * ti.size→K (.ms i 0 (l.length+news.length) cap ez) (h.put i (.cells (flat (l++news)++vs)))) ∧
  ∀ c vs,l.length+news.length≤c→vs.length=(c - (l.length+news.length)) * ti.size→K (.ms h.next 0 (l.length+news.length) c (ezOf A e)) (h.add (.cells (flat (l++news)++vs)))
section
variable {s:St} {A:AP} {P:Program} {E:Eqs} {w0:Base} {M:Nat→Bool} {sz:Nat} {b:Frame} {k:List Item} {cs:List Frame}
def plv (A:AP) (t:Nat→Option PV) (h:PH) (o:Oper) (K:PV→PH→Prop):Prop :=
 ∃ c ty tx sv xv,o.op=.call c∧c.callee=.builtin .append∧c.argTypes.toList=[ty,tx]∧pargs (pev t) c.args.toList=some [sv,xv]∧PLive A h ty tx sv xv K
def pzs (A:AP) (t:TypeId) (n:Nat):Option (List PV) :=
 match A.under t with
 |some (.slice e)=>match azeros A e n with
  |some zs=>PV.ofAVs zs
  |none=>none
 |_=>none
def pcl (A:AP) (t:Nat→Option PV) (h:PH) (o:Oper) (K:PV→PH→Prop):Prop :=
 ∃ c ty sv,o.op=.call c∧c.callee=.builtin .clear∧c.argTypes.toList=[ty]∧pargs (pev t) c.args.toList=some [sv] ∧
  ∃ i o' len cap ez b vs,sv=.ms i o' len cap ez∧len≠0∧pzs A ty len=some vs∧PV.allOne vs=true∧h.get i=some (.cells b)∧o'+vs.length≤b.length∧K (.tup []) (h.put i (.cells (pputs b o' vs)))
def pregL (A:AP) (E:Eqs) (P:Program) (M:Nat→Bool) (sz:Nat):List Oper→T PV→PH→(T PV→PH→Prop)→(PV→PH→Prop)→Prop
 |[],t,h,K,_=>K t h
 |o::os,t,h,K,X=>dstIn sz o.dst=true∧o.guard=none∧(pop A E P M t.get h o (fun v h'=>pregL A E P M sz os (tput t o.dst v) h' K X) X∨plv A t.get h o (fun v h'=>pregL A E P M sz os (tput t o.dst v) h' K X)∨pcl A t.get h o (fun v h'=>pregL A E P M sz os (tput t o.dst v) h' K X))
end
section
variable {C:Cx} {F:EQ} {X:EX} {k:List KI} {e:EL} {ds:List Nat} {h:PH} {n:Nat} {l:HL} {os:List Oper}
@[irreducible] def RegL (C:Cx) (F:EQ) (X:EX) (k:List KI) (os:List Oper) (e:EL) (ds:List Nat) (h:PH):Prop :=
 ∀ t:T PV,t.get=lget e→pregL C.A C.E C.P C.M C.sz os t h (fun t h=>Pv.toQ (Ks C F X k) .normal t ds h) (X ds)
theorem RegL.nil (hk:Run C F X k e ds h):RegL C F X k [] e ds h:=by
 unfold RegL
 exact fun t ht=>hk.toQ fun i v hi=>by rw [ht];exact hi
theorem RegL.op {d:Nat} {op:Op} {type:TypeId} {pos:String} {after:Array Edge} (hd:Nat.blt d C.sz=true)
  (ho:Ope C X { dst:=some d,op,type,pos,after,guard:=none } e ds h fun v h'=>RegL C F X k os ((d,v)::e) ds h'):RegL C F X k ({ dst:=some d,op,type,pos,after,guard:=none }::os) e ds h:=by
 unfold RegL
 intro t ht
 refine ⟨hd,rfl,.inl ?_⟩
 unfold Ope at ho
 rw [ht]
 refine pop_mono ho (fun v h' hv=>?_) fun _ _ hx=>hx
 unfold RegL at hv
 exact hv _ (put_get ht d v)
end
end Go.Pv
