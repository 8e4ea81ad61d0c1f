/- Parts of the proof: T28, Pv52, T30, T31, T32, T33 -/
import Derived.Test.YtabejoodkhlnaaaGreatP16
set_option linter.unusedVariables false
set_option linter.unusedSimpArgs false
namespace Go.Pv
open Go.Proofs Go.Am
set_option maxRecDepth 10000
theorem then_hour {d:Rid} (h0:0≤d.a+d.b) {y:Int} (hy:y=0∨y=1):0≤(d.then y).a+(d.then y).b∧((d.then y).a+(d.then y).b).toNat=(d.a+d.b).toNat+1:=by
  rcases hy with rfl | rfl<;>simp [Rid.then]<;>omega
end Go.Pv
namespace Go.Pv
open Go.Am Go.RowKit
section
variable {C:Cx} {X:EX} {e:EL} {ds:List Nat} {n:Nat} {l:HL} {h:PH} {K:PV→PH→Prop}
variable {d:Option Tmp} {type:TypeId} {pos:String} {after:Array Edge} {guard:Option (Nat×Bool)}
theorem Ope.slT1 {t sz bytes:Nat} {agg:Bool} {x y:Operand} {kk:IntKind} {j:Nat} {ez:Option Nat} [hs:Slc C.A t agg sz bytes] (hx:pev (lget e) x=some (.ms j 0 1 1 ez)) (hy:pev (lget e) y=some (.lit (.int kk 1)))
  (hK:K (.ms j 0 0 0 ez) h):Ope C X { dst:=d,op:=.slice t x (some y) none none,type,pos,after,guard } e ds h K:=by
 refine Ope.quiet rfl ?_ hK
 obtain ⟨el,ti,h1,h2,h3,_,_⟩:=hs.get
 have hai:aidx (1:Int) (0+1+1)=some 1:=by decide
 have hb:Nat.ble (0+1) (0+1)=true:=rfl
 have hc:Nat.beq (0+1) 1=true:=rfl
 simp only [pquiet,hx,hy,popt,pslice,h1,h3,hb,pbound,hai,hc]
theorem Ope.copyS {t tx sz bytes i o cap dl:Nat} {agg:Bool} {ez:Option Nat} {x y:Operand} {tl:Tail} {vs cs cs':List PV} [hs:Slc C.A t agg sz bytes] (hx:pev (lget e) x=some (.ms i o dl cap ez)) (hy:pev (lget e) y=some (.sl tl vs))
  (hg:hget l i=some (.cells cs)) (hv:∀ v∈vs,v.nc=sz∧PV.allOne v.cells=true) (hl:vs.length=dl) (ho:o+dl * sz≤cs.length) (hcs:pputs cs o (flat vs)=cs') (hK:K (I dl) (HE n ((i,some (.cells cs'))::l))) :
  Ope C X { dst:=d,op:=.call { callee:=.builtin .copy,args:=#[x,y],argTypes:=#[t,tx] },type,pos,after,guard } e ds (HE n l) K:=by
 obtain ⟨el,ti,h1,h2,h3,_,_⟩:=hs.get
 obtain ⟨d',ti',h4,h5,rfl,rfl⟩:=h2.get
 rw [h3] at h5
 cases h5
 subst hl
 unfold Ope
 simp only [pop,pkind,ploud,pargs,hx,hy,PCopy,h1,h3]
 refine ⟨cs,hg,Each.of hv,ho,?_⟩
 have hmin:Nat.min vs.length vs.length=vs.length:=Nat.min_self _
 rw [hmin,List.take_length,hcs,HE_put]
 exact hK
end
end Go.Pv
namespace Go.Pv
open Go.Proofs Go.Am
set_option maxRecDepth 10000
theorem bds_I:∀ xs:List Int,PV.bds 0 (xs.map I)=true
  | []=>rfl
  | x :: xs => by
    simp only [List.map_cons,PV.bds,bds_I xs,Bool.and_true]
    rfl
theorem pputs_tail (v z:PV) (ws:List PV):pputs ((List.replicate (ws.length+1) z).set 0 v) 1 ws=v::ws:=by
  simp [pputs,List.replicate_succ]
  omega
theorem f120a (c:Int) (tl:Tail) (htl:tl.isOwn=false) (d:Rid) (x:Int):Fn P0 120 [.agg [I c,.sl tl []],rideV d x] (.agg [I c,.sl .no [I x]]):=by
  refine PFun.of (C:=c120) (cx_ok _ _ _) rfl (fn:=Tryz.f120) (by kernel_rfl) (c:=_) rfl rfl rfl ?_
  refine Run.seq (Run.region (cx_ok _ _ _) (Reg.op rfl (Ope.boxL rfl rfl ?_)))
  refine Reg.op rfl (Ope.boxF rfl rfl ?_)
  refine Reg.op rfl (Ope.newL rfl ?_)
  refine Reg.nil (Run.seq (Run.region (cx_ok _ _ _) (Reg.op rfl (Ope.fld rfl rfl ?_))))
  refine Reg.op rfl (Ope.load rfl rfl ?_)
  refine Reg.op rfl (Ope.len (m:=0) rfl rfl ?_)
  refine Reg.op rfl (Ope.add rfl rfl (by omega) ?_)
  refine Reg.op rfl (Ope.mks (m:=1) (c:=1) rfl rfl rfl rfl (Nat.le_refl _) (by omega) (by omega) (fun ez=>?_))
  refine Reg.op rfl (Ope.asg rfl ?_)
  refine Reg.nil (Run.seq (Run.region (cx_ok _ _ _) (Reg.op rfl (Ope.mov rfl ?_))))
  refine Reg.op rfl (Ope.fld rfl rfl ?_)
  refine Reg.op rfl (Ope.fld rfl rfl ?_)
  refine Reg.op rfl (Ope.fld rfl rfl ?_)
  refine Reg.op rfl (Ope.load rfl rfl ?_)
  refine Reg.op rfl (Ope.idxL (m:=0) rfl rfl rfl (by omega) ?_)
  refine Reg.op0 (Ope.storeL rfl rfl rfl rfl rfl (by simp) ?_)
  refine Reg.nil (Run.seq (Run.draw (cx_ok _ _ _) [(0,true),(1,true),(2,true),(3,true),(4,true)] (by kernel_rfl) (Dra.op' rfl rfl rfl .sure (Ope.mov rfl ?_))))
  refine Dra.op' rfl rfl rfl .sure (Ope.slT1 rfl rfl ?_)
  refine Dra.op' rfl rfl rfl .sure (Ope.fld rfl rfl ?_)
  refine Dra.op' rfl rfl rfl .sure (Ope.load rfl rfl ?_)
  refine Dra.op' rfl rfl rfl .sure (Ope.copyS rfl rfl rfl (by simp) rfl (by simp) rfl ?_)
  refine Dra.nil (Run.seq (Run.frzS (d:=5) (vs:=[I x]) (post:=[]) (sz:=1) rfl rfl rfl (Nat.le_refl _) (by simp [PV.nc]) ?_))
  refine Run.region (cx_ok _ _ _) (Reg.op rfl (Ope.mov rfl ?_))
  refine Reg.op rfl (Ope.fld rfl rfl ?_)
  refine Reg.op0 (Ope.store rfl rfl rfl rfl rfl rfl ?_)
  refine Reg.nil (Run.seq (Run.region (cx_ok _ _ _) (Reg.op rfl (Ope.load rfl rfl ?_))))
  refine Reg.op0 (Ope.store rfl rfl rfl rfl rfl rfl ?_)
  refine Reg.nil (Run.ret (fin_ret (.cell rfl rfl .nil) (by cases tl<;>first | rfl | cases htl) ?_))
  rfl
theorem f120b (c:Int) (tl:Tail) (htl:tl.isOwn=false) (y:Int) (ys:List Int) (hl:ys.length≤16) (d:Rid) (x:Int):Fn P0 120 [.agg [I c,.sl tl (I y::ys.map I)],rideV d x] (.agg [I c,.sl .no (I x::I y::ys.map I)]):=by
  refine PFun.of (C:=c120) (cx_ok _ _ _) rfl (fn:=Tryz.f120) (by kernel_rfl) (c:=_) rfl rfl rfl ?_
  refine Run.seq (Run.region (cx_ok _ _ _) (Reg.op rfl (Ope.boxL rfl rfl ?_)))
  refine Reg.op rfl (Ope.boxF rfl rfl ?_)
  refine Reg.op rfl (Ope.newL rfl ?_)
  refine Reg.nil (Run.seq (Run.region (cx_ok _ _ _) (Reg.op rfl (Ope.fld rfl rfl ?_))))
  refine Reg.op rfl (Ope.load rfl rfl ?_)
  refine Reg.op rfl (Ope.len (m:=ys.length+1) rfl (by simp) ?_)
  refine Reg.op rfl (Ope.add rfl rfl (by omega) ?_)
  refine Reg.op rfl (Ope.mks (m:=ys.length+1+1) (c:=ys.length+1+1) rfl rfl rfl rfl (Nat.le_refl _) (by omega) (by omega) (fun ez=>?_))
  refine Reg.op rfl (Ope.asg rfl ?_)
  refine Reg.nil (Run.seq (Run.region (cx_ok _ _ _) (Reg.op rfl (Ope.mov rfl ?_))))
  refine Reg.op rfl (Ope.fld rfl rfl ?_)
  refine Reg.op rfl (Ope.fld rfl rfl ?_)
  refine Reg.op rfl (Ope.fld rfl rfl ?_)
  refine Reg.op rfl (Ope.load rfl rfl ?_)
  refine Reg.op rfl (Ope.idxL (m:=0) rfl rfl rfl (by omega) ?_)
  refine Reg.op0 (Ope.storeL rfl rfl rfl rfl rfl (by simp) ?_)
  refine Reg.nil (Run.seq (Run.draw (cx_ok _ _ _) [(0,true),(1,true),(2,true),(3,true),(4,true)] (by kernel_rfl) (Dra.op' rfl rfl rfl .sure (Ope.mov rfl ?_))))
  refine Dra.op' rfl rfl rfl .sure (Ope.slDL (m:=1) rfl rfl rfl (by omega) (by omega) (Nat.le_refl _) ?_)
  refine Dra.op' rfl rfl rfl .sure (Ope.fld rfl rfl ?_)
  refine Dra.op' rfl rfl rfl .sure (Ope.load rfl rfl ?_)
  refine Dra.op' rfl rfl rfl .sure (Ope.copyS (cs':=I x::I y::ys.map I) rfl rfl rfl (by intro v hv;simp only [List.mem_cons,List.mem_map] at hv;rcases hv with rfl | ⟨a,_,rfl⟩<;>exact ⟨rfl,rfl⟩) (by simp) (by simp;omega) (by rw [show flat (I y::ys.map I)=(y::ys).map I from flat_I (y::ys)];have h:=pputs_tail (I x) (I 0) ((y::ys).map I);simp only [List.length_map,List.length_cons,List.map_cons] at h;exact h) ?_)
  refine Dra.nil (Run.seq (Run.frzS (d:=5) (vs:=I x::I y::ys.map I) (post:=[]) (sz:=1) rfl (by rw [hget_hd,show flat (I x::I y::ys.map I)=(x::y::ys).map I from flat_I (x::y::ys)];simp) (by simp) (Nat.le_refl _) (by simp [PV.nc]) ?_))
  refine Run.region (cx_ok _ _ _) (Reg.op rfl (Ope.mov rfl ?_))
  refine Reg.op rfl (Ope.fld rfl rfl ?_)
  refine Reg.op0 (Ope.store rfl rfl rfl rfl rfl rfl ?_)
  refine Reg.nil (Run.seq (Run.region (cx_ok _ _ _) (Reg.op rfl (Ope.load rfl rfl ?_))))
  refine Reg.op0 (Ope.store rfl rfl rfl rfl rfl rfl ?_)
  refine Reg.nil (Run.ret (fin_ret (.cell rfl rfl .nil) (by have h:=bds_I (x::y::ys);simp only [List.map_cons] at h;simp only [pone,PV.bd,PV.bds,Bool.and_true,Bool.true_and] at h ⊢;first | exact h | trivial) ?_))
  rfl
def wt:List Int→Tail
  | []=>.ex
  | _=>.no
def wV (w:Int×List Int):PV:=.agg [I w.1,.sl (wt w.2) (w.2.map I)]
theorem wt_own (xs:List Int):(wt xs).isOwn=false:=by cases xs<;>rfl
theorem f120 (w:Int×List Int) (hl:w.2.length≤16) (d:Rid) (x:Int):Fn P0 120 [wV w,rideV d x] (wV (w.1,x::w.2)):=by
  obtain ⟨c,xs⟩:=w
  rcases xs with _ | ⟨y,ys⟩
  · exact f120a c .ex rfl d x
  · exact f120b c .no rfl y ys (by simp at hl;omega) d x
theorem wV_bd (n:Nat) (w:Int×List Int):(wV w).bd n=true:=by
  obtain ⟨c,xs⟩:=w
  have h:∀ xs:List Int,PV.bds n (xs.map I)=true:=by
    intro xs
    induction xs with
    | nil=>rfl
    | cons x xs ih =>
      simp only [List.map_cons,PV.bds,ih,Bool.and_true]
      rfl
  have h0:(I c).bd n=true:=rfl
  cases xs with
  | nil=>rfl
  | cons x xs =>
    simp only [wV,wt,PV.bd,PV.bds,h (x::xs),Bool.and_self]
def stepW (d:Rid) (x:Int) (w:Int×List Int):Int×List Int:=(if (decide (0 < d.a+d.b) && !decide (x=d.r))=true then w.1+1 else w.1,x::w.2)
theorem f119 (d:Rid) (hd:d.ok 16) (x:Int) (w:Int×List Int) (hl:w.2.length≤16) (hc:0≤w.1∧w.1≤16):Fn P0 119 [rideV d x,wV w] (wV (stepW d x w)):=by
  obtain ⟨⟨hd1,hd2⟩,⟨hd3,hd4⟩,hd5,hd6⟩:=hd
  have h120:=f120 w hl d x
  obtain ⟨c,xs⟩:=w
  refine PFun.of (C:=c119) (cx_ok _ _ _) rfl (fn:=Tryz.f119) (by kernel_rfl) (c:=_) rfl rfl rfl ?_
  refine Run.seq (Run.region (cx_ok _ _ _) (Reg.op rfl (Ope.boxF rfl rfl ?_)))
  refine Reg.op rfl (Ope.boxF rfl rfl ?_)
  refine Reg.op rfl (Ope.newL rfl ?_)
  refine Reg.nil (Run.seq (Run.region (cx_ok _ _ _) (Reg.op rfl (Ope.load rfl rfl ?_))))
  refine Reg.op rfl (Ope.load rfl rfl ?_)
  refine Reg.op rfl (Ope.cf rfl rfl h120 (by show (PV.bd 0 (wV (c,xs)) && (_ && true))=true;rw [wV_bd];rfl) ?_)
  refine Reg.op rfl (Ope.newL rfl ?_)
  refine Reg.op0 (Ope.store rfl rfl rfl rfl rfl rfl ?_)
  refine Reg.nil (Run.seq (Run.seq (Run.region (cx_ok _ _ _) (Reg.op rfl (Ope.load rfl rfl ?_)))))
  refine Reg.op rfl (Ope.cf rfl rfl (f121 _ _ _ _ _ _ _ _ (by omega) (by omega)) rfl ?_)
  refine Reg.nil (Run.condX rfl (fun hc=>?_) fun hc=>?_)
  ·refine Run.region (cx_ok _ _ _) (Reg.op rfl (Ope.fld rfl rfl ?_))
   refine Reg.op rfl (Ope.load rfl rfl ?_)
   refine Reg.op rfl (Ope.add rfl rfl (by omega) ?_)
   refine Reg.op rfl (Ope.fld rfl rfl ?_)
   refine Reg.op0 (Ope.store rfl rfl rfl rfl rfl rfl ?_)
   refine Reg.nil (Run.seq (Run.region (cx_ok _ _ _) (Reg.op rfl (Ope.load rfl rfl ?_))))
   refine Reg.op0 (Ope.store rfl rfl rfl rfl rfl rfl ?_)
   refine Reg.nil (Run.ret (fin_ret (.cell rfl rfl .nil) (wV_bd 0 (_,x::xs)) ?_))
   have hc':(decide (0 < d.a+d.b) && !decide (x=d.r))=_:=hc
   unfold stepW
   rw [hc']
   rfl
  ·refine Run.skip (Run.seq (Run.region (cx_ok _ _ _) (Reg.op rfl (Ope.load rfl rfl ?_))))
   refine Reg.op0 (Ope.store rfl rfl rfl rfl rfl rfl ?_)
   refine Reg.nil (Run.ret (fin_ret (.cell rfl rfl .nil) (wV_bd 0 (_,x::xs)) ?_))
   have hc':(decide (0 < d.a+d.b) && !decide (x=d.r))=_:=hc
   unfold stepW
   rw [hc']
   rfl
def bestW (w v:Int×List Int):Int×List Int:=if v.1 < w.1 then v else w
theorem f122 (w v:Int×List Int):Fn P0 122 [wV w,wV v] (wV (bestW w v)):=by
  obtain ⟨c,xs⟩:=w
  obtain ⟨c',xs'⟩:=v
  refine PFun.of (C:=c122) (cx_ok _ _ _) rfl (fn:=Tryz.f122) (by kernel_rfl) (c:=_) rfl rfl rfl ?_
  refine Run.seq (Run.region (cx_ok _ _ _) (Reg.op rfl (Ope.boxF rfl rfl ?_)))
  refine Reg.op rfl (Ope.boxF rfl rfl ?_)
  refine Reg.op rfl (Ope.newL rfl ?_)
  refine Reg.nil (Run.seq (Run.seq (Run.region (cx_ok _ _ _) (Reg.op rfl (Ope.fld rfl rfl ?_)))))
  refine Reg.op rfl (Ope.load rfl rfl ?_)
  refine Reg.op rfl (Ope.fld rfl rfl ?_)
  refine Reg.op rfl (Ope.load rfl rfl ?_)
  refine Reg.op rfl (Ope.lt rfl rfl ?_)
  refine Reg.nil (Run.condX rfl (fun hc=>?_) fun hc=>?_)
  ·refine Run.seq (Run.region (cx_ok _ _ _) (Reg.op rfl (Ope.load rfl rfl ?_)))
   refine Reg.op0 (Ope.store rfl rfl rfl rfl rfl rfl ?_)
   refine Reg.nil (Run.ret (Jmp.code (fin_ret (.cell rfl rfl .nil) (by first | exact wV_bd 0 (c,xs) | exact wV_bd 0 (c',xs')) ?_)))
   simp [bestW, *];rfl
  ·refine Run.skip (Run.seq (Run.region (cx_ok _ _ _) (Reg.op rfl (Ope.load rfl rfl ?_))))
   refine Reg.op0 (Ope.store rfl rfl rfl rfl rfl rfl ?_)
   refine Reg.nil (Run.ret (fin_ret (.cell rfl rfl .nil) (by first | exact wV_bd 0 (c,xs) | exact wV_bd 0 (c',xs')) ?_))
   simp [bestW, *];rfl
theorem f118 (d:Rid):Fn P0 118 [.agg d.cells] (wV (0,[])):=by
  refine PFun.of (C:=c118) (cx_ok _ _ _) rfl (fn:=Tryz.f118) (by kernel_rfl) (c:=_) rfl rfl rfl ?_
  refine Run.seq (Run.region (cx_ok _ _ _) (Reg.op rfl (Ope.boxF rfl rfl ?_)))
  refine Reg.op rfl (Ope.newL rfl ?_)
  refine Reg.nil (Run.seq (Run.region (cx_ok _ _ _) (Reg.op rfl (Ope.bld rfl rfl ?_))))
  refine Reg.op0 (Ope.store rfl rfl rfl rfl rfl rfl ?_)
  exact Reg.nil (Run.ret (fin_ret (.cell rfl rfl .nil) rfl rfl))
abbrev qW:List PV:=[.fn (.func 118) [] [],.fn (.func 119) [] [],.fn (.func 122) [] []]
theorem f67:Fn P0 67 [] (.agg qW):=by
  refine PFun.of (C:=c67) (cx_ok _ _ _) rfl (fn:=Tryz.f67) (by kernel_rfl) (c:=_) rfl rfl rfl ?_
  refine Run.seq (Run.region (cx_ok _ _ _) (Reg.op rfl (Ope.newL rfl ?_)))
  refine Reg.nil (Run.seq (Run.region (cx_ok _ _ _) (Reg.op rfl (Ope.bld rfl rfl ?_))))
  refine Reg.op0 (Ope.store rfl rfl rfl rfl rfl rfl ?_)
  exact Reg.nil (Run.ret (fin_ret (.cell rfl rfl .nil) rfl rfl))
end Go.Pv
namespace Go.Pv
open Go.Proofs Go.Am
set_option maxRecDepth 10000
theorem bds_wV (n:Nat):∀ xs:List (Int×List Int),PV.bds n (xs.map wV)=true
  | []=>rfl
  | x :: xs => by
    simp only [List.map_cons,PV.bds,bds_wV n xs,Bool.and_true]
    exact wV_bd n x
structure Ask where
  fe:Nat
  fs:Nat
  E:Rid→Int×List Int
  S:Rid→Int→Int×List Int→Int×List Int
  B:Nat→Int×List Int→Prop
abbrev Ask.q (A:Ask):List PV:=[.fn (.func A.fe) [] [],.fn (.func A.fs) [] [],.fn (.func 122) [] []]
structure Ask.ok (A:Ask):Prop where
  e:∀ d:Rid,d.ok 16→Fn P0 A.fe [.agg d.cells] (wV (A.E d))
  s:∀ (d:Rid) (x:Int) (w:Int×List Int) (k:Nat),d.ok 16→x=0∨x=1→A.B k w→k < 16→Fn P0 A.fs [rideV d x,wV w] (wV (A.S d x w))
  be:∀ d:Rid,d.ok 16→A.B 0 (A.E d)
  bs:∀ (d:Rid) (x:Int) (w:Int×List Int) (k:Nat),x=0∨x=1→A.B k w→A.B (k+1) (A.S d x w)
def joinW (p q:Option (Int×List Int)):Option (Int×List Int) :=
  match p,q with
  | some a,some b=>some (bestW a b)
  | some a,none=>some a
  | none,q=>q
def few (A:Ask) (R:Rst):Nat→Rid→Option (Int×List Int)
  | 0,d=>some (A.E d)
  | k+1,d=>joinW (if R.brk d 0=0 then (few A R k (d.then 0)).map (A.S d 0) else none) (if R.brk d 1=0 then (few A R k (d.then 1)).map (A.S d 1) else none)
theorem joinW_or {p q:Option (Int×List Int)} {w:Int×List Int} (h:joinW p q=some w):p=some w∨q=some w:=by
  cases p with
  | none=>exact .inr h
  | some a =>
    cases q with
    | none=>exact .inl h
    | some b =>
      simp only [joinW,bestW,Option.some.injEq] at h
      split at h
      · exact .inr (congrArg some h)
      · exact .inl (congrArg some h)
theorem few_bnd {A : Ask} (hA : A.ok) (R : Rst) : ∀ (k i : Nat) (d : Rid) (w : Int × List Int), d.ok i → i + k ≤ 16 → few A R k d = some w → A.B k w
  | 0, i, d, w, hd, hi, h => by
    obtain ⟨⟨hd1,hd2⟩,⟨hd3,hd4⟩,hd5,hd6⟩:=hd
    simp only [few,Option.some.injEq] at h
    subst h
    exact hA.be d ⟨⟨hd1,by omega⟩,⟨hd3,by omega⟩,hd5,by omega⟩
  | k + 1, i, d, w, hd, hi, h => by
    have key:∀ x:Int,x=0∨x=1→(if R.brk d x=0 then (few A R k (d.then x)).map (A.S d x) else none)=some w→A.B (k+1) w:=by
      intro x hx hq
      split at hq
      · obtain ⟨w', h1, rfl⟩ := Option.map_eq_some_iff.1 hq
        exact hA.bs d x w' k hx (few_bnd hA R k (i+1) (d.then x) w' (Rid.ok_then hd) (by omega) h1)
      · cases hq
    rw [few] at h
    rcases joinW_or h with h | h
    · exact key 0 (.inl rfl) h
    · exact key 1 (.inr rfl) h
instance:Mpt A0 204 148 (.sl .ex []):=⟨by kernel_rfl⟩
theorem f173a (tl:Tail) (htl:tl.isOwn=false) (xs:List (Int×List Int)) (hl:xs.length < 2):Fn P0 173 [.fn (.func 122) [] [],.sl tl (xs.map wV)] (.sl tl (xs.map wV)):=by
  refine PFun.of (C:=c173) (cx_ok _ _ _) rfl (fn:=Tryz.f173) (by kernel_rfl) (c:=_) rfl rfl rfl ?_
  refine Run.seq (Run.region (cx_ok _ _ _) (Reg.op rfl (Ope.asg rfl ?_)))
  refine Reg.nil (Run.seq (Run.seq (Run.region (cx_ok _ _ _) (Reg.op rfl (Ope.mov rfl ?_)))))
  first | refine Reg.op rfl (Ope.len rfl (List.length_map _) ?_) | refine Reg.op rfl (Ope.len rfl rfl ?_) | refine Reg.op rfl (Ope.lenL rfl ?_)
  refine Reg.op rfl (Ope.lt rfl rfl ?_)
  refine Reg.nil (Run.condX rfl (fun hc=>?_) fun hc=>?_)
  ·refine Run.seq (Run.region (cx_ok _ _ _) (Reg.op rfl (Ope.mov rfl ?_)))
   refine Reg.op rfl (Ope.asg rfl ?_)
   refine Reg.nil (Run.ret (Jmp.code (fin_ret (.tmp rfl .nil) (bd_sl (f:=wV) htl (wV_bd 0) _) ?_)))
   rfl
  ·exfalso;omega
theorem f173b (tl:Tail) (htl:tl.isOwn=false) (p q:Int×List Int):Fn P0 173 [.fn (.func 122) [] [],.sl tl [wV p,wV q]] (.sl .ex [wV (bestW p q)]):=by
  refine PFun.of (C:=c173) (cx_ok _ _ _) rfl (fn:=Tryz.f173) (by kernel_rfl) (c:=_) rfl rfl rfl ?_
  refine Run.seq (Run.region (cx_ok _ _ _) (Reg.op rfl (Ope.asg rfl ?_)))
  refine Reg.nil (Run.seq (Run.seq (Run.region (cx_ok _ _ _) (Reg.op rfl (Ope.mov rfl ?_)))))
  refine Reg.op rfl (Ope.len (m:=2) rfl rfl ?_)
  refine Reg.op rfl (Ope.lt rfl rfl ?_)
  refine Reg.nil (Run.condX rfl (fun hc=>?_) fun hc=>?_)
  ·exfalso;omega
  ·refine Run.skip (Run.seq (Run.region (cx_ok _ _ _) (Reg.op rfl (Ope.mov rfl ?_))))
   refine Reg.op rfl (Ope.idxS (m:=0) rfl rfl rfl rfl rfl ?_)
   refine Reg.op rfl (Ope.load rfl rfl ?_)
   refine Reg.op rfl (Ope.newL rfl ?_)
   refine Reg.op0 (Ope.store rfl rfl rfl rfl rfl rfl ?_)
   refine Reg.nil (Run.seq (Run.seq (Run.wide (l':=[(0,some (.cells [I p.1,.sl (wt p.2) (p.2.map I)]))]) (Nat.le_refl _) ⟨rfl,trivial⟩ ?_)))
   refine Run.region (cx_ok _ _ _) (Reg.op rfl (Ope.mov rfl ?_))
   refine Reg.op rfl (Ope.slD (m:=1) rfl rfl rfl (by show 1≤2;decide) (by intro v hv;simp at hv;rcases hv with rfl | rfl<;>rfl) ?_)
   refine Reg.op rfl (Ope.len (m:=1) rfl rfl ?_)
   refine Reg.op rfl (Ope.mov rfl ?_)
   refine Reg.nil (Run.block (Run.loop (α:=Nat) (fun k=>[(0,.fn (.func 122) [] []),(5,.ptr 0 0),(16,.sl (stail tl 2 2) [wV q]),(17,I 1),(18,I k)]) (pick2 (HE 1 [(0,some (.cells [I p.1,.sl (wt p.2) (p.2.map I)]))]) (HE 2 [(0,some (.cells [I (bestW p q).1,.sl (wt (bestW p q).2) ((bestW p q).2.map I)]))])) (fun k=>k≤1) (fun k=>1 - k) 0 ⟨rfl,rfl,rfl,rfl,rfl,trivial⟩ rfl (by decide) (fun k hk=>?_)))
   rcases (by omega:k=0∨k=1) with rfl | rfl
   ·refine Run.seq (Run.region (cx_ok _ _ _) (Reg.op rfl (Ope.lt rfl rfl ?_)))
    refine Reg.nil (Run.seq (Run.condX rfl (fun hc=>?_) fun hc=>?_))
    ·refine Run.skip (Run.seq (Run.block (Run.seq (Run.region (cx_ok _ _ _) (Reg.op rfl (Ope.idxS (m:=0) rfl rfl rfl rfl rfl ?_))))))
     refine Reg.op rfl (Ope.load rfl rfl ?_)
     refine Reg.op rfl (Ope.newL rfl ?_)
     refine Reg.op0 (Ope.store rfl rfl hget_hd rfl rfl rfl ?_)
     refine Reg.nil (Run.frz (d:=7) true rfl hget_hd rfl ?_)
     refine Run.region (cx_ok _ _ _) (Reg.op rfl (Ope.mov rfl ?_))
     refine Reg.op rfl (Ope.load rfl rfl ?_)
     refine Reg.op rfl (Ope.load rfl rfl ?_)
     refine Reg.op rfl (Ope.cf rfl rfl (f122 p q) (by show (PV.bd 0 (wV p) && (PV.bd 0 (wV q) && true))=true;rw [wV_bd,wV_bd];rfl) ?_)
     refine Reg.op0 (Ope.store rfl rfl rfl rfl rfl rfl ?_)
     refine Reg.nil (Run.bend (Run.wide (m:=2) (l':=[(0,some (.cells [I (bestW p q).1,.sl (wt (bestW p q).2) ((bestW p q).2.map I)]))]) (Nat.le_refl _) ⟨rfl,trivial⟩ ?_))
     refine Run.region (cx_ok _ _ _) (Reg.op rfl (Ope.add rfl rfl (by omega) ?_))
     refine Reg.op rfl (Ope.mov rfl ?_)
     exact Reg.nil (Run.lend ⟨1,by decide,by decide,⟨rfl,rfl,rfl,rfl,rfl,trivial⟩,rfl,rfl⟩)
    ·exfalso;omega
   ·refine Run.seq (Run.region (cx_ok _ _ _) (Reg.op rfl (Ope.lt rfl rfl ?_)))
    refine Reg.nil (Run.seq (Run.condX rfl (fun hc=>?_) fun hc=>?_))
    ·exfalso;omega
    ·refine Run.exit (Jmp.code (Jmp.round (Jmp.here (Run.seq (Run.region (cx_ok _ _ _) (Reg.op rfl (Ope.load rfl rfl ?_)))))))
     refine Reg.op rfl (Ope.bsl rfl rfl rfl rfl ?_)
     refine Reg.op rfl (Ope.asg rfl ?_)
     refine Reg.nil (Run.ret (fin_ret (.tmp rfl .nil) (show PV.bds 0 ([bestW p q].map wV)=true from bds_wV 0 _) ?_))
     rfl
def VW (A:Ask) (R:Rst) (d:Rid):List PV:=(few A R (R.m - (d.a+d.b).toNat) d).toList.map wV
theorem VW_at {A:Ask} {R:Rst} {d:Rid} {k:Nat} (hk:d.a+d.b+k=R.m) (h0:0≤d.a+d.b:=by omega):VW A R d=(few A R k d).toList.map wV:=by
  unfold VW
  rw [show R.m - (d.a+d.b).toNat=k from by omega]
theorem VW_bd (A:Ask) (R:Rst) (d:Rid):PV.bds 4 (VW A R d)=true:=bds_wV 4 _
theorem VW_bd4 {A:Ask} {R:Rst} {d:Rid} {tl:Tail} (htl:tl.isOwn=false):(PV.sl tl (VW A R d)).bd 4=true:=by
  cases tl<;>simp only [Tail.isOwn,Bool.true_eq_false] at htl<;>simp [PV.bd,VW_bd]
def stepsW (A:Ask) (R:Rst) (k:Nat) (d:Rid) (i:Nat):List (Int×List Int):=((nextX R d 0).take i).flatMap fun x=>((few A R k (d.then x)).map (A.S d x)).toList
theorem stepsW_succ {A:Ask} {R:Rst} {k:Nat} {d:Rid} {i:Nat} {x:Int} (h:(nextX R d 0)[i]?=some x):stepsW A R k d (i+1)=stepsW A R k d i++((few A R k (d.then x)).map (A.S d x)).toList:=by
  obtain ⟨hlt,hx⟩:=List.getElem?_eq_some_iff.1 h
  simp only [stepsW,List.take_succ_eq_append_getElem hlt,hx,List.flatMap_append,List.flatMap_cons,List.flatMap_nil,List.append_nil]
theorem stepsW_len (A : Ask) (R : Rst) (k : Nat) (d : Rid) : ∀ i, (stepsW A R k d i).length ≤ i
  | 0=>by simp [stepsW]
  | i + 1 => by
    cases h:(nextX R d 0)[i]? with
    | none =>
      have:stepsW A R k d (i+1)=stepsW A R k d i:=by
        have hl:=List.getElem?_eq_none_iff.1 h
        simp only [stepsW]
        rw [List.take_of_length_le (by omega),List.take_of_length_le (by omega)]
      rw [this]
      exact Nat.le_succ_of_le (stepsW_len A R k d i)
    | some x =>
      rw [stepsW_succ h,List.length_append]
      have:=stepsW_len A R k d i
      have:=opt_len ((few A R k (d.then x)).map (A.S d x))
      omega
theorem joinedW_ok (A:Ask) (R:Rst) (hm16:R.m≤16) (k:Nat) (d:Rid) (h0:0≤d.a+d.b) (hk:d.a+d.b+(k+1:Nat)=R.m):∃ tl:Tail,tl.isOwn=false∧Fn P0 173 [.fn (.func 122) [] [],.sl .no ((stepsW A R k d (nextX R d 0).length).map wV)] (.sl tl (VW A R d)):=by
  rw [VW_at hk]
  have hall:stepsW A R k d (nextX R d 0).length=(if R.brk d 0=0 then (few A R k (d.then 0)).map (A.S d 0) else none).toList++(if R.brk d 1=0 then (few A R k (d.then 1)).map (A.S d 1) else none).toList:=by
    simp only [stepsW,List.take_length,nextX]
    split<;>split<;>simp
  rw [hall]
  simp only [few]
  cases ha:(if R.brk d 0=0 then (few A R k (d.then 0)).map (A.S d 0) else none) with
  | none=>exact ⟨.no,rfl,f173a .no rfl _ (by have:=opt_len (if R.brk d 1=0 then (few A R k (d.then 1)).map (A.S d 1) else none);simp only [Option.toList_none,List.nil_append];omega)⟩
  | some a =>
    cases hb:(if R.brk d 1=0 then (few A R k (d.then 1)).map (A.S d 1) else none) with
    | none=>exact ⟨.no,rfl,f173a .no rfl [a] (by simp)⟩
    | some b=>exact ⟨.ex,rfl,f173b .no rfl a b⟩
abbrev capsW (A:Ask) (R:Rst):List PV:=[.fp (.agg R.cells),.fp (.agg A.q),.fp (.mp 1),.ptr 3 0]
abbrev cloW (A:Ask) (R:Rst):PBlk:=.cells [.fn (.func 172) [] (capsW A R)]
theorem f172z (A:Ask) (hA:A.ok) (R:Rst) (hR:R.ok) (i:Nat) (d:Rid) (es:List (AV×PV×Nat)) (clock:Nat) (hd:d.ok i) (hi:i≤16) (hk:d.a+d.b=R.m) (hm:MemoV (VW A R) es) :
    PCall P0 172 (.agg d.cells::capsW A R) (HE 4 [(1,some (.map es clock)),(3,some (cloW A R))]) (fun v h'=>∃ es' clock',h'=HE 4 [(1,some (.map es' clock')),(3,some (cloW A R))]∧(MemoV (VW A R) es'∧∃ tl:Tail,tl.isOwn=false∧v=.sl tl (VW A R d))) fun _ _=>False:=by
  obtain ⟨⟨hd1,hd2⟩,⟨hd3,hd4⟩,hd5,hd6⟩:=hd
  refine PCall.ofH (C:=c172) (cx_ok _ _ _) rfl (fn:=Tryz.f172) (by kernel_rfl) (c:=_) rfl rfl rfl (fun hok=>?_)
  refine Run.seq (Run.region (cx_ok _ _ _) (Reg.op rfl (Ope.boxF rfl rfl ?_)))
  refine Reg.op rfl (Ope.asg rfl ?_)
  refine Reg.nil (Run.seq (Run.seq (Run.draw (cx_ok _ _ _) [(0,true),(2,true),(3,true),(4,false),(1,true),(5,true)] (by kernel_rfl) (Dra.op' rfl rfl rfl .sure (Ope.load rfl rfl ?_)))))
  refine Dra.op' rfl rfl rfl .sure (Ope.fld rfl rfl ?_)
  refine Dra.op' rfl rfl rfl .sure (Ope.fld rfl rfl ?_)
  refine Dra.op' rfl rfl rfl (.load rfl) (Ope.load rfl rfl ?_)
  refine Dra.op' rfl rfl rfl .sure (Ope.cf rfl rfl (f164 _ _ _ _ (by omega) (by omega)) rfl ?_)
  refine Dra.op' rfl rfl rfl .sure (Ope.eq rfl rfl ?_)
  refine Dra.nil (Run.condX rfl (fun hc=>?_) fun hc=>?_)
  ·refine Run.seq (Run.region (cx_ok _ _ _) (Reg.op rfl (Ope.fld rfl rfl ?_)))
   refine Reg.op rfl (Ope.load rfl rfl ?_)
   refine Reg.op rfl (Ope.load rfl rfl ?_)
   refine Reg.op rfl (Ope.cf rfl rfl (hA.e d ⟨⟨hd1,by omega⟩,⟨hd3,by omega⟩,hd5,by omega⟩) rfl ?_)
   refine Reg.op rfl (Ope.bsl rfl rfl rfl rfl ?_)
   refine Reg.op rfl (Ope.asg rfl ?_)
   exact Reg.nil (Run.ret (Jmp.code (finC_ret (.tmp rfl .nil) (show PV.bds 4 ([A.E d].map wV)=true from bds_wV 4 _) (by rw [HE_cut4 rfl rfl rfl rfl];exact ok4 (MemoV.bd (VW_bd A R) hm) rfl) ⟨es,clock,HE_cut4 rfl rfl rfl rfl,hm,.ex,rfl,by rw [VW_at (k:=0) (by simpa using hk)];rfl⟩)))
  ·exfalso;omega
theorem f172s (A : Ask) (hA : A.ok) (R : Rst) (hR : R.ok) (k i : Nat)
    (ih:∀ (d:Rid) (es:List (AV×PV×Nat)) (clock:Nat),d.ok (i+1)→d.a+d.b+k=R.m→MemoV (VW A R) es→PCall P0 172 (.agg d.cells::capsW A R) (HE 4 [(1,some (.map es clock)),(3,some (cloW A R))]) (fun v h'=>∃ es' clock',h'=HE 4 [(1,some (.map es' clock')),(3,some (cloW A R))]∧(MemoV (VW A R) es'∧∃ tl:Tail,tl.isOwn=false∧v=.sl tl (VW A R d))) fun _ _=>False)
    (d:Rid) (es:List (AV×PV×Nat)) (clock:Nat) (hd:d.ok i) (hi:i+(k+1)≤16) (hk:d.a+d.b+(k+1:Nat)=R.m) (hm:MemoV (VW A R) es) :
    PCall P0 172 (.agg d.cells::capsW A R) (HE 4 [(1,some (.map es clock)),(3,some (cloW A R))]) (fun v h'=>∃ es' clock',h'=HE 4 [(1,some (.map es' clock')),(3,some (cloW A R))]∧(MemoV (VW A R) es'∧∃ tl:Tail,tl.isOwn=false∧v=.sl tl (VW A R d))) fun _ _=>False:=by
  have hdo:=hd
  obtain ⟨⟨hd1,hd2⟩,⟨hd3,hd4⟩,hd5,hd6⟩:=hd
  have hm16:=hR.1
  have hd16:d.ok 16:=⟨⟨hd1,by omega⟩,⟨hd3,by omega⟩,hd5,by omega⟩
  refine PCall.ofH (C:=c172) (cx_ok _ _ _) rfl (fn:=Tryz.f172) (by kernel_rfl) (c:=_) rfl rfl rfl (fun hok=>?_)
  refine Run.seq (Run.region (cx_ok _ _ _) (Reg.op rfl (Ope.boxF rfl rfl ?_)))
  refine Reg.op rfl (Ope.asg rfl ?_)
  refine Reg.nil (Run.seq (Run.seq (Run.draw (cx_ok _ _ _) [(0,true),(2,true),(3,true),(4,false),(1,true),(5,true)] (by kernel_rfl) (Dra.op' rfl rfl rfl .sure (Ope.load rfl rfl ?_)))))
  refine Dra.op' rfl rfl rfl .sure (Ope.fld rfl rfl ?_)
  refine Dra.op' rfl rfl rfl .sure (Ope.fld rfl rfl ?_)
  refine Dra.op' rfl rfl rfl (.load rfl) (Ope.load rfl rfl ?_)
  refine Dra.op' rfl rfl rfl .sure (Ope.cf rfl rfl (f164 _ _ _ _ (by omega) (by omega)) rfl ?_)
  refine Dra.op' rfl rfl rfl .sure (Ope.eq rfl rfl ?_)
  refine Dra.nil (Run.condX rfl (fun hc=>?_) fun hc=>?_)
  ·exfalso;omega
  ·refine Run.skip (Run.seq (Run.seq ?_))
   obtain ⟨r,hr1,hr2⟩:=MemoV.find d es 0 hm
   refine Run.region (cx_ok _ _ _) (Reg.op rfl (Ope.load rfl rfl ?_))
   refine Reg.op rfl (Ope.load rfl rfl ?_)
   rcases r with _ | ⟨jj,vv⟩
   all_goals refine Reg.op rfl (Ope.look rfl rfl (keyA_of d) rfl (keyA_check d) hr1 ?_)
   ·refine Reg.op rfl (Ope.mov rfl ?_)
    refine Reg.op rfl (Ope.ext rfl rfl ?_)
    refine Reg.op rfl (Ope.ext rfl rfl ?_)
    refine Reg.op rfl (Ope.asg rfl ?_)
    refine Reg.op rfl (Ope.asg rfl ?_)
    refine Reg.nil (Run.seq (Run.region (cx_ok _ _ _) (Reg.op rfl (Ope.mov rfl ?_))))
    refine Reg.nil (Run.condX rfl (fun hc=>?_) fun hc=>?_)
    ·(cases hc;done)
    ·refine Run.skip (Run.seq (Run.region (cx_ok _ _ _) (Reg.op rfl (Ope.newL rfl ?_))))
     refine Reg.nil (Run.seq (Run.seq (Run.region (cx_ok _ _ _) (Reg.op rfl (Ope.load rfl rfl ?_)))))
     refine Reg.op rfl (Ope.load rfl rfl ?_)
     refine Reg.op rfl (Ope.cf rfl rfl (f166 R d) rfl ?_)
     refine Reg.nil (Run.block ?_)
     refine Run.rangeF (cx_ok _ _ _) rfl (α:=List (AV×PV×Nat)×Nat×List (Int×List Int)×Option Nat) (fun s=>(4,some (.cells [.sl (tlP s.2.2.2) (s.2.2.1.map wV)]))::(ownP s.2.2.2++[(1,some (.map s.1 s.2.1)),(0,none),(2,none),(3,some (cloW A R))])) (fun s=>nxP s.2.2.2) (fun q s=>MemoV (VW A R) s.1∧s.2.2.1=stepsW A R k d q∧(s.2.2.2=none↔s.2.2.1=[])) rfl (f192 R hR d hd16 (by omega)) rfl rfl ⟨Tryz.f172,by kernel_rfl⟩ (es,clock,[],none) ⟨hm,by simp [stepsW],by simp⟩ (Hsub.cons rfl (Hsub.cons rfl (Hsub.cons rfl (Hsub.cons rfl (Hsub.cons rfl Hsub.nil))))) (by rintro ⟨_,_,_,_ | j⟩ p hp<;>simp [ownP] at hp<;>rcases hp with rfl | rfl | rfl | rfl | rfl | rfl<;>simp) (by intro p hp;simp [ownP] at hp;rcases hp with rfl | rfl | rfl | rfl | rfl<;>simp) (by simp [nxP]) (fun q s v hv hI m hm1 hm2 lb=>?_) (fun s hI m hm1 hm2=>?_)
     ·obtain ⟨es1,clock1,st,ow⟩:=s
      obtain ⟨hI1,hI2,hI3⟩:=hI
      simp only at hm1 hI1 hI2 hI3
      obtain ⟨μ,rfl⟩:∃ μ,m=μ+7:=⟨m - 7,by omega⟩
      obtain ⟨x,hx,rfl⟩:∃ x,(nextX R d 0)[q]?=some x∧v=rideV d x:=by
        rw [List.getElem?_map] at hv
        cases hq:(nextX R d 0)[q]? with
        | none=>rw [hq] at hv;cases hv
        | some x=>rw [hq] at hv;cases hv;exact ⟨x,rfl,rfl⟩
      obtain ⟨hx01,hbx⟩:=nextX_mem (List.mem_of_getElem? hx)
      have hq2:q < 2:=by
        have:=(List.getElem?_eq_some_iff.1 hx).1
        have:=nextX_len R d
        omega
      have hst:st.length≤q:=by rw [hI2];exact stepsW_len A R k d q
      have hsucc:=stepsW_succ (A:=A) (k:=k) hx
      have ihx:=ih (d.then x) es1 clock1 (Rid.ok_then hdo) (by rcases hx01 with rfl | rfl<;>simp [Rid.then]<;>omega) hI1
      show Run _ _ _ _ _ [] (HE (μ+7) ((6,some lb)::(5,some .dfr)::(4,some (.cells [.sl (tlP ow) (st.map wV)]))::(ownP ow++[(1,some (.map es1 clock1)),(0,none),(2,none),(3,some (cloW A R))])))
      rcases hcn:few A R k (d.then x) with _ | b<;>rcases ow with _ | j<;>(have hVx:VW A R (d.then x)=_:=VW_at (k:=k) (by rcases hx01 with rfl | rfl<;>simp [Rid.then]<;>omega) (by rcases hx01 with rfl | rfl<;>simp [Rid.then]<;>omega))<;>rw [hVx,hcn] at ihx<;>rw [hcn] at hsucc<;>simp only [nxP] at hm1<;>first | (obtain rfl:st=[]:=hI3.1 rfl) | skip
      ·refine Run.region (Cx.Ok.rnd (cx_ok _ _ _)) (Reg.op rfl (Ope.newL rfl ?_))
       refine Reg.op0 (Ope.store rfl rfl hget_hd rfl rfl rfl ?_)
       refine Reg.nil (Run.done ⟨rfl,rfl,_,_,rfl,(hget_tl (by omega)).trans ((hget_tl (by omega)).trans hget_hd),fun lb2=>?_⟩)
       refine Run.block (Run.seq (Run.frz (d:=10) true rfl ((hget_tl (by omega)).trans hget_hd) rfl ?_))
       refine Run.wideS (m:=μ+8) (Nat.le_refl _) (hs_round6 (by omega) (by rfl) (by repeat (first | rfl | refine (hget_tl (by omega)).trans ?_))) ?_
       refine Run.region (Cx.Ok.rnd (cx_ok _ _ _)) (Reg.op rfl (Ope.loadH rfl rfl rfl ?_))
       refine Reg.op rfl (Ope.fld rfl rfl ?_)
       refine Reg.op rfl (Ope.load rfl rfl ?_)
       refine Reg.op rfl (Ope.callM4 (clo:=cloW A R) rfl rfl rfl rfl rfl rfl (by omega) rfl (MemoV.bd (VW_bd A R) hI1) rfl ihx (fun v es2 clock2 hq=>?_))
       obtain ⟨hq1,tl,htl,rfl⟩:=hq
       first
         | refine Reg.op rfl (Ope.len (m:=0) rfl rfl ?_)
         | refine Reg.op rfl (Ope.len (m:=1) rfl rfl ?_)
       refine Reg.op rfl (Ope.mov rfl ?_)
       refine Reg.nil (Run.block ?_)
       first
         | refine Run.loop (α:=Nat) (fun z=>[(2,.fp (.agg A.q)),(9,.ptr 4 0),(10,.fp (rideV d x)),(39,.sl tl []),(40,I ((0:Nat):Int)),(41,I z)]) (Function.const Nat _) (fun z=>z=0) (fun _=>0) 0 ⟨rfl,rfl,rfl,rfl,rfl,rfl,trivial⟩ rfl rfl (fun z hz=>?_)
         | refine Run.loop (α:=Nat) (fun z=>[(2,.fp (.agg A.q)),(9,.ptr 4 0),(10,.fp (rideV d x)),(39,.sl tl [wV b]),(40,I ((1:Nat):Int)),(41,I z)]) (pick2 _ (HE (μ+10) [(4,some (.cells [.sl (.own (μ+9)) ((st++[A.S d x b]).map wV)])),(μ+9,some .own),(1,some (.map es2 clock2)),(6,some lb2),(5,some .dfr),(0,none),(2,none),(3,some (cloW A R))])) (fun z=>z≤1) (fun z=>1 - z) 0 ⟨rfl,rfl,rfl,rfl,rfl,rfl,trivial⟩ rfl (by decide) (fun z hz=>?_)
         | refine Run.loop (α:=Nat) (fun z=>[(2,.fp (.agg A.q)),(9,.ptr 4 0),(10,.fp (rideV d x)),(39,.sl tl [wV b]),(40,I ((1:Nat):Int)),(41,I z)]) (pick2 _ (HE (μ+10) [(4,some (.cells [.sl (.own (μ+9)) (([]++[A.S d x b]).map wV)])),(μ+9,some .own),(1,some (.map es2 clock2)),(6,some lb2),(5,some .dfr),(0,none),(2,none),(3,some (cloW A R))])) (fun z=>z≤1) (fun z=>1 - z) 0 ⟨rfl,rfl,rfl,rfl,rfl,rfl,trivial⟩ rfl (by decide) (fun z hz=>?_)
       rcases (by omega:z=0∨z=1) with rfl | rfl
       ·refine Run.seq (Run.region (Cx.Ok.rnd (cx_ok _ _ _)) (Reg.op rfl (Ope.lt rfl rfl ?_)))
        refine Reg.nil (Run.seq (Run.condX rfl (fun hc=>?_) fun hc=>?_))
        ·(exfalso;omega)
        ·refine Run.exit (Jmp.code (Jmp.round (Jmp.here (Run.bend ?_))))
         first
           | exact Run.done ⟨rfl,_,_,rfl,by omega,rfl,(es2,clock2,[],none),by show 7≤_;omega,(Hsub.cons rfl (Hsub.cons rfl (Hsub.cons rfl (Hsub.cons rfl (Hsub.cons rfl (Hsub.cons rfl Hsub.nil)))))),hq1,by rw [hsucc,← hI2];rfl,by simp⟩
           | exact Run.done ⟨rfl,_,_,rfl,by omega,rfl,(es2,clock2,st,some j),by show j+8≤_;omega,(Hsub.cons rfl (Hsub.cons rfl (Hsub.cons ((hget_tl (by omega)).trans ((hget_tl (by omega)).trans ((hget_tl (by omega)).trans ((hget_tl (by omega)).trans hget_hd)))) (Hsub.cons rfl (Hsub.cons rfl (Hsub.cons rfl (Hsub.cons rfl Hsub.nil))))))),hq1,by rw [hsucc,← hI2];exact (List.append_nil st).symm,hI3⟩
           | exact Run.done ⟨rfl,_,_,rfl,by omega,rfl,(es2,clock2,[]++[A.S d x b],some (μ+2)),by show μ+2+8≤μ+10;omega,(Hsub.cons rfl (Hsub.cons rfl (Hsub.cons ((hget_tl (by omega)).trans hget_hd) (Hsub.cons rfl (Hsub.cons rfl (Hsub.cons rfl (Hsub.cons rfl Hsub.nil))))))),hq1,by rw [hsucc,← hI2];rfl,by simp⟩
           | exact Run.done ⟨rfl,_,_,rfl,by omega,rfl,(es2,clock2,st++[A.S d x b],some (μ+2)),by show μ+2+8≤μ+10;omega,(Hsub.cons rfl (Hsub.cons rfl (Hsub.cons ((hget_tl (by omega)).trans hget_hd) (Hsub.cons rfl (Hsub.cons rfl (Hsub.cons rfl (Hsub.cons rfl Hsub.nil))))))),hq1,by rw [hsucc,← hI2];rfl,by simp⟩
       ·refine Run.seq (Run.region (Cx.Ok.rnd (cx_ok _ _ _)) (Reg.op rfl (Ope.lt rfl rfl ?_)))
        refine Reg.nil (Run.seq (Run.condX rfl (fun hc=>?_) fun hc=>?_))
        ·(exfalso;omega)
        ·(exfalso;omega)
      ·refine Run.region (Cx.Ok.rnd (cx_ok _ _ _)) (Reg.op rfl (Ope.newL rfl ?_))
       refine Reg.op0 (Ope.store rfl rfl hget_hd rfl rfl rfl ?_)
       refine Reg.nil (Run.done ⟨rfl,rfl,_,_,rfl,(hget_tl (by omega)).trans ((hget_tl (by omega)).trans hget_hd),fun lb2=>?_⟩)
       refine Run.block (Run.seq (Run.frz (d:=10) true rfl ((hget_tl (by omega)).trans hget_hd) rfl ?_))
       refine Run.wideS (m:=μ+8) (Nat.le_refl _) (hs_round6 (by omega) (by rfl) (by repeat (first | rfl | refine (hget_tl (by omega)).trans ?_))) ?_
       refine Run.region (Cx.Ok.rnd (cx_ok _ _ _)) (Reg.op rfl (Ope.loadH rfl rfl rfl ?_))
       refine Reg.op rfl (Ope.fld rfl rfl ?_)
       refine Reg.op rfl (Ope.load rfl rfl ?_)
       refine Reg.op rfl (Ope.callM4 (clo:=cloW A R) rfl rfl rfl rfl rfl rfl (by omega) rfl (MemoV.bd (VW_bd A R) hI1) rfl ihx (fun v es2 clock2 hq=>?_))
       obtain ⟨hq1,tl,htl,rfl⟩:=hq
       first
         | refine Reg.op rfl (Ope.len (m:=0) rfl rfl ?_)
         | refine Reg.op rfl (Ope.len (m:=1) rfl rfl ?_)
       refine Reg.op rfl (Ope.mov rfl ?_)
       refine Reg.nil (Run.block ?_)
       first
         | refine Run.loop (α:=Nat) (fun z=>[(2,.fp (.agg A.q)),(9,.ptr 4 0),(10,.fp (rideV d x)),(39,.sl tl []),(40,I ((0:Nat):Int)),(41,I z)]) (Function.const Nat _) (fun z=>z=0) (fun _=>0) 0 ⟨rfl,rfl,rfl,rfl,rfl,rfl,trivial⟩ rfl rfl (fun z hz=>?_)
         | refine Run.loop (α:=Nat) (fun z=>[(2,.fp (.agg A.q)),(9,.ptr 4 0),(10,.fp (rideV d x)),(39,.sl tl [wV b]),(40,I ((1:Nat):Int)),(41,I z)]) (pick2 _ (HE (μ+10) [(4,some (.cells [.sl (.own (μ+9)) ((st++[A.S d x b]).map wV)])),(μ+9,some .own),(1,some (.map es2 clock2)),(6,some lb2),(5,some .dfr),(0,none),(2,none),(3,some (cloW A R))])) (fun z=>z≤1) (fun z=>1 - z) 0 ⟨rfl,rfl,rfl,rfl,rfl,rfl,trivial⟩ rfl (by decide) (fun z hz=>?_)
         | refine Run.loop (α:=Nat) (fun z=>[(2,.fp (.agg A.q)),(9,.ptr 4 0),(10,.fp (rideV d x)),(39,.sl tl [wV b]),(40,I ((1:Nat):Int)),(41,I z)]) (pick2 _ (HE (μ+10) [(4,some (.cells [.sl (.own (μ+9)) (([]++[A.S d x b]).map wV)])),(μ+9,some .own),(1,some (.map es2 clock2)),(6,some lb2),(5,some .dfr),(0,none),(2,none),(3,some (cloW A R))])) (fun z=>z≤1) (fun z=>1 - z) 0 ⟨rfl,rfl,rfl,rfl,rfl,rfl,trivial⟩ rfl (by decide) (fun z hz=>?_)
       rcases (by omega:z=0∨z=1) with rfl | rfl
       ·refine Run.seq (Run.region (Cx.Ok.rnd (cx_ok _ _ _)) (Reg.op rfl (Ope.lt rfl rfl ?_)))
        refine Reg.nil (Run.seq (Run.condX rfl (fun hc=>?_) fun hc=>?_))
        ·(exfalso;omega)
        ·refine Run.exit (Jmp.code (Jmp.round (Jmp.here (Run.bend ?_))))
         first
           | exact Run.done ⟨rfl,_,_,rfl,by omega,rfl,(es2,clock2,[],none),by show 7≤_;omega,(Hsub.cons rfl (Hsub.cons rfl (Hsub.cons rfl (Hsub.cons rfl (Hsub.cons rfl (Hsub.cons rfl Hsub.nil)))))),hq1,by rw [hsucc,← hI2];rfl,by simp⟩
           | exact Run.done ⟨rfl,_,_,rfl,by omega,rfl,(es2,clock2,st,some j),by show j+8≤_;omega,(Hsub.cons rfl (Hsub.cons rfl (Hsub.cons ((hget_tl (by omega)).trans ((hget_tl (by omega)).trans ((hget_tl (by omega)).trans ((hget_tl (by omega)).trans hget_hd)))) (Hsub.cons rfl (Hsub.cons rfl (Hsub.cons rfl (Hsub.cons rfl Hsub.nil))))))),hq1,by rw [hsucc,← hI2];exact (List.append_nil st).symm,hI3⟩
           | exact Run.done ⟨rfl,_,_,rfl,by omega,rfl,(es2,clock2,[]++[A.S d x b],some (μ+2)),by show μ+2+8≤μ+10;omega,(Hsub.cons rfl (Hsub.cons rfl (Hsub.cons ((hget_tl (by omega)).trans hget_hd) (Hsub.cons rfl (Hsub.cons rfl (Hsub.cons rfl (Hsub.cons rfl Hsub.nil))))))),hq1,by rw [hsucc,← hI2];rfl,by simp⟩
           | exact Run.done ⟨rfl,_,_,rfl,by omega,rfl,(es2,clock2,st++[A.S d x b],some (μ+2)),by show μ+2+8≤μ+10;omega,(Hsub.cons rfl (Hsub.cons rfl (Hsub.cons ((hget_tl (by omega)).trans hget_hd) (Hsub.cons rfl (Hsub.cons rfl (Hsub.cons rfl (Hsub.cons rfl Hsub.nil))))))),hq1,by rw [hsucc,← hI2];rfl,by simp⟩
       ·refine Run.seq (Run.region (Cx.Ok.rnd (cx_ok _ _ _)) (Reg.op rfl (Ope.lt rfl rfl ?_)))
        refine Reg.nil (Run.seq (Run.condX rfl (fun hc=>?_) fun hc=>?_))
        ·(exfalso;omega)
        ·(exfalso;omega)
      ·refine Run.region (Cx.Ok.rnd (cx_ok _ _ _)) (Reg.op rfl (Ope.newL rfl ?_))
       refine Reg.op0 (Ope.store rfl rfl hget_hd rfl rfl rfl ?_)
       refine Reg.nil (Run.done ⟨rfl,rfl,_,_,rfl,(hget_tl (by omega)).trans ((hget_tl (by omega)).trans hget_hd),fun lb2=>?_⟩)
       refine Run.block (Run.seq (Run.frz (d:=10) true rfl ((hget_tl (by omega)).trans hget_hd) rfl ?_))
       refine Run.wideS (m:=μ+8) (Nat.le_refl _) (hs_round6 (by omega) (by rfl) (by repeat (first | rfl | refine (hget_tl (by omega)).trans ?_))) ?_
       refine Run.region (Cx.Ok.rnd (cx_ok _ _ _)) (Reg.op rfl (Ope.loadH rfl rfl rfl ?_))
       refine Reg.op rfl (Ope.fld rfl rfl ?_)
       refine Reg.op rfl (Ope.load rfl rfl ?_)
       refine Reg.op rfl (Ope.callM4 (clo:=cloW A R) rfl rfl rfl rfl rfl rfl (by omega) rfl (MemoV.bd (VW_bd A R) hI1) rfl ihx (fun v es2 clock2 hq=>?_))
       obtain ⟨hq1,tl,htl,rfl⟩:=hq
       first
         | refine Reg.op rfl (Ope.len (m:=0) rfl rfl ?_)
         | refine Reg.op rfl (Ope.len (m:=1) rfl rfl ?_)
       refine Reg.op rfl (Ope.mov rfl ?_)
       refine Reg.nil (Run.block ?_)
       first
         | refine Run.loop (α:=Nat) (fun z=>[(2,.fp (.agg A.q)),(9,.ptr 4 0),(10,.fp (rideV d x)),(39,.sl tl []),(40,I ((0:Nat):Int)),(41,I z)]) (Function.const Nat _) (fun z=>z=0) (fun _=>0) 0 ⟨rfl,rfl,rfl,rfl,rfl,rfl,trivial⟩ rfl rfl (fun z hz=>?_)
         | refine Run.loop (α:=Nat) (fun z=>[(2,.fp (.agg A.q)),(9,.ptr 4 0),(10,.fp (rideV d x)),(39,.sl tl [wV b]),(40,I ((1:Nat):Int)),(41,I z)]) (pick2 _ (HE (μ+10) [(4,some (.cells [.sl (.own (μ+9)) ((st++[A.S d x b]).map wV)])),(μ+9,some .own),(1,some (.map es2 clock2)),(6,some lb2),(5,some .dfr),(0,none),(2,none),(3,some (cloW A R))])) (fun z=>z≤1) (fun z=>1 - z) 0 ⟨rfl,rfl,rfl,rfl,rfl,rfl,trivial⟩ rfl (by decide) (fun z hz=>?_)
         | refine Run.loop (α:=Nat) (fun z=>[(2,.fp (.agg A.q)),(9,.ptr 4 0),(10,.fp (rideV d x)),(39,.sl tl [wV b]),(40,I ((1:Nat):Int)),(41,I z)]) (pick2 _ (HE (μ+10) [(4,some (.cells [.sl (.own (μ+9)) (([]++[A.S d x b]).map wV)])),(μ+9,some .own),(1,some (.map es2 clock2)),(6,some lb2),(5,some .dfr),(0,none),(2,none),(3,some (cloW A R))])) (fun z=>z≤1) (fun z=>1 - z) 0 ⟨rfl,rfl,rfl,rfl,rfl,rfl,trivial⟩ rfl (by decide) (fun z hz=>?_)
       rcases (by omega:z=0∨z=1) with rfl | rfl
       ·refine Run.seq (Run.region (Cx.Ok.rnd (cx_ok _ _ _)) (Reg.op rfl (Ope.lt rfl rfl ?_)))
        refine Reg.nil (Run.seq (Run.condX rfl (fun hc=>?_) fun hc=>?_))
        ·refine Run.skip (Run.seq (Run.block (Run.seq (Run.region (Cx.Ok.rnd (cx_ok _ _ _)) (Reg.op rfl (Ope.idxS (m:=0) rfl rfl rfl rfl rfl ?_))))))
         refine Reg.op rfl (Ope.load rfl rfl ?_)
         refine Reg.op rfl (Ope.newL rfl ?_)
         refine Reg.op0 (Ope.store rfl rfl hget_hd rfl rfl rfl ?_)
         refine Reg.nil (Run.frz (d:=12) true rfl hget_hd rfl ?_)
         have hb:=few_bnd hA R k (i+1) (d.then x) b (Rid.ok_then hdo) (by omega) hcn
         refine Run.drawB (Cx.Ok.rnd (cx_ok _ _ _)) 4 [(0,false,false),(1,true,false),(2,true,false),(3,true,false),(4,true,false),(5,true,true),(6,true,false),(7,true,false),(8,true,false)] (by kernel_rfl) (DraS.opR rfl rfl rfl rfl (StabS.at rfl) (Ope.loadH rfl rfl rfl ?_))
         refine DraS.opQ rfl rfl rfl (Ope.fld rfl rfl ?_)
         refine DraS.opQ rfl rfl rfl (Ope.load rfl rfl ?_)
         refine DraS.opQ rfl rfl rfl (Ope.load rfl rfl ?_)
         refine DraS.opQ rfl rfl rfl (Ope.load rfl rfl ?_)
         refine DraS.opS rfl rfl rfl (Ope.cf rfl rfl (hA.s d x b k hd16 hx01 hb (by omega)) (by show (PV.bd 0 (rideV d x) && (PV.bd 0 (wV b) && true))=true;rw [wV_bd];rfl) ?_)
         refine ⟨rfl,?_⟩
         refine DraS.opQ rfl rfl rfl (Ope.bsl rfl rfl rfl rfl ?_)
         first
           | refine DraS.opQ rfl rfl rfl (Ope.apO rfl rfl (by simp) (by simp) (by simp) (by decide) (by simp) (by intro v hv;simp only [List.mem_singleton] at hv;subst hv;exact ⟨rfl,rfl⟩) ?_)
           | refine DraS.opQ rfl rfl rfl (Ope.apP (j:=j+7) rfl rfl (by simp) (by simpa using fun h=>absurd (hI3.2 h) (by simp)) (by repeat (first | exact hget_hd | refine (hget_tl (by omega)).trans ?_)) (by simp;omega) (by simp;omega) (by decide) (by intro v hv;obtain ⟨_,_,rfl⟩:=List.mem_map.1 hv;rfl) (by intro v hv;simp only [List.mem_singleton] at hv;subst hv;exact ⟨rfl,rfl⟩) ?_)
         refine DraS.opQ rfl rfl rfl (Ope.store rfl rfl ((hget_tl (by omega)).trans (by first | rfl | exact (hget_tl (by omega)).trans rfl)) rfl rfl rfl ?_)
         refine DraS.nil (Run.bend ?_)
         first
           | refine Run.wide (m:=μ+10) (l':=[(4,some (.cells [.sl (.own (μ+9)) (([]++[A.S d x b]).map wV)])),(μ+9,some .own),(1,some (.map es2 clock2)),(6,some lb2),(5,some .dfr),(0,none),(2,none),(3,some (cloW A R))]) (Nat.le_refl _) (Hsub.cons rfl (Hsub.cons ((hget_tl (by omega)).trans hget_hd) (Hsub.cons rfl (Hsub.cons rfl (Hsub.cons rfl (Hsub.cons rfl (Hsub.cons rfl (Hsub.cons rfl Hsub.nil)))))))) ?_
           | refine Run.wide (m:=μ+10) (l':=[(4,some (.cells [.sl (.own (μ+9)) ((st++[A.S d x b]).map wV)])),(μ+9,some .own),(1,some (.map es2 clock2)),(6,some lb2),(5,some .dfr),(0,none),(2,none),(3,some (cloW A R))]) (Nat.le_refl _) (Hsub.cons (by rw [List.map_append];rfl) (Hsub.cons ((hget_tl (by omega)).trans hget_hd) (Hsub.cons rfl (Hsub.cons rfl (Hsub.cons rfl (Hsub.cons rfl (Hsub.cons rfl (Hsub.cons rfl Hsub.nil)))))))) ?_
         refine Run.region (Cx.Ok.rnd (cx_ok _ _ _)) (Reg.op rfl (Ope.add rfl rfl (by omega) ?_))
         refine Reg.op rfl (Ope.mov rfl ?_)
         exact Reg.nil (Run.lend ⟨1,by decide,by decide,⟨rfl,rfl,rfl,rfl,rfl,rfl,trivial⟩,rfl,rfl⟩)
        ·(exfalso;omega)
       ·refine Run.seq (Run.region (Cx.Ok.rnd (cx_ok _ _ _)) (Reg.op rfl (Ope.lt rfl rfl ?_)))
        refine Reg.nil (Run.seq (Run.condX rfl (fun hc=>?_) fun hc=>?_))
        ·(exfalso;omega)
        ·refine Run.exit (Jmp.code (Jmp.round (Jmp.here (Run.bend ?_))))
         first
           | exact Run.done ⟨rfl,_,_,rfl,by omega,rfl,(es2,clock2,[],none),by show 7≤_;omega,(Hsub.cons rfl (Hsub.cons rfl (Hsub.cons rfl (Hsub.cons rfl (Hsub.cons rfl (Hsub.cons rfl Hsub.nil)))))),hq1,by rw [hsucc,← hI2];rfl,by simp⟩
           | exact Run.done ⟨rfl,_,_,rfl,by omega,rfl,(es2,clock2,st,some j),by show j+8≤_;omega,(Hsub.cons rfl (Hsub.cons rfl (Hsub.cons ((hget_tl (by omega)).trans ((hget_tl (by omega)).trans ((hget_tl (by omega)).trans ((hget_tl (by omega)).trans hget_hd)))) (Hsub.cons rfl (Hsub.cons rfl (Hsub.cons rfl (Hsub.cons rfl Hsub.nil))))))),hq1,by rw [hsucc,← hI2];exact (List.append_nil st).symm,hI3⟩
           | exact Run.done ⟨rfl,_,_,rfl,by omega,rfl,(es2,clock2,[]++[A.S d x b],some (μ+2)),by show μ+2+8≤μ+10;omega,(Hsub.cons rfl (Hsub.cons rfl (Hsub.cons ((hget_tl (by omega)).trans hget_hd) (Hsub.cons rfl (Hsub.cons rfl (Hsub.cons rfl (Hsub.cons rfl Hsub.nil))))))),hq1,by rw [hsucc,← hI2];rfl,by simp⟩
           | exact Run.done ⟨rfl,_,_,rfl,by omega,rfl,(es2,clock2,st++[A.S d x b],some (μ+2)),by show μ+2+8≤μ+10;omega,(Hsub.cons rfl (Hsub.cons rfl (Hsub.cons ((hget_tl (by omega)).trans hget_hd) (Hsub.cons rfl (Hsub.cons rfl (Hsub.cons rfl (Hsub.cons rfl Hsub.nil))))))),hq1,by rw [hsucc,← hI2];rfl,by simp⟩
      ·refine Run.region (Cx.Ok.rnd (cx_ok _ _ _)) (Reg.op rfl (Ope.newL rfl ?_))
       refine Reg.op0 (Ope.store rfl rfl hget_hd rfl rfl rfl ?_)
       refine Reg.nil (Run.done ⟨rfl,rfl,_,_,rfl,(hget_tl (by omega)).trans ((hget_tl (by omega)).trans hget_hd),fun lb2=>?_⟩)
       refine Run.block (Run.seq (Run.frz (d:=10) true rfl ((hget_tl (by omega)).trans hget_hd) rfl ?_))
       refine Run.wideS (m:=μ+8) (Nat.le_refl _) (hs_round6 (by omega) (by rfl) (by repeat (first | rfl | refine (hget_tl (by omega)).trans ?_))) ?_
       refine Run.region (Cx.Ok.rnd (cx_ok _ _ _)) (Reg.op rfl (Ope.loadH rfl rfl rfl ?_))
       refine Reg.op rfl (Ope.fld rfl rfl ?_)
       refine Reg.op rfl (Ope.load rfl rfl ?_)
       refine Reg.op rfl (Ope.callM4 (clo:=cloW A R) rfl rfl rfl rfl rfl rfl (by omega) rfl (MemoV.bd (VW_bd A R) hI1) rfl ihx (fun v es2 clock2 hq=>?_))
       obtain ⟨hq1,tl,htl,rfl⟩:=hq
       first
         | refine Reg.op rfl (Ope.len (m:=0) rfl rfl ?_)
         | refine Reg.op rfl (Ope.len (m:=1) rfl rfl ?_)
       refine Reg.op rfl (Ope.mov rfl ?_)
       refine Reg.nil (Run.block ?_)
       first
         | refine Run.loop (α:=Nat) (fun z=>[(2,.fp (.agg A.q)),(9,.ptr 4 0),(10,.fp (rideV d x)),(39,.sl tl []),(40,I ((0:Nat):Int)),(41,I z)]) (Function.const Nat _) (fun z=>z=0) (fun _=>0) 0 ⟨rfl,rfl,rfl,rfl,rfl,rfl,trivial⟩ rfl rfl (fun z hz=>?_)
         | refine Run.loop (α:=Nat) (fun z=>[(2,.fp (.agg A.q)),(9,.ptr 4 0),(10,.fp (rideV d x)),(39,.sl tl [wV b]),(40,I ((1:Nat):Int)),(41,I z)]) (pick2 _ (HE (μ+10) [(4,some (.cells [.sl (.own (μ+9)) ((st++[A.S d x b]).map wV)])),(μ+9,some .own),(1,some (.map es2 clock2)),(6,some lb2),(5,some .dfr),(0,none),(2,none),(3,some (cloW A R))])) (fun z=>z≤1) (fun z=>1 - z) 0 ⟨rfl,rfl,rfl,rfl,rfl,rfl,trivial⟩ rfl (by decide) (fun z hz=>?_)
         | refine Run.loop (α:=Nat) (fun z=>[(2,.fp (.agg A.q)),(9,.ptr 4 0),(10,.fp (rideV d x)),(39,.sl tl [wV b]),(40,I ((1:Nat):Int)),(41,I z)]) (pick2 _ (HE (μ+10) [(4,some (.cells [.sl (.own (μ+9)) (([]++[A.S d x b]).map wV)])),(μ+9,some .own),(1,some (.map es2 clock2)),(6,some lb2),(5,some .dfr),(0,none),(2,none),(3,some (cloW A R))])) (fun z=>z≤1) (fun z=>1 - z) 0 ⟨rfl,rfl,rfl,rfl,rfl,rfl,trivial⟩ rfl (by decide) (fun z hz=>?_)
       rcases (by omega:z=0∨z=1) with rfl | rfl
       ·refine Run.seq (Run.region (Cx.Ok.rnd (cx_ok _ _ _)) (Reg.op rfl (Ope.lt rfl rfl ?_)))
        refine Reg.nil (Run.seq (Run.condX rfl (fun hc=>?_) fun hc=>?_))
        ·refine Run.skip (Run.seq (Run.block (Run.seq (Run.region (Cx.Ok.rnd (cx_ok _ _ _)) (Reg.op rfl (Ope.idxS (m:=0) rfl rfl rfl rfl rfl ?_))))))
         refine Reg.op rfl (Ope.load rfl rfl ?_)
         refine Reg.op rfl (Ope.newL rfl ?_)
         refine Reg.op0 (Ope.store rfl rfl hget_hd rfl rfl rfl ?_)
         refine Reg.nil (Run.frz (d:=12) true rfl hget_hd rfl ?_)
         have hb:=few_bnd hA R k (i+1) (d.then x) b (Rid.ok_then hdo) (by omega) hcn
         refine Run.drawB (Cx.Ok.rnd (cx_ok _ _ _)) 4 [(0,false,false),(1,true,false),(2,true,false),(3,true,false),(4,true,false),(5,true,true),(6,true,false),(7,true,false),(8,true,false)] (by kernel_rfl) (DraS.opR rfl rfl rfl rfl (StabS.at rfl) (Ope.loadH rfl rfl rfl ?_))
         refine DraS.opQ rfl rfl rfl (Ope.fld rfl rfl ?_)
         refine DraS.opQ rfl rfl rfl (Ope.load rfl rfl ?_)
         refine DraS.opQ rfl rfl rfl (Ope.load rfl rfl ?_)
         refine DraS.opQ rfl rfl rfl (Ope.load rfl rfl ?_)
         refine DraS.opS rfl rfl rfl (Ope.cf rfl rfl (hA.s d x b k hd16 hx01 hb (by omega)) (by show (PV.bd 0 (rideV d x) && (PV.bd 0 (wV b) && true))=true;rw [wV_bd];rfl) ?_)
         refine ⟨rfl,?_⟩
         refine DraS.opQ rfl rfl rfl (Ope.bsl rfl rfl rfl rfl ?_)
         first
           | refine DraS.opQ rfl rfl rfl (Ope.apO rfl rfl (by simp) (by simp) (by simp) (by decide) (by simp) (by intro v hv;simp only [List.mem_singleton] at hv;subst hv;exact ⟨rfl,rfl⟩) ?_)
           | refine DraS.opQ rfl rfl rfl (Ope.apP (j:=j+7) rfl rfl (by simp) (by simpa using fun h=>absurd (hI3.2 h) (by simp)) (by repeat (first | exact hget_hd | refine (hget_tl (by omega)).trans ?_)) (by simp;omega) (by simp;omega) (by decide) (by intro v hv;obtain ⟨_,_,rfl⟩:=List.mem_map.1 hv;rfl) (by intro v hv;simp only [List.mem_singleton] at hv;subst hv;exact ⟨rfl,rfl⟩) ?_)
         refine DraS.opQ rfl rfl rfl (Ope.store rfl rfl ((hget_tl (by omega)).trans (by first | rfl | exact (hget_tl (by omega)).trans rfl)) rfl rfl rfl ?_)
         refine DraS.nil (Run.bend ?_)
         first
           | refine Run.wide (m:=μ+10) (l':=[(4,some (.cells [.sl (.own (μ+9)) (([]++[A.S d x b]).map wV)])),(μ+9,some .own),(1,some (.map es2 clock2)),(6,some lb2),(5,some .dfr),(0,none),(2,none),(3,some (cloW A R))]) (Nat.le_refl _) (Hsub.cons rfl (Hsub.cons ((hget_tl (by omega)).trans hget_hd) (Hsub.cons rfl (Hsub.cons rfl (Hsub.cons rfl (Hsub.cons rfl (Hsub.cons rfl (Hsub.cons rfl Hsub.nil)))))))) ?_
           | refine Run.wide (m:=μ+10) (l':=[(4,some (.cells [.sl (.own (μ+9)) ((st++[A.S d x b]).map wV)])),(μ+9,some .own),(1,some (.map es2 clock2)),(6,some lb2),(5,some .dfr),(0,none),(2,none),(3,some (cloW A R))]) (Nat.le_refl _) (Hsub.cons (by rw [List.map_append];rfl) (Hsub.cons ((hget_tl (by omega)).trans hget_hd) (Hsub.cons rfl (Hsub.cons rfl (Hsub.cons rfl (Hsub.cons rfl (Hsub.cons rfl (Hsub.cons rfl Hsub.nil)))))))) ?_
         refine Run.region (Cx.Ok.rnd (cx_ok _ _ _)) (Reg.op rfl (Ope.add rfl rfl (by omega) ?_))
         refine Reg.op rfl (Ope.mov rfl ?_)
         exact Reg.nil (Run.lend ⟨1,by decide,by decide,⟨rfl,rfl,rfl,rfl,rfl,rfl,trivial⟩,rfl,rfl⟩)
        ·(exfalso;omega)
       ·refine Run.seq (Run.region (Cx.Ok.rnd (cx_ok _ _ _)) (Reg.op rfl (Ope.lt rfl rfl ?_)))
        refine Reg.nil (Run.seq (Run.condX rfl (fun hc=>?_) fun hc=>?_))
        ·(exfalso;omega)
        ·refine Run.exit (Jmp.code (Jmp.round (Jmp.here (Run.bend ?_))))
         first
           | exact Run.done ⟨rfl,_,_,rfl,by omega,rfl,(es2,clock2,[],none),by show 7≤_;omega,(Hsub.cons rfl (Hsub.cons rfl (Hsub.cons rfl (Hsub.cons rfl (Hsub.cons rfl (Hsub.cons rfl Hsub.nil)))))),hq1,by rw [hsucc,← hI2];rfl,by simp⟩
           | exact Run.done ⟨rfl,_,_,rfl,by omega,rfl,(es2,clock2,st,some j),by show j+8≤_;omega,(Hsub.cons rfl (Hsub.cons rfl (Hsub.cons ((hget_tl (by omega)).trans ((hget_tl (by omega)).trans ((hget_tl (by omega)).trans ((hget_tl (by omega)).trans hget_hd)))) (Hsub.cons rfl (Hsub.cons rfl (Hsub.cons rfl (Hsub.cons rfl Hsub.nil))))))),hq1,by rw [hsucc,← hI2];exact (List.append_nil st).symm,hI3⟩
           | exact Run.done ⟨rfl,_,_,rfl,by omega,rfl,(es2,clock2,[]++[A.S d x b],some (μ+2)),by show μ+2+8≤μ+10;omega,(Hsub.cons rfl (Hsub.cons rfl (Hsub.cons ((hget_tl (by omega)).trans hget_hd) (Hsub.cons rfl (Hsub.cons rfl (Hsub.cons rfl (Hsub.cons rfl Hsub.nil))))))),hq1,by rw [hsucc,← hI2];rfl,by simp⟩
           | exact Run.done ⟨rfl,_,_,rfl,by omega,rfl,(es2,clock2,st++[A.S d x b],some (μ+2)),by show μ+2+8≤μ+10;omega,(Hsub.cons rfl (Hsub.cons rfl (Hsub.cons ((hget_tl (by omega)).trans hget_hd) (Hsub.cons rfl (Hsub.cons rfl (Hsub.cons rfl (Hsub.cons rfl Hsub.nil))))))),hq1,by rw [hsucc,← hI2];rfl,by simp⟩
     ·obtain ⟨es1,clock1,st,ow⟩:=s
      obtain ⟨hI1,hI2,hI3⟩:=hI
      simp only at hI1 hI2 hI3
      rw [List.length_map] at hI2
      subst hI2
      obtain ⟨tl,htl,hj⟩:=joinedW_ok A R hm16 k d (by omega) hk
      refine Run.bend (Run.seq ?_)
      refine Run.wideS (m:=m) (l':=[(5,some .dfr),(4,some (.cells [.sl (tlP ow) ((stepsW A R k d (nextX R d 0).length).map wV)])),(1,some (.map es1 clock1)),(0,none),(2,none),(3,some (cloW A R))]) (Nat.le_refl _) (by cases ow with
          | none=>exact hs_refl
          | some j=>exact hs_keep (hs_keep (hs_skip hs_refl rfl))) ?_
      refine Run.weakS (i:=4) rfl ?_
      refine Run.drawS (cx_ok _ _ _) (fun _=>True) [(0,false,false),(1,false,false),(2,true,false),(3,true,false),(4,true,false),(5,true,true),(6,true,false)] (by kernel_rfl) (DraS.opR rfl rfl rfl trivial (StabS.frozen rfl) (Ope.load rfl rfl ?_))
      refine DraS.opR rfl rfl rfl trivial (StabS.frozen rfl) (Ope.load rfl rfl ?_)
      refine DraS.opQ rfl rfl rfl (Ope.fld rfl rfl ?_)
      refine DraS.opQ rfl rfl rfl (Ope.load rfl rfl ?_)
      refine DraS.opQ rfl rfl rfl (Ope.load rfl rfl ?_)
      refine DraS.opS rfl rfl rfl (Ope.cf rfl rfl hj (by simp only [List.nil_append,List.append_nil,PV.bds,bd_sl (f:=wV) (tl:=.no) rfl (wV_bd 0),Bool.and_true];rfl) ?_)
      refine ⟨trivial,?_⟩
      obtain ⟨r,hr3,hr4⟩:=MemoV.find d es1 0 hI1
      refine DraS.opQ rfl rfl rfl (Ope.mset rfl rfl rfl (keyA_of d) rfl (keyA_check d) hr3 (fun j v hjv=>by obtain ⟨_,e,h1,h2,_⟩:=hr4 j v hjv;exact ⟨e,by simpa using h1,by rw [h2];exact keyA_same d⟩) (fun j v hjv=>?_) (fun hnn=>?_))
      ·refine DraS.nil (Run.seq ?_)
       obtain ⟨es3,he3,hmem,hhas⟩:∃ es3,es3=_∧MemoV (VW A R) es3∧∃ e∈es3,e.1=keyA d:=by
         first
           | exact ⟨_,rfl,MemoV.set (j:=j) hI1 htl,psetAt_has (by obtain ⟨_,e,h1,_⟩:=hr4 j v hjv;have:=(List.getElem?_eq_some_iff.1 h1).1;omega)⟩
           | exact ⟨_,rfl,MemoV.app (clock:=clock1) hI1 htl,_,List.mem_append_right _ (List.mem_singleton.2 rfl),rfl⟩
       obtain ⟨jj,vv,hf1,hf2⟩:=MemoV.has d _ 0 hmem hhas
       obtain ⟨tl2,htl2,rfl⟩:=MemoV.val hmem hf2
       rw [he3] at hf1 hmem
       refine Run.region (cx_ok _ _ _) (Reg.op rfl (Ope.load rfl rfl ?_))
       refine Reg.op rfl (Ope.load rfl rfl ?_)
       refine Reg.op rfl (Ope.look rfl rfl (keyA_of d) rfl (keyA_check d) hf1 ?_)
       refine Reg.op rfl (Ope.asg rfl ?_)
       refine Reg.nil (Run.ret ?_)
       first
         | exact finC_retD rfl (.tmp rfl .nil) (VW_bd4 htl2) (by rw [HE_cut4 rfl rfl rfl rfl];exact ok4 (MemoV.bd (VW_bd A R) hmem) rfl) ⟨_,_,HE_cut4 rfl rfl rfl rfl,hmem,tl2,htl2,rfl⟩
         | obtain ⟨_, e0, he1, he2, he3⟩ := hr2 jj vv rfl
           obtain ⟨tl,htl,rfl⟩:=MemoV.val hm ⟨e0,List.mem_of_getElem? he1,he2,he3⟩
           exact finC_ret (.tmp rfl .nil) (VW_bd4 htl) (by rw [HE_cut4 rfl rfl rfl rfl];exact ok4 (MemoV.bd (VW_bd A R) hm) rfl) ⟨es,clock,HE_cut4 rfl rfl rfl rfl,hm,tl,htl,rfl⟩
      ·refine DraS.nil (Run.seq ?_)
       obtain ⟨es3,he3,hmem,hhas⟩:∃ es3,es3=_∧MemoV (VW A R) es3∧∃ e∈es3,e.1=keyA d:=by
         first
           | exact ⟨_,rfl,MemoV.set (j:=j) hI1 htl,psetAt_has (by obtain ⟨_,e,h1,_⟩:=hr4 j v hjv;have:=(List.getElem?_eq_some_iff.1 h1).1;omega)⟩
           | exact ⟨_,rfl,MemoV.app (clock:=clock1) hI1 htl,_,List.mem_append_right _ (List.mem_singleton.2 rfl),rfl⟩
       obtain ⟨jj,vv,hf1,hf2⟩:=MemoV.has d _ 0 hmem hhas
       obtain ⟨tl2,htl2,rfl⟩:=MemoV.val hmem hf2
       rw [he3] at hf1 hmem
       refine Run.region (cx_ok _ _ _) (Reg.op rfl (Ope.load rfl rfl ?_))
       refine Reg.op rfl (Ope.load rfl rfl ?_)
       refine Reg.op rfl (Ope.look rfl rfl (keyA_of d) rfl (keyA_check d) hf1 ?_)
       refine Reg.op rfl (Ope.asg rfl ?_)
       refine Reg.nil (Run.ret ?_)
       first
         | exact finC_retD rfl (.tmp rfl .nil) (VW_bd4 htl2) (by rw [HE_cut4 rfl rfl rfl rfl];exact ok4 (MemoV.bd (VW_bd A R) hmem) rfl) ⟨_,_,HE_cut4 rfl rfl rfl rfl,hmem,tl2,htl2,rfl⟩
         | obtain ⟨_, e0, he1, he2, he3⟩ := hr2 jj vv rfl
           obtain ⟨tl,htl,rfl⟩:=MemoV.val hm ⟨e0,List.mem_of_getElem? he1,he2,he3⟩
           exact finC_ret (.tmp rfl .nil) (VW_bd4 htl) (by rw [HE_cut4 rfl rfl rfl rfl];exact ok4 (MemoV.bd (VW_bd A R) hm) rfl) ⟨es,clock,HE_cut4 rfl rfl rfl rfl,hm,tl,htl,rfl⟩
   ·refine Reg.op rfl (Ope.mov rfl ?_)
    refine Reg.op rfl (Ope.ext rfl rfl ?_)
    refine Reg.op rfl (Ope.ext rfl rfl ?_)
    refine Reg.op rfl (Ope.asg rfl ?_)
    refine Reg.op rfl (Ope.asg rfl ?_)
    refine Reg.nil (Run.seq (Run.region (cx_ok _ _ _) (Reg.op rfl (Ope.mov rfl ?_))))
    refine Reg.nil (Run.condX rfl (fun hc=>?_) fun hc=>?_)
    ·refine Run.seq (Run.region (cx_ok _ _ _) (Reg.op rfl (Ope.mov rfl ?_)))
     refine Reg.op rfl (Ope.asg rfl ?_)
     refine Reg.nil (Run.ret (Jmp.code ?_))
     first
       | exact finC_retD rfl (.tmp rfl .nil) (VW_bd4 htl2) (by rw [HE_cut4 rfl rfl rfl rfl];exact ok4 (MemoV.bd (VW_bd A R) hmem) rfl) ⟨_,_,HE_cut4 rfl rfl rfl rfl,hmem,tl2,htl2,rfl⟩
       | obtain ⟨_, e0, he1, he2, he3⟩ := hr2 jj vv rfl
         obtain ⟨tl,htl,rfl⟩:=MemoV.val hm ⟨e0,List.mem_of_getElem? he1,he2,he3⟩
         exact finC_ret (.tmp rfl .nil) (VW_bd4 htl) (by rw [HE_cut4 rfl rfl rfl rfl];exact ok4 (MemoV.bd (VW_bd A R) hm) rfl) ⟨es,clock,HE_cut4 rfl rfl rfl rfl,hm,tl,htl,rfl⟩
    ·(cases hc;done)
theorem f172 (A:Ask) (hA:A.ok) (R:Rst) (hR:R.ok):∀ (k i:Nat) (d:Rid) (es:List (AV×PV×Nat)) (clock:Nat),d.ok i→i+k≤16→d.a+d.b+k=R.m→MemoV (VW A R) es →
    PCall P0 172 (.agg d.cells::capsW A R) (HE 4 [(1,some (.map es clock)),(3,some (cloW A R))]) (fun v h'=>∃ es' clock',h'=HE 4 [(1,some (.map es' clock')),(3,some (cloW A R))]∧(MemoV (VW A R) es'∧∃ tl:Tail,tl.isOwn=false∧v=.sl tl (VW A R d))) fun _ _=>False
  | 0,i,d,es,clock,hd,hi,hk,hm=>f172z A hA R hR i d es clock hd (by omega) (by simpa using hk) hm
  | k+1,i,d,es,clock,hd,hi,hk,hm=>f172s A hA R hR k i (fun d' es' c' h1 h2 h3=>f172 A hA R hR k (i+1) d' es' c' h1 (by omega) h2 h3) d es clock hd hi hk hm
end Go.Pv
namespace Go.Pv
open Go.Proofs Go.Am
set_option maxRecDepth 10000
def Rst.best (R:Rst) (A:Ask):Option (Int×List Int):=few A R R.m zeroRid
def bestV:Option (Int×List Int)→PV
  | none=>.tup [wV (0,[]),B false]
  | some p=>.tup [wV p,B true]
theorem f117 (A:Ask) (hA:A.ok) (R:Rst) (hR:R.ok):Fn P0 117 [.agg R.cells,.agg A.q] (bestV (R.best A)):=by
  have h172:=f172 A hA R hR R.m 0 zeroRid [] 0 (by simp [Rid.ok,zeroRid]) (by have:=hR.1;omega) (by simp [zeroRid]) (fun e he=>by cases he)
  have hVz:VW A R zeroRid=(R.best A).toList.map wV:=VW_at (k:=R.m) (by simp [zeroRid]) (by decide)
  rw [hVz] at h172
  generalize (R.best A)=c at *
  rcases c with _ | c
  all_goals
    refine PFun.of (C:=c117) (cx_ok _ _ _) rfl (fn:=Tryz.f117) (by kernel_rfl) (c:=_) rfl rfl rfl ?_
    refine Run.seq (Run.region (cx_ok _ _ _) (Reg.op rfl (Ope.boxF rfl rfl ?_)))
    refine Reg.op rfl (Ope.boxF rfl rfl ?_)
    refine Reg.op rfl (Ope.newL rfl ?_)
    refine Reg.op rfl (Ope.asg rfl ?_)
    refine Reg.nil (Run.seq (Run.region (cx_ok _ _ _) (Reg.op rfl (Ope.mmap ?_))))
    refine Reg.op rfl (Ope.newL rfl ?_)
    refine Reg.op0 (Ope.store rfl rfl hget_hd rfl rfl rfl ?_)
    refine Reg.nil (Run.seq (Run.frz (d:=6) false rfl hget_hd rfl ?_))
    refine Run.region (cx_ok _ _ _) (Reg.op rfl (Ope.newL rfl ?_))
    refine Reg.nil (Run.seq (Run.region (cx_ok _ _ _) (Reg.op rfl (Ope.mkf rfl rfl ?_))))
    refine Reg.op0 (Ope.store rfl rfl hget_hd rfl rfl rfl ?_)
    refine Reg.nil (Run.seq (Run.seq (Run.region (cx_ok _ _ _) (Reg.op rfl (Ope.loadH rfl rfl rfl ?_)))))
    refine Reg.op rfl (Ope.bld rfl rfl ?_)
    refine Reg.op rfl (Ope.callM4h (clo:=cloW A R) (es:=[]) (clock:=0) rfl rfl rfl rfl rfl rfl rfl (by omega) rfl (fun e he=>by cases he) rfl h172 (fun v es2 clock2 hq=>?_))
    obtain ⟨hq1,tl,htl,rfl⟩:=hq
    first
      | refine Reg.op rfl (Ope.len (m:=0) rfl rfl ?_)
      | refine Reg.op rfl (Ope.len (m:=1) rfl rfl ?_)
    refine Reg.op rfl (Ope.mov rfl ?_)
    refine Reg.nil (Run.block ?_)
    first
      | refine Run.loop (α:=Nat) (fun z=>[(4,.ptr 0 0),(5,B false),(14,.sl tl []),(15,I ((0:Nat):Int)),(16,I z)]) (Function.const Nat _) (fun z=>z=0) (fun _=>0) 0 ⟨rfl,rfl,rfl,rfl,rfl,trivial⟩ rfl rfl (fun z hz=>?_)
      | refine Run.loop (α:=Nat) (fun z=>[(4,.ptr 0 0),(5,B false),(14,.sl tl [wV c]),(15,I ((1:Nat):Int)),(16,I z)]) (Function.const Nat _) (fun z=>z=0) (fun _=>0) 0 ⟨rfl,rfl,rfl,rfl,rfl,trivial⟩ rfl rfl (fun z hz=>?_)
    subst hz
    refine Run.seq (Run.region (cx_ok _ _ _) (Reg.op rfl (Ope.lt rfl rfl ?_)))
    refine Reg.nil (Run.seq (Run.condX rfl (fun hc=>?_) fun hc=>?_))
    ·first
     |(exfalso;omega)
     |refine Run.skip (Run.seq (Run.block (Run.seq (Run.region (cx_ok _ _ _) (Reg.op rfl (Ope.idxS (m:=0) rfl rfl rfl rfl rfl ?_))))))
      refine Reg.op rfl (Ope.load rfl rfl ?_)
      refine Reg.op rfl (Ope.newL rfl ?_)
      refine Reg.op0 (Ope.store rfl rfl hget_hd rfl rfl rfl ?_)
      refine Reg.nil (Run.seq (Run.region (cx_ok _ _ _) (Reg.op rfl (Ope.load rfl rfl ?_))))
      refine Reg.op0 (Ope.store rfl rfl rfl rfl rfl rfl ?_)
      refine Reg.op rfl (Ope.asg rfl ?_)
      exact Reg.nil (Run.ret (Jmp.retB (Jmp.code (Jmp.round (Jmp.retB (Jmp.code (fin_ret (.cell rfl rfl (.tmp rfl .nil)) (by first | rfl | (show (PV.bd 0 (wV c) && _)=true;rw [wV_bd];rfl)) rfl)))))))
    ·first
     |(exfalso;omega)
     |refine Run.exit (Jmp.code (Jmp.round (Jmp.here (Run.seq (Run.region (cx_ok _ _ _) (Reg.op rfl (Ope.load rfl rfl ?_)))))))
      refine Reg.op0 (Ope.store rfl rfl rfl rfl rfl rfl ?_)
      refine Reg.op rfl (Ope.asg rfl ?_)
      exact Reg.nil (Run.ret (fin_ret (.cell rfl rfl (.tmp rfl .nil)) (by first | rfl | (show (PV.bd 0 (wV c) && _)=true;rw [wV_bd];rfl)) rfl))
theorem d171n {n:Nat} {l:HL} {K:PH→Prop} (hK:K (HE n l)):PDefer A0 P0 171 [.ptr 1 0] (.lit .nilifc) (HE n l) K:=by
  refine PDefer.of (C:=c171) (fd:=Tryz.f171) (by kernel_rfl) rfl rfl rfl rfl rfl rfl rfl rfl rfl rfl ?_
  refine Run.block (Run.seq (Run.region (cx_ok _ _ _) ?_))
  first | refine Reg.op rfl (Ope.eq rfl rfl ?_) | refine Reg.op rfl (Ope.eqI rfl rfl ?_) | refine Reg.op rfl (Ope.eqN rfl rfl rfl ?_)
  refine Reg.nil (Run.condX rfl (fun hc=>?_) fun hc=>?_)
  ·first
   |exact absurd hc (by decide)
   |refine Run.region (cx_ok _ _ _) (Reg.op rfl (Ope.asg rfl ?_))
    exact Reg.nil (Run.bend (Run.done ⟨.inl rfl,trivial,hK⟩))
  ·first
   |exact absurd hc (by decide)
   |refine Run.seq (Run.region (cx_ok _ _ _) ?_)
    first | refine Reg.op rfl (Ope.tasY rfl rfl ?_) | refine Reg.op rfl (Ope.tasN rfl rfl ?_)
    refine Reg.op rfl (Ope.ext rfl rfl ?_)
    refine Reg.op rfl (Ope.ext rfl rfl ?_)
    refine Reg.nil (Run.condX rfl (fun hc=>?_) fun hc=>?_)
    ·first
     |exact absurd hc (by decide)
     |refine Run.seq (Run.region (cx_ok _ _ _) (Reg.op rfl (Ope.asg rfl ?_)))
      refine Reg.nil (Run.region (cx_ok _ _ _) (Reg.op rfl (Ope.mov rfl ?_)))
      refine Reg.op0 (Ope.store rfl rfl rfl rfl rfl rfl ?_)
      exact Reg.nil (Run.bend (Run.done ⟨.inl rfl,trivial,hK⟩))
    ·first
     |exact absurd hc (by decide)
     |refine Run.seq (Run.region (cx_ok _ _ _) (Reg.op rfl (Ope.asg rfl ?_)))
      refine Reg.nil (Run.region (cx_ok _ _ _) (Reg.op0 (Ope.store rfl rfl rfl rfl rfl rfl ?_)))
      exact Reg.nil (Run.bend (Run.done ⟨.inl rfl,trivial,hK⟩))
theorem d171e {n:Nat} {l:HL} {K:PH→Prop} {k z:Int} (hz:hget l 1=some (.cells [I z])) (hK:K (HE n ((1,some (.cells [I k]))::l))):PDefer A0 P0 171 [.ptr 1 0] (.ifc 30 (I k)) (HE n l) K:=by
  refine PDefer.of (C:=c171) (fd:=Tryz.f171) (by kernel_rfl) rfl rfl rfl rfl rfl rfl rfl rfl rfl rfl ?_
  refine Run.block (Run.seq (Run.region (cx_ok _ _ _) ?_))
  first | refine Reg.op rfl (Ope.eq rfl rfl ?_) | refine Reg.op rfl (Ope.eqI rfl rfl ?_) | refine Reg.op rfl (Ope.eqN rfl rfl rfl ?_)
  refine Reg.nil (Run.condX rfl (fun hc=>?_) fun hc=>?_)
  ·first
   |exact absurd hc (by decide)
   |refine Run.region (cx_ok _ _ _) (Reg.op rfl (Ope.asg rfl ?_))
    exact Reg.nil (Run.bend (Run.done ⟨.inl rfl,trivial,hK⟩))
  ·first
   |exact absurd hc (by decide)
   |refine Run.seq (Run.region (cx_ok _ _ _) ?_)
    first | refine Reg.op rfl (Ope.tasY rfl rfl ?_) | refine Reg.op rfl (Ope.tasN rfl rfl ?_)
    refine Reg.op rfl (Ope.ext rfl rfl ?_)
    refine Reg.op rfl (Ope.ext rfl rfl ?_)
    refine Reg.nil (Run.condX rfl (fun hc=>?_) fun hc=>?_)
    ·first
     |exact absurd hc (by decide)
     |refine Run.seq (Run.region (cx_ok _ _ _) (Reg.op rfl (Ope.asg rfl ?_)))
      refine Reg.nil (Run.region (cx_ok _ _ _) (Reg.op rfl (Ope.mov rfl ?_)))
      refine Reg.op0 (Ope.store rfl rfl hz rfl rfl rfl ?_)
      exact Reg.nil (Run.bend (Run.done ⟨.inl rfl,trivial,hK⟩))
    ·first
     |exact absurd hc (by decide)
     |refine Run.seq (Run.region (cx_ok _ _ _) (Reg.op rfl (Ope.asg rfl ?_)))
      refine Reg.nil (Run.region (cx_ok _ _ _) (Reg.op0 (Ope.store rfl rfl rfl rfl rfl rfl ?_)))
      exact Reg.nil (Run.bend (Run.done ⟨.inl rfl,trivial,hK⟩))
theorem f115ok {fa:Nat} {caps:List PV} {w:Int×List Int} (hf:Fn P0 fa caps (wV w)) (hb:PV.bds 0 caps=true):Fn P0 115 [.fn (.func fa) [] caps] (.tup [wV w,I 0]):=by
  unfold Fn PFun
  show PCall P0 115 _ (HE 0 []) _ _
  refine PCall.ofT (C:=c115) (cx_ok _ _ _) (fn:=Tryz.f115) (by kernel_rfl) (c:=_) rfl rfl ?_
  refine Til.seq rfl rfl ?_
  refine Run.region (cx_ok _ _ _) ?_
  refine Reg.op rfl (Ope.newL rfl ?_)
  refine Reg.op rfl (Ope.newL rfl ?_)
  refine Reg.nil ?_
  refine Run.done ⟨rfl,rfl,?_⟩
  refine Til.defer (cx_ok _ _ _) rfl rfl (by kernel_rfl) [(2,.ptr 0 0),(3,.ptr 1 0)] rfl rfl rfl rfl rfl rfl rfl rfl (Ope.mkf rfl rfl ⟨rfl,rfl⟩) rfl rfl ⟨rfl,rfl,trivial⟩ ?_
  refine Reg.op rfl (Ope.mov rfl ?_)
  refine Reg.op rfl (Ope.cf rfl rfl (by simpa using hf) (by simpa using hb) ?_)
  refine Reg.op0 (Ope.store rfl rfl rfl rfl rfl rfl ?_)
  refine Reg.op0 (Ope.store rfl rfl rfl rfl rfl rfl ?_)
  refine Reg.nil ?_
  refine Run.done ⟨rfl,trivial,d171n ?_⟩
  exact ResE.ofF (.cell rfl rfl (.cell rfl rfl .nil)) (by show (PV.bd 0 (wV w) && _)=true;rw [wV_bd];rfl) rfl
theorem f115er {fa:Nat} {caps:List PV} {k:Int} (hf:Pan P0 fa caps (.ifc 30 (I k))) (hb:PV.bds 0 caps=true):Fn P0 115 [.fn (.func fa) [] caps] (.tup [.agg [I 0,.sl .ex []],I k]):=by
  unfold Fn PFun
  show PCall P0 115 _ (HE 0 []) _ _
  refine PCall.ofT (C:=c115) (cx_ok _ _ _) (fn:=Tryz.f115) (by kernel_rfl) (c:=_) rfl rfl ?_
  refine Til.seq rfl rfl ?_
  refine Run.region (cx_ok _ _ _) ?_
  refine Reg.op rfl (Ope.newL rfl ?_)
  refine Reg.op rfl (Ope.newL rfl ?_)
  refine Reg.nil ?_
  refine Run.done ⟨rfl,rfl,?_⟩
  refine Til.defer (cx_ok _ _ _) rfl rfl (by kernel_rfl) [(2,.ptr 0 0),(3,.ptr 1 0)] rfl rfl rfl rfl rfl rfl rfl rfl (Ope.mkf rfl rfl ⟨rfl,rfl⟩) rfl rfl ⟨rfl,rfl,trivial⟩ ?_
  refine Reg.op rfl (Ope.mov rfl ?_)
  refine Reg.op rfl (Ope.cp rfl rfl (by simpa using hf) (by simpa using hb) ⟨trivial,d171e rfl ?_⟩)
  exact ResE.ofF (.cell rfl rfl (.cell rfl rfl .nil)) rfl rfl
theorem f116b (A:Ask) (hA:A.ok) (R:Rst) (hR:R.ok) (hv:validR R.m R.o0 R.t0 R.r0 R.f0 R.o1 R.t1 R.r1 R.f1=true) (hn:(R.best A)=none):Pan P0 116 [.fp (.agg R.cells),.fp (B true),.fp (.agg A.q)] (.ifc 30 (I 4)):=by
  have h117:=f117 A hA R hR
  rw [hn] at h117
  refine PFun.of (C:=c116) (cx_ok _ _ _) rfl (fn:=Tryz.f116) (by kernel_rfl) (c:=_) rfl rfl rfl ?_
  refine Run.seq (Run.region (cx_ok _ _ _) (Reg.op rfl (Ope.newL rfl ?_)))
  refine Reg.nil (Run.seq (Run.region (cx_ok _ _ _) (Reg.op rfl (Ope.load rfl rfl ?_))))
  refine Reg.op rfl (Ope.cf rfl rfl (f54t _ _ _ _ _ _ _ _ _ hv) rfl ?_)
  refine Reg.op rfl (Ope.newL rfl ?_)
  refine Reg.op0 (Ope.store rfl rfl hget_hd rfl rfl rfl ?_)
  refine Reg.nil (Run.seq (Run.region (cx_ok _ _ _) (Reg.op rfl (Ope.load rfl rfl ?_))))
  refine Reg.op rfl (Ope.cf rfl rfl (f55t' _ rfl) rfl ?_)
  refine Reg.nil (Run.seq (Run.region (cx_ok _ _ _) (Reg.op rfl (Ope.load rfl rfl ?_))))
  refine Reg.op rfl (Ope.load rfl rfl ?_)
  refine Reg.op rfl (Ope.cf rfl rfl (h117) rfl ?_)
  refine Reg.op rfl (Ope.mov rfl ?_)
  refine Reg.op rfl (Ope.ext rfl rfl ?_)
  refine Reg.op rfl (Ope.ext rfl rfl ?_)
  refine Reg.op rfl (Ope.newL rfl ?_)
  refine Reg.op0 (Ope.store rfl rfl hget_hd rfl rfl rfl ?_)
  refine Reg.op rfl (Ope.asg rfl ?_)
  refine Reg.nil (Run.seq (Run.region (cx_ok _ _ _) (Reg.op rfl (Ope.mov rfl ?_))))
  refine Reg.op rfl (Ope.cp rfl rfl (f55f' _ rfl) rfl (fin_panic rfl rfl))
theorem f116c (A:Ask) (hA:A.ok) (R:Rst) (hR:R.ok) (hv:validR R.m R.o0 R.t0 R.r0 R.f0 R.o1 R.t1 R.r1 R.f1=true) (p:Int×List Int) (hn:(R.best A)=some p):Fn P0 116 [.fp (.agg R.cells),.fp (B true),.fp (.agg A.q)] (wV p):=by
  have h117:=f117 A hA R hR
  rw [hn] at h117
  refine PFun.of (C:=c116) (cx_ok _ _ _) rfl (fn:=Tryz.f116) (by kernel_rfl) (c:=_) rfl rfl rfl ?_
  refine Run.seq (Run.region (cx_ok _ _ _) (Reg.op rfl (Ope.newL rfl ?_)))
  refine Reg.nil (Run.seq (Run.region (cx_ok _ _ _) (Reg.op rfl (Ope.load rfl rfl ?_))))
  refine Reg.op rfl (Ope.cf rfl rfl (f54t _ _ _ _ _ _ _ _ _ hv) rfl ?_)
  refine Reg.op rfl (Ope.newL rfl ?_)
  refine Reg.op0 (Ope.store rfl rfl hget_hd rfl rfl rfl ?_)
  refine Reg.nil (Run.seq (Run.region (cx_ok _ _ _) (Reg.op rfl (Ope.load rfl rfl ?_))))
  refine Reg.op rfl (Ope.cf rfl rfl (f55t' _ rfl) rfl ?_)
  refine Reg.nil (Run.seq (Run.region (cx_ok _ _ _) (Reg.op rfl (Ope.load rfl rfl ?_))))
  refine Reg.op rfl (Ope.load rfl rfl ?_)
  refine Reg.op rfl (Ope.cf rfl rfl (h117) rfl ?_)
  refine Reg.op rfl (Ope.mov rfl ?_)
  refine Reg.op rfl (Ope.ext rfl rfl ?_)
  refine Reg.op rfl (Ope.ext rfl rfl ?_)
  refine Reg.op rfl (Ope.newL rfl ?_)
  refine Reg.op0 (Ope.store rfl rfl hget_hd rfl rfl rfl ?_)
  refine Reg.op rfl (Ope.asg rfl ?_)
  refine Reg.nil (Run.seq (Run.region (cx_ok _ _ _) (Reg.op rfl (Ope.mov rfl ?_))))
  refine Reg.op rfl (Ope.cf rfl rfl (f55t' _ rfl) rfl ?_)
  refine Reg.nil (Run.seq (Run.region (cx_ok _ _ _) (Reg.op rfl (Ope.load rfl rfl ?_))))
  refine Reg.op0 (Ope.store rfl rfl rfl rfl rfl rfl ?_)
  exact Reg.nil (Run.ret (fin_ret (.cell rfl rfl .nil) (wV_bd 0 p) rfl))
theorem f66 (A:Ask) (h a0 b0 c0 d0 a1 b1 c1 d1:Int) (w:Int×List Int) (k:Int) (hf:Fn P0 115 [.fn (.func 116) [] [.fp (.agg [I h,I a0,I b0,I c0,I d0,I a1,I b1,I c1,I d1]),.fp (B true),.fp (.agg A.q)]] (.tup [wV w,I k])) :
    Fn P0 66 [.agg [I h,I a0,I b0,I c0,I d0,I a1,I b1,I c1,I d1],B true,.agg A.q] (.tup [wV w,I k]):=by
  refine PFun.of (C:=c66) (cx_ok _ _ _) rfl (fn:=Tryz.f66) (by kernel_rfl) (c:=_) rfl rfl rfl ?_
  refine Run.seq (Run.region (cx_ok _ _ _) (Reg.op rfl (Ope.boxF rfl rfl ?_)))
  refine Reg.op rfl (Ope.boxF rfl rfl ?_)
  refine Reg.op rfl (Ope.boxF rfl rfl ?_)
  refine Reg.op rfl (Ope.newL rfl ?_)
  refine Reg.op rfl (Ope.asg rfl ?_)
  refine Reg.nil (Run.seq (Run.region (cx_ok _ _ _) (Reg.op rfl (Ope.mkf rfl rfl ?_))))
  refine Reg.op rfl (Ope.cf rfl rfl (hf) rfl ?_)
  refine Reg.op rfl (Ope.ext rfl rfl ?_)
  refine Reg.op rfl (Ope.ext rfl rfl ?_)
  refine Reg.op0 (Ope.store rfl rfl rfl rfl rfl rfl ?_)
  refine Reg.op rfl (Ope.asg rfl ?_)
  exact Reg.nil (Run.ret (fin_ret (.cell rfl rfl (.tmp rfl .nil)) (by show (PV.bd 0 (wV w) && (_ && true))=true;rw [wV_bd];rfl) rfl))
def askF:Ask where
  fe:=118
  fs:=119
  E:=fun _=>(0,[])
  S:=stepW
  B:=fun k w=>w.2.length=k∧0≤w.1∧w.1≤k
theorem askF_ok:askF.ok where
  e:=fun d _=>f118 d
  s:=fun d x w k hd hx hb hk=>f119 d hd x w (by have:=hb.1;omega) ⟨hb.2.1,by have:=hb.2.2;omega⟩
  be:=fun d _=>⟨rfl,Int.le_refl _,Int.le_refl _⟩
  bs:=fun d x w k hx hb=>by
    obtain ⟨c,xs⟩:=w
    obtain ⟨h1,h2,h3⟩:=hb
    have h2':0≤c:=h2
    have h3':c≤(k:Int):=h3
    have h4:0≤(stepW d x (c,xs)).1∧(stepW d x (c,xs)).1≤(k:Int)+1:=by
      unfold stepW
      cases (decide (0 < d.a+d.b) && !decide (x=d.r))
      · exact ⟨h2',Int.le_trans h3' (by omega)⟩
      · exact ⟨show (0:Int)≤c+1 from by omega,show c+1≤(k:Int)+1 from by omega⟩
    exact ⟨congrArg (·+1) h1,h4⟩
theorem tup_bd (a k:Int) (xs:List Int):PV.bd 0 (pone [I a,.sl (wt xs) (xs.map I),I k])=true:=by
  cases xs with
  | nil=>rfl
  | cons x xs =>
    have h:=bds_I (x::xs)
    simp only [wt,pone,PV.bd,PV.bds,h,Bool.and_self]
theorem f22 (h a0 b0 c0 d0 a1 b1 c1 d1:Int) (w:Int×List Int) (k:Int) (hf:Fn P0 115 [.fn (.func 116) [] [.fp (.agg [I h,I a0,I b0,I c0,I d0,I a1,I b1,I c1,I d1]),.fp (B true),.fp (.agg askF.q)]] (.tup [wV w,I k])) :
    Fn P0 22 [.agg [I h,I a0,I b0,I c0,I d0,I a1,I b1,I c1,I d1]] (.tup [I w.1,.sl (wt w.2) (w.2.map I),I k]):=by
  refine PFun.of (C:=c22) (cx_ok _ _ _) rfl (fn:=Tryz.f22) (by kernel_rfl) (c:=_) rfl rfl rfl ?_
  refine Run.seq (Run.region (cx_ok _ _ _) (Reg.op rfl (Ope.boxF rfl rfl ?_)))
  refine Reg.op rfl (Ope.asg rfl ?_)
  refine Reg.op rfl (Ope.asg rfl ?_)
  refine Reg.op rfl (Ope.asg rfl ?_)
  refine Reg.nil (Run.seq (Run.drawL (cx_ok _ _ _) [[(0,false),(1,true),(2,true),(3,true),(4,true),(5,true),(6,true),(7,true),(8,true)],[(0,false),(1,true),(6,true),(2,true),(3,true),(4,true),(5,true),(7,true),(8,true)],[(0,false),(6,true),(1,true),(2,true),(3,true),(4,true),(5,true),(7,true),(8,true)]] (by kernel_rfl) ⟨?_,?_,?_,trivial⟩))
  ·refine Dra.op' rfl rfl rfl (.load rfl) (Ope.load rfl rfl ?_)
   refine Dra.op' rfl rfl rfl .sure (Ope.cf rfl rfl (f67) rfl ?_)
   refine Dra.op' rfl rfl rfl .sure (Ope.cf rfl rfl (f66 askF _ _ _ _ _ _ _ _ _ _ _ hf) rfl ?_)
   refine Dra.op' rfl rfl rfl .sure (Ope.mov rfl ?_)
   refine Dra.op' rfl rfl rfl .sure (Ope.ext rfl rfl ?_)
   refine Dra.op' rfl rfl rfl .sure (Ope.ext rfl rfl ?_)
   refine Dra.op' rfl rfl rfl .sure (Ope.newL rfl ?_)
   refine Dra.op' rfl rfl rfl .sure (Ope.store rfl rfl rfl rfl rfl rfl ?_)
   refine Dra.op' rfl rfl rfl .sure (Ope.asg rfl ?_)
   refine Dra.nil (Run.seq (Run.draw (cx_ok _ _ _) [(0,true),(1,true),(2,true),(3,true),(4,true),(5,true),(6,true),(7,true)] (by kernel_rfl) (Dra.op' rfl rfl rfl .sure (Ope.fld rfl rfl ?_))))
   refine Dra.op' rfl rfl rfl .sure (Ope.load rfl rfl ?_)
   refine Dra.op' rfl rfl rfl .sure (Ope.fld rfl rfl ?_)
   refine Dra.op' rfl rfl rfl .sure (Ope.load rfl rfl ?_)
   refine Dra.op' rfl rfl rfl .sure (Ope.mov rfl ?_)
   refine Dra.op' rfl rfl rfl .sure (Ope.asg rfl ?_)
   refine Dra.op' rfl rfl rfl .sure (Ope.asg rfl ?_)
   refine Dra.op' rfl rfl rfl .sure (Ope.asg rfl ?_)
   exact Dra.nil (Run.ret (fin_ret (.tmp rfl (.tmp rfl (.tmp rfl .nil))) (tup_bd _ _ _) rfl))
  ·refine Dra.op' rfl rfl rfl (.load rfl) (Ope.load rfl rfl ?_)
   refine Dra.op' rfl rfl rfl .sure (Ope.cf rfl rfl (f67) rfl ?_)
   refine Dra.op' rfl rfl rfl .sure (Ope.newL rfl ?_)
   refine Dra.op' rfl rfl rfl .sure (Ope.cf rfl rfl (f66 askF _ _ _ _ _ _ _ _ _ _ _ hf) rfl ?_)
   refine Dra.op' rfl rfl rfl .sure (Ope.mov rfl ?_)
   refine Dra.op' rfl rfl rfl .sure (Ope.ext rfl rfl ?_)
   refine Dra.op' rfl rfl rfl .sure (Ope.ext rfl rfl ?_)
   refine Dra.op' rfl rfl rfl .sure (Ope.store rfl rfl rfl rfl rfl rfl ?_)
   refine Dra.op' rfl rfl rfl .sure (Ope.asg rfl ?_)
   refine Dra.nil (Run.seq (Run.draw (cx_ok _ _ _) [(0,true),(1,true),(2,true),(3,true),(4,true),(5,true),(6,true),(7,true)] (by kernel_rfl) (Dra.op' rfl rfl rfl .sure (Ope.fld rfl rfl ?_))))
   refine Dra.op' rfl rfl rfl .sure (Ope.load rfl rfl ?_)
   refine Dra.op' rfl rfl rfl .sure (Ope.fld rfl rfl ?_)
   refine Dra.op' rfl rfl rfl .sure (Ope.load rfl rfl ?_)
   refine Dra.op' rfl rfl rfl .sure (Ope.mov rfl ?_)
   refine Dra.op' rfl rfl rfl .sure (Ope.asg rfl ?_)
   refine Dra.op' rfl rfl rfl .sure (Ope.asg rfl ?_)
   refine Dra.op' rfl rfl rfl .sure (Ope.asg rfl ?_)
   exact Dra.nil (Run.ret (fin_ret (.tmp rfl (.tmp rfl (.tmp rfl .nil))) (tup_bd _ _ _) rfl))
  ·refine Dra.op' rfl rfl rfl (.load rfl) (Ope.load rfl rfl ?_)
   refine Dra.op' rfl rfl rfl .sure (Ope.newL rfl ?_)
   refine Dra.op' rfl rfl rfl .sure (Ope.cf rfl rfl (f67) rfl ?_)
   refine Dra.op' rfl rfl rfl .sure (Ope.cf rfl rfl (f66 askF _ _ _ _ _ _ _ _ _ _ _ hf) rfl ?_)
   refine Dra.op' rfl rfl rfl .sure (Ope.mov rfl ?_)
   refine Dra.op' rfl rfl rfl .sure (Ope.ext rfl rfl ?_)
   refine Dra.op' rfl rfl rfl .sure (Ope.ext rfl rfl ?_)
   refine Dra.op' rfl rfl rfl .sure (Ope.store rfl rfl rfl rfl rfl rfl ?_)
   refine Dra.op' rfl rfl rfl .sure (Ope.asg rfl ?_)
   refine Dra.nil (Run.seq (Run.draw (cx_ok _ _ _) [(0,true),(1,true),(2,true),(3,true),(4,true),(5,true),(6,true),(7,true)] (by kernel_rfl) (Dra.op' rfl rfl rfl .sure (Ope.fld rfl rfl ?_))))
   refine Dra.op' rfl rfl rfl .sure (Ope.load rfl rfl ?_)
   refine Dra.op' rfl rfl rfl .sure (Ope.fld rfl rfl ?_)
   refine Dra.op' rfl rfl rfl .sure (Ope.load rfl rfl ?_)
   refine Dra.op' rfl rfl rfl .sure (Ope.mov rfl ?_)
   refine Dra.op' rfl rfl rfl .sure (Ope.asg rfl ?_)
   refine Dra.op' rfl rfl rfl .sure (Ope.asg rfl ?_)
   refine Dra.op' rfl rfl rfl .sure (Ope.asg rfl ?_)
   exact Dra.nil (Run.ret (fin_ret (.tmp rfl (.tmp rfl (.tmp rfl .nil))) (tup_bd _ _ _) rfl))
theorem f22b (R:Rst) (hR:R.ok) (hv:validR R.m R.o0 R.t0 R.r0 R.f0 R.o1 R.t1 R.r1 R.f1=true) (hn:R.best askF=none):Fn P0 22 [.agg R.cells] (.tup [I 0,.sl .ex [],I 4]) :=
  f22 _ _ _ _ _ _ _ _ _ (0,[]) _ (f115er (f116b askF askF_ok R hR hv hn) rfl)
theorem f22c (R:Rst) (hR:R.ok) (hv:validR R.m R.o0 R.t0 R.r0 R.f0 R.o1 R.t1 R.r1 R.f1=true) (w:Int×List Int) (hn:R.best askF=some w):Fn P0 22 [.agg R.cells] (.tup [I w.1,.sl (wt w.2) (w.2.map I),I 0]) :=
  f22 _ _ _ _ _ _ _ _ _ w _ (f115ok (f116c askF askF_ok R hR hv w hn) rfl)
end Go.Pv
namespace Go.Pv
open Go.Proofs Go.Am
set_option maxRecDepth 10000
def rt (R:Rst):Rid→List Int→Bool
  | _,[]=>true
  | d,x::xs=>decide (R.brk d x=0) && rt R (d.then x) xs
theorem brk_pos (R : Rst) (d : Rid) (x : Int) : R.brk d x = 0 ∨ 0 < R.brk d x := by
  unfold Rst.brk
  split
  · exact .inr (by decide)
  · split
    · exact .inr (by decide)
    · split
      · exact .inr (by decide)
      · split
        · exact .inr (by decide)
        · exact .inl rfl
theorem rt_fault (R:Rst):∀ (xs:List Int) (d:Rid),rt R d xs=true↔¬ 0 < (faultV R d xs).2
  | [],d=>by simp [rt,faultV]
  | x :: xs, d => by
    simp only [rt,faultV,Bool.and_eq_true,decide_eq_true_eq]
    by_cases h:R.brk d x=0
    · rw [if_pos h, rt_fault R xs (d.then x)]
      exact ⟨fun h=>h.2,fun h'=>⟨h,h'⟩⟩
    · rw [if_neg h]
      have:=brk_pos R d x
      exact ⟨fun h'=>absurd h'.1 h,fun h'=>absurd (this.resolve_left h) h'⟩
def c1:Option Int→Int→Int
  | none,_=>0
  | some p,x=>if x=p then 0 else 1
def cst:Option Int→List Int→Int
  | _,[]=>0
  | p,x::xs=>c1 p x+cst (some x) xs
def pv (d:Rid):Option Int:=if 0 < d.a+d.b then some d.r else none
theorem pv_then {d:Rid} (h0:0≤d.a+d.b) {x:Int} (hx:x=0∨x=1):pv (d.then x)=some x:=by
  unfold pv
  rw [if_pos]
  · rfl
  · rcases hx with rfl | rfl<;>simp [Rid.then]<;>omega
theorem stepW_eq (d:Rid) (x:Int) (w:Int×List Int):stepW d x w=(c1 (pv d) x+w.1,x::w.2):=by
  unfold stepW pv
  by_cases h:0 < d.a+d.b
  · rw [if_pos h]
    by_cases hx:x=d.r
    · simp [c1,h,hx]
    · simp [c1,h,hx,Int.add_comm]
  · simp [c1,h]
def lexle:List Int→List Int→Prop
  | x::xs,y::ys=>x < y∨(x=y∧lexle xs ys)
  | _,_=>True
theorem few_none (R:Rst):∀ (k:Nat) (d:Rid),few askF R k d=none↔cnt R k d=0
  | 0,d=>by simp [few,cnt]
  | k + 1, d => by
    have i0:=few_none R k (d.then 0)
    have i1:=few_none R k (d.then 1)
    simp only [few,cnt]
    by_cases c0:R.brk d 0=0<;>by_cases c1:R.brk d 1=0<;>simp only [c0,c1,if_true,if_false]<;>cases m0:few askF R k (d.then 0)<;>cases m1:few askF R k (d.then 1)<;>rw [m0] at i0<;>rw [m1] at i1<;>simp only [reduceCtorEq,true_iff,false_iff] at i0 i1<;>simp only [Option.map_none,Option.map_some,joinW,reduceCtorEq,true_iff,false_iff]<;>omega
theorem rt_cnt (R:Rst):∀ (ys:List Int) (d:Rid),(∀ y∈ys,y=0∨y=1)→rt R d ys=true→0 < cnt R ys.length d
  | [],d,_,_=>by simp [cnt]
  | y :: ys, d, hy, hr => by
    simp only [rt,Bool.and_eq_true,decide_eq_true_eq] at hr
    have ih:=rt_cnt R ys (d.then y) (fun z hz=>hy z (List.mem_cons_of_mem _ hz)) hr.2
    simp only [List.length_cons,cnt]
    rcases hy y (by simp) with rfl | rfl
    · rw [if_pos hr.1];omega
    · rw [if_pos hr.1];omega
def Best (R:Rst) (k:Nat) (d:Rid) (w:Int×List Int):Prop :=
  w.2.length=k∧(∀ x∈w.2,x=0∨x=1)∧rt R d w.2=true∧w.1=cst (pv d) w.2∧∀ ys:List Int,ys.length=k→(∀ y∈ys,y=0∨y=1)→rt R d ys=true→w.1≤cst (pv d) ys∧(w.1=cst (pv d) ys→lexle w.2 ys)
theorem few_best (R : Rst) : ∀ (k : Nat) (d : Rid) (w : Int × List Int), 0 ≤ d.a + d.b → few askF R k d = some w → Best R k d w
  | 0, d, w, _, h => by
    have h':w=(0,[]):=by
      simp only [few,Option.some.injEq] at h
      exact h.symm
    subst h'
    refine ⟨rfl,by simp,rfl,rfl,fun ys hl _ _=>?_⟩
    have:ys=[]:=List.length_eq_zero_iff.1 hl
    subst this
    exact ⟨Int.le_refl _,fun _=>trivial⟩
  | k + 1, d, w, h0, h => by
    -- what is so of one ride
    have key:∀ x:Int,x=0∨x=1→∀ v,(if R.brk d x=0 then (few askF R k (d.then x)).map (askF.S d x) else none)=some v →
        v.2.length=k+1∧(∀ z∈v.2,z=0∨z=1)∧rt R d v.2=true∧v.1=cst (pv d) v.2∧(∃ t,v.2=x::t) ∧
        ∀ ys:List Int,ys.length=k→(∀ y∈ys,y=0∨y=1)→rt R d (x::ys)=true→v.1≤cst (pv d) (x::ys)∧(v.1=cst (pv d) (x::ys)→lexle v.2 (x::ys)):=by
      intro x hx v hv
      split at hv
      · next hb =>
        obtain ⟨u,hu,rfl⟩:=Option.map_eq_some_iff.1 hv
        have ht:=then_hour h0 hx
        obtain ⟨g1,g2,g3,g4,g5⟩:=few_best R k (d.then x) u ht.1 hu
        rw [pv_then h0 hx] at g4 g5
        have hS:askF.S d x u=(c1 (pv d) x+u.1,x::u.2):=stepW_eq d x u
        rw [hS]
        refine ⟨by simp [g1],?_,?_,?_,⟨u.2,rfl⟩,?_⟩
        · intro z hz
          rcases List.mem_cons.1 hz with rfl | hz
          · exact hx
          · exact g2 z hz
        · simp [rt,hb,g3]
        · simp only [cst];rw [g4]
        · intro ys hl hy hr
          simp only [rt,Bool.and_eq_true,decide_eq_true_eq] at hr
          obtain ⟨q1,q2⟩:=g5 ys hl hy hr.2
          simp only [cst]
          exact ⟨by omega,fun e=>.inr ⟨rfl,q2 (by omega)⟩⟩
      · cases hv
    have nkey:∀ x:Int,(if R.brk d x=0 then (few askF R k (d.then x)).map (askF.S d x) else none)=none→∀ ys:List Int,ys.length=k→(∀ y∈ys,y=0∨y=1)→rt R d (x::ys)=true→False:=by
      intro x hv ys hl hy hr
      simp only [rt,Bool.and_eq_true,decide_eq_true_eq] at hr
      rw [if_pos hr.1] at hv
      have:=rt_cnt R ys (d.then x) hy hr.2
      rw [hl] at this
      have hn:=(few_none R k (d.then x)).1 (Option.map_eq_none_iff.1 hv)
      omega
    rw [few] at h
    have fin:∀ (x x':Int),(x=0∧x'=1)∨(x=1∧x'=0)→∀ v,(if R.brk d x=0 then (few askF R k (d.then x)).map (askF.S d x) else none)=some v →
        (∀ ys:List Int,ys.length=k→(∀ y∈ys,y=0∨y=1)→rt R d (x'::ys)=true→v.1≤cst (pv d) (x'::ys)∧(v.1=cst (pv d) (x'::ys)→x < x'))→Best R (k+1) d v:=by
      intro x x' hxx v hv hoth
      obtain ⟨g1,g2,g3,g4,⟨t,g5⟩,g6⟩:=key x (by omega) v hv
      refine ⟨g1,g2,g3,g4,fun ys hl hy hr=>?_⟩
      cases ys with
      | nil=>simp at hl
      | cons y ys =>
        simp only [List.length_cons,Nat.add_right_cancel_iff] at hl
        have hy':=fun z hz=>hy z (List.mem_cons_of_mem _ hz)
        rcases (by have:=hy y (by simp);omega:y=x∨y=x') with rfl | rfl
        · exact g6 ys hl hy' hr
        · obtain ⟨q1, q2⟩ := hoth ys hl hy' hr
          refine ⟨q1,fun e=>?_⟩
          rw [g5]
          exact .inl (q2 e)
    cases ha:(if R.brk d 0=0 then (few askF R k (d.then 0)).map (askF.S d 0) else none) with
    | none =>
      rw [ha] at h
      exact fin 1 0 (.inr ⟨rfl,rfl⟩) w h fun ys hl hy hr=>(nkey 0 ha ys hl hy hr).elim
    | some a =>
      cases hb:(if R.brk d 1=0 then (few askF R k (d.then 1)).map (askF.S d 1) else none) with
      | none =>
        rw [ha,hb] at h
        simp only [joinW,Option.some.injEq] at h
        subst h
        exact fin 0 1 (.inl ⟨rfl,rfl⟩) a ha fun ys hl hy hr=>(nkey 1 hb ys hl hy hr).elim
      | some b =>
        rw [ha,hb] at h
        obtain ⟨_,_,_,_,_,ga⟩:=key 0 (.inl rfl) a ha
        obtain ⟨_,_,_,_,_,gb⟩:=key 1 (.inr rfl) b hb
        simp only [joinW,bestW,Option.some.injEq] at h
        split at h
        · next hlt =>
          subst h
          refine fin 1 0 (.inr ⟨rfl,rfl⟩) b hb fun ys hl hy hr=>?_
          have:=(ga ys hl hy hr).1
          exact ⟨by omega,fun e=>by omega⟩
        · next hlt =>
          subst h
          refine fin 0 1 (.inl ⟨rfl,rfl⟩) a ha fun ys hl hy hr=>?_
          have:=(gb ys hl hy hr).1
          exact ⟨by omega,fun _=>by decide⟩
end Go.Pv
