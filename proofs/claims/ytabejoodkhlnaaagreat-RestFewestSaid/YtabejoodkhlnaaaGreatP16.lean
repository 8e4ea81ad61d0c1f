/- Parts of the proof: T9, T10, K1, K2, K3, T11 -/
import Derived.Test.YtabejoodkhlnaaaGreatP15
import Derived.Test.YtabejoodkhlnaaaGreatP13
import Derived.Test.YtabejoodkhlnaaaGreatChecked
import Derived.Test.YtabejoodkhlnaaaGreatP14
set_option linter.unusedVariables false
set_option linter.unusedSimpArgs false
namespace Go.Pv
open Go.Proofs Go.Am
set_option maxRecDepth 10000
theorem f16 (h a0 b0 c0 d0 a1 b1 c1 d1:Int) (tl:Tail) (htl:tl.isOwn=false) (xs:List Int) (a b e:Int)
    (H:Fn P0 52 [.fn (.func 53) [] [.fp (.agg [I h,I a0,I b0,I c0,I d0,I a1,I b1,I c1,I d1]),.fp (.sl tl (xs.map I))]] (.tup [.agg [I a,I b],I e])) :
    Fn P0 16 [.agg [I h,I a0,I b0,I c0,I d0,I a1,I b1,I c1,I d1],.sl tl (xs.map I)] (.tup [I a,I b,I e]):=by
  refine PFun.of (C:=c16) (cx_ok _ _ _) rfl (fn:=Tryz.f16) (by kernel_rfl) (c:=_) rfl rfl rfl ?_
  refine Run.seq (Run.region (cx_ok _ _ _) (Reg.op rfl (Ope.boxF rfl rfl ?_)))
  refine Reg.op rfl (Ope.boxF rfl rfl ?_)
  refine Reg.op rfl (Ope.asg rfl ?_)
  refine Reg.op rfl (Ope.asg rfl ?_)
  refine Reg.op rfl (Ope.asg rfl ?_)
  refine Reg.nil (Run.seq (Run.region (cx_ok _ _ _) (Reg.op rfl (Ope.mkf rfl rfl ?_))))
  refine Reg.op rfl (Ope.cf rfl rfl H (by simp only [List.nil_append,List.append_nil,PV.bds,PV.bd,bd_sl (f:=I) htl (fun _=>rfl) xs,Bool.and_true]) ?_)
  refine Reg.op rfl (Ope.mov rfl ?_)
  refine Reg.op rfl (Ope.ext rfl rfl ?_)
  refine Reg.op rfl (Ope.ext rfl rfl ?_)
  refine Reg.op rfl (Ope.newL rfl ?_)
  refine Reg.op0 (Ope.store rfl rfl rfl rfl rfl rfl ?_)
  refine Reg.op rfl (Ope.asg rfl ?_)
  refine Reg.nil (Run.seq (Run.draw (cx_ok _ _ _) [(0,true),(1,true),(2,true),(3,true),(4,true),(5,true),(6,true),(7,true)] (by kernel_rfl) (Dra.op' rfl rfl rfl .sure (Ope.fld rfl rfl ?_))))
  refine Dra.op' rfl rfl rfl .sure (Ope.load rfl rfl ?_)
  refine Dra.op' rfl rfl rfl .sure (Ope.fld rfl rfl ?_)
  refine Dra.op' rfl rfl rfl .sure (Ope.load rfl rfl ?_)
  refine Dra.op' rfl rfl rfl .sure (Ope.mov rfl ?_)
  refine Dra.op' rfl rfl rfl .sure (Ope.asg rfl ?_)
  refine Dra.op' rfl rfl rfl .sure (Ope.asg rfl ?_)
  refine Dra.op' rfl rfl rfl .sure (Ope.asg rfl ?_)
  refine Dra.nil (Run.ret (fin_ret (.tmp rfl (.tmp rfl (.tmp rfl .nil))) rfl ?_))
  rfl
def rstOf (h a0 b0 c0 d0 a1 b1 c1 d1:Int):Rst:=⟨h.toNat,a0.toNat,b0,c0,d0,a1.toNat,b1,c1,d1⟩
theorem rstOf_ok {h a0 b0 c0 d0 a1 b1 c1 d1:Int} (hv:validR h a0 b0 c0 d0 a1 b1 c1 d1=true):(rstOf h a0 b0 c0 d0 a1 b1 c1 d1).ok∧(h=(h.toNat:Int)∧a0=(a0.toNat:Int)∧a1=(a1.toNat:Int))∧h.toNat≤16:=by
  simp only [validR,limOk,manyOk,Bool.and_eq_true,decide_eq_true_eq] at hv
  obtain ⟨⟨h1,h2⟩,⟨⟨p1,p2⟩,⟨p3,p4⟩,⟨p5,p6⟩,p7,p8⟩,⟨q1,q2⟩,⟨q3,q4⟩,⟨q5,q6⟩,q7,q8⟩:=hv
  have hp:2 ^ h.toNat≤65536:=pow16 (by omega)
  have hp2:((2 ^ h.toNat:Nat):Int)≤65536:=Int.ofNat_le.2 hp
  refine ⟨⟨by show h.toNat≤16;omega,by show a0.toNat < 2 ^ 62;omega,by show a1.toNat < 2 ^ 62;omega,⟨p3,p4⟩,⟨p5,p6⟩,⟨p7,p8⟩,⟨q3,q4⟩,⟨q5,q6⟩,q7,q8⟩,by omega,by omega⟩
def checkV (h a0 b0 c0 d0 a1 b1 c1 d1 : Int) (xs : List Int) : Int × Int × Int :=
  if validR h a0 b0 c0 d0 a1 b1 c1 d1=true then
    if planOk h xs=true then
      if 0 < (faultV (rstOf h a0 b0 c0 d0 a1 b1 c1 d1) zeroRid xs).2 then ((faultV (rstOf h a0 b0 c0 d0 a1 b1 c1 d1) zeroRid xs).1,(faultV (rstOf h a0 b0 c0 d0 a1 b1 c1 d1) zeroRid xs).2,0)
      else (0,0,4)
    else (0,0,2)
  else (0,0,1)
theorem planOk_iff {h:Int} {xs:List Int}:planOk h xs=true↔(∀ x∈xs,x=0∨x=1)∧(xs.length:Int)=h:=by
  simp [planOk]
theorem check (h a0 b0 c0 d0 a1 b1 c1 d1 : Int) (tl : Tail) (htl : tl.isOwn = false) (xs : List Int) (hl : xs.length ≤ 1000000) :
    Fn P0 16 [.agg [I h,I a0,I b0,I c0,I d0,I a1,I b1,I c1,I d1],.sl tl (xs.map I)] (.tup [I (checkV h a0 b0 c0 d0 a1 b1 c1 d1 xs).1,I (checkV h a0 b0 c0 d0 a1 b1 c1 d1 xs).2.1,I (checkV h a0 b0 c0 d0 a1 b1 c1 d1 xs).2.2]):=by
  have hb:PV.bds 0 [.fp (.agg [I h,I a0,I b0,I c0,I d0,I a1,I b1,I c1,I d1]),.fp (.sl tl (xs.map I))]=true:=by
    simp only [PV.bds,PV.bd,bd_sl (f:=I) htl (fun _=>rfl) xs,Bool.and_true]
  refine f16 _ _ _ _ _ _ _ _ _ tl htl xs _ _ _ ?_
  unfold checkV
  by_cases hv:validR h a0 b0 c0 d0 a1 b1 c1 d1=true
  · rw [if_pos hv]
    obtain ⟨hok,⟨e1,e2,e3⟩,h16⟩:=rstOf_ok hv
    by_cases hp:planOk h xs=true
    · rw [if_pos hp]
      obtain ⟨hx,hlen⟩:=planOk_iff.1 hp
      have hv':validR (rstOf h a0 b0 c0 d0 a1 b1 c1 d1).m (rstOf h a0 b0 c0 d0 a1 b1 c1 d1).o0 b0 c0 d0 (rstOf h a0 b0 c0 d0 a1 b1 c1 d1).o1 b1 c1 d1=true:=by
        show validR (h.toNat:Int) (a0.toNat:Int) b0 c0 d0 (a1.toNat:Int) b1 c1 d1=true
        rw [← e1,← e2,← e3]
        exact hv
      have hp':planOk (rstOf h a0 b0 c0 d0 a1 b1 c1 d1).m xs=true:=by
        show planOk (h.toNat:Int) xs=true
        rw [← e1]
        exact hp
      have hcells:(rstOf h a0 b0 c0 d0 a1 b1 c1 d1).cells=[I h,I a0,I b0,I c0,I d0,I a1,I b1,I c1,I d1]:=by
        show [I (h.toNat:Int),I (a0.toNat:Int),I b0,I c0,I d0,I (a1.toNat:Int),I b1,I c1,I d1]=_
        rw [← e1,← e2,← e3]
      by_cases hf:0 < (faultV (rstOf h a0 b0 c0 d0 a1 b1 c1 d1) zeroRid xs).2
      · rw [if_pos hf]
        have:=f53c _ hok tl htl xs hx (by omega) hv' hp' hf
        rw [hcells] at this
        exact f52ok this hb
      · rw [if_neg hf]
        have:=f53d _ hok tl htl xs hx (by omega) hv' hp' hf
        rw [hcells] at this
        exact f52er this hb
    · rw [if_neg hp]
      exact f52er (f53b _ _ _ _ _ _ _ _ _ tl htl xs hl hv (by simpa using hp)) hb
  · rw [if_neg hv]
    exact f52er (f53a _ _ _ _ _ _ _ _ _ tl htl xs (by simpa using hv)) hb
end Go.Pv
namespace Go.Pv
open Go.Proofs Go.Am
set_option maxRecDepth 10000
def byL (n p:Nat):List Int:=(List.range n).map fun i=>((p >>> i &&& 1:Nat):Int)
theorem flat_I (xs:List Int):flat (xs.map I)=xs.map I:=by
  induction xs with
  | nil=>rfl
  | cons x xs ih=>simp only [List.map_cons,flat,ih];rfl
theorem set_fill (L:List PV) (z:PV) {i n:Nat} (hn:L.length=n) (h:i < n) {v:PV} (hv:L[i]?=some v):(L.take i++List.replicate (n - i) z).set i v=L.take (i+1)++List.replicate (n - (i+1)) z:=by
  subst hn
  have hv':L[i]=v:=by
    rw [List.getElem?_eq_getElem h] at hv
    exact Option.some.inj hv
  have e1:(L.take i).length=i:=by rw [List.length_take];omega
  rw [List.set_append_right _ _ (by omega),e1,Nat.sub_self,show L.length - i=(L.length - (i+1))+1 from by omega,List.replicate_succ,List.set_cons_zero,List.take_succ_eq_append_getElem h,hv']
  simp
theorem byL_length (n p:Nat):(byL n p).length=n:=by simp [byL]
theorem byL_get {n p i:Nat} (h:i < n):((byL n p).map I)[i]?=some (I ((p >>> i &&& 1:Nat):Int)):=by
  simp [byL,h]
theorem f34 (n p:Nat) (hn:n≤16) (hp:p < 65536):Fn P0 34 [I n,.lit (.int .u16 (p:Int))] (.sl .no ((byL n p).map I)):=by
  refine PFun.of (C:=c34) (cx_ok _ _ _) rfl (fn:=Tryz.f34) (by kernel_rfl) (c:=_) rfl rfl rfl ?_
  refine Run.seq (Run.region (cx_ok _ _ _) (Reg.op rfl (Ope.asg rfl ?_)))
  refine Reg.nil (Run.seq (Run.region (cx_ok _ _ _) (Reg.op rfl (Ope.mov rfl ?_))))
  refine Reg.op rfl (Ope.mks (m:=n) (c:=n) rfl rfl rfl rfl (Nat.le_refl _) (by omega) (by omega) (fun ez=>?_))
  refine Reg.op rfl (Ope.asg rfl ?_)
  refine Reg.nil (Run.seq (Run.seq (Run.region (cx_ok _ _ _) (Reg.op rfl (Ope.mov rfl ?_)))))
  first | refine Reg.op rfl (Ope.len rfl (List.length_map _) ?_) | refine Reg.op rfl (Ope.len rfl rfl ?_) | refine Reg.op rfl (Ope.lenL rfl ?_)
  refine Reg.op rfl (Ope.mov rfl ?_)
  refine Reg.nil (Run.block (Run.loop (α:=Nat) (fun i=>[(1,.lit (.int .u16 (p:Int))),(5,.ms 0 0 n n ez),(10,I n),(11,I i)]) (fun i=>HE 1 [(0,some (.cells (((byL n p).map I).take i++List.replicate (n - i) (I 0))))]) (fun i=>i≤n) (fun i=>n - i) 0 ⟨rfl,rfl,rfl,rfl,trivial⟩ (by simp) (Nat.zero_le _) (fun i hi=>?_)))
  refine Run.seq (Run.region (cx_ok _ _ _) (Reg.op rfl (Ope.lt rfl rfl ?_)))
  refine Reg.nil (Run.seq (Run.condX rfl (fun hc=>?_) fun hc=>?_))
  ·refine Run.skip (Run.seq (Run.block (Run.seq (Run.region (cx_ok _ _ _) (Reg.op rfl (Ope.mov rfl ?_))))))
   refine Reg.op rfl (Ope.asg rfl ?_)
   refine Reg.nil ?_
   have hsh:p >>> i < 65536:=Nat.lt_of_le_of_lt (Nat.shiftRight_le _ _) hp
   have hand:=and_one_lt (p >>> i)
   refine Run.region (cx_ok _ _ _) (Reg.op rfl (Ope.mov rfl ?_))
   refine Reg.op rfl (Ope.mov rfl ?_)
   refine Reg.op rfl (Ope.mov rfl ?_)
   refine Reg.op rfl (Ope.mov rfl ?_)
   refine Reg.op rfl (Ope.shrN (p:=p) (m:=i) rfl rfl rfl rfl (by show i≤16;omega) ?_)
   refine Reg.op rfl (Ope.andN (p:=p >>> i) (q:=1) rfl rfl rfl rfl (by show _ < 2 ^ 16;omega) (by decide) ?_)
   refine Reg.op rfl (Ope.convN (p:=p >>> i &&& 1) rfl rfl (by show _ < 2 ^ 63;omega) ?_)
   refine Reg.op rfl (Ope.idxL rfl rfl rfl (by omega) ?_)
   refine Reg.op0 (Ope.storeL rfl rfl rfl rfl rfl (by simp [byL];omega) ?_)
   refine Reg.nil (Run.bend (Run.wideS (m:=1) (l':=[(0,some (.cells (((byL n p).map I).take (i+1)++List.replicate (n - (i+1)) (I 0))))]) (Nat.le_refl _) ?_ ?_))
   · have hz : 0 + i * 1 = i := by omega
     rw [hz,set_fill ((byL n p).map I) (I 0) (by simp [byL]) (by omega) (byL_get (by omega))]
     exact hs_shadow
   refine Run.region (cx_ok _ _ _) (Reg.op rfl (Ope.add rfl rfl (by omega) ?_))
   refine Reg.op rfl (Ope.mov rfl ?_)
   refine Reg.nil (Run.lend ⟨i+1,by omega,by omega,⟨rfl,rfl,rfl,rfl,trivial⟩,rfl,rfl⟩)
  ·refine Run.exit (Jmp.code (Jmp.round (Jmp.here (Run.seq ?_))))
   have hin:i=n:=by omega
   have hcs:((byL n p).map I).take i++List.replicate (n - i) (I 0)=flat ((byL n p).map I)++[]:=by
     rw [flat_I,List.take_of_length_le (by simp [byL];omega),hin,Nat.sub_self]
     rfl
   refine Run.frzS (d:=5) (vs:=(byL n p).map I) (post:=[]) (sz:=1) rfl (congrArg (fun q=>some (PBlk.cells q)) hcs) (by simp [byL]) (Nat.le_refl _) (by simp [PV.nc]) ?_
   refine Run.region (cx_ok _ _ _) (Reg.op rfl (Ope.mov rfl ?_))
   refine Reg.op rfl (Ope.asg rfl ?_)
   refine Reg.nil (Run.ret (fin_ret (.tmp rfl .nil) (bd_sl (f:=I) rfl (fun _=>rfl) _) ?_))
   rfl
def hst (xs:List Int) (who:Int):Nat→Int×Int×Int
  | 0=>(0,-1,0)
  | k+1=>if xs.getD k 0=who then ((hst xs who k).1+1,(k:Int),(hst xs who k).2.2+1) else ((hst xs who k).1,(hst xs who k).2.1,0)
end Go.Pv
namespace Go.Am
open Go.Proofs
def setAllK:List Nat→T Unit→T Unit
  | [],t=>t
  | n::l,t=>setAllK l (t.set n ())
theorem setAllK_get:∀ (l:List Nat) (t:T Unit) (x:Nat),(setAllK l t).get x=some ()→x∈l∨t.get x=some ()
  | [],_,_,h=>.inr h
  | n :: l, t, x, h => by
    rcases setAllK_get l _ x h with h1 | h1
    · exact .inl (List.mem_cons_of_mem _ h1)
    · rw [T.get_set] at h1
      split at h1
      · next e=>subst e;exact .inl (List.mem_cons_self ..)
      · exact .inr h1
def eqTypesK:List Nat:=[7,8,22,23,24,25,26,40,41,59,60,64,65,66,67,73,74,77,78,89,90,96,97,105,106,114,115,118,119,132,133,145,146,147,148,149,150,160,161,184,185,188,189,191,195,196,220,221,228,229,245,246,249,250,251,255]
def eqsK:Eqs:={ eqs:=setAllK eqTypesK .nil }
theorem eqsK_ok:eqsK.Ok Tryz.prog:=by
  have h:eqTypesK.all (fun t=>!(Tryz.prog.eqGuardType Tryz.prog.depth t) && !(Tryz.prog.stoodInHeld t))=true:=by kernel_rfl
  refine ⟨fun t ht=>?_⟩
  rcases setAllK_get _ _ _ ht with h1 | h1
  · have := List.all_eq_true.1 h t h1
    simp only [Bool.and_eq_true,Bool.not_eq_true'] at this
    exact this
  · rw [T.get_nil] at h1;cases h1
theorem tryz_ok:(AP.of Tryz.prog).Ok Tryz.prog:=AP.of_ok _ (by kernel_rfl)
theorem tryz_follows:Tryz.prog.follows .mixedOrders=true:=by kernel_rfl
def slowK:T Unit:=setAllK [193,192,190,183,182,179,176,171,155,152,143,138,132,126,115,111,103,77,59,57,52] .nil
def isTrueK:KR→Bool
  | some (.bool true,_)=>true
  | _=>false
theorem isTrueK_ok {r:KR} (h:isTrueK r=true):∃ H,r=some (.bool true,H):=by
  unfold isTrueK at h
  split at h
  · exact ⟨_,rfl⟩
  · cases h
def hasBodyK (A:AP) (f:FuncId):Bool :=
  match A.funcs.get f with
  | some fn=>fn.body.isSome
  | none=>false
theorem hasBodyK_ok {A:AP} {f:FuncId} (h:hasBodyK A f=true):∃ fn c,A.funcs.get f=some fn∧fn.body=some c:=by
  unfold hasBodyK at h
  split at h
  · next fn hfn =>
    obtain ⟨c,hc⟩:=Option.isSome_iff_exists.1 h
    exact ⟨fn,c,hfn,hc⟩
  · cases h
def ek16:Ent:={ f:=16,args:=[.agg [.int .i64 (6),.int .i64 (4),.int .i64 (4),.int .i64 (2),.int .i64 (1),.int .i64 (32),.int .i64 (3),.int .i64 (2),.int .i64 (1)],.sl 0 0 6 (.ex 6)],bs:=[.cells 3 [.int .i64 (0),.int .i64 (1),.int .i64 (1),.int .i64 (1),.int .i64 (0),.int .i64 (0)]],v:=.tup [.int .i64 (3),.int .i64 (3),.int .i64 (0)],next:=131,new:=[] }
def ek20:Ent:={ f:=20,args:=[.agg [.int .i64 (6),.int .i64 (4),.int .i64 (4),.int .i64 (2),.int .i64 (1),.int .i64 (36),.int .i64 (3),.int .i64 (2),.int .i64 (1)]],bs:=[],v:=.tup [.int .i64 (2),.int .i64 (0)],next:=905,new:=[] }
def ek24:Ent:={ f:=24,args:=[.agg [.int .i64 (6),.int .i64 (4),.int .i64 (4),.int .i64 (2),.int .i64 (1),.int .i64 (32),.int .i64 (3),.int .i64 (2),.int .i64 (1)]],bs:=[],v:=.tup [.int .i64 (0),.sl 912 0 6 (.ex 6),.int .i64 (0)],next:=1351,new:=[(912,.cells 3 [.int .i64 (0),.int .i64 (1),.int .i64 (1),.int .i64 (0),.int .i64 (1),.int .i64 (0)])] }
def ek29:Ent:={ f:=29,args:=[.agg [.int .i64 (6),.int .i64 (4),.int .i64 (4),.int .i64 (2),.int .i64 (1),.int .i64 (32),.int .i64 (3),.int .i64 (2),.int .i64 (1)]],bs:=[],v:=.tup [.int .i64 (32),.int .i64 (4),.int .i64 (0)],next:=1309,new:=[] }
def ek18:Ent:={ f:=18,args:=[.agg [.int .i64 (6),.int .i64 (4),.int .i64 (4),.int .i64 (2),.int .i64 (1),.int .i64 (32),.int .i64 (3),.int .i64 (2),.int .i64 (1)]],bs:=[],v:=.tup [.int .i64 (5),.int .i64 (0)],next:=1170,new:=[] }
def ek27:Ent:={ f:=27,args:=[.agg [.int .i64 (6),.int .i64 (4),.int .i64 (4),.int .i64 (2),.int .i64 (1),.int .i64 (32),.int .i64 (3),.int .i64 (2),.int .i64 (1)],.int .i64 (0)],bs:=[],v:=.tup [.agg [.int .i64 (3),.int .i64 (4)],.int .i64 (0)],next:=1268,new:=[] }
def ek22:Ent:={ f:=22,args:=[.agg [.int .i64 (6),.int .i64 (4),.int .i64 (4),.int .i64 (2),.int .i64 (1),.int .i64 (32),.int .i64 (3),.int .i64 (2),.int .i64 (1)]],bs:=[],v:=.tup [.int .i64 (2),.sl 964 0 6 (.ex 6),.int .i64 (0)],next:=1435,new:=[(964,.cells 3 [.int .i64 (0),.int .i64 (0),.int .i64 (1),.int .i64 (1),.int .i64 (0),.int .i64 (0)])] }
def ek31:Ent:={ f:=31,args:=[.agg [.int .i64 (6),.int .i64 (4),.int .i64 (4),.int .i64 (2),.int .i64 (1),.int .i64 (36),.int .i64 (3),.int .i64 (2),.int .i64 (1)]],bs:=[],v:=.tup [.int .i64 (0),.int .i64 (2),.int .i64 (0)],next:=1488,new:=[] }
end Go.Am
namespace Go.Am
open Go.Proofs
theorem ek16_runs:(kent (AP.of Tryz.prog) eqsK 1000000000 slowK .nil 60 ek16).isSome=true:=by kernel_rfl
theorem ek20_runs:(kent (AP.of Tryz.prog) eqsK 1000000000 slowK .nil 60 ek20).isSome=true:=by kernel_rfl
theorem ek24_runs:(kent (AP.of Tryz.prog) eqsK 1000000000 slowK .nil 60 ek24).isSome=true:=by kernel_rfl
theorem ek29_runs:(kent (AP.of Tryz.prog) eqsK 1000000000 slowK .nil 60 ek29).isSome=true:=by kernel_rfl
theorem ek18_runs:(kent (AP.of Tryz.prog) eqsK 1000000000 slowK .nil 60 ek18).isSome=true:=by kernel_rfl
theorem ek27_runs:(kent (AP.of Tryz.prog) eqsK 1000000000 slowK .nil 60 ek27).isSome=true:=by kernel_rfl
theorem ek22_runs:(kent (AP.of Tryz.prog) eqsK 1000000000 slowK .nil 60 ek22).isSome=true:=by kernel_rfl
theorem ek31_runs:(kent (AP.of Tryz.prog) eqsK 1000000000 slowK .nil 60 ek31).isSome=true:=by kernel_rfl
end Go.Am
namespace Go.Am
open Go.Proofs Go.RowKit
theorem awake_runs:isTrueK (kmainT (AP.of Tryz.prog) eqsK 1000000000 slowK (T.set (T.set (T.set (T.set (T.set (T.set (T.set (T.set T.nil 16 [ek16]) 20 [ek20]) 24 [ek24]) 29 [ek29]) 18 [ek18]) 27 [ek27]) 22 [ek22]) 31 [ek31]) 60 15)=true:=by kernel_rfl
theorem TabOk.one {A:AP} {P:Program} {tb:T (List Ent)} (ht:TabOk A P tb) {f:FuncId} {e:Ent} (hb:hasBodyK A f=true) (h1:e.f=f) (h2:EntOk A P e):TabOk A P (tb.set f [e]):=by
  obtain ⟨fn,c,hfn,hc⟩:=hasBodyK_ok hb
  refine ht.set hfn hc fun x hx=>?_
  rcases List.mem_cons.1 hx with hx | hx
  · subst hx;exact ⟨h1,h2⟩
  · cases hx
theorem awake_calls (w:World):Calls Tryz.prog 15 #[] w fun e w'=>e=.returned (.bool true)∧Kept w w':=by
  have ht:TabOk (AP.of Tryz.prog) Tryz.prog (T.set (T.set (T.set (T.set (T.set (T.set (T.set (T.set T.nil 16 [ek16]) 20 [ek20]) 24 [ek24]) 29 [ek29]) 18 [ek18]) 27 [ek27]) 22 [ek22]) 31 [ek31]):=by
    refine TabOk.one ?_ (by kernel_rfl) rfl (kent_ok tryz_ok eqsK_ok tryz_follows TabOk.nil ek31_runs)
    refine TabOk.one ?_ (by kernel_rfl) rfl (kent_ok tryz_ok eqsK_ok tryz_follows TabOk.nil ek22_runs)
    refine TabOk.one ?_ (by kernel_rfl) rfl (kent_ok tryz_ok eqsK_ok tryz_follows TabOk.nil ek27_runs)
    refine TabOk.one ?_ (by kernel_rfl) rfl (kent_ok tryz_ok eqsK_ok tryz_follows TabOk.nil ek18_runs)
    refine TabOk.one ?_ (by kernel_rfl) rfl (kent_ok tryz_ok eqsK_ok tryz_follows TabOk.nil ek29_runs)
    refine TabOk.one ?_ (by kernel_rfl) rfl (kent_ok tryz_ok eqsK_ok tryz_follows TabOk.nil ek24_runs)
    refine TabOk.one ?_ (by kernel_rfl) rfl (kent_ok tryz_ok eqsK_ok tryz_follows TabOk.nil ek20_runs)
    refine TabOk.one ?_ (by kernel_rfl) rfl (kent_ok tryz_ok eqsK_ok tryz_follows TabOk.nil ek16_runs)
    exact TabOk.nil
  obtain ⟨H,hH⟩:=isTrueK_ok awake_runs
  exact kmainT_keep tryz_ok eqsK_ok tryz_follows ht hH w
end Go.Am
namespace Go.Pv
open Go.Proofs Go.Am
set_option maxRecDepth 10000
theorem awakeC:Clo P0 15 true:=by
  have hf:A0.funcs.get 15=some Tryz.f15:=by kernel_rfl
  exact fun hp X=>PCall.closed ⟨Tryz.f15,_,A0_ok.funcs _ _ hf,rfl,by simpa using A0_ok.names _ _ hf⟩ awake_calls hp
end Go.Pv
