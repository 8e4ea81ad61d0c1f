/- Parts of the proof: T58 -/
import Derived.Test.YtabejoodkhlnaaaGreatP19
set_option linter.unusedVariables false
set_option linter.unusedSimpArgs false
namespace Go.Pv
open Go.Proofs Go.Am
set_option maxRecDepth 10000
section
variable {C:Cx} {X:EX} {e:EL} {ds:List Nat} {K:PV→PH→Prop} {h:PH}
variable {d:Option Tmp} {type:TypeId} {pos:String} {after:Array Edge} {guard:Option (Nat×Bool)}
theorem Ope.neS {t t':TypeId} {x y:Operand} {kk:IntKind} {a:Int} (hx:pev (lget e) x=some (.lit (.int kk a))) (hy:pev (lget e) y=some (.lit (.int kk a))) (hK:K (B false) h) :
    Ope C X { dst:=d,op:=.binOp .neq t x y t',type,pos,after,guard } e ds h K :=
  Ope.ne hx hy (by simpa using hK)
theorem Ope.neT {t t':TypeId} {x y:Operand} {kk:IntKind} {a b:Int} (hab:a≠b) (hx:pev (lget e) x=some (.lit (.int kk a))) (hy:pev (lget e) y=some (.lit (.int kk b))) (hK:K (B true) h) :
    Ope C X { dst:=d,op:=.binOp .neq t x y t',type,pos,after,guard } e ds h K :=
  Ope.ne hx hy (by rw [decide_eq_true hab];exact hK)
theorem Ope.neV {t t':TypeId} {x y:Operand} {p q:PV} {b:Bool} (hx:pev (lget e) x=some p) (hy:pev (lget e) y=some q) (hb:pbin C.A C.E .neq t x y p q=some (B b)) (hK:K (B b) h) :
    Ope C X { dst:=d,op:=.binOp .neq t x y t',type,pos,after,guard } e ds h K:=by
  refine Ope.quiet rfl ?_ hK
  simp only [pquiet,hx,hy,hb]
end
def chainB (a b : Bool) : Option Bool :=
  match some a with
  | some true => match some b with
    | some true=>some true
    | some false=>some false
    | none=>none
  | some false=>some false
  | none=>none
theorem ne41v (x y x' y':Int):aeqv A0 E0 20 41 (.agg [.int .i64 x,.int .i64 y]) (.agg [.int .i64 x',.int .i64 y'])=chainB (x == x') (y == y'):=by kernel_rfl
theorem ne41e:E0.eqs.get 41=some ():=by kernel_rfl
theorem ne41u:(match A0.under 41 with | some (.struct _)=>true | _=>false)=true:=by kernel_rfl
theorem ne41 (xo yo:Operand) (x y:Int):pbin A0 E0 .neq 41 xo yo (.agg [I x,I y]) (.agg [I x,I y])=some (B false):=by
  have hn:pnil A0 41 (.agg [I x,I y]) (.agg [I x,I y])=none:=by
    have h:=ne41u
    unfold pnil
    cases hu:A0.under 41 with
    | none=>rfl
    | some d =>
      rw [hu] at h
      cases d<;>first | rfl | (exact absurd h (by decide))
  have hv:=ne41v x y x y
  simp only [beq_self_eq_true] at hv
  simp only [pbin,PV.toAV,PV.toAVs,bothNil,hn,abin,aequal,ne41e,hv,chainB,plit,PV.ofAV]
  rfl
theorem f12a (h a0 b0 c0 d0 a1 b1 c1 d1:Int) (p c:Nat) (hv:validR h a0 b0 c0 d0 a1 b1 c1 d1=false):Fn P0 12 [.agg [I h,I a0,I b0,I c0,I d0,I a1,I b1,I c1,I d1],.lit (.int .u16 (p:Int)),.lit (.int .u8 (c:Int))] (B true):=by
  have h33:=f33 h a0 b0 c0 d0 a1 b1 c1 d1
  rw [hv] at h33
  refine PFun.of (C:=c12) (cx_ok _ _ _) rfl (fn:=Tryz.f12) (by kernel_rfl) (c:=_) rfl rfl rfl ?_
  refine Run.seq (Run.region (cx_ok _ _ _) (Reg.op rfl (Ope.boxF rfl rfl ?_)))
  refine Reg.op rfl (Ope.asg rfl ?_)
  refine Reg.nil (Run.seq (Run.seq (Run.region (cx_ok _ _ _) (Reg.op rfl (Ope.load rfl rfl ?_)))))
  refine Reg.op rfl (Ope.cf rfl rfl (h33) rfl ?_)
  refine Reg.op rfl (Ope.not rfl ?_)
  refine Reg.nil (Run.condX rfl (fun hc=>?_) fun hc=>?_)
  ·refine Run.seq (Run.region (cx_ok _ _ _) (Reg.op rfl (Ope.clo rfl rfl awakeF ?_)))
   refine Reg.op rfl (Ope.asg rfl ?_)
   refine Reg.nil (Run.ret (Jmp.code (fin_ret (.tmp rfl .nil) rfl ?_)))
   rfl
  ·exact absurd hc (by decide)
def tlU:Option Nat→Tail
  | none=>.ex
  | some j=>.own j
def ownU:Option Nat→HL
  | none=>[]
  | some j=>[(j,some .own)]
section
variable {C:Cx} {X:EX} {e:EL} {ds:List Nat} {K:PV→PH→Prop} {n:Nat} {l:HL}
variable {d:Option Tmp} {type:TypeId} {pos:String} {after:Array Edge} {guard:Option (Nat×Bool)}
theorem Ope.apU {o' : Option Nat} {t tx sz bytes sz' bytes' : Nat} {agg agg' : Bool} {x y : Operand} {tl' : Tail} {vs ws : List PV} [hs : Slc C.A t agg sz bytes] [hs' : Slc C.A tx agg' sz' bytes'] (hx : pev (lget e) x = some (.sl (tlU o') vs)) (hy : pev (lget e) y = some (.sl tl' ws)) (hne : ws ≠ []) (ho : ∀ j, o' = some j → vs ≠ [] ∧ hget l j = none)
    (hb1:(vs.length+ws.length) * bytes≤140737488355328) (hb2:vs.length+ws.length≤1000000000) (h1:1≤sz) (hv:∀ v∈vs,v.nc=sz) (hw:∀ v∈ws,v.nc=sz∧PV.allOne v.cells=true) (hK:K (.sl (.own n) (vs++ws)) (HE (n+1) ((n,some .own)::l))) :
    Ope C X { dst:=d,op:=.call { callee:=.builtin .append,args:=#[x,y],argTypes:=#[t,tx] },type,pos,after,guard } e ds (HE n (ownU o'++l)) K:=by
  cases o' with
  | none=>exact Ope.apO hx hy hne hb1 hb2 h1 hv hw hK
  | some j =>
    obtain ⟨h2,h3⟩:=ho j rfl
    refine Ope.apP hx hy hne h2 hget_hd hb1 hb2 h1 hv hw ?_
    have e1:HE (n+1) ((n,some .own)::(j,none)::(ownU (some j)++l))=HE (n+1) ((n,some .own)::l):=by
      simp only [HE,PH.mk.injEq,and_true]
      funext i
      by_cases hi:i=n
      · subst hi;rw [hget_hd,hget_hd]
      · rw [hget_tl hi, hget_tl hi]
        by_cases hj:i=j
        · subst hj;rw [hget_hd,h3]
        · rw [hget_tl hj]
          show hget ((j,some PBlk.own)::l) i=_
          rw [hget_tl hj]
    rw [e1]
    exact hK
end
structure Twin (R:Rst) (c k:Int) (xs:List Int):Prop where
  count:∃ n e:Int,Fn P0 18 [.agg R.cells] (.tup [I n,I e])∧Fn P0 18 [.agg R.sw.cells] (.tup [I n,I e])
  few:Fn P0 22 [.agg R.cells] (.tup [I c,.sl (wt xs) (xs.map I),I k])∧∃ v:PV,Fn P0 22 [.agg R.sw.cells] (.tup [I c,v,I k])
  even:∃ (n e:Int) (u v:PV),Fn P0 24 [.agg R.cells] (.tup [I n,u,I e])∧Fn P0 24 [.agg R.sw.cells] (.tup [I n,v,I e])
  hours:∃ a b e:Int,Fn P0 27 [.agg R.cells,I 0] (.tup [.agg [I a,I b],I e])∧Fn P0 27 [.agg R.sw.cells,I 1] (.tup [.agg [I a,I b],I e])
  must:∃ a b e:Int,Fn P0 29 [.agg R.cells] (.tup [I a,I b,I e])∧Fn P0 29 [.agg R.sw.cells] (.tup [I b,I a,I e])
theorem Twin.of (R : Rst) (hR : R.ok) (hv : validR R.m R.o0 R.t0 R.r0 R.f0 R.o1 R.t1 R.r1 R.f1 = true) : ∃ (c k : Int) (xs : List Int), Twin R c k xs ∧ xs.length ≤ 16 := by
  have hR':=sw_ok hR
  have hv':=sw_valid hv
  have e1:R.sw.many=R.many:=sw_cnt R R.m _ _ sw_zero
  have hc:∃ n e:Int,Fn P0 18 [.agg R.cells] (.tup [I n,I e])∧Fn P0 18 [.agg R.sw.cells] (.tup [I n,I e]) :=
    ⟨R.many,0,f18b R hR hv,by have:=f18b R.sw hR' hv';rw [e1] at this;exact this⟩
  have hE:∃ (n e:Int) (u v:PV),Fn P0 24 [.agg R.cells] (.tup [I n,u,I e])∧Fn P0 24 [.agg R.sw.cells] (.tup [I n,v,I e]):=by
    have h:=sw_even R
    cases h1:R.best askE with
    | none =>
      rw [h1] at h
      cases h2:R.sw.best askE with
      | none=>exact ⟨_,_,_,_,f24b R hR hv h1,f24b R.sw hR' hv' h2⟩
      | some w=>rw [h2] at h;cases h
    | some w =>
      rw [h1] at h
      cases h2:R.sw.best askE with
      | none=>rw [h2] at h;cases h
      | some v =>
        rw [h2] at h
        have h3:v.1=w.1:=by simpa [cof] using h
        have h4:=f24c R.sw hR' hv' v h2
        rw [h3] at h4
        exact ⟨_,_,_,_,f24c R hR hv w h1,h4⟩
  have hH:∃ a b e:Int,Fn P0 27 [.agg R.cells,I 0] (.tup [.agg [I a,I b],I e])∧Fn P0 27 [.agg R.sw.cells,I 1] (.tup [.agg [I a,I b],I e]):=by
    have h:R.sw.hrs 1=R.hrs 0:=sw_spn R R.m _ _ sw_zero
    cases h1:R.hrs 0 with
    | none=>rw [h1] at h;exact ⟨_,_,_,f27b 0 (.inl rfl) R hR hv h1,f27b 1 (.inr rfl) R.sw hR' hv' h⟩
    | some p=>rw [h1] at h;exact ⟨_,_,_,f27c 0 (.inl rfl) R hR hv p h1,f27c 1 (.inr rfl) R.sw hR' hv' p h⟩
  have hM:∃ a b e:Int,Fn P0 29 [.agg R.cells] (.tup [I a,I b,I e])∧Fn P0 29 [.agg R.sw.cells] (.tup [I b,I a,I e]):=by
    have h:R.sw.must=R.must.map swp:=sw_mst R R.m _ _ sw_zero
    cases h1:R.must with
    | none=>rw [h1] at h;exact ⟨_,_,_,f29b' R hR hv h1,f29b' R.sw hR' hv' h⟩
    | some p=>rw [h1] at h;exact ⟨_,_,_,f29c' R hR hv p h1,f29c' R.sw hR' hv' _ h⟩
  have h:=sw_best R
  cases h1:R.best askF with
  | none =>
    rw [h1] at h
    cases h2:R.sw.best askF with
    | none=>exact ⟨0,4,[],⟨hc,⟨f22b R hR hv h1,_,f22b R.sw hR' hv' h2⟩,hE,hH,hM⟩,by simp⟩
    | some w=>rw [h2] at h;cases h
  | some w =>
    rw [h1] at h
    cases h2:R.sw.best askF with
    | none=>rw [h2] at h;cases h
    | some v =>
      rw [h2] at h
      have h3:v.1=w.1:=by simpa [cof] using h
      have h4:=f22c R.sw hR' hv' v h2
      rw [h3] at h4
      have hl:=(few_best R R.m zeroRid w (by decide) h1).1
      have hm:=hR.1
      exact ⟨w.1,0,w.2,⟨hc,⟨f22c R hR hv w h1,_,h4⟩,hE,hH,hM⟩,by omega⟩
set_option maxHeartbeats 4000000 in
theorem f12s (R:Rst) (hR:R.ok) (hv:validR R.m R.o0 R.t0 R.r0 R.f0 R.o1 R.t1 R.r1 R.f1=true) (p c:Nat) (hp:p < 65536) (hc256:c < 256) (c1 k:Int) (xs:List Int) (hT:Twin R c1 k xs) (hxl:xs.length≤16) (hne:xs≠[]) (L:List Int) (hLe:L=byL R.m p) (hx:∀ x∈L,x=0∨x=1) (hlen:L.length=R.m) :
    Fn P0 12 [.agg R.cells,.lit (.int .u16 (p:Int)),.lit (.int .u8 (c:Int))] (B true):=by
  have h33:=f33 R.m R.o0 R.t0 R.r0 R.f0 R.o1 R.t1 R.r1 R.f1
  rw [hv] at h33
  have hm16:=hR.1
  have h34:=f34 R.m p hm16 hp
  rw [← hLe] at h34
  obtain ⟨⟨a18,e18,h18,h18'⟩,⟨h22,v22,h22'⟩,⟨a24,e24,u24,v24,h24,h24'⟩,⟨a27,b27,e27,h27,h27'⟩,⟨a29,b29,e29,h29,h29'⟩⟩:=hT
  have hck:=check R.m R.o0 R.t0 R.r0 R.f0 R.o1 R.t1 R.r1 R.f1 .no rfl L (by omega)
  have hck':=fun (tl:Tail) (htl:tl.isOwn=false)=>check R.m R.o1 R.t1 R.r1 R.f1 R.o0 R.t0 R.r0 R.f0 tl htl (flp L) (by simp only [flp,List.length_map];omega)
  rw [sw_check R hv L hx hlen] at hck'
  have h26:=f26 (wt xs) .no xs (by omega)
  have hb26:PV.bds 0 [.sl (wt xs) (xs.map I),.sl .no (xs.map I)]=true:=by
    simp only [PV.bds,bd_sl (f:=I) (tl:=.no) rfl (fun _=>rfl) xs,bd_sl (f:=I) (wt_own xs) (fun _=>rfl) xs,Bool.and_true]
  have hbL:PV.bds 0 [.agg R.cells,.sl .no (L.map I)]=true:=by
    simp only [PV.bds,bd_sl (f:=I) (tl:=.no) rfl (fun _=>rfl) L,Bool.and_true]
    rfl
  have hbL':PV.bds 0 [.agg R.sw.cells,.sl .no ((flp L).map I)]=true:=by
    simp only [PV.bds,bd_sl (f:=I) (tl:=.no) rfl (fun _=>rfl) (flp L),Bool.and_true]
    rfl
  have hag:∀ v∈xs.map I,v.isAgg=false:=by intro v hv;obtain ⟨_,_,rfl⟩:=List.mem_map.1 hv;rfl
  have hlo:∀ ys:List Int,PV.lones (ys.map I)=true:=by
    intro ys
    induction ys with
    | nil=>rfl
    | cons y ys ih=>simp only [List.map_cons,PV.lones,ih,Bool.and_true];rfl
  have hqf:=fun h4 n hn=>first_right R hv L hx hlen h4 n hn
  generalize checkV R.m R.o0 R.t0 R.r0 R.f0 R.o1 R.t1 R.r1 R.f1 L=q at *
  obtain ⟨q1,q2,q3⟩:=q
  have hmm:c % (R.m+1)≤R.m:=by have:=Nat.mod_lt c (show 0 < R.m+1 by omega);omega
  have hm16':c % (R.m+1)≤16:=by omega
  have h42:=f42 R hR (c % (R.m+1)) hm16'
  have hxt:∀ x∈L.take (c % (R.m+1)),x=0∨x=1:=fun x h=>hx x (List.mem_of_mem_take h)
  have hlt':(L.take (c % (R.m+1))).length=c % (R.m+1):=by rw [List.length_take];omega
  have h36:=f36 (R.first (c % (R.m+1))) (first_valid hv hm16') .no rfl (L.take (c % (R.m+1))) hxt hlt'
  have hb36:PV.bds 0 [.agg (R.first (c % (R.m+1))).cells,.sl .no ((L.take (c % (R.m+1))).map I)]=true:=by
    simp only [PV.bds,bd_sl (f:=I) (tl:=.no) rfl (fun _=>rfl) (L.take (c % (R.m+1))),Bool.and_true]
    rfl
  rw [List.map_take] at h36 hb36
  rcases (Decidable.em (q3=4)) with rfl | hq3
  · rw [hqf rfl _ hmm] at h36
    refine PFun.of (C:=c12) (cx_ok _ _ _) rfl (fn:=Tryz.f12) (by kernel_rfl) (c:=_) rfl rfl rfl ?_
    refine Run.seq (Run.region (cx_ok _ _ _) (Reg.op rfl (Ope.boxF rfl rfl ?_)))
    refine Reg.op rfl (Ope.asg rfl ?_)
    refine Reg.nil (Run.seq (Run.seq (Run.region (cx_ok _ _ _) (Reg.op rfl (Ope.load rfl rfl ?_)))))
    refine Reg.op rfl (Ope.cf rfl rfl (h33) rfl ?_)
    refine Reg.op rfl (Ope.not rfl ?_)
    refine Reg.nil (Run.condX rfl (fun hc=>?_) fun hc=>?_)
    ·exact absurd hc (by decide)
    ·refine Run.skip (Run.seq (Run.region (cx_ok _ _ _) (Reg.op rfl (Ope.load rfl rfl ?_))))
     refine Reg.op rfl (Ope.newL rfl ?_)
     refine Reg.op0 (Ope.store rfl rfl rfl rfl rfl rfl ?_)
     refine Reg.nil (Run.seq (Run.draw (cx_ok _ _ _) [(0,true),(1,true),(2,true),(3,true),(4,true),(5,false),(6,true),(7,true),(9,true),(8,true),(10,true),(11,true)] (by kernel_rfl) (Dra.op' rfl rfl rfl .sure (Ope.fld rfl rfl ?_))))
     refine Dra.op' rfl rfl rfl .sure (Ope.idxA rfl rfl rfl rfl ?_)
     refine Dra.op' rfl rfl rfl .sure (Ope.load rfl rfl ?_)
     refine Dra.op' rfl rfl rfl .sure (Ope.fld rfl rfl ?_)
     refine Dra.op' rfl rfl rfl .sure (Ope.idxA rfl rfl rfl rfl ?_)
     refine Dra.op' rfl rfl rfl (.load rfl) (Ope.load rfl rfl ?_)
     refine Dra.op' rfl rfl rfl .sure (Ope.fld rfl rfl ?_)
     refine Dra.op' rfl rfl rfl .sure (Ope.idxA rfl rfl rfl rfl ?_)
     refine Dra.op' rfl rfl rfl .sure (Ope.fld rfl rfl ?_)
     refine Dra.op' rfl rfl rfl .sure (Ope.store rfl rfl rfl rfl rfl rfl ?_)
     refine Dra.op' rfl rfl rfl .sure (Ope.idxA rfl rfl rfl rfl ?_)
     refine Dra.op' rfl rfl rfl .sure (Ope.store rfl rfl rfl rfl rfl rfl ?_)
     refine Dra.nil (Run.seq (Run.region (cx_ok _ _ _) (Reg.op rfl (Ope.load rfl rfl ?_))))
     refine Reg.op rfl (Ope.cf rfl rfl (h18) rfl ?_)
     refine Reg.op rfl (Ope.mov rfl ?_)
     refine Reg.op rfl (Ope.ext rfl rfl ?_)
     refine Reg.op rfl (Ope.ext rfl rfl ?_)
     refine Reg.op rfl (Ope.asg rfl ?_)
     refine Reg.op rfl (Ope.asg rfl ?_)
     refine Reg.nil (Run.seq (Run.region (cx_ok _ _ _) (Reg.op rfl (Ope.load rfl rfl ?_))))
     refine Reg.op rfl (Ope.cf rfl rfl (h18') rfl ?_)
     refine Reg.op rfl (Ope.mov rfl ?_)
     refine Reg.op rfl (Ope.ext rfl rfl ?_)
     refine Reg.op rfl (Ope.ext rfl rfl ?_)
     refine Reg.op rfl (Ope.asg rfl ?_)
     refine Reg.op rfl (Ope.asg rfl ?_)
     refine Reg.nil (Run.seq (Run.region (cx_ok _ _ _) (Reg.op rfl (Ope.load rfl rfl ?_))))
     refine Reg.op rfl (Ope.thaw (pre:=[I c1]) (post:=[I k]) rfl rfl rfl h22 rfl hag (hlo xs) (by simpa using hne) rfl rfl (List.length_map _) (fun o cp hcap=>?_))
     refine Reg.op rfl (Ope.mov rfl ?_)
     refine Reg.op rfl (Ope.ext rfl rfl ?_)
     refine Reg.op rfl (Ope.ext rfl rfl ?_)
     refine Reg.op rfl (Ope.ext rfl rfl ?_)
     refine Reg.op rfl (Ope.asg rfl ?_)
     refine Reg.op rfl (Ope.asg rfl ?_)
     refine Reg.op rfl (Ope.asg rfl ?_)
     refine Reg.nil (Run.seq (Run.region (cx_ok _ _ _) (Reg.op rfl (Ope.load rfl rfl ?_))))
     refine Reg.op rfl (Ope.cf rfl rfl (h22') rfl ?_)
     refine Reg.op rfl (Ope.mov rfl ?_)
     refine Reg.op rfl (Ope.ext rfl rfl ?_)
     refine Reg.op rfl (Ope.ext rfl rfl ?_)
     refine Reg.op rfl (Ope.ext rfl rfl ?_)
     refine Reg.op rfl (Ope.asg rfl ?_)
     refine Reg.op rfl (Ope.asg rfl ?_)
     refine Reg.op rfl (Ope.asg rfl ?_)
     refine Reg.nil (Run.seq (Run.region (cx_ok _ _ _) (Reg.op rfl (Ope.load rfl rfl ?_))))
     refine Reg.op rfl (Ope.cf rfl rfl (h24) rfl ?_)
     refine Reg.op rfl (Ope.mov rfl ?_)
     refine Reg.op rfl (Ope.ext rfl rfl ?_)
     refine Reg.op rfl (Ope.ext rfl rfl ?_)
     refine Reg.op rfl (Ope.ext rfl rfl ?_)
     refine Reg.op rfl (Ope.asg rfl ?_)
     refine Reg.op rfl (Ope.asg rfl ?_)
     refine Reg.op rfl (Ope.asg rfl ?_)
     refine Reg.nil (Run.seq (Run.region (cx_ok _ _ _) (Reg.op rfl (Ope.load rfl rfl ?_))))
     refine Reg.op rfl (Ope.cf rfl rfl (h24') rfl ?_)
     refine Reg.op rfl (Ope.mov rfl ?_)
     refine Reg.op rfl (Ope.ext rfl rfl ?_)
     refine Reg.op rfl (Ope.ext rfl rfl ?_)
     refine Reg.op rfl (Ope.ext rfl rfl ?_)
     refine Reg.op rfl (Ope.asg rfl ?_)
     refine Reg.op rfl (Ope.asg rfl ?_)
     refine Reg.op rfl (Ope.asg rfl ?_)
     refine Reg.nil (Run.seq (Run.region (cx_ok _ _ _) (Reg.op rfl (Ope.load rfl rfl ?_))))
     refine Reg.op rfl (Ope.cf rfl rfl (h27) rfl ?_)
     refine Reg.op rfl (Ope.mov rfl ?_)
     refine Reg.op rfl (Ope.ext rfl rfl ?_)
     refine Reg.op rfl (Ope.ext rfl rfl ?_)
     refine Reg.op rfl (Ope.newL rfl ?_)
     refine Reg.op0 (Ope.store rfl rfl rfl rfl rfl rfl ?_)
     refine Reg.op rfl (Ope.asg rfl ?_)
     refine Reg.nil (Run.seq (Run.region (cx_ok _ _ _) (Reg.op rfl (Ope.load rfl rfl ?_))))
     refine Reg.op rfl (Ope.cf rfl rfl (h27') rfl ?_)
     refine Reg.op rfl (Ope.mov rfl ?_)
     refine Reg.op rfl (Ope.ext rfl rfl ?_)
     refine Reg.op rfl (Ope.ext rfl rfl ?_)
     refine Reg.op rfl (Ope.newL rfl ?_)
     refine Reg.op0 (Ope.store rfl rfl rfl rfl rfl rfl ?_)
     refine Reg.op rfl (Ope.asg rfl ?_)
     refine Reg.nil (Run.seq (Run.region (cx_ok _ _ _) (Reg.op rfl (Ope.load rfl rfl ?_))))
     refine Reg.op rfl (Ope.cf rfl rfl (h29) rfl ?_)
     refine Reg.op rfl (Ope.mov rfl ?_)
     refine Reg.op rfl (Ope.ext rfl rfl ?_)
     refine Reg.op rfl (Ope.ext rfl rfl ?_)
     refine Reg.op rfl (Ope.ext rfl rfl ?_)
     refine Reg.op rfl (Ope.asg rfl ?_)
     refine Reg.op rfl (Ope.asg rfl ?_)
     refine Reg.op rfl (Ope.asg rfl ?_)
     refine Reg.nil (Run.seq (Run.region (cx_ok _ _ _) (Reg.op rfl (Ope.load rfl rfl ?_))))
     refine Reg.op rfl (Ope.cf rfl rfl (h29') rfl ?_)
     refine Reg.op rfl (Ope.mov rfl ?_)
     refine Reg.op rfl (Ope.ext rfl rfl ?_)
     refine Reg.op rfl (Ope.ext rfl rfl ?_)
     refine Reg.op rfl (Ope.ext rfl rfl ?_)
     refine Reg.op rfl (Ope.asg rfl ?_)
     refine Reg.op rfl (Ope.asg rfl ?_)
     refine Reg.op rfl (Ope.asg rfl ?_)
     refine Reg.nil (Run.seq (Run.seq (Run.region (cx_ok _ _ _) (Reg.op rfl (Ope.mov rfl ?_)))))
     refine Reg.op rfl (Ope.mov rfl ?_)
     refine Reg.op rfl (Ope.neS rfl rfl ?_)
     refine Reg.op rfl (Ope.mov rfl ?_)
     refine Reg.on rfl rfl rfl (Ope.mov rfl ?_)
     refine Reg.on rfl rfl rfl (Ope.mov rfl ?_)
     refine Reg.on rfl rfl rfl (Ope.neS rfl rfl ?_)
     refine Reg.op rfl (Ope.pickF rfl rfl ?_)
     refine Reg.op rfl (Ope.mov rfl ?_)
     refine Reg.on rfl rfl rfl (Ope.mov rfl ?_)
     refine Reg.on rfl rfl rfl (Ope.mov rfl ?_)
     refine Reg.on rfl rfl rfl (Ope.neS rfl rfl ?_)
     refine Reg.op rfl (Ope.pickF rfl rfl ?_)
     refine Reg.op rfl (Ope.mov rfl ?_)
     refine Reg.on rfl rfl rfl (Ope.mov rfl ?_)
     refine Reg.on rfl rfl rfl (Ope.mov rfl ?_)
     refine Reg.on rfl rfl rfl (Ope.neS rfl rfl ?_)
     refine Reg.op rfl (Ope.pickF rfl rfl ?_)
     refine Reg.op rfl (Ope.mov rfl ?_)
     refine Reg.on rfl rfl rfl (Ope.mov rfl ?_)
     refine Reg.on rfl rfl rfl (Ope.mov rfl ?_)
     refine Reg.on rfl rfl rfl (Ope.neS rfl rfl ?_)
     refine Reg.op rfl (Ope.pickF rfl rfl ?_)
     refine Reg.op rfl (Ope.mov rfl ?_)
     refine Reg.on rfl rfl rfl (Ope.mov rfl ?_)
     refine Reg.on rfl rfl rfl (Ope.mov rfl ?_)
     refine Reg.on rfl rfl rfl (Ope.neS rfl rfl ?_)
     refine Reg.op rfl (Ope.pickF rfl rfl ?_)
     refine Reg.op rfl (Ope.mov rfl ?_)
     refine Reg.on rfl rfl rfl (Ope.load rfl rfl ?_)
     refine Reg.on rfl rfl rfl (Ope.load rfl rfl ?_)
     refine Reg.on rfl rfl rfl (Ope.neV (b:=false) rfl rfl (ne41 _ _ _ _) ?_)
     refine Reg.op rfl (Ope.pickF rfl rfl ?_)
     refine Reg.op rfl (Ope.mov rfl ?_)
     refine Reg.on rfl rfl rfl (Ope.mov rfl ?_)
     refine Reg.on rfl rfl rfl (Ope.mov rfl ?_)
     refine Reg.on rfl rfl rfl (Ope.neS rfl rfl ?_)
     refine Reg.op rfl (Ope.pickF rfl rfl ?_)
     refine Reg.op rfl (Ope.mov rfl ?_)
     refine Reg.on rfl rfl rfl (Ope.mov rfl ?_)
     refine Reg.on rfl rfl rfl (Ope.mov rfl ?_)
     refine Reg.on rfl rfl rfl (Ope.neS rfl rfl ?_)
     refine Reg.op rfl (Ope.pickF rfl rfl ?_)
     refine Reg.op rfl (Ope.mov rfl ?_)
     refine Reg.on rfl rfl rfl (Ope.mov rfl ?_)
     refine Reg.on rfl rfl rfl (Ope.mov rfl ?_)
     refine Reg.on rfl rfl rfl (Ope.neS rfl rfl ?_)
     refine Reg.op rfl (Ope.pickF rfl rfl ?_)
     refine Reg.op rfl (Ope.mov rfl ?_)
     refine Reg.on rfl rfl rfl (Ope.mov rfl ?_)
     refine Reg.on rfl rfl rfl (Ope.mov rfl ?_)
     refine Reg.on rfl rfl rfl (Ope.neS rfl rfl ?_)
     refine Reg.op rfl (Ope.pickF rfl rfl ?_)
     refine Reg.nil (Run.condF rfl (Run.skip (Run.seq (Run.region (cx_ok _ _ _) (Reg.op rfl (Ope.bsl rfl rfl rfl rfl ?_))))))
     refine Reg.op rfl (Ope.mov rfl ?_)
     refine Reg.op rfl (Ope.apR (j:=1) (m:=o+xs.length) (ws:=xs.map I) rfl rfl rfl (by simp) (by simpa using hne) (by simp;omega) (by simp;omega) (by simp) hag ?_)
     refine Reg.op rfl (Ope.asg rfl ?_)
     refine Reg.nil (Run.seq (Run.seq (Run.region (cx_ok _ _ _) (Reg.op rfl (Ope.mov rfl ?_)))))
     refine Reg.op rfl (Ope.lenL rfl ?_)
     refine Reg.op rfl (Ope.mov rfl ?_)
     refine Reg.nil (Run.block (Run.forget (i:=1) (m:=o+xs.length) (o:=o) (ws:=xs.map I) rfl ?_))
     refine Run.wide (m:=5) (l':=[(0,some (.cells R.sw.cells)),(1,some (.raw (o+xs.length) 0 []))]) (Nat.le_refl _) ⟨rfl,rfl,trivial⟩ ?_
     refine Run.loop (α:=Nat) (fun i=>[(1,.lit (.int .u16 (p:Int))),(2,.lit (.int .u8 (c:Int))),(3,.fp (.agg R.cells)),(7,.ptr 0 0),(13,.ms 1 o xs.length cp none),(14,I k),(34,.sl .no (xs.map I)),(178,I xs.length),(179,I i)]) (fun _=>HE 5 [(0,some (.cells R.sw.cells)),(1,some (.raw (o+xs.length) 0 []))]) (fun i=>i≤xs.length) (fun i=>xs.length - i) 0 ⟨rfl,rfl,rfl,rfl,rfl,rfl,rfl,rfl,rfl,trivial⟩ rfl (Nat.zero_le _) (fun i hi=>?_)
     refine Run.seq (Run.region (cx_ok _ _ _) (Reg.op rfl (Ope.lt rfl rfl ?_)))
     refine Reg.nil (Run.seq (Run.condX rfl (fun hc=>?_) fun hc=>?_))
     ·refine Run.skip (Run.seq (Run.block (Run.seq (Run.region (cx_ok _ _ _) (Reg.op rfl (Ope.mov rfl ?_))))))
      refine Reg.op rfl (Ope.asg rfl ?_)
      refine Reg.nil (Run.region (cx_ok _ _ _) (Reg.op rfl (Ope.mov rfl ?_)))
      refine Reg.op rfl (Ope.mov rfl ?_)
      refine Reg.op rfl (Ope.idxL (m:=i) rfl rfl rfl (by omega) ?_)
      refine Reg.op0 (Ope.storeR (m:=o+xs.length) rfl rfl rfl rfl (by omega) rfl ?_)
      refine Reg.nil (Run.bend (Run.region (cx_ok _ _ _) (Reg.op rfl (Ope.add rfl rfl (by omega) ?_))))
      refine Reg.op rfl (Ope.mov rfl ?_)
      exact Reg.nil (Run.lend ⟨i+1,by omega,by omega,⟨rfl,rfl,rfl,rfl,rfl,rfl,rfl,rfl,rfl,trivial⟩,rfl,rfl⟩)
     ·refine Run.exit (Jmp.code (Jmp.round (Jmp.here (Run.seq (Run.region (cx_ok _ _ _) (Reg.op rfl (Ope.load rfl rfl ?_)))))))
      refine Reg.op rfl (Ope.cf rfl rfl (h22) rfl ?_)
      refine Reg.op rfl (Ope.mov rfl ?_)
      refine Reg.op rfl (Ope.ext rfl rfl ?_)
      refine Reg.op rfl (Ope.ext rfl rfl ?_)
      refine Reg.op rfl (Ope.ext rfl rfl ?_)
      refine Reg.op rfl (Ope.asg rfl ?_)
      refine Reg.op rfl (Ope.asg rfl ?_)
      refine Reg.op rfl (Ope.asg rfl ?_)
      refine Reg.nil (Run.seq (Run.seq (Run.region (cx_ok _ _ _) (Reg.op rfl (Ope.mov rfl ?_)))))
      refine Reg.op rfl (Ope.mov rfl ?_)
      refine Reg.op rfl (Ope.neS rfl rfl ?_)
      refine Reg.op rfl (Ope.mov rfl ?_)
      refine Reg.on rfl rfl rfl (Ope.mov rfl ?_)
      refine Reg.on rfl rfl rfl (Ope.mov rfl ?_)
      refine Reg.on rfl rfl rfl (Ope.cf rfl rfl h26 hb26 ?_)
      refine Reg.on rfl rfl rfl (Ope.not rfl ?_)
      refine Reg.op rfl (Ope.pickF rfl rfl ?_)
      refine Reg.nil (Run.condF rfl (Run.skip (Run.seq (Run.region (cx_ok _ _ _) (Reg.op rfl (Ope.fld rfl rfl ?_))))))
      refine Reg.op rfl (Ope.load rfl rfl ?_)
      refine Reg.op rfl (Ope.mov rfl ?_)
      refine Reg.op rfl (Ope.cf rfl rfl (h34) rfl ?_)
      refine Reg.op rfl (Ope.asg rfl ?_)
      refine Reg.nil (Run.seq (Run.region (cx_ok _ _ _) (Reg.op rfl (Ope.asg rfl ?_))))
      refine Reg.nil (Run.seq (Run.seq (Run.region (cx_ok _ _ _) (Reg.op rfl (Ope.mov rfl ?_)))))
      refine Reg.op rfl (Ope.len (m:=R.m) rfl (by simpa using hlen) ?_)
      refine Reg.op rfl (Ope.mov rfl ?_)
      refine Reg.nil (Run.block (Run.wide (m:=5) (l':=[(0,some (.cells R.sw.cells))]) (Nat.le_refl _) ⟨rfl,trivial⟩ ?_))
      refine Run.loop (α:=Nat×Option Nat×Nat) (fun s=>[(2,.lit (.int .u8 (c:Int))),(3,.fp (.agg R.cells)),(7,.ptr 0 0),(39,.sl .no (L.map I)),(40,.sl (tlU s.2.1) (((flp L).take s.1).map I)),(205,.sl .no (L.map I)),(206,I R.m),(207,I s.1)]) (fun s=>HE s.2.2 (ownU s.2.1++[(0,some (.cells R.sw.cells))])) (fun s=>s.1≤R.m∧(s.2.1=none↔s.1=0)∧(∀ j,s.2.1=some j→0 < j∧j < s.2.2)∧5≤s.2.2) (fun s=>R.m - s.1) (0,none,5) ⟨rfl,rfl,rfl,rfl,rfl,rfl,rfl,rfl,trivial⟩ rfl ⟨Nat.zero_le _,by simp,by simp,Nat.le_refl _⟩ (fun s hs=>?_)
      obtain ⟨i,o',m⟩:=s
      obtain ⟨hi1,hi2,hi3,hi4⟩:=hs
      simp only at hi1 hi2 hi3 hi4
      refine Run.seq (Run.region (cx_ok _ _ _) (Reg.op rfl (Ope.lt rfl rfl ?_)))
      refine Reg.nil (Run.seq (Run.condX rfl (fun hc=>?_) fun hc=>?_))
      ·refine Run.skip (Run.seq (Run.block (Run.seq ?_)))
       have hltL:i < L.length:=by omega
       have hLi:L[i]=0∨L[i]=1:=hx _ (List.getElem_mem _)
       have hstep:((flp L).take i).map I++[I (1 - L[i])]=((flp L).take (i+1)).map I:=by
         rw [List.take_succ_eq_append_getElem (by simp only [flp,List.length_map];omega)]
         simp [flp]
       have hap:∀ j,o'=some j→((flp L).take i).map I≠[]∧hget ([(0,some (PBlk.cells R.sw.cells))]:HL) j=none:=by
         intro j hj
         refine ⟨fun e0=>?_,(hget_tl (by have:=(hi3 j hj).1;omega)).trans rfl⟩
         have h0:i≠0:=fun h=>by rw [hi2.2 h] at hj;cases hj
         have:=congrArg List.length e0
         simp only [List.length_map,List.length_take,flp,List.length_nil] at this
         omega
       refine Run.region (cx_ok _ _ _) (Reg.op rfl (Ope.idxM (m:=i) rfl rfl rfl hltL (fun _=>rfl) ?_))
       refine Reg.op rfl (Ope.load rfl rfl ?_)
       refine Reg.op rfl (Ope.asg rfl ?_)
       refine Reg.nil (Run.region (cx_ok _ _ _) (Reg.op rfl (Ope.mov rfl ?_)))
       refine Reg.op rfl (Ope.mov rfl ?_)
       refine Reg.op rfl (Ope.sub rfl rfl (by omega) ?_)
       refine Reg.op rfl (Ope.bsl rfl rfl rfl rfl ?_)
       refine Reg.op rfl (Ope.apU (o':=o') (vs:=((flp L).take i).map I) rfl rfl (by simp) hap (by simp;omega) (by simp;omega) (by decide) (by intro v hv;obtain ⟨_,_,rfl⟩:=List.mem_map.1 hv;rfl) (by intro v hv;simp only [List.mem_singleton] at hv;subst hv;exact ⟨rfl,rfl⟩) ?_)
       refine Reg.op rfl (Ope.asg rfl ?_)
       refine Reg.nil (Run.bend (Run.region (cx_ok _ _ _) (Reg.op rfl (Ope.add rfl rfl (by omega) ?_))))
       refine Reg.op rfl (Ope.mov rfl ?_)
       exact Reg.nil (Run.lend ⟨(i+1,some m,m+1),by show R.m - (i+1) < R.m - i;omega,⟨by show i+1≤R.m;omega,by simp,fun j hj=>by cases hj;exact ⟨by omega,Nat.lt_succ_self m⟩,by show 5≤m+1;omega⟩,⟨rfl,rfl,rfl,rfl,congrArg (fun l=>some (PV.sl (.own m) l)) hstep,rfl,rfl,rfl,trivial⟩,rfl,rfl⟩)
      ·refine Run.exit (Jmp.code (Jmp.round (Jmp.here (Run.seq ?_))))
       have hiR:i=R.m:=by omega
       have ht:(flp L).take i=flp L:=List.take_of_length_le (by simp only [flp,List.length_map];omega)
       have hck2:=hck' .no rfl
       rw [← ht] at hck2 hbL'
       refine Run.weakT (d:=40) rfl ?_
       have hg0:hget (ownU o'++[(0,some (.cells R.sw.cells))]) 0=some (.cells R.sw.cells):=by
         cases o' with
         | none=>rfl
         | some j=>exact (hget_tl (by have:=(hi3 j rfl).1;omega)).trans rfl
       refine Run.wide (m:=m) (l':=[(0,some (.cells R.sw.cells))]) (Nat.le_refl _) ⟨hg0,trivial⟩ ?_
       refine Run.region (cx_ok _ _ _) (Reg.op rfl (Ope.load rfl rfl ?_))
       refine Reg.op rfl (Ope.mov rfl ?_)
       refine Reg.op rfl (Ope.cf rfl rfl hck hbL ?_)
       refine Reg.op rfl (Ope.mov rfl ?_)
       refine Reg.op rfl (Ope.ext rfl rfl ?_)
       refine Reg.op rfl (Ope.ext rfl rfl ?_)
       refine Reg.op rfl (Ope.ext rfl rfl ?_)
       refine Reg.op rfl (Ope.asg rfl ?_)
       refine Reg.op rfl (Ope.asg rfl ?_)
       refine Reg.op rfl (Ope.asg rfl ?_)
       refine Reg.nil (Run.seq (Run.region (cx_ok _ _ _) (Reg.op rfl (Ope.load rfl rfl ?_))))
       refine Reg.op rfl (Ope.mov rfl ?_)
       refine Reg.op rfl (Ope.cf rfl rfl hck2 hbL' ?_)
       refine Reg.op rfl (Ope.mov rfl ?_)
       refine Reg.op rfl (Ope.ext rfl rfl ?_)
       refine Reg.op rfl (Ope.ext rfl rfl ?_)
       refine Reg.op rfl (Ope.ext rfl rfl ?_)
       refine Reg.op rfl (Ope.asg rfl ?_)
       refine Reg.op rfl (Ope.asg rfl ?_)
       refine Reg.op rfl (Ope.asg rfl ?_)
       refine Reg.nil (Run.seq (Run.seq (Run.region (cx_ok _ _ _) (Reg.op rfl (Ope.mov rfl ?_)))))
       refine Reg.op rfl (Ope.mov rfl ?_)
       refine Reg.op rfl (Ope.neS rfl rfl ?_)
       refine Reg.op rfl (Ope.mov rfl ?_)
       refine Reg.on rfl rfl rfl (Ope.mov rfl ?_)
       refine Reg.on rfl rfl rfl (Ope.mov rfl ?_)
       refine Reg.on rfl rfl rfl (Ope.neS rfl rfl ?_)
       refine Reg.op rfl (Ope.pickF rfl rfl ?_)
       refine Reg.op rfl (Ope.mov rfl ?_)
       refine Reg.on rfl rfl rfl (Ope.mov rfl ?_)
       refine Reg.on rfl rfl rfl (Ope.mov rfl ?_)
       refine Reg.on rfl rfl rfl (Ope.neS rfl rfl ?_)
       refine Reg.op rfl (Ope.pickF rfl rfl ?_)
       refine Reg.nil (Run.condF rfl (Run.skip (Run.seq (Run.region (cx_ok _ _ _) (Reg.op rfl (Ope.mov rfl ?_))))))
       refine Reg.op rfl (Ope.convN (p:=c) rfl rfl (by show _ < 2 ^ 63;omega) ?_)
       refine Reg.op rfl (Ope.fld rfl rfl ?_)
       refine Reg.op rfl (Ope.load rfl rfl ?_)
       refine Reg.op rfl (Ope.add rfl rfl (by omega) ?_)
       refine Reg.op rfl (Ope.remN (p:=c) (q:=R.m+1) rfl rfl rfl rfl (by omega) ?_)
       refine Reg.op rfl (Ope.asg rfl ?_)
       refine Reg.nil (Run.seq (Run.wide (m:=m) (l':=[]) (Nat.le_refl _) trivial ?_))
       refine Run.draw (cx_ok _ _ _) [(0,true),(1,true),(2,true),(3,true),(4,true),(6,true),(7,true),(8,true),(5,true),(9,true),(10,true),(11,true),(12,true),(13,true),(14,true)] (by kernel_rfl) (Dra.op' rfl rfl rfl .sure (Ope.mov rfl ?_))
       refine Dra.op' rfl rfl rfl .sure (Ope.neS rfl rfl ?_)
       refine Dra.op' rfl rfl rfl .sure (Ope.mov rfl ?_)
       refine Dra.on' rfl rfl rfl rfl rfl .sure (Ope.load rfl rfl ?_)
       refine Dra.on' rfl rfl rfl rfl rfl .sure (Ope.mov rfl ?_)
       refine Dra.on' rfl rfl rfl rfl rfl .sure (Ope.mov rfl ?_)
       refine Dra.on' rfl rfl rfl rfl rfl .sure (Ope.mov rfl ?_)
       refine Dra.on' rfl rfl rfl rfl rfl .sure (Ope.slT (m:=c % (R.m+1)) rfl rfl rfl (by simp;omega) (by intro v hv;obtain ⟨_,_,rfl⟩:=List.mem_map.1 hv;rfl) ?_)
       refine Dra.on' rfl rfl rfl rfl rfl .sure (Ope.cf rfl rfl (h42) rfl ?_)
       refine Dra.on' rfl rfl rfl rfl rfl .sure (Ope.cf rfl rfl h36 hb36 ?_)
       refine Dra.op' rfl rfl rfl .sure (Ope.pickF rfl rfl ?_)
       refine Dra.op' rfl rfl rfl .sure (Ope.mov rfl ?_)
       refine Dra.on' rfl rfl rfl rfl rfl .sure (Ope.clo rfl rfl awakeF ?_)
       refine Dra.op' rfl rfl rfl .sure (Ope.pickT rfl rfl ?_)
       refine Dra.op' rfl rfl rfl .sure (Ope.asg rfl ?_)
       refine Dra.nil (Run.ret (fin_ret (.tmp rfl .nil) rfl ?_))
       rfl
  · skip
    refine PFun.of (C:=c12) (cx_ok _ _ _) rfl (fn:=Tryz.f12) (by kernel_rfl) (c:=_) rfl rfl rfl ?_
    refine Run.seq (Run.region (cx_ok _ _ _) (Reg.op rfl (Ope.boxF rfl rfl ?_)))
    refine Reg.op rfl (Ope.asg rfl ?_)
    refine Reg.nil (Run.seq (Run.seq (Run.region (cx_ok _ _ _) (Reg.op rfl (Ope.load rfl rfl ?_)))))
    refine Reg.op rfl (Ope.cf rfl rfl (h33) rfl ?_)
    refine Reg.op rfl (Ope.not rfl ?_)
    refine Reg.nil (Run.condX rfl (fun hc=>?_) fun hc=>?_)
    ·exact absurd hc (by decide)
    ·refine Run.skip (Run.seq (Run.region (cx_ok _ _ _) (Reg.op rfl (Ope.load rfl rfl ?_))))
     refine Reg.op rfl (Ope.newL rfl ?_)
     refine Reg.op0 (Ope.store rfl rfl rfl rfl rfl rfl ?_)
     refine Reg.nil (Run.seq (Run.draw (cx_ok _ _ _) [(0,true),(1,true),(2,true),(3,true),(4,true),(5,false),(6,true),(7,true),(9,true),(8,true),(10,true),(11,true)] (by kernel_rfl) (Dra.op' rfl rfl rfl .sure (Ope.fld rfl rfl ?_))))
     refine Dra.op' rfl rfl rfl .sure (Ope.idxA rfl rfl rfl rfl ?_)
     refine Dra.op' rfl rfl rfl .sure (Ope.load rfl rfl ?_)
     refine Dra.op' rfl rfl rfl .sure (Ope.fld rfl rfl ?_)
     refine Dra.op' rfl rfl rfl .sure (Ope.idxA rfl rfl rfl rfl ?_)
     refine Dra.op' rfl rfl rfl (.load rfl) (Ope.load rfl rfl ?_)
     refine Dra.op' rfl rfl rfl .sure (Ope.fld rfl rfl ?_)
     refine Dra.op' rfl rfl rfl .sure (Ope.idxA rfl rfl rfl rfl ?_)
     refine Dra.op' rfl rfl rfl .sure (Ope.fld rfl rfl ?_)
     refine Dra.op' rfl rfl rfl .sure (Ope.store rfl rfl rfl rfl rfl rfl ?_)
     refine Dra.op' rfl rfl rfl .sure (Ope.idxA rfl rfl rfl rfl ?_)
     refine Dra.op' rfl rfl rfl .sure (Ope.store rfl rfl rfl rfl rfl rfl ?_)
     refine Dra.nil (Run.seq (Run.region (cx_ok _ _ _) (Reg.op rfl (Ope.load rfl rfl ?_))))
     refine Reg.op rfl (Ope.cf rfl rfl (h18) rfl ?_)
     refine Reg.op rfl (Ope.mov rfl ?_)
     refine Reg.op rfl (Ope.ext rfl rfl ?_)
     refine Reg.op rfl (Ope.ext rfl rfl ?_)
     refine Reg.op rfl (Ope.asg rfl ?_)
     refine Reg.op rfl (Ope.asg rfl ?_)
     refine Reg.nil (Run.seq (Run.region (cx_ok _ _ _) (Reg.op rfl (Ope.load rfl rfl ?_))))
     refine Reg.op rfl (Ope.cf rfl rfl (h18') rfl ?_)
     refine Reg.op rfl (Ope.mov rfl ?_)
     refine Reg.op rfl (Ope.ext rfl rfl ?_)
     refine Reg.op rfl (Ope.ext rfl rfl ?_)
     refine Reg.op rfl (Ope.asg rfl ?_)
     refine Reg.op rfl (Ope.asg rfl ?_)
     refine Reg.nil (Run.seq (Run.region (cx_ok _ _ _) (Reg.op rfl (Ope.load rfl rfl ?_))))
     refine Reg.op rfl (Ope.thaw (pre:=[I c1]) (post:=[I k]) rfl rfl rfl h22 rfl hag (hlo xs) (by simpa using hne) rfl rfl (List.length_map _) (fun o cp hcap=>?_))
     refine Reg.op rfl (Ope.mov rfl ?_)
     refine Reg.op rfl (Ope.ext rfl rfl ?_)
     refine Reg.op rfl (Ope.ext rfl rfl ?_)
     refine Reg.op rfl (Ope.ext rfl rfl ?_)
     refine Reg.op rfl (Ope.asg rfl ?_)
     refine Reg.op rfl (Ope.asg rfl ?_)
     refine Reg.op rfl (Ope.asg rfl ?_)
     refine Reg.nil (Run.seq (Run.region (cx_ok _ _ _) (Reg.op rfl (Ope.load rfl rfl ?_))))
     refine Reg.op rfl (Ope.cf rfl rfl (h22') rfl ?_)
     refine Reg.op rfl (Ope.mov rfl ?_)
     refine Reg.op rfl (Ope.ext rfl rfl ?_)
     refine Reg.op rfl (Ope.ext rfl rfl ?_)
     refine Reg.op rfl (Ope.ext rfl rfl ?_)
     refine Reg.op rfl (Ope.asg rfl ?_)
     refine Reg.op rfl (Ope.asg rfl ?_)
     refine Reg.op rfl (Ope.asg rfl ?_)
     refine Reg.nil (Run.seq (Run.region (cx_ok _ _ _) (Reg.op rfl (Ope.load rfl rfl ?_))))
     refine Reg.op rfl (Ope.cf rfl rfl (h24) rfl ?_)
     refine Reg.op rfl (Ope.mov rfl ?_)
     refine Reg.op rfl (Ope.ext rfl rfl ?_)
     refine Reg.op rfl (Ope.ext rfl rfl ?_)
     refine Reg.op rfl (Ope.ext rfl rfl ?_)
     refine Reg.op rfl (Ope.asg rfl ?_)
     refine Reg.op rfl (Ope.asg rfl ?_)
     refine Reg.op rfl (Ope.asg rfl ?_)
     refine Reg.nil (Run.seq (Run.region (cx_ok _ _ _) (Reg.op rfl (Ope.load rfl rfl ?_))))
     refine Reg.op rfl (Ope.cf rfl rfl (h24') rfl ?_)
     refine Reg.op rfl (Ope.mov rfl ?_)
     refine Reg.op rfl (Ope.ext rfl rfl ?_)
     refine Reg.op rfl (Ope.ext rfl rfl ?_)
     refine Reg.op rfl (Ope.ext rfl rfl ?_)
     refine Reg.op rfl (Ope.asg rfl ?_)
     refine Reg.op rfl (Ope.asg rfl ?_)
     refine Reg.op rfl (Ope.asg rfl ?_)
     refine Reg.nil (Run.seq (Run.region (cx_ok _ _ _) (Reg.op rfl (Ope.load rfl rfl ?_))))
     refine Reg.op rfl (Ope.cf rfl rfl (h27) rfl ?_)
     refine Reg.op rfl (Ope.mov rfl ?_)
     refine Reg.op rfl (Ope.ext rfl rfl ?_)
     refine Reg.op rfl (Ope.ext rfl rfl ?_)
     refine Reg.op rfl (Ope.newL rfl ?_)
     refine Reg.op0 (Ope.store rfl rfl rfl rfl rfl rfl ?_)
     refine Reg.op rfl (Ope.asg rfl ?_)
     refine Reg.nil (Run.seq (Run.region (cx_ok _ _ _) (Reg.op rfl (Ope.load rfl rfl ?_))))
     refine Reg.op rfl (Ope.cf rfl rfl (h27') rfl ?_)
     refine Reg.op rfl (Ope.mov rfl ?_)
     refine Reg.op rfl (Ope.ext rfl rfl ?_)
     refine Reg.op rfl (Ope.ext rfl rfl ?_)
     refine Reg.op rfl (Ope.newL rfl ?_)
     refine Reg.op0 (Ope.store rfl rfl rfl rfl rfl rfl ?_)
     refine Reg.op rfl (Ope.asg rfl ?_)
     refine Reg.nil (Run.seq (Run.region (cx_ok _ _ _) (Reg.op rfl (Ope.load rfl rfl ?_))))
     refine Reg.op rfl (Ope.cf rfl rfl (h29) rfl ?_)
     refine Reg.op rfl (Ope.mov rfl ?_)
     refine Reg.op rfl (Ope.ext rfl rfl ?_)
     refine Reg.op rfl (Ope.ext rfl rfl ?_)
     refine Reg.op rfl (Ope.ext rfl rfl ?_)
     refine Reg.op rfl (Ope.asg rfl ?_)
     refine Reg.op rfl (Ope.asg rfl ?_)
     refine Reg.op rfl (Ope.asg rfl ?_)
     refine Reg.nil (Run.seq (Run.region (cx_ok _ _ _) (Reg.op rfl (Ope.load rfl rfl ?_))))
     refine Reg.op rfl (Ope.cf rfl rfl (h29') rfl ?_)
     refine Reg.op rfl (Ope.mov rfl ?_)
     refine Reg.op rfl (Ope.ext rfl rfl ?_)
     refine Reg.op rfl (Ope.ext rfl rfl ?_)
     refine Reg.op rfl (Ope.ext rfl rfl ?_)
     refine Reg.op rfl (Ope.asg rfl ?_)
     refine Reg.op rfl (Ope.asg rfl ?_)
     refine Reg.op rfl (Ope.asg rfl ?_)
     refine Reg.nil (Run.seq (Run.seq (Run.region (cx_ok _ _ _) (Reg.op rfl (Ope.mov rfl ?_)))))
     refine Reg.op rfl (Ope.mov rfl ?_)
     refine Reg.op rfl (Ope.neS rfl rfl ?_)
     refine Reg.op rfl (Ope.mov rfl ?_)
     refine Reg.on rfl rfl rfl (Ope.mov rfl ?_)
     refine Reg.on rfl rfl rfl (Ope.mov rfl ?_)
     refine Reg.on rfl rfl rfl (Ope.neS rfl rfl ?_)
     refine Reg.op rfl (Ope.pickF rfl rfl ?_)
     refine Reg.op rfl (Ope.mov rfl ?_)
     refine Reg.on rfl rfl rfl (Ope.mov rfl ?_)
     refine Reg.on rfl rfl rfl (Ope.mov rfl ?_)
     refine Reg.on rfl rfl rfl (Ope.neS rfl rfl ?_)
     refine Reg.op rfl (Ope.pickF rfl rfl ?_)
     refine Reg.op rfl (Ope.mov rfl ?_)
     refine Reg.on rfl rfl rfl (Ope.mov rfl ?_)
     refine Reg.on rfl rfl rfl (Ope.mov rfl ?_)
     refine Reg.on rfl rfl rfl (Ope.neS rfl rfl ?_)
     refine Reg.op rfl (Ope.pickF rfl rfl ?_)
     refine Reg.op rfl (Ope.mov rfl ?_)
     refine Reg.on rfl rfl rfl (Ope.mov rfl ?_)
     refine Reg.on rfl rfl rfl (Ope.mov rfl ?_)
     refine Reg.on rfl rfl rfl (Ope.neS rfl rfl ?_)
     refine Reg.op rfl (Ope.pickF rfl rfl ?_)
     refine Reg.op rfl (Ope.mov rfl ?_)
     refine Reg.on rfl rfl rfl (Ope.mov rfl ?_)
     refine Reg.on rfl rfl rfl (Ope.mov rfl ?_)
     refine Reg.on rfl rfl rfl (Ope.neS rfl rfl ?_)
     refine Reg.op rfl (Ope.pickF rfl rfl ?_)
     refine Reg.op rfl (Ope.mov rfl ?_)
     refine Reg.on rfl rfl rfl (Ope.load rfl rfl ?_)
     refine Reg.on rfl rfl rfl (Ope.load rfl rfl ?_)
     refine Reg.on rfl rfl rfl (Ope.neV (b:=false) rfl rfl (ne41 _ _ _ _) ?_)
     refine Reg.op rfl (Ope.pickF rfl rfl ?_)
     refine Reg.op rfl (Ope.mov rfl ?_)
     refine Reg.on rfl rfl rfl (Ope.mov rfl ?_)
     refine Reg.on rfl rfl rfl (Ope.mov rfl ?_)
     refine Reg.on rfl rfl rfl (Ope.neS rfl rfl ?_)
     refine Reg.op rfl (Ope.pickF rfl rfl ?_)
     refine Reg.op rfl (Ope.mov rfl ?_)
     refine Reg.on rfl rfl rfl (Ope.mov rfl ?_)
     refine Reg.on rfl rfl rfl (Ope.mov rfl ?_)
     refine Reg.on rfl rfl rfl (Ope.neS rfl rfl ?_)
     refine Reg.op rfl (Ope.pickF rfl rfl ?_)
     refine Reg.op rfl (Ope.mov rfl ?_)
     refine Reg.on rfl rfl rfl (Ope.mov rfl ?_)
     refine Reg.on rfl rfl rfl (Ope.mov rfl ?_)
     refine Reg.on rfl rfl rfl (Ope.neS rfl rfl ?_)
     refine Reg.op rfl (Ope.pickF rfl rfl ?_)
     refine Reg.op rfl (Ope.mov rfl ?_)
     refine Reg.on rfl rfl rfl (Ope.mov rfl ?_)
     refine Reg.on rfl rfl rfl (Ope.mov rfl ?_)
     refine Reg.on rfl rfl rfl (Ope.neS rfl rfl ?_)
     refine Reg.op rfl (Ope.pickF rfl rfl ?_)
     refine Reg.nil (Run.condF rfl (Run.skip (Run.seq (Run.region (cx_ok _ _ _) (Reg.op rfl (Ope.bsl rfl rfl rfl rfl ?_))))))
     refine Reg.op rfl (Ope.mov rfl ?_)
     refine Reg.op rfl (Ope.apR (j:=1) (m:=o+xs.length) (ws:=xs.map I) rfl rfl rfl (by simp) (by simpa using hne) (by simp;omega) (by simp;omega) (by simp) hag ?_)
     refine Reg.op rfl (Ope.asg rfl ?_)
     refine Reg.nil (Run.seq (Run.seq (Run.region (cx_ok _ _ _) (Reg.op rfl (Ope.mov rfl ?_)))))
     refine Reg.op rfl (Ope.lenL rfl ?_)
     refine Reg.op rfl (Ope.mov rfl ?_)
     refine Reg.nil (Run.block (Run.forget (i:=1) (m:=o+xs.length) (o:=o) (ws:=xs.map I) rfl ?_))
     refine Run.wide (m:=5) (l':=[(0,some (.cells R.sw.cells)),(1,some (.raw (o+xs.length) 0 []))]) (Nat.le_refl _) ⟨rfl,rfl,trivial⟩ ?_
     refine Run.loop (α:=Nat) (fun i=>[(1,.lit (.int .u16 (p:Int))),(2,.lit (.int .u8 (c:Int))),(3,.fp (.agg R.cells)),(7,.ptr 0 0),(13,.ms 1 o xs.length cp none),(14,I k),(34,.sl .no (xs.map I)),(178,I xs.length),(179,I i)]) (fun _=>HE 5 [(0,some (.cells R.sw.cells)),(1,some (.raw (o+xs.length) 0 []))]) (fun i=>i≤xs.length) (fun i=>xs.length - i) 0 ⟨rfl,rfl,rfl,rfl,rfl,rfl,rfl,rfl,rfl,trivial⟩ rfl (Nat.zero_le _) (fun i hi=>?_)
     refine Run.seq (Run.region (cx_ok _ _ _) (Reg.op rfl (Ope.lt rfl rfl ?_)))
     refine Reg.nil (Run.seq (Run.condX rfl (fun hc=>?_) fun hc=>?_))
     ·refine Run.skip (Run.seq (Run.block (Run.seq (Run.region (cx_ok _ _ _) (Reg.op rfl (Ope.mov rfl ?_))))))
      refine Reg.op rfl (Ope.asg rfl ?_)
      refine Reg.nil (Run.region (cx_ok _ _ _) (Reg.op rfl (Ope.mov rfl ?_)))
      refine Reg.op rfl (Ope.mov rfl ?_)
      refine Reg.op rfl (Ope.idxL (m:=i) rfl rfl rfl (by omega) ?_)
      refine Reg.op0 (Ope.storeR (m:=o+xs.length) rfl rfl rfl rfl (by omega) rfl ?_)
      refine Reg.nil (Run.bend (Run.region (cx_ok _ _ _) (Reg.op rfl (Ope.add rfl rfl (by omega) ?_))))
      refine Reg.op rfl (Ope.mov rfl ?_)
      exact Reg.nil (Run.lend ⟨i+1,by omega,by omega,⟨rfl,rfl,rfl,rfl,rfl,rfl,rfl,rfl,rfl,trivial⟩,rfl,rfl⟩)
     ·refine Run.exit (Jmp.code (Jmp.round (Jmp.here (Run.seq (Run.region (cx_ok _ _ _) (Reg.op rfl (Ope.load rfl rfl ?_)))))))
      refine Reg.op rfl (Ope.cf rfl rfl (h22) rfl ?_)
      refine Reg.op rfl (Ope.mov rfl ?_)
      refine Reg.op rfl (Ope.ext rfl rfl ?_)
      refine Reg.op rfl (Ope.ext rfl rfl ?_)
      refine Reg.op rfl (Ope.ext rfl rfl ?_)
      refine Reg.op rfl (Ope.asg rfl ?_)
      refine Reg.op rfl (Ope.asg rfl ?_)
      refine Reg.op rfl (Ope.asg rfl ?_)
      refine Reg.nil (Run.seq (Run.seq (Run.region (cx_ok _ _ _) (Reg.op rfl (Ope.mov rfl ?_)))))
      refine Reg.op rfl (Ope.mov rfl ?_)
      refine Reg.op rfl (Ope.neS rfl rfl ?_)
      refine Reg.op rfl (Ope.mov rfl ?_)
      refine Reg.on rfl rfl rfl (Ope.mov rfl ?_)
      refine Reg.on rfl rfl rfl (Ope.mov rfl ?_)
      refine Reg.on rfl rfl rfl (Ope.cf rfl rfl h26 hb26 ?_)
      refine Reg.on rfl rfl rfl (Ope.not rfl ?_)
      refine Reg.op rfl (Ope.pickF rfl rfl ?_)
      refine Reg.nil (Run.condF rfl (Run.skip (Run.seq (Run.region (cx_ok _ _ _) (Reg.op rfl (Ope.fld rfl rfl ?_))))))
      refine Reg.op rfl (Ope.load rfl rfl ?_)
      refine Reg.op rfl (Ope.mov rfl ?_)
      refine Reg.op rfl (Ope.cf rfl rfl (h34) rfl ?_)
      refine Reg.op rfl (Ope.asg rfl ?_)
      refine Reg.nil (Run.seq (Run.region (cx_ok _ _ _) (Reg.op rfl (Ope.asg rfl ?_))))
      refine Reg.nil (Run.seq (Run.seq (Run.region (cx_ok _ _ _) (Reg.op rfl (Ope.mov rfl ?_)))))
      refine Reg.op rfl (Ope.len (m:=R.m) rfl (by simpa using hlen) ?_)
      refine Reg.op rfl (Ope.mov rfl ?_)
      refine Reg.nil (Run.block (Run.wide (m:=5) (l':=[(0,some (.cells R.sw.cells))]) (Nat.le_refl _) ⟨rfl,trivial⟩ ?_))
      refine Run.loop (α:=Nat×Option Nat×Nat) (fun s=>[(2,.lit (.int .u8 (c:Int))),(3,.fp (.agg R.cells)),(7,.ptr 0 0),(39,.sl .no (L.map I)),(40,.sl (tlU s.2.1) (((flp L).take s.1).map I)),(205,.sl .no (L.map I)),(206,I R.m),(207,I s.1)]) (fun s=>HE s.2.2 (ownU s.2.1++[(0,some (.cells R.sw.cells))])) (fun s=>s.1≤R.m∧(s.2.1=none↔s.1=0)∧(∀ j,s.2.1=some j→0 < j∧j < s.2.2)∧5≤s.2.2) (fun s=>R.m - s.1) (0,none,5) ⟨rfl,rfl,rfl,rfl,rfl,rfl,rfl,rfl,trivial⟩ rfl ⟨Nat.zero_le _,by simp,by simp,Nat.le_refl _⟩ (fun s hs=>?_)
      obtain ⟨i,o',m⟩:=s
      obtain ⟨hi1,hi2,hi3,hi4⟩:=hs
      simp only at hi1 hi2 hi3 hi4
      refine Run.seq (Run.region (cx_ok _ _ _) (Reg.op rfl (Ope.lt rfl rfl ?_)))
      refine Reg.nil (Run.seq (Run.condX rfl (fun hc=>?_) fun hc=>?_))
      ·refine Run.skip (Run.seq (Run.block (Run.seq ?_)))
       have hltL:i < L.length:=by omega
       have hLi:L[i]=0∨L[i]=1:=hx _ (List.getElem_mem _)
       have hstep:((flp L).take i).map I++[I (1 - L[i])]=((flp L).take (i+1)).map I:=by
         rw [List.take_succ_eq_append_getElem (by simp only [flp,List.length_map];omega)]
         simp [flp]
       have hap:∀ j,o'=some j→((flp L).take i).map I≠[]∧hget ([(0,some (PBlk.cells R.sw.cells))]:HL) j=none:=by
         intro j hj
         refine ⟨fun e0=>?_,(hget_tl (by have:=(hi3 j hj).1;omega)).trans rfl⟩
         have h0:i≠0:=fun h=>by rw [hi2.2 h] at hj;cases hj
         have:=congrArg List.length e0
         simp only [List.length_map,List.length_take,flp,List.length_nil] at this
         omega
       refine Run.region (cx_ok _ _ _) (Reg.op rfl (Ope.idxM (m:=i) rfl rfl rfl hltL (fun _=>rfl) ?_))
       refine Reg.op rfl (Ope.load rfl rfl ?_)
       refine Reg.op rfl (Ope.asg rfl ?_)
       refine Reg.nil (Run.region (cx_ok _ _ _) (Reg.op rfl (Ope.mov rfl ?_)))
       refine Reg.op rfl (Ope.mov rfl ?_)
       refine Reg.op rfl (Ope.sub rfl rfl (by omega) ?_)
       refine Reg.op rfl (Ope.bsl rfl rfl rfl rfl ?_)
       refine Reg.op rfl (Ope.apU (o':=o') (vs:=((flp L).take i).map I) rfl rfl (by simp) hap (by simp;omega) (by simp;omega) (by decide) (by intro v hv;obtain ⟨_,_,rfl⟩:=List.mem_map.1 hv;rfl) (by intro v hv;simp only [List.mem_singleton] at hv;subst hv;exact ⟨rfl,rfl⟩) ?_)
       refine Reg.op rfl (Ope.asg rfl ?_)
       refine Reg.nil (Run.bend (Run.region (cx_ok _ _ _) (Reg.op rfl (Ope.add rfl rfl (by omega) ?_))))
       refine Reg.op rfl (Ope.mov rfl ?_)
       exact Reg.nil (Run.lend ⟨(i+1,some m,m+1),by show R.m - (i+1) < R.m - i;omega,⟨by show i+1≤R.m;omega,by simp,fun j hj=>by cases hj;exact ⟨by omega,Nat.lt_succ_self m⟩,by show 5≤m+1;omega⟩,⟨rfl,rfl,rfl,rfl,congrArg (fun l=>some (PV.sl (.own m) l)) hstep,rfl,rfl,rfl,trivial⟩,rfl,rfl⟩)
      ·refine Run.exit (Jmp.code (Jmp.round (Jmp.here (Run.seq ?_))))
       have hiR:i=R.m:=by omega
       have ht:(flp L).take i=flp L:=List.take_of_length_le (by simp only [flp,List.length_map];omega)
       have hck2:=hck' .no rfl
       rw [← ht] at hck2 hbL'
       refine Run.weakT (d:=40) rfl ?_
       have hg0:hget (ownU o'++[(0,some (.cells R.sw.cells))]) 0=some (.cells R.sw.cells):=by
         cases o' with
         | none=>rfl
         | some j=>exact (hget_tl (by have:=(hi3 j rfl).1;omega)).trans rfl
       refine Run.wide (m:=m) (l':=[(0,some (.cells R.sw.cells))]) (Nat.le_refl _) ⟨hg0,trivial⟩ ?_
       refine Run.region (cx_ok _ _ _) (Reg.op rfl (Ope.load rfl rfl ?_))
       refine Reg.op rfl (Ope.mov rfl ?_)
       refine Reg.op rfl (Ope.cf rfl rfl hck hbL ?_)
       refine Reg.op rfl (Ope.mov rfl ?_)
       refine Reg.op rfl (Ope.ext rfl rfl ?_)
       refine Reg.op rfl (Ope.ext rfl rfl ?_)
       refine Reg.op rfl (Ope.ext rfl rfl ?_)
       refine Reg.op rfl (Ope.asg rfl ?_)
       refine Reg.op rfl (Ope.asg rfl ?_)
       refine Reg.op rfl (Ope.asg rfl ?_)
       refine Reg.nil (Run.seq (Run.region (cx_ok _ _ _) (Reg.op rfl (Ope.load rfl rfl ?_))))
       refine Reg.op rfl (Ope.mov rfl ?_)
       refine Reg.op rfl (Ope.cf rfl rfl hck2 hbL' ?_)
       refine Reg.op rfl (Ope.mov rfl ?_)
       refine Reg.op rfl (Ope.ext rfl rfl ?_)
       refine Reg.op rfl (Ope.ext rfl rfl ?_)
       refine Reg.op rfl (Ope.ext rfl rfl ?_)
       refine Reg.op rfl (Ope.asg rfl ?_)
       refine Reg.op rfl (Ope.asg rfl ?_)
       refine Reg.op rfl (Ope.asg rfl ?_)
       refine Reg.nil (Run.seq (Run.seq (Run.region (cx_ok _ _ _) (Reg.op rfl (Ope.mov rfl ?_)))))
       refine Reg.op rfl (Ope.mov rfl ?_)
       refine Reg.op rfl (Ope.neS rfl rfl ?_)
       refine Reg.op rfl (Ope.mov rfl ?_)
       refine Reg.on rfl rfl rfl (Ope.mov rfl ?_)
       refine Reg.on rfl rfl rfl (Ope.mov rfl ?_)
       refine Reg.on rfl rfl rfl (Ope.neS rfl rfl ?_)
       refine Reg.op rfl (Ope.pickF rfl rfl ?_)
       refine Reg.op rfl (Ope.mov rfl ?_)
       refine Reg.on rfl rfl rfl (Ope.mov rfl ?_)
       refine Reg.on rfl rfl rfl (Ope.mov rfl ?_)
       refine Reg.on rfl rfl rfl (Ope.neS rfl rfl ?_)
       refine Reg.op rfl (Ope.pickF rfl rfl ?_)
       refine Reg.nil (Run.condF rfl (Run.skip (Run.seq (Run.region (cx_ok _ _ _) (Reg.op rfl (Ope.mov rfl ?_))))))
       refine Reg.op rfl (Ope.convN (p:=c) rfl rfl (by show _ < 2 ^ 63;omega) ?_)
       refine Reg.op rfl (Ope.fld rfl rfl ?_)
       refine Reg.op rfl (Ope.load rfl rfl ?_)
       refine Reg.op rfl (Ope.add rfl rfl (by omega) ?_)
       refine Reg.op rfl (Ope.remN (p:=c) (q:=R.m+1) rfl rfl rfl rfl (by omega) ?_)
       refine Reg.op rfl (Ope.asg rfl ?_)
       refine Reg.nil (Run.seq (Run.wide (m:=m) (l':=[]) (Nat.le_refl _) trivial ?_))
       refine Run.draw (cx_ok _ _ _) [(0,true),(1,true),(2,true),(3,true),(4,true),(6,true),(7,true),(8,true),(5,true),(9,true),(10,true),(11,true),(12,true),(13,true),(14,true)] (by kernel_rfl) (Dra.op' rfl rfl rfl .sure (Ope.mov rfl ?_))
       refine Dra.op' rfl rfl rfl .sure (Ope.neT hq3 rfl rfl ?_)
       refine Dra.op' rfl rfl rfl .sure (Ope.mov rfl ?_)
       refine Dra.off' rfl rfl rfl (.inl rfl) rfl (Dra.off' rfl rfl rfl (.inl rfl) rfl (Dra.off' rfl rfl rfl (.inl rfl) rfl (Dra.off' rfl rfl rfl (.inl rfl) rfl (Dra.off' rfl rfl rfl (.inl rfl) rfl (Dra.off' rfl rfl rfl (.inl rfl) rfl (Dra.off' rfl rfl rfl (.inl rfl) rfl (Dra.op' rfl rfl rfl .sure (Ope.pickT rfl rfl ?_))))))))
       refine Dra.op' rfl rfl rfl .sure (Ope.mov rfl ?_)
       refine Dra.on' rfl rfl rfl rfl rfl .sure (Ope.clo rfl rfl awakeF ?_)
       refine Dra.op' rfl rfl rfl .sure (Ope.pickT rfl rfl ?_)
       refine Dra.op' rfl rfl rfl .sure (Ope.asg rfl ?_)
       refine Dra.nil (Run.ret (fin_ret (.tmp rfl .nil) rfl ?_))
       rfl
set_option maxHeartbeats 4000000 in
theorem f12e (R:Rst) (hR:R.ok) (hv:validR R.m R.o0 R.t0 R.r0 R.f0 R.o1 R.t1 R.r1 R.f1=true) (p c:Nat) (hp:p < 65536) (hc256:c < 256) (c1 k:Int) (hT:Twin R c1 k []) (L:List Int) (hLe:L=byL R.m p) (hx:∀ x∈L,x=0∨x=1) (hlen:L.length=R.m) :
    Fn P0 12 [.agg R.cells,.lit (.int .u16 (p:Int)),.lit (.int .u8 (c:Int))] (B true):=by
  have h33:=f33 R.m R.o0 R.t0 R.r0 R.f0 R.o1 R.t1 R.r1 R.f1
  rw [hv] at h33
  have hm16:=hR.1
  have h34:=f34 R.m p hm16 hp
  rw [← hLe] at h34
  obtain ⟨⟨a18,e18,h18,h18'⟩,⟨h22,v22,h22'⟩,⟨a24,e24,u24,v24,h24,h24'⟩,⟨a27,b27,e27,h27,h27'⟩,⟨a29,b29,e29,h29,h29'⟩⟩:=hT
  have hck:=check R.m R.o0 R.t0 R.r0 R.f0 R.o1 R.t1 R.r1 R.f1 .no rfl L (by omega)
  have hck':=fun (tl:Tail) (htl:tl.isOwn=false)=>check R.m R.o1 R.t1 R.r1 R.f1 R.o0 R.t0 R.r0 R.f0 tl htl (flp L) (by simp only [flp,List.length_map];omega)
  rw [sw_check R hv L hx hlen] at hck'
  have hbL:PV.bds 0 [.agg R.cells,.sl .no (L.map I)]=true:=by
    simp only [PV.bds,bd_sl (f:=I) (tl:=.no) rfl (fun _=>rfl) L,Bool.and_true]
    rfl
  have hbL':PV.bds 0 [.agg R.sw.cells,.sl .no ((flp L).map I)]=true:=by
    simp only [PV.bds,bd_sl (f:=I) (tl:=.no) rfl (fun _=>rfl) (flp L),Bool.and_true]
    rfl
  have hqf:=fun h4 n hn=>first_right R hv L hx hlen h4 n hn
  generalize checkV R.m R.o0 R.t0 R.r0 R.f0 R.o1 R.t1 R.r1 R.f1 L=q at *
  obtain ⟨q1,q2,q3⟩:=q
  have hmm:c % (R.m+1)≤R.m:=by have:=Nat.mod_lt c (show 0 < R.m+1 by omega);omega
  have hm16':c % (R.m+1)≤16:=by omega
  have h42:=f42 R hR (c % (R.m+1)) hm16'
  have hxt:∀ x∈L.take (c % (R.m+1)),x=0∨x=1:=fun x h=>hx x (List.mem_of_mem_take h)
  have hlt':(L.take (c % (R.m+1))).length=c % (R.m+1):=by rw [List.length_take];omega
  have h36:=f36 (R.first (c % (R.m+1))) (first_valid hv hm16') .no rfl (L.take (c % (R.m+1))) hxt hlt'
  have hb36:PV.bds 0 [.agg (R.first (c % (R.m+1))).cells,.sl .no ((L.take (c % (R.m+1))).map I)]=true:=by
    simp only [PV.bds,bd_sl (f:=I) (tl:=.no) rfl (fun _=>rfl) (L.take (c % (R.m+1))),Bool.and_true]
    rfl
  rw [List.map_take] at h36 hb36
  rcases (Decidable.em (q3=4)) with rfl | hq3
  · rw [hqf rfl _ hmm] at h36
    refine PFun.of (C:=c12) (cx_ok _ _ _) rfl (fn:=Tryz.f12) (by kernel_rfl) (c:=_) rfl rfl rfl ?_
    refine Run.seq (Run.region (cx_ok _ _ _) (Reg.op rfl (Ope.boxF rfl rfl ?_)))
    refine Reg.op rfl (Ope.asg rfl ?_)
    refine Reg.nil (Run.seq (Run.seq (Run.region (cx_ok _ _ _) (Reg.op rfl (Ope.load rfl rfl ?_)))))
    refine Reg.op rfl (Ope.cf rfl rfl (h33) rfl ?_)
    refine Reg.op rfl (Ope.not rfl ?_)
    refine Reg.nil (Run.condX rfl (fun hc=>?_) fun hc=>?_)
    ·exact absurd hc (by decide)
    ·refine Run.skip (Run.seq (Run.region (cx_ok _ _ _) (Reg.op rfl (Ope.load rfl rfl ?_))))
     refine Reg.op rfl (Ope.newL rfl ?_)
     refine Reg.op0 (Ope.store rfl rfl rfl rfl rfl rfl ?_)
     refine Reg.nil (Run.seq (Run.draw (cx_ok _ _ _) [(0,true),(1,true),(2,true),(3,true),(4,true),(5,false),(6,true),(7,true),(9,true),(8,true),(10,true),(11,true)] (by kernel_rfl) (Dra.op' rfl rfl rfl .sure (Ope.fld rfl rfl ?_))))
     refine Dra.op' rfl rfl rfl .sure (Ope.idxA rfl rfl rfl rfl ?_)
     refine Dra.op' rfl rfl rfl .sure (Ope.load rfl rfl ?_)
     refine Dra.op' rfl rfl rfl .sure (Ope.fld rfl rfl ?_)
     refine Dra.op' rfl rfl rfl .sure (Ope.idxA rfl rfl rfl rfl ?_)
     refine Dra.op' rfl rfl rfl (.load rfl) (Ope.load rfl rfl ?_)
     refine Dra.op' rfl rfl rfl .sure (Ope.fld rfl rfl ?_)
     refine Dra.op' rfl rfl rfl .sure (Ope.idxA rfl rfl rfl rfl ?_)
     refine Dra.op' rfl rfl rfl .sure (Ope.fld rfl rfl ?_)
     refine Dra.op' rfl rfl rfl .sure (Ope.store rfl rfl rfl rfl rfl rfl ?_)
     refine Dra.op' rfl rfl rfl .sure (Ope.idxA rfl rfl rfl rfl ?_)
     refine Dra.op' rfl rfl rfl .sure (Ope.store rfl rfl rfl rfl rfl rfl ?_)
     refine Dra.nil (Run.seq (Run.region (cx_ok _ _ _) (Reg.op rfl (Ope.load rfl rfl ?_))))
     refine Reg.op rfl (Ope.cf rfl rfl (h18) rfl ?_)
     refine Reg.op rfl (Ope.mov rfl ?_)
     refine Reg.op rfl (Ope.ext rfl rfl ?_)
     refine Reg.op rfl (Ope.ext rfl rfl ?_)
     refine Reg.op rfl (Ope.asg rfl ?_)
     refine Reg.op rfl (Ope.asg rfl ?_)
     refine Reg.nil (Run.seq (Run.region (cx_ok _ _ _) (Reg.op rfl (Ope.load rfl rfl ?_))))
     refine Reg.op rfl (Ope.cf rfl rfl (h18') rfl ?_)
     refine Reg.op rfl (Ope.mov rfl ?_)
     refine Reg.op rfl (Ope.ext rfl rfl ?_)
     refine Reg.op rfl (Ope.ext rfl rfl ?_)
     refine Reg.op rfl (Ope.asg rfl ?_)
     refine Reg.op rfl (Ope.asg rfl ?_)
     refine Reg.nil (Run.seq (Run.region (cx_ok _ _ _) (Reg.op rfl (Ope.load rfl rfl ?_))))
     refine Reg.op rfl (Ope.cf rfl rfl (h22) rfl ?_)
     refine Reg.op rfl (Ope.mov rfl ?_)
     refine Reg.op rfl (Ope.ext rfl rfl ?_)
     refine Reg.op rfl (Ope.ext rfl rfl ?_)
     refine Reg.op rfl (Ope.ext rfl rfl ?_)
     refine Reg.op rfl (Ope.asg rfl ?_)
     refine Reg.op rfl (Ope.asg rfl ?_)
     refine Reg.op rfl (Ope.asg rfl ?_)
     refine Reg.nil (Run.seq (Run.region (cx_ok _ _ _) (Reg.op rfl (Ope.load rfl rfl ?_))))
     refine Reg.op rfl (Ope.cf rfl rfl (h22') rfl ?_)
     refine Reg.op rfl (Ope.mov rfl ?_)
     refine Reg.op rfl (Ope.ext rfl rfl ?_)
     refine Reg.op rfl (Ope.ext rfl rfl ?_)
     refine Reg.op rfl (Ope.ext rfl rfl ?_)
     refine Reg.op rfl (Ope.asg rfl ?_)
     refine Reg.op rfl (Ope.asg rfl ?_)
     refine Reg.op rfl (Ope.asg rfl ?_)
     refine Reg.nil (Run.seq (Run.region (cx_ok _ _ _) (Reg.op rfl (Ope.load rfl rfl ?_))))
     refine Reg.op rfl (Ope.cf rfl rfl (h24) rfl ?_)
     refine Reg.op rfl (Ope.mov rfl ?_)
     refine Reg.op rfl (Ope.ext rfl rfl ?_)
     refine Reg.op rfl (Ope.ext rfl rfl ?_)
     refine Reg.op rfl (Ope.ext rfl rfl ?_)
     refine Reg.op rfl (Ope.asg rfl ?_)
     refine Reg.op rfl (Ope.asg rfl ?_)
     refine Reg.op rfl (Ope.asg rfl ?_)
     refine Reg.nil (Run.seq (Run.region (cx_ok _ _ _) (Reg.op rfl (Ope.load rfl rfl ?_))))
     refine Reg.op rfl (Ope.cf rfl rfl (h24') rfl ?_)
     refine Reg.op rfl (Ope.mov rfl ?_)
     refine Reg.op rfl (Ope.ext rfl rfl ?_)
     refine Reg.op rfl (Ope.ext rfl rfl ?_)
     refine Reg.op rfl (Ope.ext rfl rfl ?_)
     refine Reg.op rfl (Ope.asg rfl ?_)
     refine Reg.op rfl (Ope.asg rfl ?_)
     refine Reg.op rfl (Ope.asg rfl ?_)
     refine Reg.nil (Run.seq (Run.region (cx_ok _ _ _) (Reg.op rfl (Ope.load rfl rfl ?_))))
     refine Reg.op rfl (Ope.cf rfl rfl (h27) rfl ?_)
     refine Reg.op rfl (Ope.mov rfl ?_)
     refine Reg.op rfl (Ope.ext rfl rfl ?_)
     refine Reg.op rfl (Ope.ext rfl rfl ?_)
     refine Reg.op rfl (Ope.newL rfl ?_)
     refine Reg.op0 (Ope.store rfl rfl rfl rfl rfl rfl ?_)
     refine Reg.op rfl (Ope.asg rfl ?_)
     refine Reg.nil (Run.seq (Run.region (cx_ok _ _ _) (Reg.op rfl (Ope.load rfl rfl ?_))))
     refine Reg.op rfl (Ope.cf rfl rfl (h27') rfl ?_)
     refine Reg.op rfl (Ope.mov rfl ?_)
     refine Reg.op rfl (Ope.ext rfl rfl ?_)
     refine Reg.op rfl (Ope.ext rfl rfl ?_)
     refine Reg.op rfl (Ope.newL rfl ?_)
     refine Reg.op0 (Ope.store rfl rfl rfl rfl rfl rfl ?_)
     refine Reg.op rfl (Ope.asg rfl ?_)
     refine Reg.nil (Run.seq (Run.region (cx_ok _ _ _) (Reg.op rfl (Ope.load rfl rfl ?_))))
     refine Reg.op rfl (Ope.cf rfl rfl (h29) rfl ?_)
     refine Reg.op rfl (Ope.mov rfl ?_)
     refine Reg.op rfl (Ope.ext rfl rfl ?_)
     refine Reg.op rfl (Ope.ext rfl rfl ?_)
     refine Reg.op rfl (Ope.ext rfl rfl ?_)
     refine Reg.op rfl (Ope.asg rfl ?_)
     refine Reg.op rfl (Ope.asg rfl ?_)
     refine Reg.op rfl (Ope.asg rfl ?_)
     refine Reg.nil (Run.seq (Run.region (cx_ok _ _ _) (Reg.op rfl (Ope.load rfl rfl ?_))))
     refine Reg.op rfl (Ope.cf rfl rfl (h29') rfl ?_)
     refine Reg.op rfl (Ope.mov rfl ?_)
     refine Reg.op rfl (Ope.ext rfl rfl ?_)
     refine Reg.op rfl (Ope.ext rfl rfl ?_)
     refine Reg.op rfl (Ope.ext rfl rfl ?_)
     refine Reg.op rfl (Ope.asg rfl ?_)
     refine Reg.op rfl (Ope.asg rfl ?_)
     refine Reg.op rfl (Ope.asg rfl ?_)
     refine Reg.nil (Run.seq (Run.seq (Run.region (cx_ok _ _ _) (Reg.op rfl (Ope.mov rfl ?_)))))
     refine Reg.op rfl (Ope.mov rfl ?_)
     refine Reg.op rfl (Ope.neS rfl rfl ?_)
     refine Reg.op rfl (Ope.mov rfl ?_)
     refine Reg.on rfl rfl rfl (Ope.mov rfl ?_)
     refine Reg.on rfl rfl rfl (Ope.mov rfl ?_)
     refine Reg.on rfl rfl rfl (Ope.neS rfl rfl ?_)
     refine Reg.op rfl (Ope.pickF rfl rfl ?_)
     refine Reg.op rfl (Ope.mov rfl ?_)
     refine Reg.on rfl rfl rfl (Ope.mov rfl ?_)
     refine Reg.on rfl rfl rfl (Ope.mov rfl ?_)
     refine Reg.on rfl rfl rfl (Ope.neS rfl rfl ?_)
     refine Reg.op rfl (Ope.pickF rfl rfl ?_)
     refine Reg.op rfl (Ope.mov rfl ?_)
     refine Reg.on rfl rfl rfl (Ope.mov rfl ?_)
     refine Reg.on rfl rfl rfl (Ope.mov rfl ?_)
     refine Reg.on rfl rfl rfl (Ope.neS rfl rfl ?_)
     refine Reg.op rfl (Ope.pickF rfl rfl ?_)
     refine Reg.op rfl (Ope.mov rfl ?_)
     refine Reg.on rfl rfl rfl (Ope.mov rfl ?_)
     refine Reg.on rfl rfl rfl (Ope.mov rfl ?_)
     refine Reg.on rfl rfl rfl (Ope.neS rfl rfl ?_)
     refine Reg.op rfl (Ope.pickF rfl rfl ?_)
     refine Reg.op rfl (Ope.mov rfl ?_)
     refine Reg.on rfl rfl rfl (Ope.mov rfl ?_)
     refine Reg.on rfl rfl rfl (Ope.mov rfl ?_)
     refine Reg.on rfl rfl rfl (Ope.neS rfl rfl ?_)
     refine Reg.op rfl (Ope.pickF rfl rfl ?_)
     refine Reg.op rfl (Ope.mov rfl ?_)
     refine Reg.on rfl rfl rfl (Ope.load rfl rfl ?_)
     refine Reg.on rfl rfl rfl (Ope.load rfl rfl ?_)
     refine Reg.on rfl rfl rfl (Ope.neV (b:=false) rfl rfl (ne41 _ _ _ _) ?_)
     refine Reg.op rfl (Ope.pickF rfl rfl ?_)
     refine Reg.op rfl (Ope.mov rfl ?_)
     refine Reg.on rfl rfl rfl (Ope.mov rfl ?_)
     refine Reg.on rfl rfl rfl (Ope.mov rfl ?_)
     refine Reg.on rfl rfl rfl (Ope.neS rfl rfl ?_)
     refine Reg.op rfl (Ope.pickF rfl rfl ?_)
     refine Reg.op rfl (Ope.mov rfl ?_)
     refine Reg.on rfl rfl rfl (Ope.mov rfl ?_)
     refine Reg.on rfl rfl rfl (Ope.mov rfl ?_)
     refine Reg.on rfl rfl rfl (Ope.neS rfl rfl ?_)
     refine Reg.op rfl (Ope.pickF rfl rfl ?_)
     refine Reg.op rfl (Ope.mov rfl ?_)
     refine Reg.on rfl rfl rfl (Ope.mov rfl ?_)
     refine Reg.on rfl rfl rfl (Ope.mov rfl ?_)
     refine Reg.on rfl rfl rfl (Ope.neS rfl rfl ?_)
     refine Reg.op rfl (Ope.pickF rfl rfl ?_)
     refine Reg.op rfl (Ope.mov rfl ?_)
     refine Reg.on rfl rfl rfl (Ope.mov rfl ?_)
     refine Reg.on rfl rfl rfl (Ope.mov rfl ?_)
     refine Reg.on rfl rfl rfl (Ope.neS rfl rfl ?_)
     refine Reg.op rfl (Ope.pickF rfl rfl ?_)
     refine Reg.nil (Run.condF rfl (Run.skip (Run.seq (Run.region (cx_ok _ _ _) (Reg.op rfl (Ope.bsl rfl rfl rfl rfl ?_))))))
     refine Reg.op rfl (Ope.mov rfl ?_)
     refine Reg.op rfl (Ope.ap0 rfl rfl ?_)
     refine Reg.op rfl (Ope.asg rfl ?_)
     refine Reg.nil (Run.seq (Run.seq (Run.region (cx_ok _ _ _) (Reg.op rfl (Ope.mov rfl ?_)))))
     refine Reg.op rfl (Ope.len (m:=0) rfl rfl ?_)
     refine Reg.op rfl (Ope.mov rfl ?_)
     refine Reg.nil (Run.block (Run.wide (m:=5) (l':=[(0,some (.cells R.sw.cells))]) (by omega) ⟨rfl,trivial⟩ ?_))
     refine Run.loop (α:=Nat) (fun i=>[(1,.lit (.int .u16 (p:Int))),(2,.lit (.int .u8 (c:Int))),(3,.fp (.agg R.cells)),(7,.ptr 0 0),(13,.sl .ex []),(14,I k),(34,.sl .ex []),(178,I 0),(179,I i)]) (fun _=>HE 5 [(0,some (.cells R.sw.cells))]) (fun i=>i=0) (fun i=>i) 0 ⟨rfl,rfl,rfl,rfl,rfl,rfl,rfl,rfl,rfl,trivial⟩ rfl rfl (fun i hi=>?_)
     refine Run.seq (Run.region (cx_ok _ _ _) (Reg.op rfl (Ope.lt rfl rfl ?_)))
     refine Reg.nil (Run.seq (Run.condX rfl (fun hc=>?_) fun hc=>?_))
     ·exfalso;omega
     ·refine Run.exit (Jmp.code (Jmp.round (Jmp.here (Run.seq (Run.region (cx_ok _ _ _) (Reg.op rfl (Ope.load rfl rfl ?_)))))))
      refine Reg.op rfl (Ope.cf rfl rfl (h22) rfl ?_)
      refine Reg.op rfl (Ope.mov rfl ?_)
      refine Reg.op rfl (Ope.ext rfl rfl ?_)
      refine Reg.op rfl (Ope.ext rfl rfl ?_)
      refine Reg.op rfl (Ope.ext rfl rfl ?_)
      refine Reg.op rfl (Ope.asg rfl ?_)
      refine Reg.op rfl (Ope.asg rfl ?_)
      refine Reg.op rfl (Ope.asg rfl ?_)
      refine Reg.nil (Run.seq (Run.seq (Run.region (cx_ok _ _ _) (Reg.op rfl (Ope.mov rfl ?_)))))
      refine Reg.op rfl (Ope.mov rfl ?_)
      refine Reg.op rfl (Ope.neS rfl rfl ?_)
      refine Reg.op rfl (Ope.mov rfl ?_)
      refine Reg.on rfl rfl rfl (Ope.mov rfl ?_)
      refine Reg.on rfl rfl rfl (Ope.mov rfl ?_)
      refine Reg.on rfl rfl rfl (Ope.cf rfl rfl (f26 .ex .ex [] (by simp)) rfl ?_)
      refine Reg.on rfl rfl rfl (Ope.not rfl ?_)
      refine Reg.op rfl (Ope.pickF rfl rfl ?_)
      refine Reg.nil (Run.condF rfl (Run.skip (Run.seq (Run.region (cx_ok _ _ _) (Reg.op rfl (Ope.fld rfl rfl ?_))))))
      refine Reg.op rfl (Ope.load rfl rfl ?_)
      refine Reg.op rfl (Ope.mov rfl ?_)
      refine Reg.op rfl (Ope.cf rfl rfl (h34) rfl ?_)
      refine Reg.op rfl (Ope.asg rfl ?_)
      refine Reg.nil (Run.seq (Run.region (cx_ok _ _ _) (Reg.op rfl (Ope.asg rfl ?_))))
      refine Reg.nil (Run.seq (Run.seq (Run.region (cx_ok _ _ _) (Reg.op rfl (Ope.mov rfl ?_)))))
      refine Reg.op rfl (Ope.len (m:=R.m) rfl (by simpa using hlen) ?_)
      refine Reg.op rfl (Ope.mov rfl ?_)
      refine Reg.nil (Run.block (Run.wide (m:=5) (l':=[(0,some (.cells R.sw.cells))]) (Nat.le_refl _) ⟨rfl,trivial⟩ ?_))
      refine Run.loop (α:=Nat×Option Nat×Nat) (fun s=>[(2,.lit (.int .u8 (c:Int))),(3,.fp (.agg R.cells)),(7,.ptr 0 0),(39,.sl .no (L.map I)),(40,.sl (tlU s.2.1) (((flp L).take s.1).map I)),(205,.sl .no (L.map I)),(206,I R.m),(207,I s.1)]) (fun s=>HE s.2.2 (ownU s.2.1++[(0,some (.cells R.sw.cells))])) (fun s=>s.1≤R.m∧(s.2.1=none↔s.1=0)∧(∀ j,s.2.1=some j→0 < j∧j < s.2.2)∧5≤s.2.2) (fun s=>R.m - s.1) (0,none,5) ⟨rfl,rfl,rfl,rfl,rfl,rfl,rfl,rfl,trivial⟩ rfl ⟨Nat.zero_le _,by simp,by simp,Nat.le_refl _⟩ (fun s hs=>?_)
      obtain ⟨i,o',m⟩:=s
      obtain ⟨hi1,hi2,hi3,hi4⟩:=hs
      simp only at hi1 hi2 hi3 hi4
      refine Run.seq (Run.region (cx_ok _ _ _) (Reg.op rfl (Ope.lt rfl rfl ?_)))
      refine Reg.nil (Run.seq (Run.condX rfl (fun hc=>?_) fun hc=>?_))
      ·refine Run.skip (Run.seq (Run.block (Run.seq ?_)))
       have hltL:i < L.length:=by omega
       have hLi:L[i]=0∨L[i]=1:=hx _ (List.getElem_mem _)
       have hstep:((flp L).take i).map I++[I (1 - L[i])]=((flp L).take (i+1)).map I:=by
         rw [List.take_succ_eq_append_getElem (by simp only [flp,List.length_map];omega)]
         simp [flp]
       have hap:∀ j,o'=some j→((flp L).take i).map I≠[]∧hget ([(0,some (PBlk.cells R.sw.cells))]:HL) j=none:=by
         intro j hj
         refine ⟨fun e0=>?_,(hget_tl (by have:=(hi3 j hj).1;omega)).trans rfl⟩
         have h0:i≠0:=fun h=>by rw [hi2.2 h] at hj;cases hj
         have:=congrArg List.length e0
         simp only [List.length_map,List.length_take,flp,List.length_nil] at this
         omega
       refine Run.region (cx_ok _ _ _) (Reg.op rfl (Ope.idxM (m:=i) rfl rfl rfl hltL (fun _=>rfl) ?_))
       refine Reg.op rfl (Ope.load rfl rfl ?_)
       refine Reg.op rfl (Ope.asg rfl ?_)
       refine Reg.nil (Run.region (cx_ok _ _ _) (Reg.op rfl (Ope.mov rfl ?_)))
       refine Reg.op rfl (Ope.mov rfl ?_)
       refine Reg.op rfl (Ope.sub rfl rfl (by omega) ?_)
       refine Reg.op rfl (Ope.bsl rfl rfl rfl rfl ?_)
       refine Reg.op rfl (Ope.apU (o':=o') (vs:=((flp L).take i).map I) rfl rfl (by simp) hap (by simp;omega) (by simp;omega) (by decide) (by intro v hv;obtain ⟨_,_,rfl⟩:=List.mem_map.1 hv;rfl) (by intro v hv;simp only [List.mem_singleton] at hv;subst hv;exact ⟨rfl,rfl⟩) ?_)
       refine Reg.op rfl (Ope.asg rfl ?_)
       refine Reg.nil (Run.bend (Run.region (cx_ok _ _ _) (Reg.op rfl (Ope.add rfl rfl (by omega) ?_))))
       refine Reg.op rfl (Ope.mov rfl ?_)
       exact Reg.nil (Run.lend ⟨(i+1,some m,m+1),by show R.m - (i+1) < R.m - i;omega,⟨by show i+1≤R.m;omega,by simp,fun j hj=>by cases hj;exact ⟨by omega,Nat.lt_succ_self m⟩,by show 5≤m+1;omega⟩,⟨rfl,rfl,rfl,rfl,congrArg (fun l=>some (PV.sl (.own m) l)) hstep,rfl,rfl,rfl,trivial⟩,rfl,rfl⟩)
      ·refine Run.exit (Jmp.code (Jmp.round (Jmp.here (Run.seq ?_))))
       have hiR:i=R.m:=by omega
       have ht:(flp L).take i=flp L:=List.take_of_length_le (by simp only [flp,List.length_map];omega)
       have hck2:=hck' .no rfl
       rw [← ht] at hck2 hbL'
       refine Run.weakT (d:=40) rfl ?_
       have hg0:hget (ownU o'++[(0,some (.cells R.sw.cells))]) 0=some (.cells R.sw.cells):=by
         cases o' with
         | none=>rfl
         | some j=>exact (hget_tl (by have:=(hi3 j rfl).1;omega)).trans rfl
       refine Run.wide (m:=m) (l':=[(0,some (.cells R.sw.cells))]) (Nat.le_refl _) ⟨hg0,trivial⟩ ?_
       refine Run.region (cx_ok _ _ _) (Reg.op rfl (Ope.load rfl rfl ?_))
       refine Reg.op rfl (Ope.mov rfl ?_)
       refine Reg.op rfl (Ope.cf rfl rfl hck hbL ?_)
       refine Reg.op rfl (Ope.mov rfl ?_)
       refine Reg.op rfl (Ope.ext rfl rfl ?_)
       refine Reg.op rfl (Ope.ext rfl rfl ?_)
       refine Reg.op rfl (Ope.ext rfl rfl ?_)
       refine Reg.op rfl (Ope.asg rfl ?_)
       refine Reg.op rfl (Ope.asg rfl ?_)
       refine Reg.op rfl (Ope.asg rfl ?_)
       refine Reg.nil (Run.seq (Run.region (cx_ok _ _ _) (Reg.op rfl (Ope.load rfl rfl ?_))))
       refine Reg.op rfl (Ope.mov rfl ?_)
       refine Reg.op rfl (Ope.cf rfl rfl hck2 hbL' ?_)
       refine Reg.op rfl (Ope.mov rfl ?_)
       refine Reg.op rfl (Ope.ext rfl rfl ?_)
       refine Reg.op rfl (Ope.ext rfl rfl ?_)
       refine Reg.op rfl (Ope.ext rfl rfl ?_)
       refine Reg.op rfl (Ope.asg rfl ?_)
       refine Reg.op rfl (Ope.asg rfl ?_)
       refine Reg.op rfl (Ope.asg rfl ?_)
       refine Reg.nil (Run.seq (Run.seq (Run.region (cx_ok _ _ _) (Reg.op rfl (Ope.mov rfl ?_)))))
       refine Reg.op rfl (Ope.mov rfl ?_)
       refine Reg.op rfl (Ope.neS rfl rfl ?_)
       refine Reg.op rfl (Ope.mov rfl ?_)
       refine Reg.on rfl rfl rfl (Ope.mov rfl ?_)
       refine Reg.on rfl rfl rfl (Ope.mov rfl ?_)
       refine Reg.on rfl rfl rfl (Ope.neS rfl rfl ?_)
       refine Reg.op rfl (Ope.pickF rfl rfl ?_)
       refine Reg.op rfl (Ope.mov rfl ?_)
       refine Reg.on rfl rfl rfl (Ope.mov rfl ?_)
       refine Reg.on rfl rfl rfl (Ope.mov rfl ?_)
       refine Reg.on rfl rfl rfl (Ope.neS rfl rfl ?_)
       refine Reg.op rfl (Ope.pickF rfl rfl ?_)
       refine Reg.nil (Run.condF rfl (Run.skip (Run.seq (Run.region (cx_ok _ _ _) (Reg.op rfl (Ope.mov rfl ?_))))))
       refine Reg.op rfl (Ope.convN (p:=c) rfl rfl (by show _ < 2 ^ 63;omega) ?_)
       refine Reg.op rfl (Ope.fld rfl rfl ?_)
       refine Reg.op rfl (Ope.load rfl rfl ?_)
       refine Reg.op rfl (Ope.add rfl rfl (by omega) ?_)
       refine Reg.op rfl (Ope.remN (p:=c) (q:=R.m+1) rfl rfl rfl rfl (by omega) ?_)
       refine Reg.op rfl (Ope.asg rfl ?_)
       refine Reg.nil (Run.seq (Run.wide (m:=m) (l':=[]) (Nat.le_refl _) trivial ?_))
       refine Run.draw (cx_ok _ _ _) [(0,true),(1,true),(2,true),(3,true),(4,true),(6,true),(7,true),(8,true),(5,true),(9,true),(10,true),(11,true),(12,true),(13,true),(14,true)] (by kernel_rfl) (Dra.op' rfl rfl rfl .sure (Ope.mov rfl ?_))
       refine Dra.op' rfl rfl rfl .sure (Ope.neS rfl rfl ?_)
       refine Dra.op' rfl rfl rfl .sure (Ope.mov rfl ?_)
       refine Dra.on' rfl rfl rfl rfl rfl .sure (Ope.load rfl rfl ?_)
       refine Dra.on' rfl rfl rfl rfl rfl .sure (Ope.mov rfl ?_)
       refine Dra.on' rfl rfl rfl rfl rfl .sure (Ope.mov rfl ?_)
       refine Dra.on' rfl rfl rfl rfl rfl .sure (Ope.mov rfl ?_)
       refine Dra.on' rfl rfl rfl rfl rfl .sure (Ope.slT (m:=c % (R.m+1)) rfl rfl rfl (by simp;omega) (by intro v hv;obtain ⟨_,_,rfl⟩:=List.mem_map.1 hv;rfl) ?_)
       refine Dra.on' rfl rfl rfl rfl rfl .sure (Ope.cf rfl rfl (h42) rfl ?_)
       refine Dra.on' rfl rfl rfl rfl rfl .sure (Ope.cf rfl rfl h36 hb36 ?_)
       refine Dra.op' rfl rfl rfl .sure (Ope.pickF rfl rfl ?_)
       refine Dra.op' rfl rfl rfl .sure (Ope.mov rfl ?_)
       refine Dra.on' rfl rfl rfl rfl rfl .sure (Ope.clo rfl rfl awakeF ?_)
       refine Dra.op' rfl rfl rfl .sure (Ope.pickT rfl rfl ?_)
       refine Dra.op' rfl rfl rfl .sure (Ope.asg rfl ?_)
       refine Dra.nil (Run.ret (fin_ret (.tmp rfl .nil) rfl ?_))
       rfl
  · skip
    refine PFun.of (C:=c12) (cx_ok _ _ _) rfl (fn:=Tryz.f12) (by kernel_rfl) (c:=_) rfl rfl rfl ?_
    refine Run.seq (Run.region (cx_ok _ _ _) (Reg.op rfl (Ope.boxF rfl rfl ?_)))
    refine Reg.op rfl (Ope.asg rfl ?_)
    refine Reg.nil (Run.seq (Run.seq (Run.region (cx_ok _ _ _) (Reg.op rfl (Ope.load rfl rfl ?_)))))
    refine Reg.op rfl (Ope.cf rfl rfl (h33) rfl ?_)
    refine Reg.op rfl (Ope.not rfl ?_)
    refine Reg.nil (Run.condX rfl (fun hc=>?_) fun hc=>?_)
    ·exact absurd hc (by decide)
    ·refine Run.skip (Run.seq (Run.region (cx_ok _ _ _) (Reg.op rfl (Ope.load rfl rfl ?_))))
     refine Reg.op rfl (Ope.newL rfl ?_)
     refine Reg.op0 (Ope.store rfl rfl rfl rfl rfl rfl ?_)
     refine Reg.nil (Run.seq (Run.draw (cx_ok _ _ _) [(0,true),(1,true),(2,true),(3,true),(4,true),(5,false),(6,true),(7,true),(9,true),(8,true),(10,true),(11,true)] (by kernel_rfl) (Dra.op' rfl rfl rfl .sure (Ope.fld rfl rfl ?_))))
     refine Dra.op' rfl rfl rfl .sure (Ope.idxA rfl rfl rfl rfl ?_)
     refine Dra.op' rfl rfl rfl .sure (Ope.load rfl rfl ?_)
     refine Dra.op' rfl rfl rfl .sure (Ope.fld rfl rfl ?_)
     refine Dra.op' rfl rfl rfl .sure (Ope.idxA rfl rfl rfl rfl ?_)
     refine Dra.op' rfl rfl rfl (.load rfl) (Ope.load rfl rfl ?_)
     refine Dra.op' rfl rfl rfl .sure (Ope.fld rfl rfl ?_)
     refine Dra.op' rfl rfl rfl .sure (Ope.idxA rfl rfl rfl rfl ?_)
     refine Dra.op' rfl rfl rfl .sure (Ope.fld rfl rfl ?_)
     refine Dra.op' rfl rfl rfl .sure (Ope.store rfl rfl rfl rfl rfl rfl ?_)
     refine Dra.op' rfl rfl rfl .sure (Ope.idxA rfl rfl rfl rfl ?_)
     refine Dra.op' rfl rfl rfl .sure (Ope.store rfl rfl rfl rfl rfl rfl ?_)
     refine Dra.nil (Run.seq (Run.region (cx_ok _ _ _) (Reg.op rfl (Ope.load rfl rfl ?_))))
     refine Reg.op rfl (Ope.cf rfl rfl (h18) rfl ?_)
     refine Reg.op rfl (Ope.mov rfl ?_)
     refine Reg.op rfl (Ope.ext rfl rfl ?_)
     refine Reg.op rfl (Ope.ext rfl rfl ?_)
     refine Reg.op rfl (Ope.asg rfl ?_)
     refine Reg.op rfl (Ope.asg rfl ?_)
     refine Reg.nil (Run.seq (Run.region (cx_ok _ _ _) (Reg.op rfl (Ope.load rfl rfl ?_))))
     refine Reg.op rfl (Ope.cf rfl rfl (h18') rfl ?_)
     refine Reg.op rfl (Ope.mov rfl ?_)
     refine Reg.op rfl (Ope.ext rfl rfl ?_)
     refine Reg.op rfl (Ope.ext rfl rfl ?_)
     refine Reg.op rfl (Ope.asg rfl ?_)
     refine Reg.op rfl (Ope.asg rfl ?_)
     refine Reg.nil (Run.seq (Run.region (cx_ok _ _ _) (Reg.op rfl (Ope.load rfl rfl ?_))))
     refine Reg.op rfl (Ope.cf rfl rfl (h22) rfl ?_)
     refine Reg.op rfl (Ope.mov rfl ?_)
     refine Reg.op rfl (Ope.ext rfl rfl ?_)
     refine Reg.op rfl (Ope.ext rfl rfl ?_)
     refine Reg.op rfl (Ope.ext rfl rfl ?_)
     refine Reg.op rfl (Ope.asg rfl ?_)
     refine Reg.op rfl (Ope.asg rfl ?_)
     refine Reg.op rfl (Ope.asg rfl ?_)
     refine Reg.nil (Run.seq (Run.region (cx_ok _ _ _) (Reg.op rfl (Ope.load rfl rfl ?_))))
     refine Reg.op rfl (Ope.cf rfl rfl (h22') rfl ?_)
     refine Reg.op rfl (Ope.mov rfl ?_)
     refine Reg.op rfl (Ope.ext rfl rfl ?_)
     refine Reg.op rfl (Ope.ext rfl rfl ?_)
     refine Reg.op rfl (Ope.ext rfl rfl ?_)
     refine Reg.op rfl (Ope.asg rfl ?_)
     refine Reg.op rfl (Ope.asg rfl ?_)
     refine Reg.op rfl (Ope.asg rfl ?_)
     refine Reg.nil (Run.seq (Run.region (cx_ok _ _ _) (Reg.op rfl (Ope.load rfl rfl ?_))))
     refine Reg.op rfl (Ope.cf rfl rfl (h24) rfl ?_)
     refine Reg.op rfl (Ope.mov rfl ?_)
     refine Reg.op rfl (Ope.ext rfl rfl ?_)
     refine Reg.op rfl (Ope.ext rfl rfl ?_)
     refine Reg.op rfl (Ope.ext rfl rfl ?_)
     refine Reg.op rfl (Ope.asg rfl ?_)
     refine Reg.op rfl (Ope.asg rfl ?_)
     refine Reg.op rfl (Ope.asg rfl ?_)
     refine Reg.nil (Run.seq (Run.region (cx_ok _ _ _) (Reg.op rfl (Ope.load rfl rfl ?_))))
     refine Reg.op rfl (Ope.cf rfl rfl (h24') rfl ?_)
     refine Reg.op rfl (Ope.mov rfl ?_)
     refine Reg.op rfl (Ope.ext rfl rfl ?_)
     refine Reg.op rfl (Ope.ext rfl rfl ?_)
     refine Reg.op rfl (Ope.ext rfl rfl ?_)
     refine Reg.op rfl (Ope.asg rfl ?_)
     refine Reg.op rfl (Ope.asg rfl ?_)
     refine Reg.op rfl (Ope.asg rfl ?_)
     refine Reg.nil (Run.seq (Run.region (cx_ok _ _ _) (Reg.op rfl (Ope.load rfl rfl ?_))))
     refine Reg.op rfl (Ope.cf rfl rfl (h27) rfl ?_)
     refine Reg.op rfl (Ope.mov rfl ?_)
     refine Reg.op rfl (Ope.ext rfl rfl ?_)
     refine Reg.op rfl (Ope.ext rfl rfl ?_)
     refine Reg.op rfl (Ope.newL rfl ?_)
     refine Reg.op0 (Ope.store rfl rfl rfl rfl rfl rfl ?_)
     refine Reg.op rfl (Ope.asg rfl ?_)
     refine Reg.nil (Run.seq (Run.region (cx_ok _ _ _) (Reg.op rfl (Ope.load rfl rfl ?_))))
     refine Reg.op rfl (Ope.cf rfl rfl (h27') rfl ?_)
     refine Reg.op rfl (Ope.mov rfl ?_)
     refine Reg.op rfl (Ope.ext rfl rfl ?_)
     refine Reg.op rfl (Ope.ext rfl rfl ?_)
     refine Reg.op rfl (Ope.newL rfl ?_)
     refine Reg.op0 (Ope.store rfl rfl rfl rfl rfl rfl ?_)
     refine Reg.op rfl (Ope.asg rfl ?_)
     refine Reg.nil (Run.seq (Run.region (cx_ok _ _ _) (Reg.op rfl (Ope.load rfl rfl ?_))))
     refine Reg.op rfl (Ope.cf rfl rfl (h29) rfl ?_)
     refine Reg.op rfl (Ope.mov rfl ?_)
     refine Reg.op rfl (Ope.ext rfl rfl ?_)
     refine Reg.op rfl (Ope.ext rfl rfl ?_)
     refine Reg.op rfl (Ope.ext rfl rfl ?_)
     refine Reg.op rfl (Ope.asg rfl ?_)
     refine Reg.op rfl (Ope.asg rfl ?_)
     refine Reg.op rfl (Ope.asg rfl ?_)
     refine Reg.nil (Run.seq (Run.region (cx_ok _ _ _) (Reg.op rfl (Ope.load rfl rfl ?_))))
     refine Reg.op rfl (Ope.cf rfl rfl (h29') rfl ?_)
     refine Reg.op rfl (Ope.mov rfl ?_)
     refine Reg.op rfl (Ope.ext rfl rfl ?_)
     refine Reg.op rfl (Ope.ext rfl rfl ?_)
     refine Reg.op rfl (Ope.ext rfl rfl ?_)
     refine Reg.op rfl (Ope.asg rfl ?_)
     refine Reg.op rfl (Ope.asg rfl ?_)
     refine Reg.op rfl (Ope.asg rfl ?_)
     refine Reg.nil (Run.seq (Run.seq (Run.region (cx_ok _ _ _) (Reg.op rfl (Ope.mov rfl ?_)))))
     refine Reg.op rfl (Ope.mov rfl ?_)
     refine Reg.op rfl (Ope.neS rfl rfl ?_)
     refine Reg.op rfl (Ope.mov rfl ?_)
     refine Reg.on rfl rfl rfl (Ope.mov rfl ?_)
     refine Reg.on rfl rfl rfl (Ope.mov rfl ?_)
     refine Reg.on rfl rfl rfl (Ope.neS rfl rfl ?_)
     refine Reg.op rfl (Ope.pickF rfl rfl ?_)
     refine Reg.op rfl (Ope.mov rfl ?_)
     refine Reg.on rfl rfl rfl (Ope.mov rfl ?_)
     refine Reg.on rfl rfl rfl (Ope.mov rfl ?_)
     refine Reg.on rfl rfl rfl (Ope.neS rfl rfl ?_)
     refine Reg.op rfl (Ope.pickF rfl rfl ?_)
     refine Reg.op rfl (Ope.mov rfl ?_)
     refine Reg.on rfl rfl rfl (Ope.mov rfl ?_)
     refine Reg.on rfl rfl rfl (Ope.mov rfl ?_)
     refine Reg.on rfl rfl rfl (Ope.neS rfl rfl ?_)
     refine Reg.op rfl (Ope.pickF rfl rfl ?_)
     refine Reg.op rfl (Ope.mov rfl ?_)
     refine Reg.on rfl rfl rfl (Ope.mov rfl ?_)
     refine Reg.on rfl rfl rfl (Ope.mov rfl ?_)
     refine Reg.on rfl rfl rfl (Ope.neS rfl rfl ?_)
     refine Reg.op rfl (Ope.pickF rfl rfl ?_)
     refine Reg.op rfl (Ope.mov rfl ?_)
     refine Reg.on rfl rfl rfl (Ope.mov rfl ?_)
     refine Reg.on rfl rfl rfl (Ope.mov rfl ?_)
     refine Reg.on rfl rfl rfl (Ope.neS rfl rfl ?_)
     refine Reg.op rfl (Ope.pickF rfl rfl ?_)
     refine Reg.op rfl (Ope.mov rfl ?_)
     refine Reg.on rfl rfl rfl (Ope.load rfl rfl ?_)
     refine Reg.on rfl rfl rfl (Ope.load rfl rfl ?_)
     refine Reg.on rfl rfl rfl (Ope.neV (b:=false) rfl rfl (ne41 _ _ _ _) ?_)
     refine Reg.op rfl (Ope.pickF rfl rfl ?_)
     refine Reg.op rfl (Ope.mov rfl ?_)
     refine Reg.on rfl rfl rfl (Ope.mov rfl ?_)
     refine Reg.on rfl rfl rfl (Ope.mov rfl ?_)
     refine Reg.on rfl rfl rfl (Ope.neS rfl rfl ?_)
     refine Reg.op rfl (Ope.pickF rfl rfl ?_)
     refine Reg.op rfl (Ope.mov rfl ?_)
     refine Reg.on rfl rfl rfl (Ope.mov rfl ?_)
     refine Reg.on rfl rfl rfl (Ope.mov rfl ?_)
     refine Reg.on rfl rfl rfl (Ope.neS rfl rfl ?_)
     refine Reg.op rfl (Ope.pickF rfl rfl ?_)
     refine Reg.op rfl (Ope.mov rfl ?_)
     refine Reg.on rfl rfl rfl (Ope.mov rfl ?_)
     refine Reg.on rfl rfl rfl (Ope.mov rfl ?_)
     refine Reg.on rfl rfl rfl (Ope.neS rfl rfl ?_)
     refine Reg.op rfl (Ope.pickF rfl rfl ?_)
     refine Reg.op rfl (Ope.mov rfl ?_)
     refine Reg.on rfl rfl rfl (Ope.mov rfl ?_)
     refine Reg.on rfl rfl rfl (Ope.mov rfl ?_)
     refine Reg.on rfl rfl rfl (Ope.neS rfl rfl ?_)
     refine Reg.op rfl (Ope.pickF rfl rfl ?_)
     refine Reg.nil (Run.condF rfl (Run.skip (Run.seq (Run.region (cx_ok _ _ _) (Reg.op rfl (Ope.bsl rfl rfl rfl rfl ?_))))))
     refine Reg.op rfl (Ope.mov rfl ?_)
     refine Reg.op rfl (Ope.ap0 rfl rfl ?_)
     refine Reg.op rfl (Ope.asg rfl ?_)
     refine Reg.nil (Run.seq (Run.seq (Run.region (cx_ok _ _ _) (Reg.op rfl (Ope.mov rfl ?_)))))
     refine Reg.op rfl (Ope.len (m:=0) rfl rfl ?_)
     refine Reg.op rfl (Ope.mov rfl ?_)
     refine Reg.nil (Run.block (Run.wide (m:=5) (l':=[(0,some (.cells R.sw.cells))]) (by omega) ⟨rfl,trivial⟩ ?_))
     refine Run.loop (α:=Nat) (fun i=>[(1,.lit (.int .u16 (p:Int))),(2,.lit (.int .u8 (c:Int))),(3,.fp (.agg R.cells)),(7,.ptr 0 0),(13,.sl .ex []),(14,I k),(34,.sl .ex []),(178,I 0),(179,I i)]) (fun _=>HE 5 [(0,some (.cells R.sw.cells))]) (fun i=>i=0) (fun i=>i) 0 ⟨rfl,rfl,rfl,rfl,rfl,rfl,rfl,rfl,rfl,trivial⟩ rfl rfl (fun i hi=>?_)
     refine Run.seq (Run.region (cx_ok _ _ _) (Reg.op rfl (Ope.lt rfl rfl ?_)))
     refine Reg.nil (Run.seq (Run.condX rfl (fun hc=>?_) fun hc=>?_))
     ·exfalso;omega
     ·refine Run.exit (Jmp.code (Jmp.round (Jmp.here (Run.seq (Run.region (cx_ok _ _ _) (Reg.op rfl (Ope.load rfl rfl ?_)))))))
      refine Reg.op rfl (Ope.cf rfl rfl (h22) rfl ?_)
      refine Reg.op rfl (Ope.mov rfl ?_)
      refine Reg.op rfl (Ope.ext rfl rfl ?_)
      refine Reg.op rfl (Ope.ext rfl rfl ?_)
      refine Reg.op rfl (Ope.ext rfl rfl ?_)
      refine Reg.op rfl (Ope.asg rfl ?_)
      refine Reg.op rfl (Ope.asg rfl ?_)
      refine Reg.op rfl (Ope.asg rfl ?_)
      refine Reg.nil (Run.seq (Run.seq (Run.region (cx_ok _ _ _) (Reg.op rfl (Ope.mov rfl ?_)))))
      refine Reg.op rfl (Ope.mov rfl ?_)
      refine Reg.op rfl (Ope.neS rfl rfl ?_)
      refine Reg.op rfl (Ope.mov rfl ?_)
      refine Reg.on rfl rfl rfl (Ope.mov rfl ?_)
      refine Reg.on rfl rfl rfl (Ope.mov rfl ?_)
      refine Reg.on rfl rfl rfl (Ope.cf rfl rfl (f26 .ex .ex [] (by simp)) rfl ?_)
      refine Reg.on rfl rfl rfl (Ope.not rfl ?_)
      refine Reg.op rfl (Ope.pickF rfl rfl ?_)
      refine Reg.nil (Run.condF rfl (Run.skip (Run.seq (Run.region (cx_ok _ _ _) (Reg.op rfl (Ope.fld rfl rfl ?_))))))
      refine Reg.op rfl (Ope.load rfl rfl ?_)
      refine Reg.op rfl (Ope.mov rfl ?_)
      refine Reg.op rfl (Ope.cf rfl rfl (h34) rfl ?_)
      refine Reg.op rfl (Ope.asg rfl ?_)
      refine Reg.nil (Run.seq (Run.region (cx_ok _ _ _) (Reg.op rfl (Ope.asg rfl ?_))))
      refine Reg.nil (Run.seq (Run.seq (Run.region (cx_ok _ _ _) (Reg.op rfl (Ope.mov rfl ?_)))))
      refine Reg.op rfl (Ope.len (m:=R.m) rfl (by simpa using hlen) ?_)
      refine Reg.op rfl (Ope.mov rfl ?_)
      refine Reg.nil (Run.block (Run.wide (m:=5) (l':=[(0,some (.cells R.sw.cells))]) (Nat.le_refl _) ⟨rfl,trivial⟩ ?_))
      refine Run.loop (α:=Nat×Option Nat×Nat) (fun s=>[(2,.lit (.int .u8 (c:Int))),(3,.fp (.agg R.cells)),(7,.ptr 0 0),(39,.sl .no (L.map I)),(40,.sl (tlU s.2.1) (((flp L).take s.1).map I)),(205,.sl .no (L.map I)),(206,I R.m),(207,I s.1)]) (fun s=>HE s.2.2 (ownU s.2.1++[(0,some (.cells R.sw.cells))])) (fun s=>s.1≤R.m∧(s.2.1=none↔s.1=0)∧(∀ j,s.2.1=some j→0 < j∧j < s.2.2)∧5≤s.2.2) (fun s=>R.m - s.1) (0,none,5) ⟨rfl,rfl,rfl,rfl,rfl,rfl,rfl,rfl,trivial⟩ rfl ⟨Nat.zero_le _,by simp,by simp,Nat.le_refl _⟩ (fun s hs=>?_)
      obtain ⟨i,o',m⟩:=s
      obtain ⟨hi1,hi2,hi3,hi4⟩:=hs
      simp only at hi1 hi2 hi3 hi4
      refine Run.seq (Run.region (cx_ok _ _ _) (Reg.op rfl (Ope.lt rfl rfl ?_)))
      refine Reg.nil (Run.seq (Run.condX rfl (fun hc=>?_) fun hc=>?_))
      ·refine Run.skip (Run.seq (Run.block (Run.seq ?_)))
       have hltL:i < L.length:=by omega
       have hLi:L[i]=0∨L[i]=1:=hx _ (List.getElem_mem _)
       have hstep:((flp L).take i).map I++[I (1 - L[i])]=((flp L).take (i+1)).map I:=by
         rw [List.take_succ_eq_append_getElem (by simp only [flp,List.length_map];omega)]
         simp [flp]
       have hap:∀ j,o'=some j→((flp L).take i).map I≠[]∧hget ([(0,some (PBlk.cells R.sw.cells))]:HL) j=none:=by
         intro j hj
         refine ⟨fun e0=>?_,(hget_tl (by have:=(hi3 j hj).1;omega)).trans rfl⟩
         have h0:i≠0:=fun h=>by rw [hi2.2 h] at hj;cases hj
         have:=congrArg List.length e0
         simp only [List.length_map,List.length_take,flp,List.length_nil] at this
         omega
       refine Run.region (cx_ok _ _ _) (Reg.op rfl (Ope.idxM (m:=i) rfl rfl rfl hltL (fun _=>rfl) ?_))
       refine Reg.op rfl (Ope.load rfl rfl ?_)
       refine Reg.op rfl (Ope.asg rfl ?_)
       refine Reg.nil (Run.region (cx_ok _ _ _) (Reg.op rfl (Ope.mov rfl ?_)))
       refine Reg.op rfl (Ope.mov rfl ?_)
       refine Reg.op rfl (Ope.sub rfl rfl (by omega) ?_)
       refine Reg.op rfl (Ope.bsl rfl rfl rfl rfl ?_)
       refine Reg.op rfl (Ope.apU (o':=o') (vs:=((flp L).take i).map I) rfl rfl (by simp) hap (by simp;omega) (by simp;omega) (by decide) (by intro v hv;obtain ⟨_,_,rfl⟩:=List.mem_map.1 hv;rfl) (by intro v hv;simp only [List.mem_singleton] at hv;subst hv;exact ⟨rfl,rfl⟩) ?_)
       refine Reg.op rfl (Ope.asg rfl ?_)
       refine Reg.nil (Run.bend (Run.region (cx_ok _ _ _) (Reg.op rfl (Ope.add rfl rfl (by omega) ?_))))
       refine Reg.op rfl (Ope.mov rfl ?_)
       exact Reg.nil (Run.lend ⟨(i+1,some m,m+1),by show R.m - (i+1) < R.m - i;omega,⟨by show i+1≤R.m;omega,by simp,fun j hj=>by cases hj;exact ⟨by omega,Nat.lt_succ_self m⟩,by show 5≤m+1;omega⟩,⟨rfl,rfl,rfl,rfl,congrArg (fun l=>some (PV.sl (.own m) l)) hstep,rfl,rfl,rfl,trivial⟩,rfl,rfl⟩)
      ·refine Run.exit (Jmp.code (Jmp.round (Jmp.here (Run.seq ?_))))
       have hiR:i=R.m:=by omega
       have ht:(flp L).take i=flp L:=List.take_of_length_le (by simp only [flp,List.length_map];omega)
       have hck2:=hck' .no rfl
       rw [← ht] at hck2 hbL'
       refine Run.weakT (d:=40) rfl ?_
       have hg0:hget (ownU o'++[(0,some (.cells R.sw.cells))]) 0=some (.cells R.sw.cells):=by
         cases o' with
         | none=>rfl
         | some j=>exact (hget_tl (by have:=(hi3 j rfl).1;omega)).trans rfl
       refine Run.wide (m:=m) (l':=[(0,some (.cells R.sw.cells))]) (Nat.le_refl _) ⟨hg0,trivial⟩ ?_
       refine Run.region (cx_ok _ _ _) (Reg.op rfl (Ope.load rfl rfl ?_))
       refine Reg.op rfl (Ope.mov rfl ?_)
       refine Reg.op rfl (Ope.cf rfl rfl hck hbL ?_)
       refine Reg.op rfl (Ope.mov rfl ?_)
       refine Reg.op rfl (Ope.ext rfl rfl ?_)
       refine Reg.op rfl (Ope.ext rfl rfl ?_)
       refine Reg.op rfl (Ope.ext rfl rfl ?_)
       refine Reg.op rfl (Ope.asg rfl ?_)
       refine Reg.op rfl (Ope.asg rfl ?_)
       refine Reg.op rfl (Ope.asg rfl ?_)
       refine Reg.nil (Run.seq (Run.region (cx_ok _ _ _) (Reg.op rfl (Ope.load rfl rfl ?_))))
       refine Reg.op rfl (Ope.mov rfl ?_)
       refine Reg.op rfl (Ope.cf rfl rfl hck2 hbL' ?_)
       refine Reg.op rfl (Ope.mov rfl ?_)
       refine Reg.op rfl (Ope.ext rfl rfl ?_)
       refine Reg.op rfl (Ope.ext rfl rfl ?_)
       refine Reg.op rfl (Ope.ext rfl rfl ?_)
       refine Reg.op rfl (Ope.asg rfl ?_)
       refine Reg.op rfl (Ope.asg rfl ?_)
       refine Reg.op rfl (Ope.asg rfl ?_)
       refine Reg.nil (Run.seq (Run.seq (Run.region (cx_ok _ _ _) (Reg.op rfl (Ope.mov rfl ?_)))))
       refine Reg.op rfl (Ope.mov rfl ?_)
       refine Reg.op rfl (Ope.neS rfl rfl ?_)
       refine Reg.op rfl (Ope.mov rfl ?_)
       refine Reg.on rfl rfl rfl (Ope.mov rfl ?_)
       refine Reg.on rfl rfl rfl (Ope.mov rfl ?_)
       refine Reg.on rfl rfl rfl (Ope.neS rfl rfl ?_)
       refine Reg.op rfl (Ope.pickF rfl rfl ?_)
       refine Reg.op rfl (Ope.mov rfl ?_)
       refine Reg.on rfl rfl rfl (Ope.mov rfl ?_)
       refine Reg.on rfl rfl rfl (Ope.mov rfl ?_)
       refine Reg.on rfl rfl rfl (Ope.neS rfl rfl ?_)
       refine Reg.op rfl (Ope.pickF rfl rfl ?_)
       refine Reg.nil (Run.condF rfl (Run.skip (Run.seq (Run.region (cx_ok _ _ _) (Reg.op rfl (Ope.mov rfl ?_))))))
       refine Reg.op rfl (Ope.convN (p:=c) rfl rfl (by show _ < 2 ^ 63;omega) ?_)
       refine Reg.op rfl (Ope.fld rfl rfl ?_)
       refine Reg.op rfl (Ope.load rfl rfl ?_)
       refine Reg.op rfl (Ope.add rfl rfl (by omega) ?_)
       refine Reg.op rfl (Ope.remN (p:=c) (q:=R.m+1) rfl rfl rfl rfl (by omega) ?_)
       refine Reg.op rfl (Ope.asg rfl ?_)
       refine Reg.nil (Run.seq (Run.wide (m:=m) (l':=[]) (Nat.le_refl _) trivial ?_))
       refine Run.draw (cx_ok _ _ _) [(0,true),(1,true),(2,true),(3,true),(4,true),(6,true),(7,true),(8,true),(5,true),(9,true),(10,true),(11,true),(12,true),(13,true),(14,true)] (by kernel_rfl) (Dra.op' rfl rfl rfl .sure (Ope.mov rfl ?_))
       refine Dra.op' rfl rfl rfl .sure (Ope.neT hq3 rfl rfl ?_)
       refine Dra.op' rfl rfl rfl .sure (Ope.mov rfl ?_)
       refine Dra.off' rfl rfl rfl (.inl rfl) rfl (Dra.off' rfl rfl rfl (.inl rfl) rfl (Dra.off' rfl rfl rfl (.inl rfl) rfl (Dra.off' rfl rfl rfl (.inl rfl) rfl (Dra.off' rfl rfl rfl (.inl rfl) rfl (Dra.off' rfl rfl rfl (.inl rfl) rfl (Dra.off' rfl rfl rfl (.inl rfl) rfl (Dra.op' rfl rfl rfl .sure (Ope.pickT rfl rfl ?_))))))))
       refine Dra.op' rfl rfl rfl .sure (Ope.mov rfl ?_)
       refine Dra.on' rfl rfl rfl rfl rfl .sure (Ope.clo rfl rfl awakeF ?_)
       refine Dra.op' rfl rfl rfl .sure (Ope.pickT rfl rfl ?_)
       refine Dra.op' rfl rfl rfl .sure (Ope.asg rfl ?_)
       refine Dra.nil (Run.ret (fin_ret (.tmp rfl .nil) rfl ?_))
       rfl
theorem f12 (h a0 b0 c0 d0 a1 b1 c1 d1:Int) (p c:Nat) (hp:p < 65536) (hc:c < 256):Fn P0 12 [.agg [I h,I a0,I b0,I c0,I d0,I a1,I b1,I c1,I d1],.lit (.int .u16 (p:Int)),.lit (.int .u8 (c:Int))] (B true):=by
  by_cases hv:validR h a0 b0 c0 d0 a1 b1 c1 d1=true
  · obtain ⟨hok, ⟨e1, e2, e3⟩, h16⟩ := rstOf_ok hv
    have hcells:(rstOf h a0 b0 c0 d0 a1 b1 c1 d1).cells=[I h,I a0,I b0,I c0,I d0,I a1,I b1,I c1,I d1]:=by
      show [I (h.toNat:Int),I (a0.toNat:Int),I b0,I c0,I d0,I (a1.toNat:Int),I b1,I c1,I d1]=_
      rw [← e1,← e2,← e3]
    rw [← hcells]
    generalize hR:rstOf h a0 b0 c0 d0 a1 b1 c1 d1=R at *
    have hv':validR R.m R.o0 R.t0 R.r0 R.f0 R.o1 R.t1 R.r1 R.f1=true:=by
      rw [← hR]
      show validR (h.toNat:Int) (a0.toNat:Int) b0 c0 d0 (a1.toNat:Int) b1 c1 d1=true
      rw [← e1,← e2,← e3]
      exact hv
    obtain ⟨x,k,xs,hT,hxl⟩:=Twin.of R hok hv'
    by_cases hne:xs=[]
    · subst hne
      exact f12e R hok hv' p c hp hc x k hT (byL R.m p) rfl (byL_b R.m p) (byL_length R.m p)
    · exact f12s R hok hv' p c hp hc x k xs hT hxl hne (byL R.m p) rfl (byL_b R.m p) (byL_length R.m p)
  · exact f12a _ _ _ _ _ _ _ _ _ p c (by simpa using hv)
end Go.Pv
