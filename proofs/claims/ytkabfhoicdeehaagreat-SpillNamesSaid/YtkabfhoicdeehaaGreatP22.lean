/- Parts of the proof: Pv80, Pv81, S25, S26, S27, S28 -/
import Derived.Test.YtkabfhoicdeehaaGreatP10
import Derived.Test.YtkabfhoicdeehaaGreatP17
import Derived.Test.YtkabfhoicdeehaaGreatP21
import Derived.Test.YtkabfhoicdeehaaGreatP16
import Derived.Test.YtkabfhoicdeehaaGreatP15
set_option linter.unusedVariables false
set_option linter.unusedSimpArgs false
set_option linter.unusedSectionVars false
namespace Go.Pv
open Go.Am Go.RowKit
def Asks (A:AP) (P:Program) (f:PV) (args:List PV) (u:PV):Prop:=∀ (h:PH) (K Y:PV→PH→Prop),K u h→pcallF A P f args h K Y
theorem Asks.fn {A:AP} {P:Program} {g:Nat} {fs ar cp:List PV} {v:PV} (hc:Fn P g (fs++ar++cp) v) (hb:PV.bds 0 (fs++ar++cp)=true):Asks A P (.fn (.func g) fs cp) ar v :=
 fun _ _ _ hK=>hc.call hb hK
theorem Asks.mthP {A:AP} {P:Program} {name:String} {t g:Nat} {u u' v:PV} {ar first cap:List PV} (hm:pmethod A t u name=some (g,u')) (hc:Fn P g (u'::(first++ar)) v) (hb:PV.bds 0 (u'::(first++ar))=true):Asks A P (.fn (.method name) (.ifc t u::first) cap) ar v:=fun h K Y hK=>by
 simp only [pcallF,hm]
 exact hc.call hb hK
section
variable {C:Cx} {X:EX} {e:EL} {ds:List Nat} {K:PV→PH→Prop} {h:PH}
variable {d:Option Tmp} {type:TypeId} {pos:String} {after:Array Edge} {guard:Option (Nat×Bool)}
theorem Ope.asks {f:Operand} {args:Array Operand} {tys:Array TypeId} {fv v:PV} {ar:List PV} (hf:pev (lget e) f=some fv) (ha:pargs (pev (lget e)) args.toList=some ar) (hc:Asks C.A C.P fv ar v) (hK:K v h) :
  Ope C X { dst:=d,op:=.call { callee:=.value f,args,argTypes:=tys },type,pos,after,guard } e ds h K:=by
 unfold Ope
 simp only [pop,pkind,pcallO,ha,hf]
 exact hc _ _ _ hK
theorem Ope.imV {r:Operand} {name:String} {args:Array Operand} {tys:Array TypeId} {t g:Nat} {u u' v:PV} {ar:List PV} (hr:pev (lget e) r=some (.ifc t u)) (ha:pargs (pev (lget e)) args.toList=some ar) (hm:pmethod C.A t u name=some (g,u'))
  (hc:Fn C.P g (u'::ar) v) (hb:PV.bds 0 (u'::ar)=true) (hK:K v h):Ope C X { dst:=d,op:=.call { callee:=.invoke r name,args,argTypes:=tys },type,pos,after,guard } e ds h K:=by
 unfold Ope
 simp only [pop,pkind,pcallO,ha,hr,hm]
 exact hc.call hb hK
end
end Go.Pv
namespace Go.Pv
open Go.Am Go.RowKit
section
variable {C:Cx} {F:EQ} {X:EX} {k:List KI} {e:EL} {ds:List Nat} {n:Nat} {l:HL}
theorem Run.frzSp {c:Code} {d i len cap:Nat} {ez:Option Nat} {vs post:List PV} {sz:Nat} (hd:lget e d=some (.fp (.ms i 0 len cap ez))) (hg:hget l i=some (.cells (flat vs++post))) (hl:len=vs.length) (hlc:len≤cap) (hnc:∀ v∈vs,v.nc=sz)
  (hr:Run C F X (.c c::k) ((d,.fp (.sl .no vs))::e) ds (HE n ((i,none)::l))):Run C F X (.c c::k) e ds (HE n l):=by
 refine Run.ghost (fun t ht=>⟨t.set d (.fp (.sl .no vs)),?_,?_⟩) hr
 ·intro j u hj
  simp only [lget] at hj
  simp only [T.get_set]
  split at hj
  ·next hb=>rw [if_pos (Nat.eq_of_beq_eq_true hb)];exact hj
  ·next hb =>
   rw [if_neg (fun c=>by subst c;simp at hb)]
   exact ht j u hj
 ·intro w0 s arr hw hh htv
  have hgi:s.h.get i=some (.cells (flat vs++post)):=by rw [hh];exact hg
  obtain ⟨arr',tt,e2,e3,hin,e4⟩:=hw.cells hgi
  have hall:=Each.of hnc
  have hx:=Ext.freeze (s:=s) (n:=vs.length * sz) e4
  refine ⟨s.freeze i (vs.length * sz),rfl,hw.freeze hgi,hx,by simp only [St.freeze,hh,HE_del],fun j u hj=>?_⟩
  rw [T.get_set] at hj
  split at hj
  ·next hjd =>
   cases hj
   subst hjd
   obtain ⟨x,x1,x2⟩:=htv j _ (ht j _ hd)
   obtain ⟨kk,o,rfl,hm⟩:=RV_fp.1 x2
   obtain ⟨y,y1,y2⟩:=(RM_one (v:=.ms i 0 len cap ez) rfl).1 hm
   obtain ⟨_,rfl⟩:=RV_ms.1 y2
   refine ⟨_,x1,RV_fp.2 ⟨kk,o,rfl,(RM_one (v:=.sl .no vs) rfl).2 ⟨_,hx.cell _ _ _ y1,RV_sl.2 (.inr ⟨s.e i,0,cap,sz,by rw [hl],by omega,?_,trivial⟩)⟩⟩⟩
   refine REs.of_flat hall (RMs.of_get fun q v hq=>?_)
   have hqlt:q < (flat vs).length:=(List.getElem?_eq_some_iff.1 hq).1
   have hql:=hqlt
   rw [flat_len hall] at hqlt
   obtain ⟨y,u1,u2⟩:=e3.get (a:=v) (i:=q) (by rw [List.getElem?_append_left hql];exact hq)
   refine ⟨y,?_,(R2.ext hx v).1 _ u2⟩
   rw [Nat.zero_add]
   exact fcell_new (upd_self _ _ _) hqlt e2 (by simpa using u1)
  ·obtain ⟨x,x1,x2⟩:=htv j u hj
   exact ⟨x,x1,(R2.ext hx u).1 _ x2⟩
end
end Go.Pv
namespace Go.Pv
open Go.Proofs Go.Am
set_option maxRecDepth 10000
def enW (p q:Int×Int):Int×Int:=(min p.1 q.1,max p.2 q.2)
theorem f128 (tl:Tail) (v0:Int×Int) (V:List (Int×Int)) (hV:V.length≤10000) :
    Fn P0 128 [.fn (.func 129) [] [],.sl tl ((v0::V).map eV)] (eV (V.foldl enW v0)):=by
  have hst:∀ i (h:i < V.length),(V.take (i+1)).foldl enW v0=enW ((V.take i).foldl enW v0) V[i]:=fun i h=>by
    rw [List.take_succ_eq_append_getElem h,List.foldl_append];rfl
  refine PFun.of (C:=c128) (cx_ok _ _ _) rfl (fn:=Tryz.f128) (by kernel_rfl) (c:=_) rfl rfl rfl ?_
  refine Run.seq (Run.region (cx_ok _ _ _) (Reg.op rfl (Ope.newL rfl ?_)))
  refine Reg.nil (Run.seq (Run.region (cx_ok _ _ _) (Reg.op rfl (Ope.mov rfl ?_))))
  refine Reg.op rfl (Ope.idxM (m:=0) (xs:=v0::V) (f:=eV) rfl rfl rfl (by simp) (fun _=>rfl) ?_)
  refine Reg.op rfl (Ope.load rfl rfl ?_)
  refine Reg.op rfl (Ope.newL rfl ?_)
  refine Reg.op0 (Ope.store rfl rfl hget_hd rfl rfl rfl ?_)
  refine Reg.nil (Run.seq (Run.seq (Run.region (cx_ok _ _ _) (Reg.op rfl (Ope.mov rfl ?_)))))
  refine Reg.op rfl (Ope.slD (m:=1) (vs:=(v0::V).map eV) rfl rfl rfl (by simp) (by intro v hv;obtain ⟨_,_,rfl⟩:=List.mem_map.1 hv;rfl) ?_)
  rw [show ((v0::V).map eV).drop 1=V.map eV from rfl]
  refine Reg.op rfl (Ope.len (m:=V.length) rfl (by simp) ?_)
  refine Reg.op rfl (Ope.mov rfl ?_)
  refine Reg.nil (Run.block (Run.wide (m:=2) (l':=[(1,some (.cells [I v0.1,I v0.2])),(0,some (.cells [I 0,I 0]))]) (Nat.le_refl _) ⟨rfl,rfl,trivial⟩ ?_))
  refine Run.loop (α:=Nat×Nat) (fun t=>[(0,.fn (.func 129) [] []),(4,.ptr 0 0),(5,.ptr 1 0),(12,.sl (stail tl ((v0::V).map eV).length ((v0::V).map eV).length) (V.map eV)),(13,I V.length),(14,I t.1)]) (fun t=>HE t.2 [(1,some (.cells [I ((V.take t.1).foldl enW v0).1,I ((V.take t.1).foldl enW v0).2])),(0,some (.cells [I 0,I 0]))]) (fun t=>t.1≤V.length∧2≤t.2) (fun t=>V.length - t.1) (0,2) ⟨rfl,rfl,rfl,rfl,rfl,rfl,trivial⟩ rfl ⟨Nat.zero_le _,Nat.le_refl _⟩ (fun t ht=>?_)
  obtain ⟨i,m⟩:=t
  obtain ⟨hi,hm⟩:=ht
  simp only at hi hm
  show Run _ _ _ _ [(0,.fn (.func 129) [] []),(4,.ptr 0 0),(5,.ptr 1 0),(12,.sl (stail tl ((v0::V).map eV).length ((v0::V).map eV).length) (V.map eV)),(13,I V.length),(14,I i)] [] (HE m [(1,some (.cells [I ((V.take i).foldl enW v0).1,I ((V.take i).foldl enW v0).2])),(0,some (.cells [I 0,I 0]))])
  refine Run.seq (Run.region (cx_ok _ _ _) (Reg.op rfl (Ope.lt rfl rfl ?_)))
  refine Reg.nil (Run.seq (Run.condX rfl (fun hc=>?_) fun hc=>?_))
  ·refine Run.skip (Run.seq (Run.block (Run.seq ?_)))
   have hi2:i < V.length:=by omega
   have hsi:=hst i hi2
   refine Run.region (cx_ok _ _ _) (Reg.op rfl (Ope.idxM (m:=i) (f:=eV) rfl rfl rfl hi2 (fun _=>rfl) ?_))
   refine Reg.op rfl (Ope.load rfl rfl ?_)
   refine Reg.op rfl (Ope.newL rfl ?_)
   refine Reg.op0 (Ope.store rfl rfl hget_hd rfl rfl rfl ?_)
   refine Reg.nil (Run.frz (d:=7) true rfl hget_hd rfl ?_)
   refine Run.wide (m:=m+1) (l':=[(1,some (.cells [I ((V.take i).foldl enW v0).1,I ((V.take i).foldl enW v0).2])),(0,some (.cells [I 0,I 0]))]) (Nat.le_refl _) ⟨by repeat (first | rfl | exact hget_hd | refine (hget_tl (by omega)).trans ?_),by repeat (first | rfl | exact hget_hd | refine (hget_tl (by omega)).trans ?_),trivial⟩ ?_
   refine Run.region (cx_ok _ _ _) (Reg.op rfl (Ope.mov rfl ?_))
   refine Reg.op rfl (Ope.loadH rfl hget_hd rfl ?_)
   refine Reg.op rfl (Ope.load rfl rfl ?_)
   refine Reg.op rfl (Ope.cf rfl rfl (f129 ((V.take i).foldl enW v0) V[i]) rfl ?_)
   refine Reg.op0 (Ope.store rfl rfl hget_hd rfl rfl rfl ?_)
   refine Reg.nil (Run.bend (Run.wide (m:=m+1) (l':=[(1,some (.cells [I ((V.take (i+1)).foldl enW v0).1,I ((V.take (i+1)).foldl enW v0).2])),(0,some (.cells [I 0,I 0]))]) (Nat.le_refl _) ⟨by rw [hsi];exact hget_hd,rfl,trivial⟩ ?_))
   refine Run.region (cx_ok _ _ _) (Reg.op rfl (Ope.add rfl rfl (by omega) ?_))
   refine Reg.op rfl (Ope.mov rfl ?_)
   exact Reg.nil (Run.lend ⟨(i+1,m+1),by show V.length - (i+1) < V.length - i;omega,⟨by show i+1≤V.length;omega,by show 2≤m+1;omega⟩,⟨rfl,rfl,rfl,rfl,rfl,rfl,trivial⟩,rfl,rfl⟩)
  ·refine Run.exit (Jmp.code (Jmp.round (Jmp.here (Run.seq ?_))))
   obtain rfl:i=V.length:=by omega
   rw [List.take_length]
   refine Run.region (cx_ok _ _ _) (Reg.op rfl (Ope.loadH rfl hget_hd rfl ?_))
   refine Reg.op0 (Ope.store rfl rfl rfl rfl rfl rfl ?_)
   exact Reg.nil (Run.ret (fin_ret (.cell rfl rfl .nil) rfl rfl))
instance:Mka A0 147:=⟨by kernel_rfl⟩
def lsE (L:List (Int×Int)):Option (Nat×Nat×Option Nat×List PV)→PV
  | none=>.sl .ex []
  | some (j,c,ez,_)=>.ms (j+4) 0 L.length c ez
def lhE (L:List (Int×Int)):Option (Nat×Nat×Option Nat×List PV)→HL
  | none=>[]
  | some (j,_,_,post)=>[(j+4,some (.cells (flat (L.map eV)++post)))]
def LOkE (L:List (Int×Int)) (m:Nat):Option (Nat×Nat×Option Nat×List PV)→Prop
  | none=>L=[]
  | some (j,c,_,post)=>L≠[]∧j+4 < m∧L.length≤c∧post.length=(c - L.length) * 2
def enJ (ask:Nat→Int×Int):List Nat→Int×Int
  | []=>(0,0)
  | v::V=>(V.map ask).foldl enW (ask v)
theorem f107 (tl : Tail) (htl : tl.isOwn = false) (J : List Rpt) (hJ : J.length ≤ 100) (hok : ∀ r ∈ J, r.ok = true) (h3 : (flR J).length ≤ 3) (fa : PV) (hfa : fa.isAgg = false) (ask : Nat → Int × Int) (hask : ∀ v, v < 2 ^ 62 → Asks A0 P0 fa [U v] (eV (ask v))) :
    Fn P0 107 [.sl tl (J.map Rpt.v),fa] (eV (enJ ask (voR (flR J) 0))):=by
  have hld:∀ l:HL,loadK false 1 l (.fp fa)=some fa:=fun l=>by cases fa<;>first | rfl | cases hfa
  have hfo:=fl_ok hok
  have hy:=f104 tl htl J hJ fun f hf=>(hfo f hf).1
  have hlen:=voR_len (F:=flR J) 0 fun f hf=>⟨(hfo f hf).2.1,(hfo f hf).2.2.1⟩
  have hle:(voR (flR J) 0).length≤10000:=Nat.le_trans hlen (Nat.le_trans (Nat.pow_le_pow_right (by decide) h3) (by decide))
  have hne:=voR_ne (F:=flR J) 0 fun f hf=>⟨(hfo f hf).2.2.2.1,(hfo f hf).2.2.2.2⟩
  have hlt:=voR_lt (F:=flR J) (v:=0) (fun f hf=>(hfo f hf).1) (by decide)
  generalize voR (flR J) 0=D at *
  obtain ⟨v0,V,hV⟩:=List.exists_cons_of_ne_nil hne
  have hlV:V.length≤10000:=by rw [hV] at hle;simp only [List.length_cons] at hle;omega
  have hjo:=f128 .no (ask v0) (V.map ask) (by simpa using hlV)
  have hb2:PV.bds 0 [.fn (.func 129) [] [],.sl .no ((ask v0::V.map ask).map eV)]=true:=bds_cons rfl (bds_cons (bd_sl (f:=eV) (tl:=.no) rfl (fun _=>rfl) _) rfl)
  have htk:∀ i (h:i < D.length),((D.take (i+1)).map ask).map eV=((D.take i).map ask).map eV++[eV (ask D[i])]:=fun i h=>by rw [List.take_succ_eq_append_getElem h,List.map_append,List.map_append];rfl
  have htl':∀ i,i≤D.length→((D.take i).map ask).length=i:=fun i h=>by rw [List.length_map,List.length_take];omega
  have hDm:D.map ask=ask v0::V.map ask:=by rw [hV];rfl
  have hen:enJ ask D=(V.map ask).foldl enW (ask v0):=by rw [hV];rfl
  rw [hen]
  refine PFun.of (C:=c107) (cx_ok _ _ _) rfl (fn:=Tryz.f107) (by kernel_rfl) (c:=_) rfl rfl rfl ?_
  refine Run.seq (Run.region (cx_ok _ _ _) (Reg.op rfl (Ope.boxF rfl rfl ?_)))
  refine Reg.op rfl (Ope.newL rfl ?_)
  refine Reg.nil (Run.seq (Run.region (cx_ok _ _ _) (Reg.op rfl (Ope.newL rfl ?_))))
  refine Reg.nil (Run.seq (Run.seq (Run.region (cx_ok _ _ _) (Reg.op rfl (Ope.mov rfl ?_)))))
  refine Reg.op rfl (Ope.mkf rfl rfl ?_)
  refine Reg.nil (Run.block ?_)
  refine Run.rangeF (cx_ok _ _ _) rfl (α:=Nat×Option (Nat×Nat×Option Nat×List PV)×Nat) (fun a=>(1,some (.cells [lsE ((D.take a.1).map ask) a.2.1]))::(0,some (.cells [I 0,I 0]))::lhE ((D.take a.1).map ask) a.2.1) (fun a=>a.2.2) (fun i a=>a.1=i∧i≤D.length∧LOkE ((D.take i).map ask) a.2.2 a.2.1∧4≤a.2.2) rfl hy rfl rfl ⟨Tryz.f107,by kernel_rfl⟩ (0,none,4) ⟨rfl,Nat.zero_le _,rfl,Nat.le_refl _⟩ ⟨rfl,rfl,trivial⟩ (fun a p hp=>by
    obtain ⟨i,st,m⟩:=a
    rcases List.mem_cons.1 hp with rfl | hp
    · show (1:Nat)≠3;decide
    · rcases List.mem_cons.1 hp with rfl | hp
      · show (0:Nat)≠3;decide
      · cases st with
        | none=>cases hp
        | some q=>rw [List.mem_singleton.1 hp];show q.1+4≠3;omega) (by simp [lhE]) (Nat.le_refl _) (fun i a v hv hI m hm1 hm2 lb=>?_) (fun a hI m hm1 hm2=>?_)
  ·obtain ⟨i',st,mm⟩:=a
   obtain ⟨hii,hi,hL,h4⟩:=hI
   simp only at hii hL h4 hm1
   subst hii
   have hlt2:i' < D.length:=by have:=(List.getElem?_eq_some_iff.1 hv).1;simpa using this
   have hv':v=U D[i']:=by rw [List.getElem?_map,List.getElem?_eq_getElem hlt2] at hv;cases hv;rfl
   subst hv'
   have htk':=htk i' hlt2
   have htl1':=htl' i' hi
   have htl1:=htl' (i'+1) hlt2
   have has:=hask D[i'] (hlt _ (List.getElem_mem hlt2))
   have hfin:∀ (j' n' c':Nat) (post':List PV) (ez':Option Nat),4≤j'→j' < n'→((D.take i').map ask).length+1≤c'→post'.length=(c' - (((D.take i').map ask).length+1)) * 2→∃ st',LOkE ((D.take (i'+1)).map ask) n' st'∧lsE ((D.take (i'+1)).map ask) st'=.ms j' 0 (((D.take i').map ask).length+1) c' ez'∧lhE ((D.take (i'+1)).map ask) st'=[(j',some (.cells (flat (((D.take i').map ask).map eV++[eV (ask D[i'])])++post')))]:=fun j' n' c' post' ez' a1 a2 a3 a4=>by
     have e1:j' - 4+4=j':=by omega
     refine ⟨some (j' - 4,c',ez',post'),⟨fun h=>?_,by rw [e1];exact a2,by rw [htl1];rw [htl1'] at a3;exact a3,by rw [htl1];rw [htl1'] at a4;exact a4⟩,?_,?_⟩
     · have := congrArg List.length h
       rw [htl1] at this;simp at this
     · show PV.ms (j' - 4 + 4) 0 ((D.take (i' + 1)).map ask).length c' ez' = _
       rw [e1,htl1,htl1']
     · show [(j' - 4 + 4, some (PBlk.cells (flat (((D.take (i' + 1)).map ask).map eV) ++ post')))] = _
       rw [e1,htk']
   generalize hLL:(D.take i').map ask=L at *
   generalize hLL1:(D.take (i'+1)).map ask=L1 at *
   rcases st with _ | ⟨j,c,ez,post⟩
   ·refine Run.region (Cx.Ok.rnd (cx_ok _ _ _)) (Reg.op rfl (Ope.asg rfl ?_))
    refine Reg.nil (Run.done ⟨rfl,rfl,_,_,rfl,hget_hd,fun lb2=>?_⟩)
    refine Run.block ?_
    first
    | (have hL0 : L = [] := hL
       obtain ⟨X,hX⟩:∃ X:PV,X=.sl .ex []:=⟨_,rfl⟩
       refine Run.wide (m:=m) (l':=[(3,some lb2),(2,some .dfr),(1,some (.cells [.sl .ex []])),(0,some (.cells [I 0,I 0]))]) (Nat.le_refl _) ⟨rfl,rfl,rfl,rfl,trivial⟩ ?_)
    | (obtain ⟨hL1, hL2, hL3, hL4⟩ := hL
       obtain ⟨X,hX⟩:∃ X:PV,X=.ms (j+4) 0 L.length c ez:=⟨_,rfl⟩
       refine Run.wide (m:=m) (l':=[(3,some lb2),(2,some .dfr),(1,some (.cells [.ms (j+4) 0 L.length c ez])),(0,some (.cells [I 0,I 0])),(j+4,some (.cells (flat (L.map eV)++post)))]) (Nat.le_refl _) ⟨rfl,rfl,rfl,rfl,(hget_tl (by omega)).trans ((hget_tl (by omega)).trans ((hget_tl (by omega)).trans ((hget_tl (by omega)).trans ((hget_tl (by omega)).trans hget_hd)))),trivial⟩ ?_)
    refine Run.drawS (Cx.Ok.rnd (cx_ok _ _ _)) (fun h'=>h'.get 1=some (.cells [X])) [(0,false,false),(1,true,false),(2,true,false),(3,true,true),(4,true,false),(5,true,false),(6,true,false)] (by kernel_rfl) (DraS.opR rfl rfl rfl (by rw [hX];rfl) (StabS.at rfl) (Ope.loadH rfl rfl rfl ?_))
    refine DraS.opQ rfl rfl rfl (Ope.load rfl (hld _) ?_)
    refine DraS.opQ rfl rfl rfl (Ope.mov rfl ?_)
    refine DraS.opS rfl rfl rfl (Ope.asks rfl rfl has ?_)
    refine ⟨(by rw [hX];rfl),?_⟩
    refine DraS.opQ rfl rfl rfl (Ope.bsl rfl rfl rfl rfl ?_)
    first
    | refine DraS.opQ rfl rfl rfl (Ope.apLp (ws:=[eV (ask D[i'])]) rfl rfl (by simp) (by simp) (by simp) (by decide) (by simp) (by intro v hv;simp only [List.mem_singleton] at hv;subst hv;exact ⟨rfl,rfl⟩) (fun c' post' ez' hc' hp'=>?_))
    | refine DraS.opQ rfl rfl rfl (Ope.apLw (vs:=L.map eV) (ws:=[eV (ask D[i'])]) (post:=post) rfl rfl ((hget_tl (by omega)).trans ((hget_tl (by omega)).trans ((hget_tl (by omega)).trans ((hget_tl (by omega)).trans hget_hd)))) (by rw [List.length_map]) hL3 hL4 (by simp only [List.length_map,htl1',List.length_singleton];omega) (by simp only [List.length_map,htl1',List.length_singleton];omega) (by intro v hv;obtain ⟨_,_,rfl⟩:=List.mem_map.1 hv;rfl) (by intro v hv;simp only [List.mem_singleton] at hv;subst hv;exact ⟨rfl,rfl⟩) (fun j' n' c' ez' post' hn' hj' hc' hp'=>?_))
    first
    | refine DraS.opQ rfl rfl rfl (Ope.store rfl rfl ((hget_tl (by omega)).trans ((hget_tl (by omega)).trans ((hget_tl (by omega)).trans hget_hd))) rfl rfl rfl ?_)
    refine DraS.nil (Run.bend ?_)
    first
    | (subst hL0
       obtain ⟨st',b1,b2,b3⟩:=hfin m (m+1) c' post' ez' (by omega) (Nat.lt_succ_self _) (by simpa using hc') (by simpa using hp')
       refine Run.done ⟨rfl,_,_,rfl,by omega,by repeat (first | rfl | exact hget_hd | refine (hget_tl (by omega)).trans ?_),(i'+1,st',m+1),Nat.le_refl _,⟨by repeat (first | rfl | exact hget_hd | refine (hget_tl (by omega)).trans ?_),?_,by repeat (first | rfl | exact hget_hd | refine (hget_tl (by omega)).trans ?_),?_⟩,rfl,hlt2,b1,by show 4≤m+1;omega⟩
       · show hget _ 1 = some (.cells [lsE ((D.take (i' + 1)).map ask) st'])
         rw [hLL1,b2]
         repeat (first | rfl | exact hget_hd | refine (hget_tl (by omega)).trans ?_)
       · show Hsub (lhE ((D.take (i' + 1)).map ask) st') _
         rw [hLL1,b3]
         exact ⟨by repeat (first | rfl | exact hget_hd | refine (hget_tl (by omega)).trans ?_),trivial⟩)
    | (simp only [List.length_map, List.length_singleton] at hc' hp'
       obtain ⟨st',b1,b2,b3⟩:=hfin j' n' c' post' ez' (by omega) (by omega) hc' hp'
       refine Run.done ⟨rfl,_,_,rfl,by omega,by repeat (first | rfl | exact hget_hd | refine (hget_tl (by omega)).trans ?_),(i'+1,st',n'),Nat.le_refl _,⟨by repeat (first | rfl | exact hget_hd | refine (hget_tl (by omega)).trans ?_),?_,by repeat (first | rfl | exact hget_hd | refine (hget_tl (by omega)).trans ?_),?_⟩,rfl,hlt2,b1,by show 4≤n';omega⟩
       · show hget _ 1 = some (.cells [lsE ((D.take (i' + 1)).map ask) st'])
         rw [hLL1,b2]
         refine hget_hd.trans ?_
         simp only [List.length_map,List.length_singleton]
       · show Hsub (lhE ((D.take (i' + 1)).map ask) st') _
         rw [hLL1,b3]
         exact ⟨by repeat (first | rfl | exact hget_hd | refine (hget_tl (by omega)).trans ?_),trivial⟩)
   ·refine Run.region (Cx.Ok.rnd (cx_ok _ _ _)) (Reg.op rfl (Ope.asg rfl ?_))
    refine Reg.nil (Run.done ⟨rfl,rfl,_,_,rfl,hget_hd,fun lb2=>?_⟩)
    refine Run.block ?_
    first
    | (have hL0 : L = [] := hL
       obtain ⟨X,hX⟩:∃ X:PV,X=.sl .ex []:=⟨_,rfl⟩
       refine Run.wide (m:=m) (l':=[(3,some lb2),(2,some .dfr),(1,some (.cells [.sl .ex []])),(0,some (.cells [I 0,I 0]))]) (Nat.le_refl _) ⟨rfl,rfl,rfl,rfl,trivial⟩ ?_)
    | (obtain ⟨hL1, hL2, hL3, hL4⟩ := hL
       obtain ⟨X,hX⟩:∃ X:PV,X=.ms (j+4) 0 L.length c ez:=⟨_,rfl⟩
       refine Run.wide (m:=m) (l':=[(3,some lb2),(2,some .dfr),(1,some (.cells [.ms (j+4) 0 L.length c ez])),(0,some (.cells [I 0,I 0])),(j+4,some (.cells (flat (L.map eV)++post)))]) (Nat.le_refl _) ⟨rfl,rfl,rfl,rfl,(hget_tl (by omega)).trans ((hget_tl (by omega)).trans ((hget_tl (by omega)).trans ((hget_tl (by omega)).trans ((hget_tl (by omega)).trans hget_hd)))),trivial⟩ ?_)
    refine Run.drawS (Cx.Ok.rnd (cx_ok _ _ _)) (fun h'=>h'.get 1=some (.cells [X])) [(0,false,false),(1,true,false),(2,true,false),(3,true,true),(4,true,false),(5,true,false),(6,true,false)] (by kernel_rfl) (DraS.opR rfl rfl rfl (by rw [hX];rfl) (StabS.at rfl) (Ope.loadH rfl rfl rfl ?_))
    refine DraS.opQ rfl rfl rfl (Ope.load rfl (hld _) ?_)
    refine DraS.opQ rfl rfl rfl (Ope.mov rfl ?_)
    refine DraS.opS rfl rfl rfl (Ope.asks rfl rfl has ?_)
    refine ⟨(by rw [hX];rfl),?_⟩
    refine DraS.opQ rfl rfl rfl (Ope.bsl rfl rfl rfl rfl ?_)
    first
    | refine DraS.opQ rfl rfl rfl (Ope.apLp (ws:=[eV (ask D[i'])]) rfl rfl (by simp) (by simp) (by simp) (by decide) (by simp) (by intro v hv;simp only [List.mem_singleton] at hv;subst hv;exact ⟨rfl,rfl⟩) (fun c' post' ez' hc' hp'=>?_))
    | refine DraS.opQ rfl rfl rfl (Ope.apLw (vs:=L.map eV) (ws:=[eV (ask D[i'])]) (post:=post) rfl rfl ((hget_tl (by omega)).trans ((hget_tl (by omega)).trans ((hget_tl (by omega)).trans ((hget_tl (by omega)).trans hget_hd)))) (by rw [List.length_map]) hL3 hL4 (by simp only [List.length_map,htl1',List.length_singleton];omega) (by simp only [List.length_map,htl1',List.length_singleton];omega) (by intro v hv;obtain ⟨_,_,rfl⟩:=List.mem_map.1 hv;rfl) (by intro v hv;simp only [List.mem_singleton] at hv;subst hv;exact ⟨rfl,rfl⟩) (fun j' n' c' ez' post' hn' hj' hc' hp'=>?_))
    first
    | refine DraS.opQ rfl rfl rfl (Ope.store rfl rfl ((hget_tl (by omega)).trans ((hget_tl (by omega)).trans ((hget_tl (by omega)).trans hget_hd))) rfl rfl rfl ?_)
    refine DraS.nil (Run.bend ?_)
    first
    | (subst hL0
       obtain ⟨st',b1,b2,b3⟩:=hfin m (m+1) c' post' ez' (by omega) (Nat.lt_succ_self _) (by simpa using hc') (by simpa using hp')
       refine Run.done ⟨rfl,_,_,rfl,by omega,by repeat (first | rfl | exact hget_hd | refine (hget_tl (by omega)).trans ?_),(i'+1,st',m+1),Nat.le_refl _,⟨by repeat (first | rfl | exact hget_hd | refine (hget_tl (by omega)).trans ?_),?_,by repeat (first | rfl | exact hget_hd | refine (hget_tl (by omega)).trans ?_),?_⟩,rfl,hlt2,b1,by show 4≤m+1;omega⟩
       · show hget _ 1 = some (.cells [lsE ((D.take (i' + 1)).map ask) st'])
         rw [hLL1,b2]
         repeat (first | rfl | exact hget_hd | refine (hget_tl (by omega)).trans ?_)
       · show Hsub (lhE ((D.take (i' + 1)).map ask) st') _
         rw [hLL1,b3]
         exact ⟨by repeat (first | rfl | exact hget_hd | refine (hget_tl (by omega)).trans ?_),trivial⟩)
    | (simp only [List.length_map, List.length_singleton] at hc' hp'
       obtain ⟨st',b1,b2,b3⟩:=hfin j' n' c' post' ez' (by omega) (by omega) hc' hp'
       refine Run.done ⟨rfl,_,_,rfl,by omega,by repeat (first | rfl | exact hget_hd | refine (hget_tl (by omega)).trans ?_),(i'+1,st',n'),Nat.le_refl _,⟨by repeat (first | rfl | exact hget_hd | refine (hget_tl (by omega)).trans ?_),?_,by repeat (first | rfl | exact hget_hd | refine (hget_tl (by omega)).trans ?_),?_⟩,rfl,hlt2,b1,by show 4≤n';omega⟩
       · show hget _ 1 = some (.cells [lsE ((D.take (i' + 1)).map ask) st'])
         rw [hLL1,b2]
         refine hget_hd.trans ?_
         simp only [List.length_map,List.length_singleton]
       · show Hsub (lhE ((D.take (i' + 1)).map ask) st') _
         rw [hLL1,b3]
         exact ⟨by repeat (first | rfl | exact hget_hd | refine (hget_tl (by omega)).trans ?_),trivial⟩)
  ·obtain ⟨i',st,mm⟩:=a
   obtain ⟨hii,hi,hL,h4⟩:=hI
   simp only at hii hL h4 hm1
   subst hii
   have hDt:D.take (D.map U).length=D:=by rw [List.length_map,List.take_length]
   rw [hDt,hDm] at hL ⊢
   obtain ⟨j,c,ez,post,rfl⟩:∃ j c ez post,st=some (j,c,ez,post):=(by cases st with | none=>cases hL | some q=>exact ⟨_,_,_,_,rfl⟩)
   obtain ⟨hL1,hL2,hL3,hL4⟩:=hL
   refine Run.bend (Run.seq (Run.wide (m:=m) (l':=[(2,some .dfr),(1,some (.cells [.ms (j+4) 0 (ask v0::V.map ask).length c ez])),(0,some (.cells [I 0,I 0])),(j+4,some (.cells (flat ((ask v0::V.map ask).map eV)++post)))]) (Nat.le_refl _) ⟨rfl,rfl,rfl,by repeat (first | rfl | exact hget_hd | refine (hget_tl (by omega)).trans ?_),trivial⟩ ?_))
   refine Run.frz (d:=5) false rfl rfl rfl ?_
   refine Run.frzSp (d:=5) (i:=j+4) (vs:=(ask v0::V.map ask).map eV) (post:=post) (sz:=2) rfl (by repeat (first | rfl | exact hget_hd | refine (hget_tl (by omega)).trans ?_)) (by rw [List.length_map]) hL3 (by intro v hv;obtain ⟨_,_,rfl⟩:=List.mem_map.1 hv;rfl) ?_
   refine Run.region (cx_ok _ _ _) (Reg.op rfl (Ope.load rfl rfl ?_))
   refine Reg.op rfl (Ope.cf rfl rfl hjo hb2 ?_)
   refine Reg.op0 (Ope.store rfl rfl rfl rfl rfl rfl ?_)
   exact Reg.nil (Run.ret (fin_retD (i:=2) (by repeat (first | rfl | exact hget_hd | refine (hget_tl (by omega)).trans ?_)) (.cell rfl rfl .nil) rfl rfl))
end Go.Pv
namespace Go.Pv
open Go.Proofs Go.Am
set_option maxRecDepth 10000
theorem mthT (r : Rpt) : pmethod A0 (scT r) r.v "lapworks/spill.times" = some (174, r.v) := by
  unfold scT
  split<;>rfl
theorem mthO (r : Rpt) : pmethod A0 (scT r) r.v "lapworks/spill.of" = some (173, r.v) := by
  unfold scT
  split<;>rfl
theorem mthI (r : Rpt) : pmethod A0 (scT r) r.v "lapworks/spill.id" = some (172, r.v) := by
  unfold scT
  split<;>rfl
theorem mthW (r : Rpt) : pmethod A0 (scT r) r.v "lapworks/spill.worth" = some (if r.ki = 1 then 175 else 177, r.v) := by
  unfold scT
  split<;>rfl
def chainB (x y:Bool):Option Bool:=match some x with
  | some true=>(match some y with | some true=>some true | some false=>some false | none=>none)
  | some false=>some false
  | none=>none
theorem enSv (x y x' y':Int):aeqv A0 E0 20 96 (.agg [.int .i64 x,.int .i64 y]) (.agg [.int .i64 x',.int .i64 y'])=chainB (x == x') (y == y'):=by kernel_rfl
theorem enSe:E0.eqs.get 96=some ():=by kernel_rfl
theorem enSu:(match A0.under 96 with | some (.struct _)=>true | _=>false)=true:=by kernel_rfl
theorem eqEn (xo yo:Operand) (x y x' y':Int):pbin A0 E0 .eql 96 xo yo (.agg [I x,I y]) (.agg [I x',I y'])=some (B (x == x' && y == y')):=by
  have hn:pnil A0 96 (.agg [I x,I y]) (.agg [I x',I y'])=none:=by
    have h:=enSu
    unfold pnil
    cases hu:A0.under 96 with
    | none=>rfl
    | some d =>
      rw [hu] at h
      cases d<;>first | rfl | (exact absurd h (by decide))
  have hv:=enSv x y x' y'
  simp only [pbin,PV.toAV,PV.toAVs,bothNil,hn,abin,aequal,enSe,hv]
  cases (x == x')<;>cases (y == y')<;>rfl
def cntV (e:Int×Int):Int:=if (e.1 == 0 && e.2 == 0)=true then 0 else if (e.1 == 1 && e.2 == 1)=true then 2 else 1
theorem f73 (tl:Tail) (htl:tl.isOwn=false) (J:List Rpt) (hJ:J.length≤100) (hok:∀ r∈J,r.ok=true) (h3:(flR J).length≤3) (r:Rpt) (hr:RepOk r):Fn P0 73 [.sl tl (J.map Rpt.v),sV r] (I (cntV (enJ (tim r) (voR (flR J) 0)))):=by
  have ha:=hr.a
  have hen := f107 tl htl J hJ hok h3 (.fn (.method "lapworks/spill.times") [sV r] []) rfl (tim r) (fun v hv => Asks.mthP (mthT r) (f174 r ha.1 (by omega) ha.2.2.1 v hv) rfl)
  have hb : PV.bds 0 [.sl tl (J.map Rpt.v), .fn (.method "lapworks/spill.times") [sV r] []] = true := bds_cons (bd_sl (f := Rpt.v) htl (fun _ => rfl) _) rfl
  generalize enJ (tim r) (voR (flR J) 0)=e at *
  obtain ⟨e1,e2⟩:=e
  refine PFun.of (C:=c73) (cx_ok _ _ _) rfl (fn:=Tryz.f73) (by kernel_rfl) (c:=_) rfl rfl rfl ?_
  refine Run.seq (Run.region (cx_ok _ _ _) (Reg.op rfl (Ope.asg rfl ?_)))
  refine Reg.nil (Run.seq (Run.seq (Run.region (cx_ok _ _ _) (Reg.op rfl (Ope.mov rfl ?_)))))
  refine Reg.op rfl (Ope.mov rfl ?_)
  refine Reg.op rfl (Ope.nilc rfl rfl ?_)
  refine Reg.op rfl (Ope.mkf rfl rfl ?_)
  refine Reg.op rfl (Ope.cf rfl rfl hen hb ?_)
  refine Reg.nil (Run.block (Run.seq (Run.region (cx_ok _ _ _) (Reg.op rfl (Ope.bld rfl rfl ?_)))))
  refine Reg.op rfl (Ope.eqV rfl rfl (eqEn _ _ _ _ _ _) ?_)
  refine Reg.op rfl (Ope.asg rfl ?_)
  refine Reg.nil (Run.condX rfl (fun hc=>?_) fun hc=>?_)
  ·refine Run.seq (Run.region (cx_ok _ _ _) (Reg.op rfl (Ope.asg rfl ?_)))
   refine Reg.nil (Run.ret (Jmp.retB (Jmp.code (fin_ret (.tmp rfl .nil) rfl ?_))))
   first
   | (refine congrArg I ?_;unfold cntV;rw [if_pos hc];done)
   | (refine congrArg I (Eq.symm ?_);simp only [cntV];simp only [*,Bool.false_eq_true,if_false,if_true];done)
   | (refine congrArg I (Eq.symm ?_);simp only [cntV];rw [if_neg (by assumption),if_pos (by assumption)];done)
   | (refine congrArg I (Eq.symm ?_);simp only [cntV];rw [if_neg (by assumption),if_neg (by assumption)];done)
  ·refine Run.seq (Run.region (cx_ok _ _ _) (Reg.op rfl (Ope.bld rfl rfl ?_)))
   refine Reg.op rfl (Ope.eqV rfl rfl (eqEn _ _ _ _ _ _) ?_)
   refine Reg.op rfl (Ope.asg rfl ?_)
   refine Reg.nil (Run.condX rfl (fun hc=>?_) fun hc=>?_)
   ·refine Run.seq (Run.region (cx_ok _ _ _) (Reg.op rfl (Ope.asg rfl ?_)))
    refine Reg.nil (Run.ret (Jmp.retB (Jmp.code (fin_ret (.tmp rfl .nil) rfl ?_))))
    first
    | (refine congrArg I ?_;unfold cntV;rw [if_pos hc];done)
    | (refine congrArg I (Eq.symm ?_);simp only [cntV];simp only [*,Bool.false_eq_true,if_false,if_true];done)
    | (refine congrArg I (Eq.symm ?_);simp only [cntV];rw [if_neg (by assumption),if_pos (by assumption)];done)
    | (refine congrArg I (Eq.symm ?_);simp only [cntV];rw [if_neg (by assumption),if_neg (by assumption)];done)
   ·refine Run.skip (Run.bend (Run.seq (Run.region (cx_ok _ _ _) (Reg.op rfl (Ope.asg rfl ?_)))))
    refine Reg.nil (Run.ret (fin_ret (.tmp rfl .nil) rfl ?_))
    first
    | (refine congrArg I ?_;unfold cntV;rw [if_pos hc];done)
    | (refine congrArg I (Eq.symm ?_);simp only [cntV];simp only [*,Bool.false_eq_true,if_false,if_true];done)
    | (refine congrArg I (Eq.symm ?_);simp only [cntV];rw [if_neg (by assumption),if_pos (by assumption)];done)
    | (refine congrArg I (Eq.symm ?_);simp only [cntV];rw [if_neg (by assumption),if_neg (by assumption)];done)
def balA (p:Int) (n:Nat) (e:Int×Int) (r:Rpt):Int×Int:=if r.pr=p then (e.1+(wor r n).1,e.2+(wor r n).2) else e
def balF (p:Int) (S:List Rpt) (n:Nat):Int×Int:=S.foldl (balA p n) (0,0)
theorem balF_take (p:Int) (S:List Rpt) (n i:Nat) (h:i < S.length):balF p (S.take (i+1)) n=balA p n (balF p (S.take i) n) S[i]:=by
  unfold balF
  rw [List.take_succ_eq_append_getElem h,List.foldl_append];rfl
theorem balF_rng (p:Int) (S:List Rpt) (n:Nat):∀ i,i≤S.length→-(i:Int)≤(balF p (S.take i) n).1∧(balF p (S.take i) n).1≤i∧-(i:Int)≤(balF p (S.take i) n).2∧(balF p (S.take i) n).2≤i
  | 0,_=>by simp [balF]
  | i + 1, h => by
    have ih:=balF_rng p S n i (by omega)
    rw [balF_take p S n i (by omega)]
    have hw:=wor_rng S[i] n
    unfold balA
    split
    · simp only;omega
    · omega
theorem fWor (r:Rpt) (h1:r.ki=1∨r.ki=2) (hr:RepOk r) (n:Nat) (hn:n < 2 ^ 62):Fn P0 (if r.ki=1 then 175 else 177) [r.v,U n] (eV (wor r n)):=by
  have ha:=hr.a
  rcases h1 with h | h
  · rw [if_pos h]
    unfold wor
    rw [if_neg (by omega)]
    exact f175 r ha.1 (by omega) ha.2.2.1 n hn
  · rw [if_neg (by omega)]
    unfold wor
    rw [if_pos h]
    exact f177 r ha.1 (by omega) ha.2.2.1 n hn
theorem f111 (ts:Tail) (S:List Rpt) (hS:S.length≤100) (hk:∀ r∈S,(r.ki=1∨r.ki=2)∧RepOk r) (p:Int) (n:Nat) (hn:n < 2 ^ 62):Fn P0 111 [U n,.fp (.sl ts (S.map sV)),.fp (I p)] (eV (balF p S n)):=by
  have hst:=fun i h=>balF_take p S n i h
  have hrg:=balF_rng p S n
  refine PFun.of (C:=c111) (cx_ok _ _ _) rfl (fn:=Tryz.f111) (by kernel_rfl) (c:=_) rfl rfl rfl ?_
  refine Run.seq (Run.region (cx_ok _ _ _) (Reg.op rfl (Ope.newL rfl ?_)))
  refine Reg.nil (Run.seq (Run.region (cx_ok _ _ _) (Reg.op rfl (Ope.bld rfl rfl ?_))))
  refine Reg.op rfl (Ope.newL rfl ?_)
  refine Reg.op0 (Ope.store rfl rfl hget_hd rfl rfl rfl ?_)
  refine Reg.nil (Run.seq (Run.seq (Run.region (cx_ok _ _ _) (Reg.op rfl (Ope.load rfl rfl ?_)))))
  refine Reg.op rfl (Ope.len (m:=S.length) rfl (by simp) ?_)
  refine Reg.op rfl (Ope.mov rfl ?_)
  refine Reg.nil (Run.block (Run.wide (m:=2) (l':=[(1,some (.cells [I 0,I 0])),(0,some (.cells [I 0,I 0]))]) (Nat.le_refl _) ⟨rfl,rfl,trivial⟩ ?_))
  refine Run.loop (α:=Nat) (fun i=>[(0,U n),(2,.fp (I p)),(4,.ptr 0 0),(5,.ptr 1 0),(9,.sl ts (S.map sV)),(10,I S.length),(11,I i)]) (fun i=>HE 2 [(1,some (.cells [I (balF p (S.take i) n).1,I (balF p (S.take i) n).2])),(0,some (.cells [I 0,I 0]))]) (fun i=>i≤S.length) (fun i=>S.length - i) 0 ⟨rfl,rfl,rfl,rfl,rfl,rfl,rfl,trivial⟩ rfl (Nat.zero_le _) (fun i hi=>?_)
  refine Run.seq (Run.region (cx_ok _ _ _) (Reg.op rfl (Ope.lt rfl rfl ?_)))
  refine Reg.nil (Run.seq (Run.condX rfl (fun hc=>?_) fun hc=>?_))
  ·refine Run.skip (Run.seq (Run.block (Run.seq ?_)))
   have hlt:i < S.length:=by omega
   have hsi:=hst i hlt
   have hri:=hrg i hi
   obtain ⟨hk1,hk2⟩:=hk _ (List.getElem_mem hlt)
   have hwr:=wor_rng S[i] n
   have hwo:=fWor S[i] hk1 hk2 n hn
   have hpl:=f112 (balF p (S.take i) n) (wor S[i] n) (by omega) (by omega)
   refine Run.region (cx_ok _ _ _) (Reg.op rfl (Ope.idxM (m:=i) (f:=sV) rfl rfl rfl hlt (fun _=>rfl) ?_))
   refine Reg.op rfl (Ope.load rfl rfl ?_)
   refine Reg.op rfl (Ope.asg rfl ?_)
   refine Reg.nil (Run.seq (Run.region (cx_ok _ _ _) (Reg.op rfl (Ope.mov rfl ?_))))
   refine Reg.op rfl (Ope.load rfl rfl ?_)
   refine Reg.op rfl (Ope.imV rfl rfl (mthO S[i]) (f173 S[i] p) rfl ?_)
   refine Reg.nil (Run.condX rfl (fun hc=>?_) fun hc=>?_)
   ·refine Run.drawS (cx_ok _ _ _) (fun h'=>h'.get 1=some (.cells [I (balF p (S.take i) n).1,I (balF p (S.take i) n).2])) [(0,false,false),(1,true,false),(2,true,false),(3,true,true),(4,true,false),(5,true,false)] (by kernel_rfl) (DraS.opR rfl rfl rfl rfl (StabS.at rfl) (Ope.loadH rfl rfl rfl ?_))
    refine DraS.opQ rfl rfl rfl (Ope.mov rfl ?_)
    refine DraS.opQ rfl rfl rfl (Ope.mov rfl ?_)
    refine DraS.opS rfl rfl rfl (Ope.imV rfl rfl (mthW S[i]) hwo rfl ?_)
    refine ⟨rfl,?_⟩
    refine DraS.opQ rfl rfl rfl (Ope.cf rfl rfl hpl rfl ?_)
    refine DraS.opQ rfl rfl rfl (Ope.store rfl rfl rfl rfl rfl rfl ?_)
    refine DraS.nil (Run.bend ?_)
    first
    | (unfold balA at hsi; rw [if_pos hc] at hsi
       refine Run.wide (m:=2) (l':=[(1,some (.cells [I (balF p (S.take (i+1)) n).1,I (balF p (S.take (i+1)) n).2])),(0,some (.cells [I 0,I 0]))]) (Nat.le_refl _) ⟨by rw [hsi];rfl,rfl,trivial⟩ ?_)
    | (unfold balA at hsi; rw [if_neg hc] at hsi
       refine Run.wide (m:=2) (l':=[(1,some (.cells [I (balF p (S.take (i+1)) n).1,I (balF p (S.take (i+1)) n).2])),(0,some (.cells [I 0,I 0]))]) (Nat.le_refl _) ⟨by rw [hsi];rfl,rfl,trivial⟩ ?_)
    refine Run.region (cx_ok _ _ _) (Reg.op rfl (Ope.add rfl rfl (by omega) ?_))
    refine Reg.op rfl (Ope.mov rfl ?_)
    exact Reg.nil (Run.lend ⟨i+1,by show S.length - (i+1) < S.length - i;omega,by show i+1≤S.length;omega,⟨rfl,rfl,rfl,rfl,rfl,rfl,rfl,trivial⟩,rfl,rfl⟩)
   ·refine Run.skip (Run.bend ?_)
    first
    | (unfold balA at hsi; rw [if_pos hc] at hsi
       refine Run.wide (m:=2) (l':=[(1,some (.cells [I (balF p (S.take (i+1)) n).1,I (balF p (S.take (i+1)) n).2])),(0,some (.cells [I 0,I 0]))]) (Nat.le_refl _) ⟨by rw [hsi];rfl,rfl,trivial⟩ ?_)
    | (unfold balA at hsi; rw [if_neg hc] at hsi
       refine Run.wide (m:=2) (l':=[(1,some (.cells [I (balF p (S.take (i+1)) n).1,I (balF p (S.take (i+1)) n).2])),(0,some (.cells [I 0,I 0]))]) (Nat.le_refl _) ⟨by rw [hsi];rfl,rfl,trivial⟩ ?_)
    refine Run.region (cx_ok _ _ _) (Reg.op rfl (Ope.add rfl rfl (by omega) ?_))
    refine Reg.op rfl (Ope.mov rfl ?_)
    exact Reg.nil (Run.lend ⟨i+1,by show S.length - (i+1) < S.length - i;omega,by show i+1≤S.length;omega,⟨rfl,rfl,rfl,rfl,rfl,rfl,rfl,trivial⟩,rfl,rfl⟩)
  ·refine Run.exit (Jmp.code (Jmp.round (Jmp.here (Run.seq ?_))))
   obtain rfl:i=S.length:=by omega
   rw [List.take_length]
   refine Run.region (cx_ok _ _ _) (Reg.op rfl (Ope.loadH rfl rfl rfl ?_))
   refine Reg.op0 (Ope.store rfl rfl rfl rfl rfl rfl ?_)
   exact Reg.nil (Run.ret (fin_ret (.cell rfl rfl .nil) rfl rfl))
theorem sc_ok {J:List Rpt} (h:∀ r∈J,r.ok=true):∀ r∈scR J,(r.ki=1∨r.ki=2)∧RepOk r:=fun r hr=>by
  obtain ⟨h1,h2⟩:=List.mem_filter.1 hr
  have hk:=Rpt.ok_ki (h r h1)
  have h3:r.ki≠0:=by simpa using h2
  exact ⟨by omega,Rpt.ok_rep (h r h1)⟩
theorem f78 (tl:Tail) (htl:tl.isOwn=false) (J:List Rpt) (hJ:J.length≤100) (hok:∀ r∈J,r.ok=true) (h3:(flR J).length≤3) (p:Int):Fn P0 78 [.sl tl (J.map Rpt.v),I p] (eV (enJ (balF p (scR J)) (voR (flR J) 0))):=by
  have hsc:=f70 tl J hJ hok
  have hsl:=scR_len J
  have hb1:PV.bds 0 [.sl tl (J.map Rpt.v)]=true:=bds_cons (bd_sl (f:=Rpt.v) htl (fun _=>rfl) _) rfl
  have hbs0:=bd_sl (f:=sV) (tl:=.no) rfl (fun _=>rfl) (scR J)
  have hbs:PV.bds 0 ((scR J).map sV)=true:=by simpa only [PV.bd,Bool.and_true] using hbs0
  have hbb:∀ v,PV.bds 0 [U v,.fp (.sl .no ((scR J).map sV)),.fp (I p)]=true:=fun v=>by
    simp only [PV.bds,PV.bd,hbs,Bool.and_self];rfl
  have hen:=f107 tl htl J hJ hok h3 (.fn (.func 111) [] [.fp (.sl .no ((scR J).map sV)),.fp (I p)]) rfl (balF p (scR J)) (fun v hv=>Asks.fn (f111 .no (scR J) (by omega) (sc_ok hok) p v hv) (hbb v))
  have hb2:PV.bds 0 [.sl tl (J.map Rpt.v),.fn (.func 111) [] [.fp (.sl .no ((scR J).map sV)),.fp (I p)]]=true:=by
    refine bds_cons (bd_sl (f:=Rpt.v) htl (fun _=>rfl) _) ?_
    simp only [PV.bds,PV.bd,hbs,Bool.and_self]
  refine PFun.of (C:=c78) (cx_ok _ _ _) rfl (fn:=Tryz.f78) (by kernel_rfl) (c:=_) rfl rfl rfl ?_
  refine Run.seq (Run.region (cx_ok _ _ _) (Reg.op rfl (Ope.boxF rfl rfl ?_)))
  refine Reg.op rfl (Ope.newL rfl ?_)
  refine Reg.nil (Run.seq (Run.region (cx_ok _ _ _) (Reg.op rfl (Ope.mov rfl ?_))))
  refine Reg.op rfl (Ope.cf rfl rfl hsc hb1 ?_)
  refine Reg.op rfl (Ope.newL rfl ?_)
  refine Reg.op0 (Ope.store rfl rfl hget_hd rfl rfl rfl ?_)
  refine Reg.nil (Run.seq (Run.frz (d:=5) false rfl hget_hd rfl ?_))
  refine Run.region (cx_ok _ _ _) (Reg.op rfl (Ope.mov rfl ?_))
  refine Reg.op rfl (Ope.mkf rfl rfl ?_)
  refine Reg.op rfl (Ope.cf rfl rfl hen hb2 ?_)
  refine Reg.op0 (Ope.store rfl rfl rfl rfl rfl rfl ?_)
  exact Reg.nil (Run.ret (fin_ret (.cell rfl rfl .nil) rfl rfl))
theorem f81 (tl:Tail) (htl:tl.isOwn=false) (J:List Rpt) (hJ:J.length≤100) (hok:∀ r∈J,r.ok=true) (h3:(flR J).length≤3) (p:Int):Fn P0 81 [.sl tl (J.map Rpt.v),I p] (B (decide ((enJ (balF p (scR J)) (voR (flR J) 0)).1=(enJ (balF p (scR J)) (voR (flR J) 0)).2))):=by
  have hba:=f78 tl htl J hJ hok h3 p
  have hb1:PV.bds 0 [.sl tl (J.map Rpt.v),I p]=true:=bds_cons (bd_sl (f:=Rpt.v) htl (fun _=>rfl) _) rfl
  refine PFun.of (C:=c81) (cx_ok _ _ _) rfl (fn:=Tryz.f81) (by kernel_rfl) (c:=_) rfl rfl rfl ?_
  refine Run.seq (Run.region (cx_ok _ _ _) (Reg.op rfl (Ope.asg rfl ?_)))
  refine Reg.nil (Run.seq (Run.region (cx_ok _ _ _) (Reg.op rfl (Ope.mov rfl ?_))))
  refine Reg.op rfl (Ope.mov rfl ?_)
  refine Reg.op rfl (Ope.cf rfl rfl hba hb1 ?_)
  refine Reg.op rfl (Ope.newL rfl ?_)
  refine Reg.op0 (Ope.store rfl rfl hget_hd rfl rfl rfl ?_)
  refine Reg.nil (Run.seq (Run.frz (d:=5) true rfl hget_hd rfl ?_))
  refine Run.region (cx_ok _ _ _) (Reg.op rfl (Ope.fld rfl rfl ?_))
  refine Reg.op rfl (Ope.load rfl rfl ?_)
  refine Reg.op rfl (Ope.fld rfl rfl ?_)
  refine Reg.op rfl (Ope.load rfl rfl ?_)
  refine Reg.op rfl (Ope.eq rfl rfl ?_)
  refine Reg.op rfl (Ope.asg rfl ?_)
  exact Reg.nil (Run.ret (fin_ret (.tmp rfl .nil) rfl rfl))
end Go.Pv
namespace Go.Pv
open Go.Proofs Go.Am
set_option maxRecDepth 10000
structure Jou (L:List Rpt):Prop where
  len:L.length≤12
  ok:∀ r∈L,r.ok=true
  fl:(flR (std L)).length≤3
  std:(std L).length≤12
  sok:∀ r∈Go.Pv.std L,r.ok=true
theorem jou_spec {L:List Rpt} (h:jouB L=true):Jou L:=by
  unfold jouB at h
  simp only [Bool.and_eq_true,decide_eq_true_eq] at h
  have hok:=List.all_eq_true.1 h.1.2
  exact ⟨h.1.1,hok,h.2,by rw [← stdM_len hok];exact Nat.le_trans (stdM_le L) h.1.1,std_ok hok⟩
def pairB (p:Int):Bool:=decide (0≤p) && decide (p≤3)
section
variable (tl:Tail) (htl:tl.isOwn=false) (L:List Rpt) (hL:L.length≤100)
include htl hL
theorem f77t (p:Int) (hv:jouB L=true) (hp:pairB p=true):Fn P0 77 [.sl tl (L.map Rpt.v),I p] (.sl .no ((std L).map Rpt.v)):=by
  have hj:=f61t tl htl L hL hv
  have hb1:PV.bds 0 [.sl tl (L.map Rpt.v)]=true:=bds_cons (bd_sl (f:=Rpt.v) htl (fun _=>rfl) L) rfl
  have hw:=f110 p 0 3
  rw [show (decide (0≤p) && decide (p≤3))=true from hp] at hw
  refine PFun.of (C:=c77) (cx_ok _ _ _) rfl (fn:=Tryz.f77) (by kernel_rfl) (c:=_) rfl rfl rfl ?_
  refine Run.seq (Run.region (cx_ok _ _ _) (Reg.op rfl (Ope.asg rfl ?_)))
  refine Reg.nil (Run.seq (Run.region (cx_ok _ _ _) (Reg.op rfl (Ope.mov rfl ?_))))
  refine Reg.op rfl (Ope.cf rfl rfl hj hb1 ?_)
  refine Reg.op rfl (Ope.asg rfl ?_)
  refine Reg.nil (Run.seq (Run.region (cx_ok _ _ _) (Reg.op rfl (Ope.mov rfl ?_))))
  refine Reg.op rfl (Ope.cf rfl rfl (hw) rfl ?_)
  refine Reg.op rfl (Ope.cf rfl rfl (f50t 2) rfl ?_)
  refine Reg.nil (Run.seq (Run.region (cx_ok _ _ _) (Reg.op rfl (Ope.mov rfl ?_))))
  refine Reg.op rfl (Ope.asg rfl ?_)
  exact Reg.nil (Run.ret (fin_ret (.tmp rfl .nil) (bd_sl (f:=Rpt.v) (tl:=.no) rfl (fun _=>rfl) _) rfl))
theorem f77f (p:Int) (hv:jouB L=false):Pan P0 77 [.sl tl (L.map Rpt.v),I p] (.ifc 25 (I 1)):=by
  have hj:=f61f tl htl L hL hv
  have hb1:PV.bds 0 [.sl tl (L.map Rpt.v)]=true:=bds_cons (bd_sl (f:=Rpt.v) htl (fun _=>rfl) L) rfl
  refine PFun.of (C:=c77) (cx_ok _ _ _) rfl (fn:=Tryz.f77) (by kernel_rfl) (c:=_) rfl rfl rfl ?_
  refine Run.seq (Run.region (cx_ok _ _ _) (Reg.op rfl (Ope.asg rfl ?_)))
  refine Reg.nil (Run.seq (Run.region (cx_ok _ _ _) (Reg.op rfl (Ope.mov rfl ?_))))
  refine Reg.op rfl (Ope.cp rfl rfl hj hb1 (fin_panic rfl rfl))
theorem f77r (p:Int) (hv:jouB L=true) (hp:pairB p=false):Pan P0 77 [.sl tl (L.map Rpt.v),I p] (.ifc 25 (I 2)):=by
  have hj:=f61t tl htl L hL hv
  have hb1:PV.bds 0 [.sl tl (L.map Rpt.v)]=true:=bds_cons (bd_sl (f:=Rpt.v) htl (fun _=>rfl) L) rfl
  have hw:=f110 p 0 3
  rw [show (decide (0≤p) && decide (p≤3))=false from hp] at hw
  refine PFun.of (C:=c77) (cx_ok _ _ _) rfl (fn:=Tryz.f77) (by kernel_rfl) (c:=_) rfl rfl rfl ?_
  refine Run.seq (Run.region (cx_ok _ _ _) (Reg.op rfl (Ope.asg rfl ?_)))
  refine Reg.nil (Run.seq (Run.region (cx_ok _ _ _) (Reg.op rfl (Ope.mov rfl ?_))))
  refine Reg.op rfl (Ope.cf rfl rfl hj hb1 ?_)
  refine Reg.op rfl (Ope.asg rfl ?_)
  refine Reg.nil (Run.seq (Run.region (cx_ok _ _ _) (Reg.op rfl (Ope.mov rfl ?_))))
  refine Reg.op rfl (Ope.cf rfl rfl (hw) rfl ?_)
  refine Reg.op rfl (Ope.cp rfl rfl (f50f 2) rfl (fin_panic rfl rfl))
def balR (L:List Rpt) (p:Int):Int×Int:=enJ (balF p (scR (std L))) (voR (flR (std L)) 0)
def errB (L:List Rpt) (p:Int):Int:=if jouB L=true then (if pairB p=true then 0 else 2) else 1
theorem f76t (p:Int) (hv:jouB L=true) (hp:pairB p=true):Fn P0 76 [.fp (.sl tl (L.map Rpt.v)),.fp (I p)] (eV (balR L p)):=by
  have hj:=f77t tl htl L hL p hv hp
  have hs:=jou_spec hv
  have hb1:PV.bds 0 [.sl tl (L.map Rpt.v),I p]=true:=bds_cons (bd_sl (f:=Rpt.v) htl (fun _=>rfl) L) rfl
  have hb2:PV.bds 0 [.sl .no ((std L).map Rpt.v),I p]=true:=bds_cons (bd_sl (f:=Rpt.v) (tl:=.no) rfl (fun _=>rfl) _) rfl
  have hba:=f78 .no rfl (std L) (by have:=hs.std;omega) hs.sok hs.fl p
  refine PFun.of (C:=c76) (cx_ok _ _ _) rfl (fn:=Tryz.f76) (by kernel_rfl) (c:=_) rfl rfl rfl ?_
  refine Run.seq (Run.region (cx_ok _ _ _) (Reg.op rfl (Ope.newL rfl ?_)))
  refine Reg.nil (Run.seq (Run.draw (cx_ok _ _ _) [(0,true),(1,true),(3,false),(2,true),(4,true),(5,true)] (by kernel_rfl) (Dra.op' rfl rfl rfl .sure (Ope.load rfl rfl ?_))))
  refine Dra.op' rfl rfl rfl .sure (Ope.load rfl rfl ?_)
  refine Dra.op' rfl rfl rfl (.load rfl) (Ope.load rfl rfl ?_)
  refine Dra.op' rfl rfl rfl .sure (Ope.cf rfl rfl hj hb1 ?_)
  refine Dra.op' rfl rfl rfl .sure (Ope.cf rfl rfl hba hb2 ?_)
  refine Dra.op' rfl rfl rfl .sure (Ope.store rfl rfl rfl rfl rfl rfl ?_)
  exact Dra.nil (Run.ret (fin_ret (.cell rfl rfl .nil) rfl rfl))
theorem f76f (p:Int) (e:Int) (hj:Pan P0 77 [.sl tl (L.map Rpt.v),I p] (.ifc 25 (I e))):Pan P0 76 [.fp (.sl tl (L.map Rpt.v)),.fp (I p)] (.ifc 25 (I e)):=by
  have hb1:PV.bds 0 [.sl tl (L.map Rpt.v),I p]=true:=bds_cons (bd_sl (f:=Rpt.v) htl (fun _=>rfl) L) rfl
  refine PFun.of (C:=c76) (cx_ok _ _ _) rfl (fn:=Tryz.f76) (by kernel_rfl) (c:=_) rfl rfl rfl ?_
  refine Run.seq (Run.region (cx_ok _ _ _) (Reg.op rfl (Ope.newL rfl ?_)))
  refine Reg.nil (Run.seq (Run.draw (cx_ok _ _ _) [(0,true),(1,true),(3,false),(2,true),(4,true),(5,true)] (by kernel_rfl) (Dra.op' rfl rfl rfl .sure (Ope.load rfl rfl ?_))))
  refine Dra.op' rfl rfl rfl .sure (Ope.load rfl rfl ?_)
  refine Dra.op' rfl rfl rfl (.load rfl) (Ope.load rfl rfl ?_)
  refine Dra.op' rfl rfl rfl .sure (Ope.cp rfl rfl hj hb1 (fin_panic rfl rfl))
theorem f25 (p : Int) : Fn P0 25 [.sl tl (L.map Rpt.v), I p] (.tup [if errB L p = 0 then eV (balR L p) else eV (0, 0), I (errB L p)]) := by
  have hb0:PV.bd 0 (.sl tl (L.map Rpt.v))=true:=bd_sl (f:=Rpt.v) htl (fun _=>rfl) L
  have hb:PV.bds 0 [.fp (.sl tl (L.map Rpt.v)),.fp (I p)]=true:=by
    have h:=hb0
    cases tl<;>first | (cases htl;done) | (simp only [PV.bds,PV.bd] at h ⊢;simp [h])
  have ha:Fn P0 75 [.fn (.func 76) [] [.fp (.sl tl (L.map Rpt.v)),.fp (I p)]] (.tup [if errB L p=0 then eV (balR L p) else eV (0,0),I (errB L p)]):=by
    unfold errB
    by_cases hv:jouB L=true
    · rw [if_pos hv]
      by_cases hp:pairB p=true
      · rw [if_pos hp, if_pos rfl]
        exact f75ok (f76t tl htl L hL p hv hp) hb
      · rw [if_neg hp, if_neg (by decide)]
        exact f75er (f76f tl htl L hL p 2 (f77r tl htl L hL p hv (by simpa using hp))) hb
    · rw [if_neg hv, if_neg (by decide)]
      exact f75er (f76f tl htl L hL p 1 (f77f tl htl L hL p (by simpa using hv))) hb
  have hbf:PV.bds 0 [.fn (.func 76) [] [.fp (.sl tl (L.map Rpt.v)),.fp (I p)]]=true:=bds_cons (by simp only [PV.bd,hb];rfl) rfl
  have he:∃ x y:Int,(if errB L p=0 then eV (balR L p) else eV (0,0))=.agg [I x,I y]:=by
    split
    · exact ⟨_,_,rfl⟩
    · exact ⟨0,0,rfl⟩
  generalize errB L p=e at *
  obtain ⟨x,y,hxy⟩:=he
  rw [hxy] at ha ⊢
  refine PFun.of (C:=c25) (cx_ok _ _ _) rfl (fn:=Tryz.f25) (by kernel_rfl) (c:=_) rfl rfl rfl ?_
  refine Run.seq (Run.region (cx_ok _ _ _) (Reg.op rfl (Ope.boxF rfl rfl ?_)))
  refine Reg.op rfl (Ope.boxF rfl rfl ?_)
  refine Reg.op rfl (Ope.newL rfl ?_)
  refine Reg.op rfl (Ope.asg rfl ?_)
  refine Reg.nil (Run.seq (Run.region (cx_ok _ _ _) (Reg.op rfl (Ope.mkf rfl rfl ?_))))
  refine Reg.op rfl (Ope.cf rfl rfl ha hbf ?_)
  refine Reg.op rfl (Ope.ext rfl rfl ?_)
  refine Reg.op rfl (Ope.ext rfl rfl ?_)
  refine Reg.op0 (Ope.store rfl rfl rfl rfl rfl rfl ?_)
  refine Reg.op rfl (Ope.asg rfl ?_)
  exact Reg.nil (Run.ret (fin_ret (.cell rfl rfl (.tmp rfl .nil)) rfl rfl))
end
end Go.Pv
namespace Go.Pv
open Go.Proofs Go.Am
set_option maxRecDepth 10000
def idxN (p:Rpt→Bool) (S:List Rpt):Int:=match S.findIdx? p with | some k=>(k:Int) | none=>-1
theorem idxN_at {p:Rpt→Bool} {S:List Rpt} {i:Nat} (hi:i < S.length) (h:p S[i]=true) (hall:∀ j (hj:j < i),p (S[j]'(by omega))=false):idxN p S=i:=by
  have:S.findIdx? p=some i:=by
    rw [List.findIdx?_eq_some_iff_getElem]
    exact ⟨hi,h,fun j hj=>by simpa using hall j hj⟩
  unfold idxN
  rw [this]
theorem idxN_none {p:Rpt→Bool} {S:List Rpt} (hall:∀ j (hj:j < S.length),p S[j]=false):idxN p S=-1:=by
  have:S.findIdx? p=none:=by
    rw [List.findIdx?_eq_none_iff]
    intro x hx
    obtain ⟨j,hj,rfl⟩:=List.getElem_of_mem hx
    exact hall j hj
  unfold idxN
  rw [this]
theorem idxN_cases (p:Rpt→Bool) (S:List Rpt):idxN p S=-1∨∃ k:Nat,idxN p S=k∧∃ h:k < S.length,p S[k]=true:=by
  unfold idxN
  cases hf:S.findIdx? p with
  | none=>exact .inl rfl
  | some k =>
    obtain ⟨h1,h2,_⟩:=List.findIdx?_eq_some_iff_getElem.1 hf
    exact .inr ⟨k,rfl,h1,h2⟩
theorem f71 (tl:Tail) (S:List Rpt) (hS:S.length≤1000) (g:Nat) (caps:List PV) (p:Rpt→Bool) (hg:∀ r∈S,Fn P0 g ([]++[sV r]++caps) (B (p r))) (hb:∀ r,PV.bds 0 ([]++[sV r]++caps)=true):Fn P0 71 [.sl tl (S.map sV),.fn (.func g) [] caps] (I (idxN p S)):=by
  refine PFun.of (C:=c71) (cx_ok _ _ _) rfl (fn:=Tryz.f71) (by kernel_rfl) (c:=_) rfl rfl rfl ?_
  refine Run.seq (Run.region (cx_ok _ _ _) (Reg.op rfl (Ope.asg rfl ?_)))
  refine Reg.nil (Run.seq (Run.seq (Run.region (cx_ok _ _ _) (Reg.op rfl (Ope.mov rfl ?_)))))
  refine Reg.op rfl (Ope.len (m:=S.length) rfl (by simp) ?_)
  refine Reg.op rfl (Ope.mov rfl ?_)
  refine Reg.nil (Run.block (Run.loop (α:=Nat) (fun i=>[(0,.sl tl (S.map sV)),(1,.fn (.func g) [] caps),(7,I S.length),(8,I i)]) (fun i=>HE 0 []) (fun i=>i≤S.length∧∀ j (hj:j < S.length),j < i→p S[j]=false) (fun i=>S.length - i) 0 ⟨rfl,rfl,rfl,rfl,trivial⟩ rfl ⟨Nat.zero_le _,fun j hj h=>by omega⟩ (fun i ht=>?_)))
  obtain ⟨hi,hall⟩:=ht
  refine Run.seq (Run.region (cx_ok _ _ _) (Reg.op rfl (Ope.lt rfl rfl ?_)))
  refine Reg.nil (Run.seq (Run.condX rfl (fun hc=>?_) fun hc=>?_))
  ·refine Run.skip (Run.seq (Run.block (Run.seq ?_)))
   have hlt:i < S.length:=by omega
   refine Run.region (cx_ok _ _ _) (Reg.op rfl (Ope.mov rfl ?_))
   refine Reg.op rfl (Ope.asg rfl ?_)
   refine Reg.nil (Run.seq (Run.region (cx_ok _ _ _) (Reg.op rfl (Ope.mov rfl ?_))))
   refine Reg.op rfl (Ope.mov rfl ?_)
   refine Reg.op rfl (Ope.mov rfl ?_)
   refine Reg.op rfl (Ope.idxM (m:=i) (f:=sV) rfl rfl rfl hlt (fun _=>rfl) ?_)
   refine Reg.op rfl (Ope.load rfl rfl ?_)
   refine Reg.op rfl (Ope.cf rfl rfl (hg _ (List.getElem_mem hlt)) (hb _) ?_)
   refine Reg.nil (Run.condX rfl (fun hc=>?_) fun hc=>?_)
   ·refine Run.seq (Run.region (cx_ok _ _ _) (Reg.op rfl (Ope.mov rfl ?_)))
    refine Reg.op rfl (Ope.asg rfl ?_)
    refine Reg.nil (Run.ret (Jmp.retB (Jmp.code (Jmp.round (Jmp.retB (Jmp.code (fin_ret (.tmp rfl .nil) rfl ?_)))))))
    first
    | exact congrArg I (idxN_at hlt (by simpa using hc) fun j hj=>hall j (by omega) hj).symm
    | exact congrArg I (idxN_none fun j hj=>hall j hj (by omega)).symm
   ·refine Run.skip (Run.bend (Run.region (cx_ok _ _ _) (Reg.op rfl (Ope.add rfl rfl (by omega) ?_))))
    refine Reg.op rfl (Ope.mov rfl ?_)
    refine Reg.nil ?_
    exact Run.lend ⟨i+1,by show S.length - (i+1) < S.length - i;omega,⟨by show i+1≤S.length;omega,fun j hj hji=>by
      by_cases h:j=i
      · subst h;simpa using hc
      · exact hall j hj (by have:j < i+1:=hji;omega)⟩,⟨rfl,rfl,rfl,rfl,trivial⟩,rfl,rfl⟩
  ·refine Run.exit (Jmp.code (Jmp.round (Jmp.here (Run.seq (Run.region (cx_ok _ _ _) (Reg.op rfl (Ope.asg rfl ?_)))))))
   refine Reg.nil (Run.ret (fin_ret (.tmp rfl .nil) rfl ?_))
   first
   | exact congrArg I (idxN_at hlt (by simpa using hc) fun j hj=>hall j (by omega) hj).symm
   | exact congrArg I (idxN_none fun j hj=>hall j hj (by omega)).symm
theorem f72 (r:Rpt) (id:Int):Fn P0 72 [sV r,.fp (I id)] (B (decide (r.id=id))):=by
  refine PFun.of (C:=c72) (cx_ok _ _ _) rfl (fn:=Tryz.f72) (by kernel_rfl) (c:=_) rfl rfl rfl ?_
  refine Run.seq (Run.region (cx_ok _ _ _) (Reg.op rfl (Ope.asg rfl ?_)))
  refine Reg.nil (Run.seq (Run.draw (cx_ok _ _ _) [(0,true),(2,false),(1,true),(3,true),(4,true)] (by kernel_rfl) (Dra.op' rfl rfl rfl .sure (Ope.mov rfl ?_))))
  refine Dra.op' rfl rfl rfl (.load rfl) (Ope.load rfl rfl ?_)
  refine Dra.op' rfl rfl rfl .sure (Ope.imV rfl rfl (mthI r) (f172 r) rfl ?_)
  refine Dra.op' rfl rfl rfl .sure (Ope.eq rfl rfl ?_)
  refine Dra.op' rfl rfl rfl .sure (Ope.asg rfl ?_)
  exact Dra.nil (Run.ret (fin_ret (.tmp rfl .nil) rfl rfl))
section
variable (tl:Tail) (htl:tl.isOwn=false) (L:List Rpt) (hL:L.length≤100)
include htl hL
def cIdx (L:List Rpt) (id:Int):Int:=idxN (fun r=>decide (r.id=id)) (scR (std L))
def cntR (L:List Rpt) (id:Int):Int:=cntV (enJ (tim (atR (scR (std L)) (cIdx L id).toNat)) (voR (flR (std L)) 0))
def errC (L:List Rpt) (id:Int):Int:=if jouB L=true then (if 0≤cIdx L id then 0 else 4) else 1
theorem f69t (id:Int) (hv:jouB L=true) (hp:0≤cIdx L id):Fn P0 69 [.fp (.sl tl (L.map Rpt.v)),.fp (I id)] (I (cntR L id)):=by
  have hj:=f61t tl htl L hL hv
  have hs:=jou_spec hv
  have hstd:=hs.std
  have hb1:PV.bds 0 [.sl tl (L.map Rpt.v)]=true:=bds_cons (bd_sl (f:=Rpt.v) htl (fun _=>rfl) L) rfl
  have hb2:PV.bds 0 [.sl .no ((std L).map Rpt.v)]=true:=bds_cons (bd_sl (f:=Rpt.v) (tl:=.no) rfl (fun _=>rfl) _) rfl
  have hsc:=f70 .no (std L) (by omega) hs.sok
  have hsl:=scR_len (std L)
  have hix:=f71 .no (scR (std L)) (by omega) 72 [.fp (I id)] (fun r=>decide (r.id=id)) (fun r _=>f72 r id) (fun r=>rfl)
  have hbx:PV.bds 0 [.sl .no ((scR (std L)).map sV),.fn (.func 72) [] [.fp (I id)]]=true:=bds_cons (bd_sl (f:=sV) (tl:=.no) rfl (fun _=>rfl) _) rfl
  obtain ⟨k,hk,hkl,_⟩:∃ k:Nat,cIdx L id=k∧∃ h:k < (scR (std L)).length,True:=by
    rcases idxN_cases (fun r=>decide (r.id=id)) (scR (std L)) with h | ⟨k,h1,h2,_⟩
    · have : cIdx L id = -1 := h
      omega
    · exact ⟨k,h1,h2,trivial⟩
  have hix':Fn P0 71 [.sl .no ((scR (std L)).map sV),.fn (.func 72) [] [.fp (I id)]] (I (k:Int)):=by
    have h:idxN (fun r=>decide (r.id=id)) (scR (std L))=k:=hk
    rw [h] at hix;exact hix
  have hro:=(sc_ok hs.sok _ (List.getElem_mem hkl)).2
  have hcn:=f73 .no rfl (std L) (by omega) hs.sok hs.fl (scR (std L))[k] hro
  have hb3:PV.bds 0 [.sl .no ((std L).map Rpt.v),sV (scR (std L))[k]]=true:=bds_cons (bd_sl (f:=Rpt.v) (tl:=.no) rfl (fun _=>rfl) _) rfl
  have hres:cntR L id=cntV (enJ (tim (scR (std L))[k]) (voR (flR (std L)) 0)):=by
    unfold cntR
    rw [hk,Int.toNat_natCast,atR_get hkl]
  rw [hres]
  have hge:decide ((k:Int) ≥ 0)=true:=decide_eq_true (by omega)
  refine PFun.of (C:=c69) (cx_ok _ _ _) rfl (fn:=Tryz.f69) (by kernel_rfl) (c:=_) rfl rfl rfl ?_
  refine Run.seq (Run.region (cx_ok _ _ _) (Reg.op rfl (Ope.asg rfl ?_)))
  refine Reg.nil (Run.seq (Run.region (cx_ok _ _ _) (Reg.op rfl (Ope.load rfl rfl ?_))))
  refine Reg.op rfl (Ope.cf rfl rfl hj hb1 ?_)
  refine Reg.op rfl (Ope.asg rfl ?_)
  refine Reg.nil (Run.seq (Run.region (cx_ok _ _ _) (Reg.op rfl (Ope.mov rfl ?_))))
  refine Reg.op rfl (Ope.cf rfl rfl hsc hb2 ?_)
  refine Reg.op rfl (Ope.asg rfl ?_)
  refine Reg.nil (Run.seq (Run.region (cx_ok _ _ _) (Reg.op rfl (Ope.mov rfl ?_))))
  refine Reg.op rfl (Ope.mkf rfl rfl ?_)
  refine Reg.op rfl (Ope.cf rfl rfl hix' hbx ?_)
  refine Reg.op rfl (Ope.asg rfl ?_)
  refine Reg.nil (Run.seq (Run.region (cx_ok _ _ _) (Reg.op rfl (Ope.mov rfl ?_))))
  refine Reg.op rfl (Ope.ge rfl rfl ?_)
  rw [hge]
  refine Reg.op rfl (Ope.cf rfl rfl (f50t 4) rfl ?_)
  refine Reg.nil (Run.seq (Run.region (cx_ok _ _ _) (Reg.op rfl (Ope.mov rfl ?_))))
  refine Reg.op rfl (Ope.mov rfl ?_)
  refine Reg.op rfl (Ope.mov rfl ?_)
  refine Reg.op rfl (Ope.idxM (m:=k) (f:=sV) rfl rfl rfl hkl (fun _=>rfl) ?_)
  refine Reg.op rfl (Ope.load rfl rfl ?_)
  refine Reg.op rfl (Ope.cf rfl rfl hcn hb3 ?_)
  refine Reg.op rfl (Ope.asg rfl ?_)
  exact Reg.nil (Run.ret (fin_ret (.tmp rfl .nil) rfl rfl))
theorem f69f (id:Int) (hv:jouB L=false):Pan P0 69 [.fp (.sl tl (L.map Rpt.v)),.fp (I id)] (.ifc 25 (I 1)):=by
  have hj:=f61f tl htl L hL hv
  have hb1:PV.bds 0 [.sl tl (L.map Rpt.v)]=true:=bds_cons (bd_sl (f:=Rpt.v) htl (fun _=>rfl) L) rfl
  refine PFun.of (C:=c69) (cx_ok _ _ _) rfl (fn:=Tryz.f69) (by kernel_rfl) (c:=_) rfl rfl rfl ?_
  refine Run.seq (Run.region (cx_ok _ _ _) (Reg.op rfl (Ope.asg rfl ?_)))
  refine Reg.nil (Run.seq (Run.region (cx_ok _ _ _) (Reg.op rfl (Ope.load rfl rfl ?_))))
  refine Reg.op rfl (Ope.cp rfl rfl hj hb1 (fin_panic rfl rfl))
theorem f69n (id:Int) (hv:jouB L=true) (hp:¬ 0≤cIdx L id):Pan P0 69 [.fp (.sl tl (L.map Rpt.v)),.fp (I id)] (.ifc 25 (I 4)):=by
  have hj:=f61t tl htl L hL hv
  have hs:=jou_spec hv
  have hstd:=hs.std
  have hb1:PV.bds 0 [.sl tl (L.map Rpt.v)]=true:=bds_cons (bd_sl (f:=Rpt.v) htl (fun _=>rfl) L) rfl
  have hb2:PV.bds 0 [.sl .no ((std L).map Rpt.v)]=true:=bds_cons (bd_sl (f:=Rpt.v) (tl:=.no) rfl (fun _=>rfl) _) rfl
  have hsc:=f70 .no (std L) (by omega) hs.sok
  have hsl:=scR_len (std L)
  have hix:=f71 .no (scR (std L)) (by omega) 72 [.fp (I id)] (fun r=>decide (r.id=id)) (fun r _=>f72 r id) (fun r=>rfl)
  have hbx:PV.bds 0 [.sl .no ((scR (std L)).map sV),.fn (.func 72) [] [.fp (I id)]]=true:=bds_cons (bd_sl (f:=sV) (tl:=.no) rfl (fun _=>rfl) _) rfl
  have hge:decide (idxN (fun r=>decide (r.id=id)) (scR (std L)) ≥ 0)=false:=decide_eq_false hp
  refine PFun.of (C:=c69) (cx_ok _ _ _) rfl (fn:=Tryz.f69) (by kernel_rfl) (c:=_) rfl rfl rfl ?_
  refine Run.seq (Run.region (cx_ok _ _ _) (Reg.op rfl (Ope.asg rfl ?_)))
  refine Reg.nil (Run.seq (Run.region (cx_ok _ _ _) (Reg.op rfl (Ope.load rfl rfl ?_))))
  refine Reg.op rfl (Ope.cf rfl rfl hj hb1 ?_)
  refine Reg.op rfl (Ope.asg rfl ?_)
  refine Reg.nil (Run.seq (Run.region (cx_ok _ _ _) (Reg.op rfl (Ope.mov rfl ?_))))
  refine Reg.op rfl (Ope.cf rfl rfl hsc hb2 ?_)
  refine Reg.op rfl (Ope.asg rfl ?_)
  refine Reg.nil (Run.seq (Run.region (cx_ok _ _ _) (Reg.op rfl (Ope.mov rfl ?_))))
  refine Reg.op rfl (Ope.mkf rfl rfl ?_)
  refine Reg.op rfl (Ope.cf rfl rfl hix hbx ?_)
  refine Reg.op rfl (Ope.asg rfl ?_)
  refine Reg.nil (Run.seq (Run.region (cx_ok _ _ _) (Reg.op rfl (Ope.mov rfl ?_))))
  refine Reg.op rfl (Ope.ge rfl rfl ?_)
  rw [hge]
  refine Reg.op rfl (Ope.cp rfl rfl (f50f 4) rfl (fin_panic rfl rfl))
theorem f23 (id : Int) : Fn P0 23 [.sl tl (L.map Rpt.v), I id] (.tup [I (if errC L id = 0 then cntR L id else 0), I (errC L id)]) := by
  have hb0:PV.bd 0 (.sl tl (L.map Rpt.v))=true:=bd_sl (f:=Rpt.v) htl (fun _=>rfl) L
  have hb:PV.bds 0 [.fp (.sl tl (L.map Rpt.v)),.fp (I id)]=true:=by
    have h:=hb0
    cases tl<;>first | (cases htl;done) | (simp only [PV.bds,PV.bd] at h ⊢;simp [h])
  have ha:Fn P0 68 [.fn (.func 69) [] [.fp (.sl tl (L.map Rpt.v)),.fp (I id)]] (.tup [I (if errC L id=0 then cntR L id else 0),I (errC L id)]):=by
    unfold errC
    by_cases hv:jouB L=true
    · rw [if_pos hv]
      by_cases hp:0≤cIdx L id
      · rw [if_pos hp, if_pos rfl]
        exact f68ok (f69t tl htl L hL id hv hp) hb
      · rw [if_neg hp, if_neg (by decide)]
        exact f68er (f69n tl htl L hL id hv hp) hb
    · rw [if_neg hv, if_neg (by decide)]
      exact f68er (f69f tl htl L hL id (by simpa using hv)) hb
  have hbf:PV.bds 0 [.fn (.func 69) [] [.fp (.sl tl (L.map Rpt.v)),.fp (I id)]]=true:=bds_cons (by simp only [PV.bd,hb];rfl) rfl
  refine PFun.of (C:=c23) (cx_ok _ _ _) rfl (fn:=Tryz.f23) (by kernel_rfl) (c:=_) rfl rfl rfl ?_
  refine Run.seq (Run.region (cx_ok _ _ _) (Reg.op rfl (Ope.boxF rfl rfl ?_)))
  refine Reg.op rfl (Ope.boxF rfl rfl ?_)
  refine Reg.op rfl (Ope.asg rfl ?_)
  refine Reg.op rfl (Ope.asg rfl ?_)
  refine Reg.nil (Run.seq (Run.region (cx_ok _ _ _) (Reg.op rfl (Ope.mkf rfl rfl ?_))))
  refine Reg.op rfl (Ope.cf rfl rfl ha hbf ?_)
  refine Reg.op rfl (Ope.ext rfl rfl ?_)
  refine Reg.op rfl (Ope.ext rfl rfl ?_)
  refine Reg.op rfl (Ope.asg rfl ?_)
  refine Reg.op rfl (Ope.asg rfl ?_)
  exact Reg.nil (Run.ret (fin_ret (.tmp rfl (.tmp rfl .nil)) rfl rfl))
end
end Go.Pv
