/- Parts of the proof: E19, E20, Pv73, E21, E22, E23 -/
import Derived.Test.YtfpihegkllffbaaGreatP19
import Derived.Test.YtfpihegkllffbaaGreatP13
set_option linter.unusedVariables false
set_option linter.unusedSimpArgs false
set_option linter.unusedSectionVars false
namespace Go.Pv
open Go.Proofs Go.Am
set_option maxRecDepth 10000
instance:Mka A0 107:=⟨by kernel_rfl⟩
section
variable (D:List Deed) (hD:D.length≤100)
include hD
theorem f118 (hl:D.length≤12) (hn:(D.map Deed.nu).Nodup) (j c m:Nat) (ez:Option Nat) (post:List PV) (k:Int) :
    PCall P0 118 [.ms j 0 D.length c ez,I 0,I D.length,I k,cmpV] (HE m [(j,some (.cells (flat (D.map Deed.v)++post)))]) (fun v h'=>∃ m',m≤m'∧v=.tup []∧h'=HE m' [(j,some (.cells (flat ((srtD D).map Deed.v)++post)))]) fun _ _=>False:=by
  have hins:=f120 D hD hn j c m ez post
  refine PCall.ofH (C:=c118) (cx_ok _ _ _) rfl (fn:=Tryz.f118) (by kernel_rfl) (c:=_) rfl rfl rfl (fun hok=>?_)
  refine rS (rN (cx_ok _ _ _) (rO rfl (oA rfl ?_)))
  refine rI (rS (rN (cx_ok _ _ _) (rO rfl (oA rfl ?_))))
  refine rI (Run.block (Run.loop (α:=Nat) (fun _=>[(0,.ms j 0 D.length c ez),(1,I 0),(2,I D.length),(4,cmpV)]) (fun _=>HE m [(j,some (.cells (flat (D.map Deed.v)++post)))]) (fun _=>True) (fun _=>0) 0 ⟨rfl,rfl,rfl,rfl,trivial⟩ rfl trivial (fun i hi=>?_)))
  refine Run.block (rS (rN (cx_ok _ _ _) (rO rfl (oM rfl ?_))))
  refine rO rfl (oM rfl ?_)
  refine rO rfl (Ope.sub rfl rfl (by omega) ?_)
  refine rO rfl (oA rfl ?_)
  refine rI (rS (rS (rN (cx_ok _ _ _) (rO rfl (oM rfl ?_)))))
  refine rO rfl (Ope.le rfl rfl ?_)
  refine rI (rC rfl (fun hc=>?_) fun hc=>?_)
  ·refine rS (rN (cx_ok _ _ _) (rO rfl (oM rfl ?_)))
   refine rO rfl (oM rfl ?_)
   refine rO rfl (oM rfl ?_)
   refine rO rfl (oM rfl ?_)
   refine rO rfl (Ope.call rfl rfl rfl (hins.mono (fun v h' q=>?_) fun _ _ q=>q.elim))
   obtain ⟨m',hm',rfl,rfl⟩:=q
   exact rI (Run.ret (Jmp.code (Jmp.retB (Jmp.round (Jmp.retB (finH_ret .nil (Nat.le_refl _) (fun _ _ h=>h) ⟨m',hm',rfl,rfl⟩))))))
  ·(exfalso;omega)
theorem f109 (hl:D.length≤12) (hn:(D.map Deed.nu).Nodup) (j c m:Nat) (ez:Option Nat) (post:List PV) :
    PCall P0 109 [.ms j 0 D.length c ez,cmpV] (HE m [(j,some (.cells (flat (D.map Deed.v)++post)))]) (fun v h'=>∃ m',m≤m'∧v=.tup []∧h'=HE m' [(j,some (.cells (flat ((srtD D).map Deed.v)++post)))]) fun _ _=>False:=by
  have hlen:=f119 D.length hD
  have hp:=fun k=>f118 D hD hl hn j c m ez post k
  refine PCall.ofH (C:=c109) (cx_ok _ _ _) rfl (fn:=Tryz.f109) (by kernel_rfl) (c:=_) rfl rfl rfl (fun hok=>?_)
  refine rS (rN (cx_ok _ _ _) (rO rfl (oM rfl ?_)))
  refine rO rfl (Ope.lenL rfl ?_)
  refine rO rfl (oA rfl ?_)
  refine rI (rN (cx_ok _ _ _) (rO rfl (oM rfl ?_)))
  refine rO rfl (oM rfl ?_)
  refine rO rfl (oM rfl ?_)
  refine rO rfl (Ope.convN (p:=D.length) rfl rfl (by show D.length < 2 ^ 63;omega) ?_)
  refine rO rfl (Ope.call rfl rfl rfl (hlen.call rfl (fun v hv=>?_) fun v hv=>hv.elim))
  obtain ⟨k,rfl⟩:=hv
  refine rO rfl (oM rfl ?_)
  refine rO rfl (Ope.call rfl rfl rfl ((hp k).mono (fun v h' q=>?_) fun _ _ q=>q.elim))
  obtain ⟨m',hm',rfl,rfl⟩:=q
  exact rI (finH_end .nil (Nat.le_refl _) (fun _ _ h=>h) ⟨m',hm',rfl,rfl⟩)
theorem f110 (tl:Tail):Yields P0 110 [] [.fp (.sl tl (D.map Deed.v))] (D.map Deed.v):=by
  intro j n l R hjn hfe0
  show PCall P0 110 [.yld j,.fp (.sl tl (D.map Deed.v))] (HE n l) R _
  refine PCall.ofH (C:=c110) (cx_ok _ _ _) rfl (fn:=Tryz.f110) (by kernel_rfl) (c:=_) rfl rfl rfl (fun hok=>?_)
  refine rS (rN (cx_ok _ _ _) (rO rfl (oL rfl rfl ?_)))
  refine rO rfl (Ope.len (m:=D.length) rfl (by simp) ?_)
  refine rO rfl (oM rfl ?_)
  refine rI (Run.block (Run.loop (α:=Nat×HL×Nat) (fun t=>[(0,.yld j),(5,.sl tl (D.map Deed.v)),(6,I D.length),(7,I t.1)]) (fun t=>HE t.2.2 t.2.1) (fun t=>t.1≤D.length∧(∀ i,t.2.2≤i→hget t.2.1 i=none)∧Feed P0 (.yld j) R ((D.map Deed.v).drop t.1) t.2.2 t.2.1) (fun t=>D.length - t.1) (0,l,n) ⟨rfl,rfl,rfl,rfl,trivial⟩ rfl ⟨Nat.zero_le _,fun i hi=>ok_none hok hi,hfe0⟩ (fun t ht=>?_)))
  obtain ⟨i,l2,m⟩:=t
  obtain ⟨hi,hln,hfe⟩:=ht
  simp only at hi hln hfe
  show Run _ _ _ _ [(0,.yld j),(5,.sl tl (D.map Deed.v)),(6,I D.length),(7,I i)] [] (HE m l2)
  refine rS (rN (cx_ok _ _ _) (rO rfl (Ope.lt rfl rfl ?_)))
  refine rI (rS (rC rfl (fun hc=>?_) fun hc=>?_))
  ·refine Run.skip (rS (Run.block (rS ?_)))
   have hlt:i < D.length:=by omega
   have hdr:(D.map Deed.v).drop i=D[i].v::(D.map Deed.v).drop (i+1):=by rw [List.drop_eq_getElem_cons (by simpa using hlt),List.getElem_map]
   rw [hdr] at hfe
   refine rN (cx_ok _ _ _) (rO rfl (Ope.idxM (m:=i) (f:=Deed.v) rfl rfl rfl hlt (fun _=>rfl) ?_))
   refine rO rfl (oL rfl rfl ?_)
   refine rO rfl (Ope.newL rfl ?_)
   refine Reg.op0 (Ope.store rfl rfl hget_hd rfl rfl rfl ?_)
   refine rI (rS (Run.frz (d:=4) true rfl hget_hd rfl ?_))
   refine Run.wideS (m:=m+1) (l':=[]++l2) (Nat.le_refl _) (hs_skip (hs_skip (hs_skip hs_refl (hln m (Nat.le_refl _))) (hln m (Nat.le_refl _))) (hln m (Nat.le_refl _))) ?_
   refine rN (cx_ok _ _ _) (rO rfl (oM rfl ?_))
   refine rO rfl (oL rfl rfl ?_)
   refine rO rfl (Ope.yld (own:=[]) (l:=l2) (j:=j) (v:=D[i].v) rfl rfl ⟨fun i h=>(by cases h),fun i h=>(by cases h)⟩ (hfe.mono (Nat.le_succ _)) (fun m3 l3 hm3 hok3 hno3 hfe3=>?_) (fun m3 l3 hm3 hok3 hno3 hR=>?_))
   ·refine rO rfl (Ope.not rfl ?_)
    refine rI (rC rfl (fun hc=>?_) fun hc=>?_)
    ·first
     |(cases hc;done)
     |refine Run.ret (Jmp.retB (Jmp.code (Jmp.round (Jmp.retB ?_))))
      first
      | exact finH_ret .nil (Nat.le_refl _) (fun _ _ h=>h) (hR m3 (Nat.le_refl _) _)
      | (obtain rfl : i = D.length := by omega
         rw [List.drop_of_length_le (by simp)] at hfe
         exact finH_end .nil (Nat.le_refl _) (fun _ _ h=>h) (hfe m (Nat.le_refl _) _))
    ·first
     |(cases hc;done)
     |refine Run.skip (Run.bend (rN (cx_ok _ _ _) (rO rfl (Ope.add rfl rfl (by omega) ?_))))
      refine rO rfl (oM rfl ?_)
      exact rI (Run.lend ⟨(i+1,l3,m3),by show D.length - (i+1) < D.length - i;omega,⟨by show i+1≤D.length;omega,fun i hi=>ok_none hok3 hi,hfe3⟩,⟨rfl,rfl,rfl,rfl,trivial⟩,rfl,rfl⟩)
   ·refine rO rfl (Ope.not rfl ?_)
    refine rI (rC rfl (fun hc=>?_) fun hc=>?_)
    ·first
     |(cases hc;done)
     |refine Run.ret (Jmp.retB (Jmp.code (Jmp.round (Jmp.retB ?_))))
      first
      | exact finH_ret .nil (Nat.le_refl _) (fun _ _ h=>h) (hR m3 (Nat.le_refl _) _)
      | (obtain rfl : i = D.length := by omega
         rw [List.drop_of_length_le (by simp)] at hfe
         exact finH_end .nil (Nat.le_refl _) (fun _ _ h=>h) (hfe m (Nat.le_refl _) _))
    ·first
     |(cases hc;done)
     |refine Run.skip (Run.bend (rN (cx_ok _ _ _) (rO rfl (Ope.add rfl rfl (by omega) ?_))))
      refine rO rfl (oM rfl ?_)
      exact rI (Run.lend ⟨(i+1,l3,m3),by show D.length - (i+1) < D.length - i;omega,⟨by show i+1≤D.length;omega,fun i hi=>ok_none hok3 hi,hfe3⟩,⟨rfl,rfl,rfl,rfl,trivial⟩,rfl,rfl⟩)
  ·refine Run.exit (Jmp.code (Jmp.round (Jmp.here ?_)))
   first
   | exact finH_ret .nil (Nat.le_refl _) (fun _ _ h=>h) (hR m3 (Nat.le_refl _) _)
   | (obtain rfl : i = D.length := by omega
      rw [List.drop_of_length_le (by simp)] at hfe
      exact finH_end .nil (Nat.le_refl _) (fun _ _ h=>h) (hfe m (Nat.le_refl _) _))
omit hD in
theorem f90 (tl:Tail) (htl:tl.isOwn=false):Fn P0 90 [.sl tl (D.map Deed.v)] (.fn (.func 110) [] [.fp (.sl tl (D.map Deed.v))]):=by
  have hb:PV.bd 0 (.fn (.func 110) [] [.fp (.sl tl (D.map Deed.v))])=true:=by
    have:=bd_sl (f:=Deed.v) htl (fun _=>rfl) D
    simp only [PV.bd,PV.bds]
    rw [show PV.bd 0 (.sl tl (D.map Deed.v))=true from this];rfl
  refine PFun.of (C:=c90) (cx_ok _ _ _) rfl (fn:=Tryz.f90) (by kernel_rfl) (c:=_) rfl rfl rfl ?_
  refine rS (rN (cx_ok _ _ _) (rO rfl (Ope.boxF rfl rfl ?_)))
  refine rO rfl (oA rfl ?_)
  refine rI (rS (rN (cx_ok _ _ _) (rO rfl (Ope.mkf rfl rfl ?_))))
  refine rO rfl (oA rfl ?_)
  exact rI (Run.ret (fin_ret (.tmp rfl .nil) hb rfl))
def lsD (L:List Deed):Option (Nat×Nat×Option Nat×List PV)→PV
  | none=>.sl .ex []
  | some (j,c,ez,_)=>.ms (j+3) 0 L.length c ez
def lhD (L:List Deed):Option (Nat×Nat×Option Nat×List PV)→HL
  | none=>[]
  | some (j,_,_,post)=>[(j+3,some (.cells (flat (L.map Deed.v)++post)))]
def LOk (L:List Deed) (m:Nat):Option (Nat×Nat×Option Nat×List PV)→Prop
  | none=>L=[]
  | some (j,c,_,post)=>L≠[]∧j+3 < m∧L.length≤c∧post.length=(c - L.length) * 4
def EndC (L:List Deed) (v:PV) (h':PH):Prop:=∃ m st,LOk L m st∧v=lsD L st∧h'=HE m (lhD L st)
theorem f117 (tl:Tail):PCall P0 117 [.sl .ex [],.fn (.func 110) [] [.fp (.sl tl (D.map Deed.v))]] (HE 0 []) (EndC D) fun _ _=>False:=by
  have hy:=f110 D hD tl
  have htk:∀ i (h:i < D.length),(D.take (i+1)).map Deed.v=(D.take i).map Deed.v++[D[i].v]:=fun i h=>by rw [List.take_succ_eq_append_getElem h,List.map_append];rfl
  have htl:∀ i,i≤D.length→(D.take i).length=i:=fun i h=>by rw [List.length_take];omega
  refine PCall.ofH (C:=c117) (cx_ok _ _ _) rfl (fn:=Tryz.f117) (by kernel_rfl) (c:=_) rfl rfl rfl (fun hok=>?_)
  refine rS (rN (cx_ok _ _ _) (rO rfl (Ope.boxL rfl rfl ?_)))
  refine rO rfl (oA rfl ?_)
  refine rI (rS (rS (rN (cx_ok _ _ _) (rO rfl (oM rfl ?_)))))
  refine rI (Run.block ?_)
  refine Run.rangeF (cx_ok _ _ _) rfl (α:=Nat×Option (Nat×Nat×Option Nat×List PV)×Nat) (fun a=>(0,some (.cells [lsD (D.take a.1) a.2.1]))::lhD (D.take a.1) a.2.1) (fun a=>a.2.2) (fun i a=>a.1=i∧i≤D.length∧LOk (D.take i) a.2.2 a.2.1∧3≤a.2.2) rfl hy rfl rfl ⟨Tryz.f117,by kernel_rfl⟩ (0,none,3) ⟨rfl,Nat.zero_le _,rfl,Nat.le_refl _⟩ ⟨rfl,trivial⟩ (fun a p hp=>by
    obtain ⟨i,st,m⟩:=a
    rcases List.mem_cons.1 hp with rfl | hp
    · show (0:Nat)≠2;decide
    · cases st with
      | none=>cases hp
      | some q=>rw [List.mem_singleton.1 hp];show q.1+3≠2;omega) (by simp [lhD]) (Nat.le_refl _) (fun i a v hv hI m hm1 hm2 lb=>?_) (fun a hI m hm1 hm2=>?_)
  ·obtain ⟨i',st,mm⟩:=a
   obtain ⟨hii,hi,hL,h3⟩:=hI
   simp only at hii hL h3 hm1
   subst hii
   have hlt:i' < D.length:=by have:=(List.getElem?_eq_some_iff.1 hv).1;simpa using this
   have hv':v=D[i'].v:=by rw [List.getElem?_map,List.getElem?_eq_getElem hlt] at hv;cases hv;rfl
   subst hv'
   have htk':=htk i' hlt
   have htl':=htl i' hi
   have htl1:=htl (i'+1) hlt
   have hfin:∀ (j' n' c':Nat) (post':List PV) (ez':Option Nat),3≤j'→j' < n'→(D.take i').length+1≤c'→post'.length=(c' - ((D.take i').length+1)) * 4→∃ st',LOk (D.take (i'+1)) n' st'∧lsD (D.take (i'+1)) st'=.ms j' 0 ((D.take i').length+1) c' ez'∧lhD (D.take (i'+1)) st'=[(j',some (.cells (flat ((D.take i').map Deed.v++[D[i'].v])++post')))]:=fun j' n' c' post' ez' a1 a2 a3 a4=>by
     have e1:j' - 3+3=j':=by omega
     refine ⟨some (j' - 3,c',ez',post'),⟨fun h=>?_,by rw [e1];exact a2,by rw [htl1];rw [htl'] at a3;exact a3,by rw [htl1];rw [htl'] at a4;exact a4⟩,?_,?_⟩
     · have := congrArg List.length h
       rw [htl1] at this;simp at this
     · show PV.ms (j' - 3 + 3) 0 (D.take (i' + 1)).length c' ez' = _
       rw [e1,htl1,htl']
     · show [(j' - 3 + 3, some (PBlk.cells (flat ((D.take (i' + 1)).map Deed.v) ++ post')))] = _
       rw [e1,htk']
   have hvv:Deed.v D[i']=.agg [I D[i'].kd,I D[i'].nu,I D[i'].ri,I D[i'].ho]:=rfl
   rcases st with _ | ⟨j,c,ez,post⟩
   ·refine rN (Cx.Ok.rnd (cx_ok _ _ _)) (rO rfl (Ope.newL rfl ?_))
    refine Reg.op0 (Ope.store rfl rfl hget_hd rfl rfl rfl ?_)
    refine rI (Run.done ⟨rfl,rfl,_,_,rfl,(hget_tl (by omega)).trans ((hget_tl (by omega)).trans hget_hd),fun lb2=>?_⟩)
    refine Run.block (Run.frz (d:=5) true rfl ((hget_tl (by omega)).trans hget_hd) rfl ?_)
    first
    | (have hL0 : D.take i' = [] := hL
       refine Run.wide (m:=m+1) (l':=[(0,some (.cells [.sl .ex []])),(2,some lb2),(1,some .dfr)]) (Nat.le_refl _) ⟨by repeat (first | rfl | exact hget_hd | refine (hget_tl (by omega)).trans ?_),by repeat (first | rfl | exact hget_hd | refine (hget_tl (by omega)).trans ?_),by repeat (first | rfl | exact hget_hd | refine (hget_tl (by omega)).trans ?_),trivial⟩ ?_)
    | (obtain ⟨hL1, hL2, hL3, hL4⟩ := hL
       refine Run.wide (m:=m+1) (l':=[(0,some (.cells [.ms (j+3) 0 (D.take i').length c ez])),(j+3,some (.cells (flat ((D.take i').map Deed.v)++post))),(2,some lb2),(1,some .dfr)]) (Nat.le_refl _) ⟨by repeat (first | rfl | exact hget_hd | refine (hget_tl (by omega)).trans ?_),by repeat (first | rfl | exact hget_hd | refine (hget_tl (by omega)).trans ?_),by repeat (first | rfl | exact hget_hd | refine (hget_tl (by omega)).trans ?_),by repeat (first | rfl | exact hget_hd | refine (hget_tl (by omega)).trans ?_),trivial⟩ ?_)
    refine Run.regionL (Cx.Ok.rnd (cx_ok _ _ _)) (RegL.op rfl (oL rfl rfl ?_))
    refine RegL.op rfl (oL rfl rfl ?_)
    refine RegL.op rfl (Ope.bsl rfl rfl rfl rfl ?_)
    first
    | refine RegL.op rfl (Ope.apLb (ws:=[D[i'].v]) rfl rfl (by simp) (by simp) (by simp) (by decide) (by simp) (by intro v hv;simp only [List.mem_singleton] at hv;subst hv;exact ⟨rfl,rfl⟩) (fun c' post' ez' hc' hp'=>?_))
    | refine RegL.apB (vs:=(D.take i').map Deed.v) (ws:=[D[i'].v]) (post:=post) rfl rfl rfl ((hget_tl (by omega)).trans hget_hd) (by rw [List.length_map]) hL3 hL4 (by simp only [List.length_map,htl',List.length_singleton];omega) (by simp only [List.length_map,htl',List.length_singleton];omega) (by intro v hv;obtain ⟨_,_,rfl⟩:=List.mem_map.1 hv;rfl) (by intro v hv;simp only [List.mem_singleton] at hv;subst hv;exact ⟨rfl,rfl⟩) (fun j' n' c' post' ez' hj' hc' hp'=>?_)
    refine RegL.op0 (Ope.store rfl rfl ((hget_tl (by omega)).trans hget_hd) rfl rfl rfl ?_)
    refine RegL.nil (Run.bend ?_)
    first
    | (obtain ⟨st', b1, b2, b3⟩ := hfin (m + 1) (m + 2) c' post' ez' (by omega) (Nat.lt_succ_self _) (by rw [hL0]; simpa using hc') (by rw [hL0]; simpa using hp')
       rw [hL0] at b2 b3
       refine Run.done ⟨rfl,_,_,rfl,by omega,by repeat (first | rfl | exact hget_hd | refine (hget_tl (by omega)).trans ?_),(i'+1,st',m+2),Nat.le_refl _,⟨by repeat (first | rfl | exact hget_hd | refine (hget_tl (by omega)).trans ?_),?_,?_⟩,rfl,hlt,b1,by show 3≤m+2;omega⟩
       · show hget _ 0 = some (.cells [lsD (D.take (i' + 1)) st'])
         rw [b2]
         repeat (first | rfl | exact hget_hd | refine (hget_tl (by omega)).trans ?_)
       · show Hsub (lhD (D.take (i' + 1)) st') _
         rw [b3]
         exact ⟨by repeat (first | rfl | exact hget_hd | refine (hget_tl (by omega)).trans ?_),trivial⟩)
    | (simp only [List.length_map, List.length_singleton] at hc' hp'
       obtain ⟨st',b1,b2,b3⟩:=hfin j' n' c' post' ez' (by omega) (by omega) hc' hp'
       refine Run.done ⟨rfl,_,_,rfl,by omega,by repeat (first | rfl | exact hget_hd | refine (hget_tl (by omega)).trans ?_),(i'+1,st',n'),Nat.le_refl _,⟨by repeat (first | rfl | exact hget_hd | refine (hget_tl (by omega)).trans ?_),?_,?_⟩,rfl,hlt,b1,by show 3≤n';omega⟩
       · show hget _ 0 = some (.cells [lsD (D.take (i' + 1)) st'])
         rw [b2]
         refine hget_hd.trans ?_
         simp only [List.length_map,List.length_singleton]
       · show Hsub (lhD (D.take (i' + 1)) st') _
         rw [b3]
         exact ⟨by repeat (first | rfl | exact hget_hd | refine (hget_tl (by omega)).trans ?_),trivial⟩)
   ·refine rN (Cx.Ok.rnd (cx_ok _ _ _)) (rO rfl (Ope.newL rfl ?_))
    refine Reg.op0 (Ope.store rfl rfl hget_hd rfl rfl rfl ?_)
    refine rI (Run.done ⟨rfl,rfl,_,_,rfl,(hget_tl (by omega)).trans ((hget_tl (by omega)).trans hget_hd),fun lb2=>?_⟩)
    refine Run.block (Run.frz (d:=5) true rfl ((hget_tl (by omega)).trans hget_hd) rfl ?_)
    first
    | (have hL0 : D.take i' = [] := hL
       refine Run.wide (m:=m+1) (l':=[(0,some (.cells [.sl .ex []])),(2,some lb2),(1,some .dfr)]) (Nat.le_refl _) ⟨by repeat (first | rfl | exact hget_hd | refine (hget_tl (by omega)).trans ?_),by repeat (first | rfl | exact hget_hd | refine (hget_tl (by omega)).trans ?_),by repeat (first | rfl | exact hget_hd | refine (hget_tl (by omega)).trans ?_),trivial⟩ ?_)
    | (obtain ⟨hL1, hL2, hL3, hL4⟩ := hL
       refine Run.wide (m:=m+1) (l':=[(0,some (.cells [.ms (j+3) 0 (D.take i').length c ez])),(j+3,some (.cells (flat ((D.take i').map Deed.v)++post))),(2,some lb2),(1,some .dfr)]) (Nat.le_refl _) ⟨by repeat (first | rfl | exact hget_hd | refine (hget_tl (by omega)).trans ?_),by repeat (first | rfl | exact hget_hd | refine (hget_tl (by omega)).trans ?_),by repeat (first | rfl | exact hget_hd | refine (hget_tl (by omega)).trans ?_),by repeat (first | rfl | exact hget_hd | refine (hget_tl (by omega)).trans ?_),trivial⟩ ?_)
    refine Run.regionL (Cx.Ok.rnd (cx_ok _ _ _)) (RegL.op rfl (oL rfl rfl ?_))
    refine RegL.op rfl (oL rfl rfl ?_)
    refine RegL.op rfl (Ope.bsl rfl rfl rfl rfl ?_)
    first
    | refine RegL.op rfl (Ope.apLb (ws:=[D[i'].v]) rfl rfl (by simp) (by simp) (by simp) (by decide) (by simp) (by intro v hv;simp only [List.mem_singleton] at hv;subst hv;exact ⟨rfl,rfl⟩) (fun c' post' ez' hc' hp'=>?_))
    | refine RegL.apB (vs:=(D.take i').map Deed.v) (ws:=[D[i'].v]) (post:=post) rfl rfl rfl ((hget_tl (by omega)).trans hget_hd) (by rw [List.length_map]) hL3 hL4 (by simp only [List.length_map,htl',List.length_singleton];omega) (by simp only [List.length_map,htl',List.length_singleton];omega) (by intro v hv;obtain ⟨_,_,rfl⟩:=List.mem_map.1 hv;rfl) (by intro v hv;simp only [List.mem_singleton] at hv;subst hv;exact ⟨rfl,rfl⟩) (fun j' n' c' post' ez' hj' hc' hp'=>?_)
    refine RegL.op0 (Ope.store rfl rfl ((hget_tl (by omega)).trans hget_hd) rfl rfl rfl ?_)
    refine RegL.nil (Run.bend ?_)
    first
    | (obtain ⟨st', b1, b2, b3⟩ := hfin (m + 1) (m + 2) c' post' ez' (by omega) (Nat.lt_succ_self _) (by rw [hL0]; simpa using hc') (by rw [hL0]; simpa using hp')
       rw [hL0] at b2 b3
       refine Run.done ⟨rfl,_,_,rfl,by omega,by repeat (first | rfl | exact hget_hd | refine (hget_tl (by omega)).trans ?_),(i'+1,st',m+2),Nat.le_refl _,⟨by repeat (first | rfl | exact hget_hd | refine (hget_tl (by omega)).trans ?_),?_,?_⟩,rfl,hlt,b1,by show 3≤m+2;omega⟩
       · show hget _ 0 = some (.cells [lsD (D.take (i' + 1)) st'])
         rw [b2]
         repeat (first | rfl | exact hget_hd | refine (hget_tl (by omega)).trans ?_)
       · show Hsub (lhD (D.take (i' + 1)) st') _
         rw [b3]
         exact ⟨by repeat (first | rfl | exact hget_hd | refine (hget_tl (by omega)).trans ?_),trivial⟩)
    | (simp only [List.length_map, List.length_singleton] at hc' hp'
       obtain ⟨st',b1,b2,b3⟩:=hfin j' n' c' post' ez' (by omega) (by omega) hc' hp'
       refine Run.done ⟨rfl,_,_,rfl,by omega,by repeat (first | rfl | exact hget_hd | refine (hget_tl (by omega)).trans ?_),(i'+1,st',n'),Nat.le_refl _,⟨by repeat (first | rfl | exact hget_hd | refine (hget_tl (by omega)).trans ?_),?_,?_⟩,rfl,hlt,b1,by show 3≤n';omega⟩
       · show hget _ 0 = some (.cells [lsD (D.take (i' + 1)) st'])
         rw [b2]
         refine hget_hd.trans ?_
         simp only [List.length_map,List.length_singleton]
       · show Hsub (lhD (D.take (i' + 1)) st') _
         rw [b3]
         exact ⟨by repeat (first | rfl | exact hget_hd | refine (hget_tl (by omega)).trans ?_),trivial⟩)
  ·obtain ⟨i',st,mm⟩:=a
   obtain ⟨hii,hi,hL,h3⟩:=hI
   simp only at hii hL h3 hm1
   subst hii
   have hDt:D.take (D.map Deed.v).length=D:=by rw [List.length_map,List.take_length]
   rw [hDt] at hL ⊢
   refine Run.bend (rS (rN (cx_ok _ _ _) (rO rfl (oL rfl rfl ?_))))
   refine rO rfl (oA rfl ?_)
   refine rI (Run.ret (finH_retD hget_hd (.tmp rfl .nil) (Nat.le_refl _) (fun i x h=>?_) ⟨m,st,?_,rfl,rfl⟩))
   · cases st with
     | none=>cases h
     | some q =>
       have h:hget [(q.1+3,some (PBlk.cells (flat (D.map Deed.v)++q.2.2.2)))] i=some x:=h
       by_cases hq:i=q.1+3
       · subst hq
         refine (hget_tl (by omega)).trans ((hget_tl (by omega)).trans ((hget_tl (by omega)).trans h))
       · rw [hget_tl hq] at h;cases h
   · cases st with
     | none=>exact hL
     | some q=>exact ⟨hL.1,by have:=hL.2.1;omega,hL.2.2⟩
end
end Go.Pv
namespace Go.Pv
open Go.Proofs Go.Am
set_option maxRecDepth 10000
section
variable (D:List Deed) (hD:D.length≤12) (hn:(D.map Deed.nu).Nodup)
include hD hn
omit hn in
theorem f108 (tl:Tail):PCall P0 108 [.fn (.func 110) [] [.fp (.sl tl (D.map Deed.v))]] (HE 0 []) (EndC D) fun _ _=>False:=by
  have ha:=f117 D (by omega) tl
  refine PCall.ofH (C:=c108) (cx_ok _ _ _) rfl (fn:=Tryz.f108) (by kernel_rfl) (c:=_) rfl rfl rfl (fun hok=>?_)
  refine rS (rN (cx_ok _ _ _) (rO rfl (oA rfl ?_)))
  refine rI (rS (rN (cx_ok _ _ _) (rO rfl (oM rfl ?_))))
  refine rO rfl (Ope.call rfl rfl rfl (ha.mono (fun v h' q=>?_) fun _ _ q=>q.elim))
  obtain ⟨m,st,hL,rfl,rfl⟩:=q
  refine rO rfl (oA rfl ?_)
  exact rI (Run.ret (finH_ret (.tmp rfl .nil) (Nat.le_refl _) (fun _ _ h=>h) ⟨m,st,hL,rfl,rfl⟩))
omit D hD hn in
theorem f120e:Fn P0 120 [.sl .ex [],I 0,I 0,cmpV] (.tup []):=by
  refine PFun.of (C:=c120) (cx_ok _ _ _) rfl (fn:=Tryz.f120) (by kernel_rfl) (c:=_) rfl rfl rfl ?_
  refine rS (rN (cx_ok _ _ _) (rO rfl (oM rfl ?_)))
  refine rO rfl (Ope.add rfl rfl (by omega) ?_)
  refine rO rfl (oA rfl ?_)
  refine rI (Run.block (Run.loop (α:=Nat) (fun _=>[(2,I 0),(8,I 1)]) (fun _=>HE 0 []) (fun _=>True) (fun _=>0) 0 ⟨rfl,rfl,trivial⟩ rfl trivial (fun i hi=>?_)))
  refine rS (rS (rN (cx_ok _ _ _) (rO rfl (oM rfl ?_))))
  refine rO rfl (oM rfl ?_)
  refine rO rfl (Ope.lt rfl rfl ?_)
  refine rI (rC rfl (fun hc=>?_) fun hc=>?_)
  ·(exfalso;omega)
  ·exact Run.exit (Jmp.code (Jmp.round (Jmp.here (fin_end .nil rfl rfl))))
omit D hD hn in
theorem f118e (k:Int):Fn P0 118 [.sl .ex [],I 0,I 0,I k,cmpV] (.tup []):=by
  refine PFun.of (C:=c118) (cx_ok _ _ _) rfl (fn:=Tryz.f118) (by kernel_rfl) (c:=_) rfl rfl rfl ?_
  refine rS (rN (cx_ok _ _ _) (rO rfl (oA rfl ?_)))
  refine rI (rS (rN (cx_ok _ _ _) (rO rfl (oA rfl ?_))))
  refine rI (Run.block (Run.loop (α:=Nat) (fun _=>[(0,.sl .ex []),(1,I 0),(2,I 0),(4,cmpV)]) (fun _=>HE 0 []) (fun _=>True) (fun _=>0) 0 ⟨rfl,rfl,rfl,rfl,trivial⟩ rfl trivial (fun i hi=>?_)))
  refine Run.block (rS (rN (cx_ok _ _ _) (rO rfl (oM rfl ?_))))
  refine rO rfl (oM rfl ?_)
  refine rO rfl (Ope.sub rfl rfl (by omega) ?_)
  refine rO rfl (oA rfl ?_)
  refine rI (rS (rS (rN (cx_ok _ _ _) (rO rfl (oM rfl ?_)))))
  refine rO rfl (Ope.le rfl rfl ?_)
  refine rI (rC rfl (fun hc=>?_) fun hc=>?_)
  ·refine rS (rN (cx_ok _ _ _) (rO rfl (oM rfl ?_)))
   refine rO rfl (oM rfl ?_)
   refine rO rfl (oM rfl ?_)
   refine rO rfl (oM rfl ?_)
   refine rO rfl (Ope.cf rfl rfl (f120e) rfl ?_)
   exact rI (Run.ret (Jmp.code (Jmp.retB (Jmp.round (Jmp.retB (fin_ret .nil rfl rfl))))))
  ·(exfalso;omega)
omit D hD hn in
theorem f109e:Fn P0 109 [.sl .ex [],cmpV] (.tup []):=by
  have hlen:=f119 0 (by decide)
  refine PFun.of (C:=c109) (cx_ok _ _ _) rfl (fn:=Tryz.f109) (by kernel_rfl) (c:=_) rfl rfl rfl ?_
  refine rS (rN (cx_ok _ _ _) (rO rfl (oM rfl ?_)))
  refine rO rfl (Ope.len (m:=0) rfl rfl ?_)
  refine rO rfl (oA rfl ?_)
  refine rI (rN (cx_ok _ _ _) (rO rfl (oM rfl ?_)))
  refine rO rfl (oM rfl ?_)
  refine rO rfl (oM rfl ?_)
  refine rO rfl (Ope.convN (p:=0) rfl rfl (by decide) ?_)
  refine rO rfl (Ope.call rfl rfl rfl (hlen.call rfl (fun v hv=>?_) fun v hv=>hv.elim))
  obtain ⟨k,rfl⟩:=hv
  refine rO rfl (oM rfl ?_)
  refine rO rfl (Ope.cf rfl rfl (f118e k) rfl ?_)
  exact rI (fin_end .nil rfl rfl)
theorem f89 (tl:Tail):∃ t3:Tail,t3.isOwn=false∧Fn P0 89 [.fn (.func 110) [] [.fp (.sl tl (D.map Deed.v))],cmpV] (.sl t3 ((srtD D).map Deed.v)):=by
  have hc:=f108 D hD tl
  have hs:=f109 D (by omega) hD hn
  have hsl:(srtD D).length=D.length:=(srtD_perm D).length_eq
  by_cases hne:D=[]
  · subst hne
    refine ⟨.ex,rfl,?_⟩
    show Fn P0 89 _ (.sl .ex [])
    refine PFun.of (C:=c89) (cx_ok _ _ _) rfl (fn:=Tryz.f89) (by kernel_rfl) (c:=_) rfl rfl rfl ?_
    refine rS (rN (cx_ok _ _ _) (rO rfl (oA rfl ?_)))
    refine rI (rS (rN (cx_ok _ _ _) (rO rfl (oM rfl ?_))))
    refine rO rfl (Ope.call rfl rfl rfl (hc.mono (fun v h' q=>?_) fun _ _ q=>q.elim))
    obtain ⟨m,st,hL,rfl,rfl⟩:=q
    obtain rfl:st=none:=(by cases st with | none=>rfl | some q=>exact absurd rfl hL.1)
    refine rO rfl (oA rfl ?_)
    refine rI (rS (rN (cx_ok _ _ _) (rO rfl (oM rfl ?_))))
    refine rO rfl (oM rfl ?_)
    refine rO rfl (Ope.cf rfl rfl (f109e) rfl ?_)
    refine rI (rS (rN (cx_ok _ _ _) (rO rfl (oM rfl ?_))))
    refine rO rfl (oA rfl ?_)
    exact rI (Run.ret (fin_ret (.tmp rfl .nil) rfl rfl))
  · refine ⟨.no, rfl, ?_⟩
    refine PFun.of (C:=c89) (cx_ok _ _ _) rfl (fn:=Tryz.f89) (by kernel_rfl) (c:=_) rfl rfl rfl ?_
    refine rS (rN (cx_ok _ _ _) (rO rfl (oA rfl ?_)))
    refine rI (rS (rN (cx_ok _ _ _) (rO rfl (oM rfl ?_))))
    refine rO rfl (Ope.call rfl rfl rfl (hc.mono (fun v h' q=>?_) fun _ _ q=>q.elim))
    obtain ⟨m,st,hL,rfl,rfl⟩:=q
    obtain ⟨j,c,ez,post,rfl⟩:∃ j c ez post,st=some (j,c,ez,post):=(by cases st with | none=>exact absurd hL hne | some q=>exact ⟨_,_,_,_,rfl⟩)
    obtain ⟨hL1,hL2,hL3,hL4⟩:=hL
    refine rO rfl (oA rfl ?_)
    refine rI (rS (rN (cx_ok _ _ _) (rO rfl (oM rfl ?_))))
    refine rO rfl (oM rfl ?_)
    refine rO rfl (Ope.call rfl rfl rfl ((hs (j+3) c m ez post).mono (fun v h' q=>?_) fun _ _ q=>q.elim))
    obtain ⟨m',hm',rfl,rfl⟩:=q
    refine rI (rS (Run.frzS (d:=5) (vs:=(srtD D).map Deed.v) (post:=post) (sz:=4) rfl hget_hd (by rw [List.length_map,hsl]) hL3 (by intro v hv;obtain ⟨_,_,rfl⟩:=List.mem_map.1 hv;rfl) ?_))
    refine rN (cx_ok _ _ _) (rO rfl (oM rfl ?_))
    refine rO rfl (oA rfl ?_)
    exact rI (Run.ret (fin_ret (.tmp rfl .nil) (bd_sl (f:=Deed.v) (tl:=.no) rfl (fun _=>rfl) _) rfl))
theorem f75 (tl:Tail) (htl:tl.isOwn=false):∃ t3:Tail,t3.isOwn=false∧Fn P0 75 [.sl tl (D.map Deed.v),.fn (.func 76) [] []] (.sl t3 ((srtD D).map Deed.v)):=by
  obtain ⟨t3,ht3,hs⟩:=f89 D hD hn tl
  refine ⟨t3,ht3,?_⟩
  have hv:=f90 D tl htl
  have hb1:PV.bds 0 [.sl tl (D.map Deed.v)]=true:=bds_cons (bd_sl (f:=Deed.v) htl (fun _=>rfl) _) rfl
  have hb2:PV.bds 0 [.fn (.func 110) [] [.fp (.sl tl (D.map Deed.v))],cmpV]=true:=by
    have:=bd_sl (f:=Deed.v) htl (fun _=>rfl) D
    simp only [PV.bd,PV.bds]
    rw [show PV.bd 0 (.sl tl (D.map Deed.v))=true from this];rfl
  have hb3:=bd_sl (f:=Deed.v) ht3 (fun _=>rfl) (srtD D)
  refine PFun.of (C:=c75) (cx_ok _ _ _) rfl (fn:=Tryz.f75) (by kernel_rfl) (c:=_) rfl rfl rfl ?_
  refine rS (rN (cx_ok _ _ _) (rO rfl (Ope.boxF rfl rfl ?_)))
  refine rO rfl (oA rfl ?_)
  refine rI (rS (rN (cx_ok _ _ _) (rO rfl (oM rfl ?_))))
  refine rO rfl (Ope.cf rfl rfl hv hb1 ?_)
  refine rO rfl (Ope.mkf rfl rfl ?_)
  refine rO rfl (Ope.cf rfl rfl hs hb2 ?_)
  refine rO rfl (oA rfl ?_)
  exact rI (Run.ret (fin_ret (.tmp rfl .nil) hb3 rfl))
end
def Fns.fol (f:Fns) (S:List Deed):Rec:=S.foldl f.wth rec0
theorem fol_snoc (f:Fns) (S:List Deed) (d:Deed):f.fol (S++[d])=f.wth (f.fol S) d:=by
  unfold Fns.fol
  rw [List.foldl_append];rfl
theorem fol_rok {f : Fns} (hf : f.ok) {S : List Deed} (hs : S.Pairwise fun a b => bef a b = true) (hn : (S.map Deed.nu).Nodup) (hd : ∀ d ∈ S, Dok f d) : ∀ i, i ≤ S.length → f.Rok (f.fol (S.take i)) ∧ (f.fol (S.take i)).ds = (S.take i).reverse
  | 0,_=>⟨rok0 f,rfl⟩
  | i + 1, h => by
    obtain ⟨h1,h2⟩:=fol_rok hf hs hn hd i (by omega)
    have hi:i < S.length:=by omega
    rw [List.take_succ_eq_append_getElem hi,fol_snoc]
    have hmem:∀ o,o∈(f.fol (S.take i)).ds→∃ q,∃ hq:q < i,o=S[q]:=fun o ho=>by
      rw [h2,List.mem_reverse] at ho
      obtain ⟨q,hq,rfl⟩:=List.getElem_of_mem ho
      rw [List.length_take] at hq
      exact ⟨q,by omega,by rw [List.getElem_take]⟩
    refine ⟨rok_wth hf h1 (hd _ (List.getElem_mem hi)).nu ?_ fun o ho=>?_,?_⟩
    · cases hh : (f.fol (S.take i)).has S[i].nu with
      | false=>rfl
      | true =>
        obtain ⟨o,ho,e⟩:=List.mem_map.1 (has_iff.1 hh)
        obtain ⟨q,hq,rfl⟩:=hmem o ho
        have h3:(S.map Deed.nu)[q]?=(S.map Deed.nu)[i]?:=by
          rw [List.getElem?_map,List.getElem?_map,List.getElem?_eq_getElem (by omega:q < S.length),List.getElem?_eq_getElem hi,Option.map_some,Option.map_some,e]
        have:=(List.getElem?_inj (by simp;omega) hn).1 h3
        omega
    · obtain ⟨q, hq, rfl⟩ := hmem o ho
      exact List.pairwise_iff_getElem.1 hs q i (by omega) hi hq
    · show S[i] :: (f.fol (S.take i)).ds = _
      rw [h2,List.reverse_append];rfl
theorem rec_part {q:Rec} (h:q.cs.length=5):partK true 0 6 (mapV (q.ds.map Deed.key) (q.ds.map fun _=>B true)::q.cs.map I)=some q.v:=by
  obtain ⟨ds,cs⟩:=q
  match cs,h with
  | [a,b,c,d,e],_=>rfl
theorem rec_one (q:Rec):PV.allOne (mapV (q.ds.map Deed.key) (q.ds.map fun _=>B true)::q.cs.map I)=true:=by
  obtain ⟨ds,cs⟩:=q
  have:PV.allOne (cs.map I)=true:=by
    induction cs with
    | nil=>rfl
    | cons a cs ih=>exact ih
  cases ds<;>exact this
theorem rec_put {q q':Rec} (h:q.cs.length=5) (h':q'.cs.length=5):pputs (mapV (q.ds.map Deed.key) (q.ds.map fun _=>B true)::q.cs.map I) 0 q'.v.cells=mapV (q'.ds.map Deed.key) (q'.ds.map fun _=>B true)::q'.cs.map I:=by
  unfold pputs
  rw [List.take_zero,List.nil_append]
  have e1:q'.v.cells=mapV (q'.ds.map Deed.key) (q'.ds.map fun _=>B true)::q'.cs.map I:=rfl
  rw [e1,List.drop_eq_nil_of_le (by simp [h,h']),List.append_nil]
theorem rec_nc {q:Rec} (h:q.cs.length=5):q.v.nc=6:=by simp [Rec.v,PV.nc,h]
def Fns.dl (f:Fns) (ri ho:List Int) (n:Nat):List Deed:=(List.range n).map fun i=>⟨(f.ofc i).kd,i,ri.getD i 0,ho.getD i 0⟩
theorem dl_succ (f:Fns) (ri ho:List Int) (n:Nat):f.dl ri ho (n+1)=f.dl ri ho n++[⟨(f.ofc n).kd,n,ri.getD n 0,ho.getD n 0⟩]:=by
  simp [Fns.dl,List.range_succ]
theorem dl_len (f:Fns) (ri ho:List Int) (n:Nat):(f.dl ri ho n).length=n:=by simp [Fns.dl]
theorem dl_nu (f:Fns) (ri ho:List Int) (n:Nat):(f.dl ri ho n).map Deed.nu=List.range n:=by
  unfold Fns.dl
  rw [List.map_map]
  exact List.map_id _
structure Fns.Kno (f:Fns) (ri ho:List Int):Prop where
  l1:ri.length=f.li.length
  l2:ho.length=f.li.length
  r:∀ x∈ri,0≤x∧x < f.n
  h:∀ x∈ho,0≤x∧x≤144
theorem getD_mem {l:List Int} {i:Nat} (h:i < l.length):l.getD i 0∈l:=by
  simp only [List.getD,List.getElem?_eq_getElem h,Option.getD_some]
  exact List.getElem_mem h
theorem dl_ok {f:Fns} (hf:f.ok) {ri ho:List Int} (hk:f.Kno ri ho):∀ d∈f.dl ri ho f.li.length,Dok f d:=fun d hd=>by
  obtain ⟨i,hi,rfl⟩:=List.mem_map.1 hd
  have hi:=List.mem_range.1 hi
  have h1:=(hf.lv (f.ofc i) (by rw [Fns.ofc_at hi];exact List.getElem_mem hi)).1
  have h2:=hk.r _ (getD_mem (i:=i) (by rw [hk.l1];exact hi))
  have h3:=hk.h _ (getD_mem (i:=i) (by rw [hk.l2];exact hi))
  have h4:=hf.n
  have h5:=hf.li
  exact ⟨h1,by show i < 5;omega,by show 0≤ri.getD i 0∧ri.getD i 0 < 6;omega,h3⟩
def Fns.exa (f:Fns) (T:List Deed):List Int:=T.map (f.cin T)
theorem exa_cs {f:Fns} (hf:f.ok) {T:List Deed} (hnu:T.map Deed.nu=List.range T.length) (hl:T.length≤5) (hd:∀ d∈T,Dok f d):(f.fol (srtD T)).cs.take T.length=f.exa T∧(f.fol (srtD T)).cs.length=5:=by
  have hn:(T.map Deed.nu).Nodup:=by rw [hnu];exact List.nodup_range
  have hp:=srtD_perm T
  have hnS:((srtD T).map Deed.nu).Nodup:=((hp.map _).nodup_iff).2 hn
  obtain ⟨h1,h2⟩:=fol_rok hf (srtD_sorted hn) hnS (fun d hd'=>hd d (hp.mem_iff.1 hd')) (srtD T).length (Nat.le_refl _)
  rw [List.take_length] at h1 h2
  refine ⟨?_,h1.ln⟩
  have hpp:(f.fol (srtD T)).ds.Perm T:=by rw [h2];exact (List.reverse_perm _).trans hp
  refine List.ext_getElem? fun i=>?_
  rw [List.getElem?_take]
  unfold Fns.exa
  rw [List.getElem?_map]
  split
  · next hi =>
    rw [List.getElem?_eq_getElem hi,Option.map_some]
    have hnui:T[i].nu=i:=by
      have:(T.map Deed.nu)[i]?=some i:=by rw [hnu,List.getElem?_range hi]
      rw [List.getElem?_map,List.getElem?_eq_getElem hi] at this
      simpa using this
    have:=h1.cs T[i] (hpp.mem_iff.2 (List.getElem_mem hi))
    rw [hnui,cin_perm f hpp] at this
    exact this
  · next hi=>rw [List.getElem?_eq_none (by omega)];rfl
instance:Mka A0 26:=⟨by kernel_rfl⟩
theorem und_ints:A0.under 26=some (.slice 3):=by kernel_rfl
theorem f78 (tl:Tail) (xs:List Int) (hl:xs.length≤1000):∃ t3:Tail,t3.isOwn=false∧Fn P0 78 [.sl tl (xs.map I)] (.sl t3 (xs.map I)):=by
  by_cases hne:xs=[]
  · subst hne
    refine ⟨.ex,rfl,?_⟩
    show Fn P0 78 [.sl tl []] (.sl .ex [])
    refine PFun.of (C:=c78) (cx_ok _ _ _) rfl (fn:=Tryz.f78) (by kernel_rfl) (c:=_) rfl rfl rfl ?_
    refine rS (rN (cx_ok _ _ _) (rO rfl (oA rfl ?_)))
    refine rI (rS (rS (Run.nilS (cx_ok _ _ _) (x:=0) (tl:=tl) (vs:=[]) rfl rfl und_ints rfl rfl (fun b hb=>?_))))
    refine rC rfl (fun hc=>?_) fun hc=>?_
    ·refine rS (rN (cx_ok _ _ _) (rO rfl (oA rfl ?_)))
     exact rI (Run.ret (Jmp.code (fin_ret (.tmp rfl .nil) rfl rfl)))
    ·refine Run.skip (rS (rN (cx_ok _ _ _) (rO rfl (Ope.bsl rfl rfl rfl rfl ?_))))
     refine rO rfl (oM rfl ?_)
     refine rO rfl (Ope.ap0 rfl rfl ?_)
     refine rO rfl (oA rfl ?_)
     exact rI (Run.ret (fin_ret (.tmp rfl .nil) rfl rfl))
  · refine ⟨.no, rfl, ?_⟩
    have hne':xs.map I≠[]:=fun h=>hne (List.map_eq_nil_iff.1 h)
    refine PFun.of (C:=c78) (cx_ok _ _ _) rfl (fn:=Tryz.f78) (by kernel_rfl) (c:=_) rfl rfl rfl ?_
    refine rS (rN (cx_ok _ _ _) (rO rfl (oA rfl ?_)))
    refine rI (rS (rS (Run.nilS (cx_ok _ _ _) (x:=0) (tl:=tl) (vs:=xs.map I) rfl rfl und_ints rfl rfl (fun b hb=>?_))))
    refine rC rfl (fun hc=>?_) fun hc=>?_
    ·(exfalso;rw [hb hne'] at hc;cases hc)
    ·refine Run.skip (rS (rN (cx_ok _ _ _) (rO rfl (Ope.bsl rfl rfl rfl rfl ?_))))
     refine rO rfl (oM rfl ?_)
     refine rO rfl (Ope.apU (o':=none) (vs:=[]) (ws:=xs.map I) (l:=[]) rfl rfl hne' (fun j hj=>by cases hj) (by simp;omega) (by simp;omega) (by decide) (by simp) (by intro v hv;obtain ⟨_,_,rfl⟩:=List.mem_map.1 hv;exact ⟨rfl,rfl⟩) ?_)
     refine rO rfl (oA rfl ?_)
     refine rI (Run.weakT (d:=2) rfl ?_)
     exact Run.ret (fin_ret (.tmp rfl .nil) (bd_sl (f:=I) (tl:=.no) rfl (fun _=>rfl) _) rfl)
section
variable (f:Fns) {t1 t2:Tail} (h1:t1.isOwn=false) (h2:t2.isOwn=false)
include h1 h2
theorem f58 (hf:f.ok) (ta tb:Tail) (ri ho:List Int) (hk:f.Kno ri ho):∃ t3:Tail,t3.isOwn=false∧Fn P0 58 [f.v t1 t2,.sl ta (ri.map I),.sl tb (ho.map I)] (.sl t3 ((f.exa (f.dl ri ho f.li.length)).map I)):=by
  have hl5:=hf.li
  have hdl:=dl_succ f ri ho
  have hdn:=dl_len f ri ho
  have hok:=dl_ok hf hk
  have hT:f.dl ri ho f.li.length=f.dl ri ho f.li.length:=rfl
  have hnT:((f.dl ri ho f.li.length).map Deed.nu).Nodup:=by rw [dl_nu];exact List.nodup_range
  obtain ⟨ts,hts,hio⟩:=f75 (f.dl ri ho f.li.length) (by rw [hdn];omega) hnT .no rfl
  have hsp:=srtD_perm (f.dl ri ho f.li.length)
  have hnS:((srtD (f.dl ri ho f.li.length)).map Deed.nu).Nodup:=((hsp.map _).nodup_iff).2 hnT
  have hdS:∀ d∈srtD (f.dl ri ho f.li.length),Dok f d:=fun d hd=>hok d (hsp.mem_iff.1 hd)
  have hfol:=fol_rok hf (srtD_sorted hnT) hnS hdS
  have hexa:=exa_cs hf (T:=f.dl ri ho f.li.length) (by rw [dl_nu,hdn]) (by rw [hdn];exact hl5) hok
  rw [hdn] at hexa
  have hbio:PV.bds 0 [.sl .no ((f.dl ri ho f.li.length).map Deed.v),.fn (.func 76) [] []]=true:=bds_cons (bd_sl (f:=Deed.v) (tl:=.no) rfl (fun _=>rfl) _) rfl
  have hSl:(srtD (f.dl ri ho f.li.length)).length=f.li.length:=by rw [hsp.length_eq,hdn]
  have hfs:=fun i (h:i < (srtD (f.dl ri ho f.li.length)).length)=>(by rw [List.take_succ_eq_append_getElem h,fol_snoc]:f.fol ((srtD (f.dl ri ho f.li.length)).take (i+1))=f.wth (f.fol ((srtD (f.dl ri ho f.li.length)).take i)) (srtD (f.dl ri ho f.li.length))[i])
  have hwi:=fun (r:Rec) (d:Deed)=>f77 f h1 h2 hf r d
  have hbw:∀ (r:Rec) (d:Deed),PV.bds 0 [f.v t1 t2,r.v,d.v]=true:=fun r d=>bd_fnsV f h1 h2 (bds_cons (bd_rec 0 r) rfl)
  obtain ⟨tc,htc,hcl⟩:=f78 .no (f.exa (f.dl ri ho f.li.length)) (by unfold Fns.exa;rw [List.length_map,hdn];omega)
  refine ⟨tc,htc,?_⟩
  have hbc:PV.bds 0 [.sl .no ((f.exa (f.dl ri ho f.li.length)).map I)]=true:=bds_cons (bd_sl (f:=I) (tl:=.no) rfl (fun _=>rfl) _) rfl
  have hbe:=bd_sl (f:=I) htc (fun _=>rfl) (f.exa (f.dl ri ho f.li.length))
  have hof:=fun {i:Nat} (h:i < f.li.length)=>Fns.ofc_at (f:=f) h
  have hr1:=hk.l1
  have hr2:=hk.l2
  have hrg:∀ i (h:i < f.li.length),ri.getD i 0=ri[i]'(Nat.lt_of_lt_of_eq h hr1.symm):=fun i h=>by simp [List.getD,hr1,h]
  have hhg:∀ i (h:i < f.li.length),ho.getD i 0=ho[i]'(Nat.lt_of_lt_of_eq h hr2.symm):=fun i h=>by simp [List.getD,hr2,h]
  have hdl0:f.dl ri ho 0=[]:=rfl
  generalize hSS:srtD (f.dl ri ho f.li.length)=S at *
  generalize f.exa (f.dl ri ho f.li.length)=X at *
  refine PFun.of (C:=c58) (cx_ok _ _ _) rfl (fn:=Tryz.f58) (by kernel_rfl) (c:=_) rfl rfl rfl ?_
  refine rS (rN (cx_ok _ _ _) (rO rfl (Ope.boxF rfl rfl ?_)))
  refine rO rfl (oA rfl ?_)
  refine rI (rS (rN (cx_ok _ _ _) (rO rfl (oA rfl ?_))))
  refine rI (rS (rS (rN (cx_ok _ _ _) (rO rfl (Ope.fld rfl rfl ?_)))))
  refine rO rfl (Ope.fld rfl rfl ?_)
  refine rO rfl (oL rfl rfl ?_)
  refine rO rfl (Ope.len (m:=f.li.length) rfl (by simp) ?_)
  refine rO rfl (oM rfl ?_)
  refine rI (Run.block (Run.loop (α:=Nat×Option Nat×Nat) (fun t=>[(1,.sl ta (ri.map I)),(2,.sl tb (ho.map I)),(3,.fp (f.v t1 t2)),(7,.sl (tlU t.2.1) ((f.dl ri ho t.1).map Deed.v)),(15,.sl t2 (f.li.map Ofc.v)),(16,I f.li.length),(17,I t.1)]) (fun t=>HE t.2.2 (ownU t.2.1++[])) (fun t=>t.1≤f.li.length∧∀ j,t.2.1=some j→j < t.2.2∧f.dl ri ho t.1≠[]) (fun t=>f.li.length - t.1) (0,none,0) ⟨rfl,rfl,rfl,rfl,rfl,rfl,rfl,trivial⟩ rfl ⟨Nat.zero_le _,fun j hj=>by cases hj⟩ (fun t ht=>?_)))
  obtain ⟨i,o',m⟩:=t
  obtain ⟨hi,hO⟩:=ht
  simp only at hi hO
  show Run _ _ _ _ [(1,.sl ta (ri.map I)),(2,.sl tb (ho.map I)),(3,.fp (f.v t1 t2)),(7,.sl (tlU o') ((f.dl ri ho i).map Deed.v)),(15,.sl t2 (f.li.map Ofc.v)),(16,I f.li.length),(17,I i)] [] (HE m (ownU o'++[]))
  refine rS (rN (cx_ok _ _ _) (rO rfl (Ope.lt rfl rfl ?_)))
  refine rI (rS (rC rfl (fun hc=>?_) fun hc=>?_))
  ·refine Run.skip (rS (Run.block (rS ?_)))
   have hlt':i < f.li.length:=by omega
   have hno:∀ j,o'=some j→j < m:=fun j hj=>(hO j hj).1
   have hdli:f.dl ri ho (i+1)=f.dl ri ho i++[⟨f.li[i].kd,i,ri[i]'(by omega),ho[i]'(by omega)⟩]:=by rw [hdl,hof hlt',hrg i hlt',hhg i hlt']
   have hdni:=hdn i
   refine rN (cx_ok _ _ _) (rO rfl (oM rfl ?_))
   refine rO rfl (Ope.idxM (m:=i) (f:=Ofc.v) rfl rfl rfl hlt' (fun _=>rfl) ?_)
   refine rO rfl (oL rfl rfl ?_)
   refine rO rfl (Ope.newL rfl ?_)
   refine rO rfl (oA rfl ?_)
   refine Reg.op0 (Ope.store rfl rfl hget_hd rfl rfl rfl ?_)
   refine rI (Run.frz (d:=9) true rfl hget_hd rfl ?_)
   refine Run.wideS (m:=m+1) (l':=ownU o'++[]) (Nat.le_refl _) (hs_skip (hs_skip (hs_skip hs_refl (ownU_none hno rfl)) (ownU_none hno rfl)) (ownU_none hno rfl)) ?_
   refine Run.draw (cx_ok _ _ _) [(0,true),(1,true),(2,true),(3,true),(4,true),(5,true),(6,true),(7,true),(8,true),(9,true),(10,true),(11,true),(12,true),(13,true),(14,true),(15,true)] (by kernel_rfl) (dO rfl rfl rfl .sure (oM rfl ?_))
   refine dO rfl rfl rfl .sure (Ope.fld rfl rfl ?_)
   refine dO rfl rfl rfl .sure (oL rfl rfl ?_)
   refine dO rfl rfl rfl .sure (oM rfl ?_)
   refine dO rfl rfl rfl .sure (oM rfl ?_)
   refine dO rfl rfl rfl .sure (oM rfl ?_)
   refine dO rfl rfl rfl .sure (Ope.idxM (m:=i) (f:=I) rfl rfl rfl (by omega) (fun _=>rfl) ?_)
   refine dO rfl rfl rfl .sure (oL rfl rfl ?_)
   refine dO rfl rfl rfl .sure (oM rfl ?_)
   refine dO rfl rfl rfl .sure (oM rfl ?_)
   refine dO rfl rfl rfl .sure (Ope.idxM (m:=i) (f:=I) rfl rfl rfl (by omega) (fun _=>rfl) ?_)
   refine dO rfl rfl rfl .sure (oL rfl rfl ?_)
   refine dO rfl rfl rfl .sure (Ope.bld rfl rfl ?_)
   refine dO rfl rfl rfl .sure (Ope.bsl rfl rfl rfl rfl ?_)
   refine dO rfl rfl rfl .sure (Ope.apU (o':=o') (vs:=(f.dl ri ho i).map Deed.v) (ws:=[.agg [I f.li[i].kd,I i,I (ri[i]'(by omega)),I (ho[i]'(by omega))]]) rfl rfl (by simp) (fun j hj=>⟨by have:=(hO j hj).2;simpa using this,rfl⟩) (by simp only [List.length_map,List.length_singleton];omega) (by simp only [List.length_map,List.length_singleton];omega) (by decide) (by intro v hv;obtain ⟨_,_,rfl⟩:=List.mem_map.1 hv;rfl) (by intro v hv;simp only [List.mem_singleton] at hv;subst hv;exact ⟨rfl,rfl⟩) ?_)
   refine dO rfl rfl rfl .sure (oA rfl ?_)
   refine Dra.nil (Run.bend (rN (cx_ok _ _ _) (rO rfl (Ope.add rfl rfl (by omega) ?_))))
   refine rO rfl (oM rfl ?_)
   exact rI (Run.lend ⟨(i+1,some (m+1),m+2),by show f.li.length - (i+1) < f.li.length - i;omega,⟨by show i+1≤f.li.length;omega,fun j hj=>by cases hj;exact ⟨Nat.lt_succ_self _,by rw [hdli];simp⟩⟩,⟨rfl,rfl,rfl,congrArg (fun l=>some (PV.sl (.own (m+1)) l)) (by rw [hdli,List.map_append];rfl),rfl,rfl,rfl,trivial⟩,rfl,rfl⟩)
  ·refine Run.exit (Jmp.code (Jmp.round (Jmp.here (rS ?_))))
   obtain rfl:i=f.li.length:=by omega
   refine Run.weakT (d:=7) rfl ?_
   refine Run.wide (m:=m) (l':=[]) (Nat.le_refl _) trivial ?_
   refine rN (cx_ok _ _ _) (rO rfl (Ope.newL rfl ?_))
   refine rI (rS (rS (rN (cx_ok _ _ _) (rO rfl (oM rfl ?_)))))
   refine rO rfl (Ope.cf rfl rfl hio hbio ?_)
   refine rO rfl (Ope.len (m:=S.length) rfl (by simp) ?_)
   refine rO rfl (oM rfl ?_)
   refine rI (Run.block (Run.loop (α:=Nat×Nat) (fun t=>[(3,.fp (f.v t1 t2)),(10,.ptr m 0),(39,.sl ts (S.map Deed.v)),(40,I S.length),(41,I t.1)]) (fun t=>HE t.2 [(m,some (.cells (mapV ((f.fol (S.take t.1)).ds.map Deed.key) ((f.fol (S.take t.1)).ds.map fun _=>B true)::(f.fol (S.take t.1)).cs.map I)))]) (fun t=>t.1≤S.length∧m < t.2) (fun t=>S.length - t.1) (0,m+1) ⟨rfl,rfl,rfl,rfl,rfl,trivial⟩ rfl ⟨Nat.zero_le _,Nat.lt_succ_self _⟩ (fun t ht=>?_)))
   obtain ⟨p,m2⟩:=t
   obtain ⟨hp,hm2⟩:=ht
   simp only at hp hm2
   show Run _ _ _ _ [(3,.fp (f.v t1 t2)),(10,.ptr m 0),(39,.sl ts (S.map Deed.v)),(40,I S.length),(41,I p)] [] (HE m2 [(m,some (.cells (mapV ((f.fol (S.take p)).ds.map Deed.key) ((f.fol (S.take p)).ds.map fun _=>B true)::(f.fol (S.take p)).cs.map I)))])
   refine rS (rN (cx_ok _ _ _) (rO rfl (Ope.lt rfl rfl ?_)))
   refine rI (rS (rC rfl (fun hc=>?_) fun hc=>?_))
   ·refine Run.skip (rS (Run.block (rS ?_)))
    have hpl:p < S.length:=by omega
    obtain ⟨q1,q2⟩:=hfol p (by omega)
    obtain ⟨q3,q4⟩:=hfol (p+1) (by omega)
    have hfsp:=hfs p hpl
    have hdp:=hdS S[p] (List.getElem_mem hpl)
    have hnot:S[p] ∉ (f.fol (S.take p)).ds:=fun hm=>by
      have h5:=nodup_of_nu q3.nd
      rw [hfsp] at h5
      exact (List.nodup_cons.1 h5).1 hm
    have hw:=hwi (f.fol (S.take p)) S[p] q1.ln (rok_len q1) (nodup_of_nu q1.nd) hnot hdp
    rw [← hfsp] at hw
    have hbwp:=hbw (f.fol (S.take p)) S[p]
    have hln1:=q1.ln
    have hln2:=q3.ln
    have hone:=rec_one (f.fol (S.take (p+1)))
    have hput:=rec_put (q:=f.fol (S.take p)) (q':=f.fol (S.take (p+1))) hln1 hln2
    have hrp:=rec_part (q:=f.fol (S.take p)) hln1
    refine rN (cx_ok _ _ _) (rO rfl (Ope.idxM (m:=p) (f:=Deed.v) rfl rfl rfl hpl (fun _=>rfl) ?_))
    refine rO rfl (oL rfl rfl ?_)
    refine rO rfl (Ope.newL rfl ?_)
    refine Reg.op0 (Ope.store rfl rfl hget_hd rfl rfl rfl ?_)
    refine rI (Run.frz (d:=12) true rfl hget_hd rfl ?_)
    refine Run.wide (m:=m2+1) (l':=[(m,some (.cells (mapV ((f.fol (S.take p)).ds.map Deed.key) ((f.fol (S.take p)).ds.map fun _=>B true)::(f.fol (S.take p)).cs.map I)))]) (Nat.le_refl _) ⟨by repeat (first | exact hget_hd | refine (hget_tl (by omega)).trans ?_),trivial⟩ ?_
    refine rN (cx_ok _ _ _) (rO rfl (oL rfl rfl ?_))
    refine rO rfl (Ope.loadH rfl hget_hd hrp ?_)
    refine rO rfl (oL rfl rfl ?_)
    refine rO rfl (Ope.cf rfl rfl hw hbwp ?_)
    refine Reg.op0 (Ope.storeP rfl rfl hget_hd (rec_nc hln2) hone (by rw [rec_nc hln2];simp [hln1]) ?_)
    rw [hput]
    refine rI (Run.bend (Run.wide (m:=m2+1) (l':=[(m,some (.cells (mapV ((f.fol (S.take (p+1))).ds.map Deed.key) ((f.fol (S.take (p+1))).ds.map fun _=>B true)::(f.fol (S.take (p+1))).cs.map I)))]) (Nat.le_refl _) ⟨hget_hd,trivial⟩ ?_))
    refine rN (cx_ok _ _ _) (rO rfl (Ope.add rfl rfl (by omega) ?_))
    refine rO rfl (oM rfl ?_)
    exact rI (Run.lend ⟨(p+1,m2+1),by show S.length - (p+1) < S.length - p;omega,⟨by show p+1≤S.length;omega,by show m < m2+1;omega⟩,⟨rfl,rfl,rfl,rfl,rfl,trivial⟩,rfl,rfl⟩)
   ·refine Run.exit (Jmp.code (Jmp.round (Jmp.here (rS ?_))))
    obtain rfl:p=S.length:=by omega
    rw [List.take_length]
    obtain ⟨hx1,hx2⟩:=hexa
    refine Run.frz (d:=10) true rfl hget_hd rfl ?_
    refine rN (cx_ok _ _ _) (rO rfl (Ope.fld rfl (fldC hx2) ?_))
    refine rO rfl (Ope.fld rfl rfl ?_)
    refine rO rfl (Ope.fld rfl rfl ?_)
    refine rO rfl (oL rfl rfl ?_)
    refine rO rfl (Ope.len (m:=f.li.length) rfl (by simp) ?_)
    refine rO rfl (Ope.slAh (vs:=(f.fol S).cs.map I) (m:=f.li.length) rfl rfl (by simp [hx2]) (by omega) (by simp [PV.isAgg]) ?_)
    rw [← List.map_take,hx1]
    refine rO rfl (Ope.cf rfl rfl hcl hbc ?_)
    refine rO rfl (oA rfl ?_)
    exact rI (Run.ret (fin_ret (.tmp rfl .nil) hbe rfl))
end
end Go.Pv
namespace Go.Pv
open Go.Am Go.RowKit
section
variable {C:Cx} {F:EQ} {X:EX} {k:List KI} {e:EL} {ds:List Nat} {h:PH} {K:PV→PH→Prop} {n:Nat} {l:HL} {os:List Oper}
variable {d:Option Tmp} {type:TypeId} {pos:String} {after:Array Edge} {guard:Option (Nat×Bool)}
theorem aidx_nat {m b:Nat} (h:m < b):aidx (m:Int) b=some m:=by
 show aidx (Int.ofNat m) b=some m
 simp [aidx,(T.blt_iff _ _).2 h]
theorem Ope.slDLs {t sz bytes m:Nat} {agg:Bool} {x y:Operand} {kk:IntKind} {a:Int} {j len cap:Nat} {ez:Option Nat} [hs:Slc C.A t agg sz bytes] (hx:pev (lget e) x=some (.ms j 0 len cap ez)) (hy:pev (lget e) y=some (.lit (.int kk a))) (ha:a=(m:Int)) (hm:m≤len) (hlc:len≤cap)
  (hK:∀ o' c',o'+(len - m) * sz≤len * sz→(0 < len - m→o'=m * sz)→K (.ms j o' (len - m) c' ez) h):Ope C X { dst:=d,op:=.slice t x (some y) none none,type,pos,after,guard } e ds h K:=by
 subst ha
 obtain ⟨el,ti,h1,h2,h3,_,_⟩:=hs.get
 obtain ⟨d',ti',h4,h5,rfl,rfl⟩:=h2.get
 rw [h3] at h5
 cases h5
 have hai:=aidx_nat (m:=m) (b:=len+1) (by omega)
 have hle:Nat.ble len cap=true:=by rw [Nat.ble_eq];exact hlc
 have hml:m * ti.size+(len - m) * ti.size=len * ti.size:=by rw [← Nat.add_mul];congr 1;omega
 by_cases hcm:cap=m
 ·refine Ope.quiet rfl ?_ (hK 0 0 (by omega) fun hp=>by omega)
  have hc:Nat.beq cap m=true:=by subst hcm;exact Nat.beq_refl _
  simp only [pquiet,hx,hy,popt,pslice,h1,h3,hle,pbound,hai,hc]
 ·refine Ope.quiet rfl ?_ (hK (m * ti.size) (cap - m) (by omega) fun _=>rfl)
  have hc:Nat.beq cap m=false:=by
   cases hc:Nat.beq cap m with
   |true=>exact absurd (Nat.eq_of_beq_eq_true hc) hcm
   |false=>rfl
  simp only [pquiet,hx,hy,popt,pslice,h1,h3,hle,pbound,hai,hc,Nat.zero_add]
theorem Ope.sl3L {t sz bytes m p q:Nat} {agg:Bool} {x y z u:Operand} {kk kk' kk'':IntKind} {a b c:Int} {j o len cap:Nat} {ez:Option Nat} [hs:Slc C.A t agg sz bytes] (hx:pev (lget e) x=some (.ms j o len cap ez)) (hy:pev (lget e) y=some (.lit (.int kk a))) (hz:pev (lget e) z=some (.lit (.int kk' b))) (hu:pev (lget e) u=some (.lit (.int kk'' c)))
  (ha:a=(m:Int)) (hb:b=(p:Int)) (hc:c=(q:Int)) (hmp:m≤p) (hpq:p≤q) (hq:q≤cap)
  (hK:∀ o' c',K (.ms j o' (p - m) c' ez) h):Ope C X { dst:=d,op:=.slice t x (some y) (some z) (some u),type,pos,after,guard } e ds h K:=by
 subst ha hb hc
 obtain ⟨el,ti,h1,h2,h3,_,_⟩:=hs.get
 have g1:=aidx_nat (m:=q) (b:=cap+1) (by omega)
 have g2:=aidx_nat (m:=p) (b:=q+1) (by omega)
 have g3:=aidx_nat (m:=m) (b:=p+1) (by omega)
 cases hc:Nat.beq q m with
 |true =>
  refine Ope.quiet rfl ?_ (hK o 0)
  simp only [pquiet,hx,hy,hz,hu,popt,pslice3,h1,h3,pbound,g1,g2,g3,hc]
 |false =>
  refine Ope.quiet rfl ?_ (hK (o+m * ti.size) (q - m))
  simp only [pquiet,hx,hy,hz,hu,popt,pslice3,h1,h3,pbound,g1,g2,g3,hc]
theorem Ope.slHL {t sz bytes m p:Nat} {agg:Bool} {x y z:Operand} {kk kk':IntKind} {a b:Int} {j len cap:Nat} {ez:Option Nat} [hs:Slc C.A t agg sz bytes] (hx:pev (lget e) x=some (.ms j 0 len cap ez)) (hy:pev (lget e) y=some (.lit (.int kk a))) (hz:pev (lget e) z=some (.lit (.int kk' b)))
  (ha:a=(m:Int)) (hb:b=(p:Int)) (hmp:m < p) (hp:p≤cap) (hlc:len≤cap)
  (hK:∀ c',K (.ms j (m * sz) (p - m) c' ez) h):Ope C X { dst:=d,op:=.slice t x (some y) (some z) none,type,pos,after,guard } e ds h K:=by
 subst ha hb
 obtain ⟨el,ti,h1,h2,h3,_,_⟩:=hs.get
 obtain ⟨d',ti',h4,h5,rfl,rfl⟩:=h2.get
 rw [h3] at h5
 cases h5
 have g2:=aidx_nat (m:=p) (b:=cap+1) (by omega)
 have g3:=aidx_nat (m:=m) (b:=p+1) (by omega)
 have hle:Nat.ble len cap=true:=by rw [Nat.ble_eq];exact hlc
 have hc:Nat.beq cap m=false:=by
  cases hc:Nat.beq cap m with
  |true=>have:=Nat.eq_of_beq_eq_true hc;omega
  |false=>rfl
 refine Ope.quiet rfl ?_ (hK (cap - m))
 simp only [pquiet,hx,hy,hz,popt,pslice,h1,h3,hle,pbound,g2,g3,hc,Nat.zero_add]
theorem flat_take {sz:Nat}:∀ {l:List PV} (m:Nat),(∀ v∈l,v.nc=sz)→(flat l).take (m * sz)=flat (l.take m)
 |l,0,_=>by simp [flat]
 |[],m+1,_=>by simp [flat]
 |v::l,m+1,h=>by
  have h1:=PV.cells_length v
  have h2:=h v (by simp)
  rw [List.take_succ_cons]
  show (v.cells++flat l).take _=v.cells++flat (l.take m)
  rw [← flat_take m fun u hu=>h u (by simp [hu]),List.take_append,List.take_of_length_le (by rw [h1,h2,Nat.succ_mul];omega)]
  congr 2
  rw [h1,h2,Nat.succ_mul]
  omega
theorem flat_drop {sz:Nat}:∀ {l:List PV} (m:Nat),(∀ v∈l,v.nc=sz)→(flat l).drop (m * sz)=flat (l.drop m)
 |l,0,_=>by simp
 |[],m+1,_=>by simp [flat]
 |v::l,m+1,h=>by
  have h1:=PV.cells_length v
  have h2:=h v (by simp)
  rw [List.drop_succ_cons]
  show (v.cells++flat l).drop _=flat (l.drop m)
  rw [← flat_drop m fun u hu=>h u (by simp [hu]),List.drop_append,List.drop_eq_nil_of_le (by rw [h1,h2,Nat.succ_mul];omega),List.nil_append]
  congr 1
  rw [h1,h2,Nat.succ_mul]
  omega
theorem Ope.apShift {t tx sz bytes sz' bytes' a m j o' len2 cap c':Nat} {agg agg':Bool} {ez ez':Option Nat} {x y:Operand} {vs post:List PV} [hs:Slc C.A t agg sz bytes] [hs':Slc C.A tx agg' sz' bytes'] (hx:pev (lget e) x=some (.ms j 0 a cap ez)) (hy:pev (lget e) y=some (.ms j o' len2 c' ez'))
  (hg:hget l j=some (.cells (flat vs++post))) (ham:a≤m) (hm:m≤vs.length) (hl2:len2=vs.length - m) (ho1:o'+len2 * sz≤vs.length * sz) (ho2:0 < len2→o'=m * sz) (hlc:vs.length≤cap) (hp:post.length=(cap - vs.length) * sz)
  (hv:∀ v∈vs,v.nc=sz∧PV.allOne v.cells=true)
  (hK:∀ post',post'.length=(cap - (a+len2)) * sz→K (.ms j 0 (a+len2) cap ez) (HE n ((j,some (.cells (flat (vs.take a++vs.drop m)++post')))::l))) :
  Ope C X { dst:=d,op:=.call { callee:=.builtin .append,args:=#[x,y],argTypes:=#[t,tx] },type,pos,after,guard } e ds (HE n l) K:=by
 obtain ⟨el,ti,q1,q2,q3,q4,q5⟩:=hs.get
 obtain ⟨d',ti',h4,h5,rfl,rfl⟩:=q2.get
 rw [q3] at h5
 cases h5
 subst q4
 obtain ⟨el',ti',q1',_⟩:=hs'.get
 have hnc:∀ v∈vs,v.nc=ti.size:=fun v hm=>(hv v hm).1
 have hfl:(flat vs).length=vs.length * ti.size:=flat_len (Each.of hnc)
 have e1:a * ti.size+len2 * ti.size≤vs.length * ti.size:=by rw [← Nat.add_mul];exact Nat.mul_le_mul_right _ (by omega)
 have e2:((flat vs++post).drop o').take (len2 * ti.size)=flat (vs.drop m):=by
  rcases Nat.eq_zero_or_pos len2 with h0 | h0
  ·have:vs.drop m=[]:=List.drop_eq_nil_of_le (by omega)
   rw [this,h0]
   simp [flat]
  ·rw [ho2 h0,List.drop_append_of_le_length (by rw [hfl];exact Nat.mul_le_mul_right _ hm),flat_drop m hnc]
   have h3:(flat (vs.drop m)).length=len2 * ti.size:=by
    rw [flat_len (Each.of fun v hq=>hnc v (List.mem_of_mem_drop hq)),List.length_drop,hl2]
   rw [List.take_append_of_le_length (by omega),List.take_of_length_le (by omega)]
 have e3:PV.allOne (flat (vs.drop m))=true:=flat_one (Each.of fun v hq=>(hv v (List.mem_of_mem_drop hq)).2)
 have h3:(flat (vs.drop m)).length=len2 * ti.size:=by
  rw [flat_len (Each.of fun v hq=>hnc v (List.mem_of_mem_drop hq)),List.length_drop,hl2]
 have e4:pputs (flat vs++post) (a * ti.size) (flat (vs.drop m))=flat (vs.take a++vs.drop m)++(flat vs++post).drop (a * ti.size+len2 * ti.size):=by
  unfold pputs
  rw [h3,List.take_append_of_le_length (by rw [hfl];exact Nat.mul_le_mul_right _ (by omega)),flat_take a hnc,flat_append]
 unfold Ope
 simp only [pop,pkind,ploud,pargs,hx,hy,PAppend,q1,q1',q3]
 refine ⟨flat vs++post,trivial,hg,by omega,by rw [List.length_append,hfl];omega,by rw [List.length_append,hfl];omega,by rw [e2];exact e3,?_⟩
 rw [HE_put,e2,e4]
 refine hK _ ?_
 rw [List.length_drop,List.length_append,hfl,hp,← Nat.add_mul,← Nat.add_mul,← Nat.sub_mul]
 congr 1
 omega
end
end Go.Pv
namespace Go.Pv
open Go.Proofs Go.Am
set_option maxRecDepth 10000
instance:Mka A0 23:=⟨by kernel_rfl⟩
theorem und_ofcs:A0.under 23=some (.slice 52):=by kernel_rfl
theorem f93e (tl:Tail):Fn P0 93 [.sl tl (([]:List Ofc).map Ofc.v)] (.sl .ex []):=by
  refine PFun.of (C:=c93) (cx_ok _ _ _) rfl (fn:=Tryz.f93) (by kernel_rfl) (c:=_) rfl rfl rfl ?_
  refine rS (rN (cx_ok _ _ _) (rO rfl (oA rfl ?_)))
  refine rI (rS (rS (Run.nilS (cx_ok _ _ _) (x:=0) (tl:=tl) (vs:=[]) rfl rfl und_ofcs rfl rfl (fun b hb=>?_))))
  refine rC rfl (fun hc=>?_) fun hc=>?_
  ·refine rS (rN (cx_ok _ _ _) (rO rfl (oA rfl ?_)))
   exact rI (Run.ret (Jmp.code (fin_ret (.tmp rfl .nil) rfl rfl)))
  ·refine Run.skip (rS (rN (cx_ok _ _ _) (rO rfl (Ope.bsl rfl rfl rfl rfl ?_))))
   refine rO rfl (oM rfl ?_)
   refine rO rfl (Ope.ap0 rfl rfl ?_)
   refine rO rfl (oA rfl ?_)
   exact rI (Run.ret (fin_ret (.tmp rfl .nil) rfl rfl))
theorem f93l (tl:Tail) (js:List Ofc) (hne:js≠[]) (hl:js.length≤1000) (n:Nat) (l:HL):PCall P0 93 [.sl tl (js.map Ofc.v)] (HE n l) (fun v h'=>∃ cp post ez,js.length≤cp∧post.length=(cp - js.length) * 4∧v=.ms n 0 js.length cp ez∧h'=HE (n+1) ((n,some (.cells (flat (js.map Ofc.v)++post)))::l)) fun _ _=>False:=by
  have hne':js.map Ofc.v≠[]:=fun h=>hne (List.map_eq_nil_iff.1 h)
  have hln:([]:List PV).length+(js.map Ofc.v).length=js.length:=by simp
  refine PCall.ofH (C:=c93) (cx_ok _ _ _) rfl (fn:=Tryz.f93) (by kernel_rfl) (c:=_) rfl rfl rfl (fun hok=>?_)
  refine rS (rN (cx_ok _ _ _) (rO rfl (oA rfl ?_)))
  refine rI (rS (rS (Run.nilS (cx_ok _ _ _) (x:=0) (tl:=tl) (vs:=js.map Ofc.v) rfl rfl und_ofcs rfl rfl (fun b hb=>?_))))
  refine rC rfl (fun hc=>?_) fun hc=>?_
  ·(exfalso;rw [hb hne'] at hc;cases hc)
  ·refine Run.skip (rS (rN (cx_ok _ _ _) (rO rfl (Ope.bsl rfl rfl rfl rfl ?_))))
   refine rO rfl (oM rfl ?_)
   refine rO rfl (Ope.apLb rfl rfl hne' (by rw [hln];omega) (by rw [hln];omega) (by decide) (by simp) (by intro v hv;obtain ⟨_,_,rfl⟩:=List.mem_map.1 hv;exact ⟨rfl,rfl⟩) (fun cp post ez hcp hpl=>?_))
   rw [hln] at *
   refine rO rfl (oA rfl ?_)
   exact rI (Run.ret (finH_ret (.tmp rfl .nil) (Nat.le_refl _) (fun _ _ h=>h) ⟨cp,post,ez,by omega,hpl,rfl,rfl⟩))
theorem f94 (xs:List Ofc) (i j cp:Nat) (ez:Option Nat) (post:List PV) (n:Nat) (l:HL) (hi:i < xs.length) (hl:xs.length≤1000) (hcp:xs.length≤cp) (hp:post.length=(cp - xs.length) * 4) (hg:hget l j=some (.cells (flat (xs.map Ofc.v)++post))) :
    PCall P0 94 [.ms j 0 xs.length cp ez,N i,I (i+1)] (HE n l) (fun v h'=>∃ post',v=.ms j 0 (xs.length - 1) cp ez∧post'.length=(cp - (xs.length - 1)) * 4∧h'=HE n ((j,some (.cells (flat ((xs.eraseIdx i).map Ofc.v)++post')))::l)) fun _ _=>False:=by
  have hlm:(xs.map Ofc.v).length=xs.length:=List.length_map _
  have hle:(xs.eraseIdx i).length=xs.length - 1:=List.length_eraseIdx_of_lt hi
  have he:(xs.map Ofc.v).take i++(xs.map Ofc.v).drop (i+1)=(xs.eraseIdx i).map Ofc.v:=by
    rw [List.eraseIdx_eq_take_drop_succ,List.map_append,List.map_take,List.map_drop]
  have hnv:∀ v∈xs.map Ofc.v,v.nc=4∧PV.allOne v.cells=true:=fun v hv=>by obtain ⟨_,_,rfl⟩:=List.mem_map.1 hv;exact ⟨rfl,rfl⟩
  have hfl:(flat ((xs.eraseIdx i).map Ofc.v)).length=(xs.length - 1) * 4:=by
    rw [flat_len (sz:=4) (Each.of fun v hv=>by obtain ⟨_,_,rfl⟩:=List.mem_map.1 hv;rfl),List.length_map,hle]
  have hlen2:xs.length - (i+1)=(xs.map Ofc.v).length - (i+1):=by rw [hlm]
  have hsum:i+(xs.length - (i+1))=xs.length - 1:=by omega
  refine PCall.ofH (C:=c94) (cx_ok _ _ _) rfl (fn:=Tryz.f94) (by kernel_rfl) (c:=_) rfl rfl rfl (fun hok=>?_)
  refine rS (rN (cx_ok _ _ _) (rO rfl (oA rfl ?_)))
  refine rI (rS (rN (cx_ok _ _ _) (rO rfl (oM rfl ?_))))
  refine rO rfl (oM rfl ?_)
  refine rO rfl (oM rfl ?_)
  refine rO rfl (oM rfl ?_)
  refine rO rfl (Ope.lenL rfl ?_)
  refine rO rfl (Ope.sl3L (m:=i) (p:=i+1) (q:=xs.length) rfl rfl rfl rfl rfl (by omega) rfl (by omega) (by omega) (by omega) (fun o' c'=>?_))
  refine rI (rS (rS (rN (cx_ok _ _ _) (rO rfl (oM rfl ?_)))))
  refine rO rfl (oM rfl ?_)
  refine rO rfl (Ope.eq rfl rfl ?_)
  refine rI (rC rfl (fun hc=>?_) fun hc=>?_)
  ·(exfalso;omega)
  ·refine Run.skip (rS (rN (cx_ok _ _ _) (rO rfl (oM rfl ?_))))
   refine rO rfl (Ope.lenL rfl ?_)
   refine rO rfl (oA rfl ?_)
   refine rI (rS (Run.draw (cx_ok _ _ _) [(0,true),(1,true),(2,true),(3,true),(4,true),(5,true),(6,true),(7,true)] (by kernel_rfl) (dO rfl rfl rfl .sure (oM rfl ?_))))
   refine dO rfl rfl rfl .sure (oM rfl ?_)
   refine dO rfl rfl rfl .sure (Ope.slTL (m:=i) rfl rfl rfl (by omega) (by omega) ?_)
   refine dO rfl rfl rfl .sure (oM rfl ?_)
   refine dO rfl rfl rfl .sure (oM rfl ?_)
   refine dO rfl rfl rfl .sure (Ope.slDLs (m:=i+1) rfl rfl (by omega) (by omega) hcp (fun o2 c2 ho1 ho2=>?_))
   refine dO rfl rfl rfl .sure (Ope.apShift (vs:=xs.map Ofc.v) (post:=post) (a:=i) (m:=i+1) rfl rfl hg (by omega) (by rw [hlm];omega) hlen2 (by rw [hlm];omega) ho2 (by rw [hlm];exact hcp) (by rw [hlm];exact hp) hnv (fun post2 hp2=>?_))
   rw [he,hsum]
   rw [hsum] at hp2
   refine dO rfl rfl rfl .sure (oA rfl ?_)
   refine Dra.nil (rS (Run.regionL (cx_ok _ _ _) (RegL.op rfl (oM rfl ?_))))
   refine RegL.op rfl (oM rfl ?_)
   refine RegL.op rfl (Ope.lenL rfl ?_)
   refine RegL.op rfl (oM rfl ?_)
   refine RegL.op rfl (Ope.slHL (m:=xs.length - 1) (p:=xs.length) rfl rfl rfl rfl rfl (by omega) hcp (by omega) (fun c3=>?_))
   rw [show xs.length - (xs.length - 1)=1 from by omega]
   refine RegL.clr (vs:=[I 0,I 0,I 0,I 0]) rfl (by decide) (by kernel_rfl) rfl hget_hd hfl.symm (by rw [hp2];show 4≤_;omega) ?_
   refine RegL.nil (rS (rN (cx_ok _ _ _) (rO rfl (oM rfl ?_))))
   refine rO rfl (oA rfl ?_)
   refine rI (Run.ret (finH_ret (.tmp rfl .nil) (Nat.le_refl _) (l':=(j,some (.cells (flat ((xs.eraseIdx i).map Ofc.v)++([I 0,I 0,I 0,I 0]++post2.drop 4))))::l) (fun x b h=>?_) ⟨_,rfl,?_,rfl⟩))
   · by_cases hx : x = j
     · subst hx
       exact hget_hd.trans (hget_hd.symm.trans h)
     · rw [hget_tl hx] at h
       exact (hget_tl hx).trans ((hget_tl hx).trans h)
   · rw [List.length_append, List.length_drop, hp2]
     show 4+_=_
     omega
end Go.Pv
namespace Go.Pv
open Go.Proofs Go.Am
set_option maxRecDepth 10000
def keepN (S:Nat):Nat→List Ofc→List Ofc
  | _,[]=>[]
  | i,o::os=>if S.testBit i=true then keepN S (i+1) os else o::keepN S (i+1) os
def Fns.wo (f:Fns) (S:Nat):Fns:=⟨f.ru,f.n,keepN S 0 f.li⟩
theorem bd_agg {l:List PV} (h:PV.bds 0 l=true):PV.bd 0 (.agg l)=true:=by simp only [PV.bd,h]
def curN (S:Nat) (li:List Ofc) (i:Nat):List Ofc:=li.take i++keepN S i (li.drop i)
theorem curN_no {S:Nat} {li:List Ofc} {i:Nat} (h:i < li.length) (hb:S.testBit i=false):curN S li (i+1)=curN S li i:=by
  unfold curN
  rw [List.drop_eq_getElem_cons h,keepN,if_neg (by rw [hb];decide),List.take_succ_eq_append_getElem h,List.append_assoc]
  rfl
theorem curN_yes {S:Nat} {li:List Ofc} {i:Nat} (h:i < li.length) (hb:S.testBit i=true):(curN S li (i+1)).eraseIdx i=curN S li i:=by
  unfold curN
  rw [List.drop_eq_getElem_cons h,keepN,if_pos hb,List.take_succ_eq_append_getElem h,List.append_assoc,List.eraseIdx_append_of_length_le (by rw [List.length_take];omega)]
  rw [List.length_take,Nat.min_eq_left (by omega),Nat.sub_self]
  rfl
theorem curN_len {S:Nat} {li:List Ofc} {i:Nat} (h:i≤li.length):i≤(curN S li i).length:=by
  unfold curN
  rw [List.length_append,List.length_take]
  omega
theorem keepN_sub (S:Nat):∀ (li:List Ofc) (i:Nat),(keepN S i li).Sublist li
  | [],_=>List.Sublist.refl _
  | o :: os, i => by
    unfold keepN
    split
    · exact (keepN_sub S os (i+1)).cons _
    · exact (keepN_sub S os (i+1)).cons_cons _
theorem Fns.ok.wo {f:Fns} (h:f.ok) (S:Nat):(f.wo S).ok :=
  ⟨h.ru,h.n,Nat.le_trans (keepN_sub S f.li 0).length_le h.li,h.rv,fun o ho=>h.lv o ((keepN_sub S f.li 0).subset ho)⟩
section
variable (f:Fns) {t1 t2:Tail} (h1:t1.isOwn=false) (h2:t2.isOwn=false)
include h1 h2
theorem f80e (hj:f.li=[]) (S:Nat):Fn P0 80 [f.v t1 t2,N S] ((f.wo S).v t1 .ex):=by
  have hbc:PV.bds 0 [.sl t2 (f.li.map Ofc.v)]=true:=by simp only [PV.bds,bd_sl (f:=Ofc.v) h2 (fun _=>rfl),Bool.and_true]
  have hc:=f93e t2
  obtain ⟨ru,n,li⟩:=f
  have hbr:PV.bd 0 (.agg [.sl t1 (ru.map Rul.v),I n,.sl .ex []])=true:=bd_agg (bds_cons (bd_sl (f:=Rul.v) h1 (fun _=>rfl) _) rfl)
  simp only at hj
  subst hj
  refine PFun.of (C:=c80) (cx_ok _ _ _) rfl (fn:=Tryz.f80) (by kernel_rfl) (c:=_) rfl rfl rfl ?_
  refine rS (rN (cx_ok _ _ _) (rO rfl (Ope.boxL rfl rfl ?_)))
  refine rO rfl (Ope.newL rfl ?_)
  refine rI (rS (rN (cx_ok _ _ _) (rO rfl (Ope.fld rfl rfl ?_))))
  refine rO rfl (Ope.fld rfl rfl ?_)
  refine rO rfl (oL rfl rfl ?_)
  refine rO rfl (Ope.cf rfl rfl hc hbc ?_)
  refine rO rfl (Ope.fld rfl rfl ?_)
  refine rO rfl (Ope.fld rfl rfl ?_)
  refine Reg.op0 (Ope.store rfl rfl rfl rfl rfl rfl ?_)
  refine rI (rS (rS (rN (cx_ok _ _ _) (rO rfl (Ope.fld rfl rfl ?_)))))
  refine rO rfl (Ope.fld rfl rfl ?_)
  refine rO rfl (oL rfl rfl ?_)
  refine rO rfl (Ope.len (m:=0) rfl rfl ?_)
  refine rO rfl (Ope.sub rfl rfl (by omega) ?_)
  refine rO rfl (oA rfl ?_)
  refine rI (Run.block (Run.loop (α:=Nat) (fun i=>[(2,.ptr 0 0),(4,.ptr 1 0),(5,I (-1))]) (fun _=>HE 2 [(0,some (.cells [.sl t1 (ru.map Rul.v),I n,.sl .ex []])),(1,some (.cells [.sl .ex [],I 0,.sl .ex []])),(0,some (.cells [.sl t1 (ru.map Rul.v),I n,.sl t2 []]))]) (fun i=>i=0) (fun i=>i) 0 ⟨rfl,rfl,rfl,trivial⟩ rfl rfl (fun i hi=>?_)))
  subst hi
  refine rS (rS (rN (cx_ok _ _ _) (rO rfl (oM rfl ?_))))
  refine rO rfl (Ope.ge rfl rfl ?_)
  refine rI (rC rfl (fun hc=>?_) fun hc=>?_)
  ·(exfalso;revert hc;decide)
  ·refine Run.exit (Jmp.code (Jmp.round (Jmp.here (rS (rN (cx_ok _ _ _) (rO rfl (oL rfl rfl ?_)))))))
   refine Reg.op0 (Ope.store rfl rfl rfl rfl rfl rfl ?_)
   exact rI (Run.ret (fin_ret (.cell rfl rfl .nil) hbr rfl))
theorem f80l (hf:f.ok) (hne:f.li≠[]) (S:Nat) (hS:S < 64):Fn P0 80 [f.v t1 t2,N S] ((f.wo S).v t1 .no):=by
  have hl5:=hf.li
  have hcl:=fun m l=>f93l t2 f.li hne (by omega) m l
  have hS1:∀ m,S >>> m≤S:=fun m=>Nat.shiftRight_le _ _
  have hS2:∀ m,S >>> m &&& 1=if S.testBit m=true then 1 else 0:=fun m=>by
    rw [Nat.testBit,Nat.and_comm 1 (S >>> m),Nat.and_one_is_mod]
    rcases Nat.mod_two_eq_zero_or_one (S >>> m) with h | h<;>simp [h]
  have hbr:PV.bd 0 (.agg [.sl t1 (f.ru.map Rul.v),I f.n,.sl .no ((keepN S 0 f.li).map Ofc.v)])=true:=bd_agg (bds_cons (bd_sl (f:=Rul.v) h1 (fun _=>rfl) _) (bds_cons rfl (bds_cons (bd_sl (f:=Ofc.v) (tl:=.no) rfl (fun _=>rfl) _) rfl)))
  have hc0:curN S f.li f.li.length=f.li:=by unfold curN;rw [List.take_length,List.drop_length];exact List.append_nil _
  have hc1:curN S f.li 0=keepN S 0 f.li:=rfl
  have hsN:∀ i,i < f.li.length→S.testBit i=false→curN S f.li (i+1)=curN S f.li i:=fun i h hb=>curN_no h hb
  have hsY:∀ i,i < f.li.length→S.testBit i=true→(curN S f.li (i+1)).eraseIdx i=curN S f.li i:=fun i h hb=>curN_yes h hb
  have hsL:∀ i,i≤f.li.length→i≤(curN S f.li i).length:=fun i h=>curN_len h
  show Fn P0 80 [f.v t1 t2,N S] (.agg [.sl t1 (f.ru.map Rul.v),I f.n,.sl .no ((keepN S 0 f.li).map Ofc.v)])
  rw [← hc1] at hbr ⊢
  have hdl:=fun (xs:List Ofc) (i cp:Nat) (ez:Option Nat) (post:List PV) n l hi hl hcp hp hg=>f94 xs i 2 cp ez post n l hi hl hcp hp hg
  obtain ⟨ru,n,li⟩:=f
  simp only at hl5 hcl hne hbr hc0 hsN hsY hsL
  refine PFun.of (C:=c80) (cx_ok _ _ _) rfl (fn:=Tryz.f80) (by kernel_rfl) (c:=_) rfl rfl rfl ?_
  refine rS (rN (cx_ok _ _ _) (rO rfl (Ope.boxL rfl rfl ?_)))
  refine rO rfl (Ope.newL rfl ?_)
  refine rI (rS (rN (cx_ok _ _ _) (rO rfl (Ope.fld rfl rfl ?_))))
  refine rO rfl (Ope.fld rfl rfl ?_)
  refine rO rfl (oL rfl rfl ?_)
  refine rO rfl (Ope.call rfl rfl rfl ((hcl _ _).mono (fun v h' q=>?_) fun _ _ q=>q.elim))
  obtain ⟨cp,post0,ez,hcp0,hp0,rfl,rfl⟩:=q
  refine rO rfl (Ope.fld rfl rfl ?_)
  refine rO rfl (Ope.fld rfl rfl ?_)
  refine Reg.op0 (Ope.store rfl rfl ((hget_tl (by omega)).trans rfl) rfl rfl rfl ?_)
  refine rI (rS (rS (rN (cx_ok _ _ _) (rO rfl (Ope.fld rfl rfl ?_)))))
  refine rO rfl (Ope.fld rfl rfl ?_)
  refine rO rfl (Ope.loadH rfl hget_hd rfl ?_)
  refine rO rfl (Ope.lenL rfl ?_)
  refine rO rfl (Ope.sub rfl rfl (by omega) ?_)
  refine rO rfl (oA rfl ?_)
  refine rI (Run.block (Run.wide (m:=3) (l':=[(2,some (.cells (flat (li.map Ofc.v)++post0))),(0,some (.cells [.sl t1 (ru.map Rul.v),I n,.ms 2 0 li.length cp ez])),(1,some (.cells [.sl .ex [],I 0,.sl .ex []]))]) (Nat.le_refl _) ⟨rfl,rfl,rfl,trivial⟩ ?_))
  refine Run.loop (α:=Nat×List Ofc×List PV) (fun t=>[(1,N S),(2,.ptr 0 0),(4,.ptr 1 0),(5,I ((t.1:Int) - 1))]) (fun t=>HE 3 [(2,some (.cells (flat (t.2.1.map Ofc.v)++t.2.2))),(0,some (.cells [.sl t1 (ru.map Rul.v),I n,.ms 2 0 t.2.1.length cp ez])),(1,some (.cells [.sl .ex [],I 0,.sl .ex []]))]) (fun t=>t.1≤li.length∧t.2.1=curN S li t.1∧t.2.1.length≤li.length∧t.2.2.length=(cp - t.2.1.length) * 4) (fun t=>t.1) (li.length,li,post0) ⟨rfl,rfl,rfl,rfl,trivial⟩ rfl ⟨Nat.le_refl _,hc0.symm,Nat.le_refl _,hp0⟩ (fun t ht=>?_)
  obtain ⟨i,xs,post⟩:=t
  obtain ⟨hi,hxs,hxl,hpo⟩:=ht
  simp only at hi hxs hxl hpo
  refine rS (rS (rN (cx_ok _ _ _) (rO rfl (oM rfl ?_))))
  refine rO rfl (Ope.ge rfl rfl ?_)
  refine rI (rC rfl (fun hc=>?_) fun hc=>?_)
  ·refine Run.skip (rS (Run.block (rS ?_)))
   obtain ⟨i,rfl⟩:∃ i',i=i'+1:=⟨i - 1,by omega⟩
   have hlt:i < li.length:=by omega
   have hil:i < xs.length:=by have:=hsL (i+1) hi;rw [← hxs] at this;omega
   rw [show ((i+1:Nat):Int) - 1=(i:Int) from by omega]
   refine rN (cx_ok _ _ _) (rO rfl (oM rfl ?_))
   refine rO rfl (oM rfl ?_)
   refine rO rfl (Ope.shrN (p:=S) (m:=i) rfl rfl rfl rfl (by show i≤64;omega) ?_)
   refine rO rfl (Ope.andN (p:=S >>> i) (q:=1) rfl rfl rfl rfl (by have:=hS1 i;show S >>> i < 2 ^ 64;omega) (by decide) ?_)
   rw [hS2 i]
   refine rO rfl (Ope.eq rfl rfl ?_)
   refine rI (rC rfl (fun hc=>?_) fun hc=>?_)
   ·have hbt : S.testBit i = true := by
      cases hb:S.testBit i with
      | true=>rfl
      | false=>rw [hb] at hc;exact absurd hc (by decide)
    have hnx:xs.eraseIdx i=curN S li i:=by rw [hxs];exact hsY i hlt hbt
    have hnl:(xs.eraseIdx i).length=xs.length - 1:=List.length_eraseIdx_of_lt hil
    refine rN (cx_ok _ _ _) (rO rfl (Ope.fld rfl rfl ?_))
    refine rO rfl (Ope.fld rfl rfl ?_)
    refine rO rfl (oL rfl rfl ?_)
    refine rO rfl (oM rfl ?_)
    refine rO rfl (oM rfl ?_)
    refine rO rfl (Ope.add rfl rfl (by omega) ?_)
    refine rO rfl (Ope.call rfl rfl rfl ((hdl xs i cp ez post _ _ hil (by omega) (by omega) hpo rfl).mono (fun v h' q=>?_) fun _ _ q=>q.elim))
    obtain ⟨post2,rfl,hp2,rfl⟩:=q
    refine rO rfl (Ope.fld rfl rfl ?_)
    refine rO rfl (Ope.fld rfl rfl ?_)
    refine Reg.op0 (Ope.store rfl rfl rfl rfl rfl rfl ?_)
    refine rI (Run.bend ?_)
    first
    | (rw [← hnl] at hp2 ⊢
       refine Run.wide (m:=3) (l':=[(2,some (.cells (flat ((xs.eraseIdx i).map Ofc.v)++post2))),(0,some (.cells [.sl t1 (ru.map Rul.v),I n,.ms 2 0 (xs.eraseIdx i).length cp ez])),(1,some (.cells [.sl .ex [],I 0,.sl .ex []]))]) (Nat.le_refl _) ⟨rfl,rfl,rfl,trivial⟩ ?_)
    | (have hbf : S.testBit i = false := by
         cases hb:S.testBit i with
         | false=>rfl
         | true=>rw [hb] at hc;exact absurd hc (by decide)
       have hnx:xs=curN S li i:=by rw [hxs];exact hsN i hlt hbf)
    refine rN (cx_ok _ _ _) (rO rfl (oM rfl ?_))
    refine rO rfl (Ope.sub rfl rfl (by omega) ?_)
    refine rO rfl (oA rfl ?_)
    refine rI ?_
    first
    | exact Run.lend ⟨(i,xs.eraseIdx i,post2),Nat.lt_succ_self _,⟨by show i≤li.length;omega,hnx,by show (xs.eraseIdx i).length≤_;omega,hp2⟩,⟨rfl,rfl,rfl,rfl,trivial⟩,rfl,rfl⟩
    | exact Run.lend ⟨(i,xs,post),Nat.lt_succ_self _,⟨by show i≤li.length;omega,hnx,hxl,hpo⟩,⟨rfl,rfl,rfl,rfl,trivial⟩,rfl,rfl⟩
   ·refine Run.skip (Run.bend ?_)
    first
    | (rw [← hnl] at hp2 ⊢
       refine Run.wide (m:=3) (l':=[(2,some (.cells (flat ((xs.eraseIdx i).map Ofc.v)++post2))),(0,some (.cells [.sl t1 (ru.map Rul.v),I n,.ms 2 0 (xs.eraseIdx i).length cp ez])),(1,some (.cells [.sl .ex [],I 0,.sl .ex []]))]) (Nat.le_refl _) ⟨rfl,rfl,rfl,trivial⟩ ?_)
    | (have hbf : S.testBit i = false := by
         cases hb:S.testBit i with
         | false=>rfl
         | true=>rw [hb] at hc;exact absurd hc (by decide)
       have hnx:xs=curN S li i:=by rw [hxs];exact hsN i hlt hbf)
    refine rN (cx_ok _ _ _) (rO rfl (oM rfl ?_))
    refine rO rfl (Ope.sub rfl rfl (by omega) ?_)
    refine rO rfl (oA rfl ?_)
    refine rI ?_
    first
    | exact Run.lend ⟨(i,xs.eraseIdx i,post2),Nat.lt_succ_self _,⟨by show i≤li.length;omega,hnx,by show (xs.eraseIdx i).length≤_;omega,hp2⟩,⟨rfl,rfl,rfl,rfl,trivial⟩,rfl,rfl⟩
    | exact Run.lend ⟨(i,xs,post),Nat.lt_succ_self _,⟨by show i≤li.length;omega,hnx,hxl,hpo⟩,⟨rfl,rfl,rfl,rfl,trivial⟩,rfl,rfl⟩
  ·refine Run.exit (Jmp.code (Jmp.round (Jmp.here (rS ?_))))
   obtain rfl:i=0:=by omega
   subst hxs
   refine Run.frzB (x:=0) (i:=2) (len:=(curN S li 0).length) (pre:=[.sl t1 (ru.map Rul.v),I n]) (suf:=[]) (vs:=(curN S li 0).map Ofc.v) (post:=post) (sz:=4) rfl rfl (by decide) (by simp) (by omega) (by intro v hv;obtain ⟨_,_,rfl⟩:=List.mem_map.1 hv;rfl) ?_
   refine rN (cx_ok _ _ _) (rO rfl (oL rfl rfl ?_))
   refine Reg.op0 (Ope.store rfl rfl rfl rfl rfl rfl ?_)
   exact rI (Run.ret (fin_ret (.cell rfl rfl .nil) hbr rfl))
theorem f80 (hf:f.ok) (S:Nat) (hS:S < 64):∃ t3:Tail,t3.isOwn=false∧Fn P0 80 [f.v t1 t2,N S] ((f.wo S).v t1 t3):=by
  by_cases h:f.li=[]
  · exact ⟨.ex,rfl,f80e f h1 h2 h S⟩
  · exact ⟨.no,rfl,f80l f h1 h2 hf h S hS⟩
theorem f69f (hf:f.ok) (c:Ctr) (hc:c.ok):Fn P0 69 [f.v t1 t2,c.v] (f.spn c.g).v :=
  PCall.mono (f69 f h1 h2 hf c hc) (fun v h q=>⟨q.1,by obtain ⟨e,rfl,he⟩:=q.2;rw [he.uniq (spn_hul hf hc.g)]⟩) fun v h q=>⟨q.1,q.2⟩
end
end Go.Pv
namespace Go.Pv
open Go.Proofs Go.Am
set_option maxRecDepth 10000
def oc1 (x:Nat):Nat:=((x >>> 1) &&& 6148914691236517205)+(x &&& 6148914691236517205)
def oc2 (x:Nat):Nat:=((oc1 x >>> 2) &&& 3689348814741910323)+(oc1 x &&& 3689348814741910323)
def oc3 (x:Nat):Nat:=((oc2 x >>> 4)+oc2 x) &&& 1085102592571150095
def oc4 (x:Nat):Nat:=oc3 x+oc3 x >>> 8
def oc5 (x:Nat):Nat:=oc4 x+oc4 x >>> 16
def oc6 (x:Nat):Nat:=oc5 x+oc5 x >>> 32
def cn (x:Nat):Nat:=x % 2+x / 2 % 2+x / 4 % 2+x / 8 % 2+x / 16 % 2+x / 32 % 2
theorem oc_all:∀ x,x < 64→(oc1 x < 64∧oc2 x < 64∧oc3 x < 64∧oc4 x < 64∧oc5 x < 64∧oc6 x < 64)∧(oc6 x &&& 127)=cn x:=by decide
theorem cn_lt (x:Nat):cn x≤6:=by unfold cn;omega
abbrev U (x:Nat):PV:=.lit (.int .u64 ((x:Nat):Int))
theorem shr_le (x n:Nat):x >>> n≤x:=Nat.shiftRight_le _ _
theorem f97 (x:Nat) (hx:x < 64):Fn P0 97 [U x] (N (cn x)):=by
  obtain ⟨⟨b1,b2,b3,b4,b5,b6⟩,hc⟩:=oc_all x hx
  have e1:((x >>> 1) &&& 6148914691236517205)+(x &&& 6148914691236517205)=oc1 x:=rfl
  have e2:((oc1 x >>> 2) &&& 3689348814741910323)+(oc1 x &&& 3689348814741910323)=oc2 x:=rfl
  have e3:((oc2 x >>> 4)+oc2 x) &&& 1085102592571150095=oc3 x:=rfl
  have e4:oc3 x+oc3 x >>> 8=oc4 x:=rfl
  have e5:oc4 x+oc4 x >>> 16=oc5 x:=rfl
  have e6:oc5 x+oc5 x >>> 32=oc6 x:=rfl
  generalize oc1 x=y1 at *
  generalize oc2 x=y2 at *
  generalize oc3 x=y3 at *
  generalize oc4 x=y4 at *
  generalize oc5 x=y5 at *
  generalize oc6 x=y6 at *
  generalize cn x=z at *
  have l0:=shr_le x 1
  have l1:=shr_le y1 2
  have l2:=shr_le y2 4
  have l3:=shr_le y3 8
  have l4:=shr_le y4 16
  have l5:=shr_le y5 32
  have z64:(64:Nat) < 2 ^ 63:=by decide
  refine PFun.of (C:=c97) (cx_ok _ _ _) rfl (fn:=Tryz.f97) (by kernel_rfl) (c:=_) rfl rfl rfl ?_
  refine rS (rN (cx_ok _ _ _) (rO rfl (oA rfl ?_)))
  refine rI (rS (rN (cx_ok _ _ _) (rO rfl (oM rfl ?_))))
  refine rO rfl (Ope.shrN (p:=x) (m:=1) rfl rfl rfl rfl (by decide) ?_)
  refine rO rfl (Ope.andN (p:=x >>> 1) (q:=6148914691236517205) rfl rfl rfl rfl (by show _ < 2 ^ 64;omega) (by decide) ?_)
  refine rO rfl (oM rfl ?_)
  refine rO rfl (Ope.andN (p:=x) (q:=6148914691236517205) rfl rfl rfl rfl (by show _ < 2 ^ 64;omega) (by decide) ?_)
  refine rO rfl (Ope.addU (p:=(x >>> 1) &&& 6148914691236517205) (q:=x &&& 6148914691236517205) rfl rfl rfl rfl (by show _ < 2 ^ 63;rw [e1];omega) ?_)
  refine rO rfl (oA rfl ?_)
  refine rI (rS ?_)
  rw [e1]
  refine rN (cx_ok _ _ _) (rO rfl (oM rfl ?_))
  refine rO rfl (Ope.shrN (p:=y1) (m:=2) rfl rfl rfl rfl (by decide) ?_)
  refine rO rfl (Ope.andN (p:=y1 >>> 2) (q:=3689348814741910323) rfl rfl rfl rfl (by show _ < 2 ^ 64;omega) (by decide) ?_)
  refine rO rfl (oM rfl ?_)
  refine rO rfl (Ope.andN (p:=y1) (q:=3689348814741910323) rfl rfl rfl rfl (by show _ < 2 ^ 64;omega) (by decide) ?_)
  refine rO rfl (Ope.addU (p:=(y1 >>> 2) &&& 3689348814741910323) (q:=y1 &&& 3689348814741910323) rfl rfl rfl rfl (by show _ < 2 ^ 63;rw [e2];omega) ?_)
  refine rO rfl (oA rfl ?_)
  refine rI (rS ?_)
  rw [e2]
  refine rN (cx_ok _ _ _) (rO rfl (oM rfl ?_))
  refine rO rfl (Ope.shrN (p:=y2) (m:=4) rfl rfl rfl rfl (by decide) ?_)
  refine rO rfl (oM rfl ?_)
  refine rO rfl (Ope.addU (p:=y2 >>> 4) (q:=y2) rfl rfl rfl rfl (by show _ < 2 ^ 63;omega) ?_)
  refine rO rfl (Ope.andN (p:=y2 >>> 4+y2) (q:=1085102592571150095) rfl rfl rfl rfl (by show _ < 2 ^ 64;omega) (by decide) ?_)
  refine rO rfl (oA rfl ?_)
  refine rI (rS ?_)
  rw [e3]
  refine rN (cx_ok _ _ _) (rO rfl (oM rfl ?_))
  refine rO rfl (oM rfl ?_)
  refine rO rfl (Ope.shrN (p:=y3) (m:=8) rfl rfl rfl rfl (by decide) ?_)
  refine rO rfl (Ope.addU (p:=y3) (q:=y3 >>> 8) rfl rfl rfl rfl (by show _ < 2 ^ 63;omega) ?_)
  refine rO rfl (oA rfl ?_)
  refine rI (rS ?_)
  rw [e4]
  refine rN (cx_ok _ _ _) (rO rfl (oM rfl ?_))
  refine rO rfl (oM rfl ?_)
  refine rO rfl (Ope.shrN (p:=y4) (m:=16) rfl rfl rfl rfl (by decide) ?_)
  refine rO rfl (Ope.addU (p:=y4) (q:=y4 >>> 16) rfl rfl rfl rfl (by show _ < 2 ^ 63;omega) ?_)
  refine rO rfl (oA rfl ?_)
  refine rI (rS ?_)
  rw [e5]
  refine rN (cx_ok _ _ _) (rO rfl (oM rfl ?_))
  refine rO rfl (oM rfl ?_)
  refine rO rfl (Ope.shrN (p:=y5) (m:=32) rfl rfl rfl rfl (by decide) ?_)
  refine rO rfl (Ope.addU (p:=y5) (q:=y5 >>> 32) rfl rfl rfl rfl (by show _ < 2 ^ 63;omega) ?_)
  refine rO rfl (oA rfl ?_)
  refine rI (rS ?_)
  rw [e6]
  refine rN (cx_ok _ _ _) (rO rfl (oM rfl ?_))
  refine rO rfl (Ope.conv (b:=((y6:Nat):Int)) rfl (wrap_in _ (by omega) (by omega)) ?_)
  refine rO rfl (Ope.andN (p:=y6) (q:=127) rfl rfl rfl rfl (by show _ < 2 ^ 64;omega) (by decide) ?_)
  refine rO rfl (oA rfl ?_)
  refine rI (Run.ret (fin_ret (.tmp rfl .nil) rfl ?_))
  (show PV.lit _=PV.lit _;rw [hc])
theorem f84 (x:Nat) (hx:x < 64):Fn P0 84 [U x] (N (cn x)):=by
  have h:=f97 x hx
  refine PFun.of (C:=c84) (cx_ok _ _ _) rfl (fn:=Tryz.f84) (by kernel_rfl) (c:=_) rfl rfl rfl ?_
  refine rS (rN (cx_ok _ _ _) (rO rfl (oA rfl ?_)))
  refine rI (rS (Run.condF rfl (Run.skip (rS (rN (cx_ok _ _ _) (rO rfl (oM rfl ?_)))))))
  refine rO rfl (Ope.cf rfl rfl (h) rfl ?_)
  refine rO rfl (oA rfl ?_)
  exact rI (Run.ret (fin_ret (.tmp rfl .nil) rfl rfl))
theorem f95 (a:Int):Fn P0 95 [I a] (B false):=by
  refine PFun.of (C:=c95) (cx_ok _ _ _) rfl (fn:=Tryz.f95) (by kernel_rfl) (c:=_) rfl rfl rfl ?_
  refine rS (rN (cx_ok _ _ _) (rO rfl (oA rfl ?_)))
  refine rI (rS (rN (cx_ok _ _ _) (rO rfl (oM rfl ?_))))
  refine rO rfl (oM rfl ?_)
  refine rO rfl (Ope.neS rfl rfl ?_)
  refine rO rfl (oA rfl ?_)
  exact rI (Run.ret (fin_ret (.tmp rfl .nil) rfl rfl))
def cmpI (a b:Int):Int:=if a < b then -1 else if b < a then 1 else 0
theorem f83 (a b:Int):Fn P0 83 [I a,I b] (I (cmpI a b)):=by
  have ha:=f95 a
  have hb:=f95 b
  refine PFun.of (C:=c83) (cx_ok _ _ _) rfl (fn:=Tryz.f83) (by kernel_rfl) (c:=_) rfl rfl rfl ?_
  refine rS (rN (cx_ok _ _ _) (rO rfl (oA rfl ?_)))
  refine rI (rS (rN (cx_ok _ _ _) (rO rfl (oM rfl ?_))))
  refine rO rfl (Ope.cf rfl rfl (ha) rfl ?_)
  refine rO rfl (oA rfl ?_)
  refine rI (rS (rN (cx_ok _ _ _) (rO rfl (oM rfl ?_))))
  refine rO rfl (Ope.cf rfl rfl (hb) rfl ?_)
  refine rO rfl (oA rfl ?_)
  refine rI (rS (rS (rN (cx_ok _ _ _) (rO rfl (oM rfl ?_)))))
  refine rI (Run.condF rfl (Run.skip (rS (rS (rN (cx_ok _ _ _) (rO rfl (oM rfl ?_)))))))
  refine rI (Run.condF rfl (Run.skip (rS (rS (rN (cx_ok _ _ _) (rO rfl (oM rfl ?_)))))))
  refine rO rfl (oM rfl ?_)
  refine rO rfl (Ope.lt rfl rfl ?_)
  refine rI (rC rfl (fun hc=>?_) fun hc=>?_)
  ·refine rS (rN (cx_ok _ _ _) (rO rfl (oA rfl ?_)))
   refine rI (Run.ret (Jmp.code (fin_ret (.tmp rfl .nil) rfl ?_)))
   (show I _=I _;congr 1;unfold cmpI;split<;>(try split)<;>omega)
  ·refine Run.skip (rS (rS (rN (cx_ok _ _ _) (rO rfl (oM rfl ?_)))))
   refine rO rfl (oM rfl ?_)
   refine rO rfl (Ope.gt rfl rfl ?_)
   refine rI (rC rfl (fun hc=>?_) fun hc=>?_)
   ·refine rS (rN (cx_ok _ _ _) (rO rfl (oA rfl ?_)))
    refine rI (Run.ret (Jmp.code (fin_ret (.tmp rfl .nil) rfl ?_)))
    (show I _=I _;congr 1;unfold cmpI;split<;>(try split)<;>omega)
   ·refine Run.skip (rS (rN (cx_ok _ _ _) (rO rfl (oA rfl ?_))))
    refine rI (Run.ret (fin_ret (.tmp rfl .nil) rfl ?_))
    (show I _=I _;congr 1;unfold cmpI;split<;>(try split)<;>omega)
theorem f82 (a b:Nat) (ha:a < 64) (hb:b < 64):Fn P0 82 [N a,N b] (I (cmpI (cn a) (cn b))):=by
  have h1:=f84 a ha
  have h2:=f84 b hb
  have h3:=f83 (cn a) (cn b)
  refine PFun.of (C:=c82) (cx_ok _ _ _) rfl (fn:=Tryz.f82) (by kernel_rfl) (c:=_) rfl rfl rfl ?_
  refine rS (rN (cx_ok _ _ _) (rO rfl (oA rfl ?_)))
  refine rI (rS (rN (cx_ok _ _ _) (rO rfl (oM rfl ?_))))
  refine rO rfl (Ope.conv (b:=((a:Nat):Int)) rfl (wrap_nat (by show a < 2 ^ 63;omega)) ?_)
  refine rO rfl (Ope.cf rfl rfl (h1) rfl ?_)
  refine rO rfl (oM rfl ?_)
  refine rO rfl (Ope.conv (b:=((b:Nat):Int)) rfl (wrap_nat (by show b < 2 ^ 63;omega)) ?_)
  refine rO rfl (Ope.cf rfl rfl (h2) rfl ?_)
  refine rO rfl (Ope.cf rfl rfl (h3) rfl ?_)
  refine rO rfl (oA rfl ?_)
  exact rI (Run.ret (fin_ret (.tmp rfl .nil) rfl rfl))
def fstC (m:Nat) (xs:List Nat):Nat:=xs.foldl (fun m x=>if cn x < cn m then x else m) m
theorem fstC_snoc (m:Nat) (xs:List Nat) (x:Nat):fstC m (xs++[x])=if cn x < cn (fstC m xs) then x else fstC m xs:=by
  unfold fstC
  rw [List.foldl_append]
  rfl
theorem fstC_mem:∀ (xs:List Nat) (m:Nat),fstC m xs=m∨fstC m xs∈xs
  | [],m=>.inl rfl
  | x :: xs, m => by
    show fstC (if cn x < cn m then x else m) xs=m∨fstC (if cn x < cn m then x else m) xs∈_
    rcases fstC_mem xs (if cn x < cn m then x else m) with h | h
    · rw [h]
      split
      · exact .inr (List.mem_cons_self ..)
      · exact .inl rfl
    · exact .inr (List.mem_cons_of_mem _ h)
def fstL (xs:List Nat):Nat:=fstC (xs.headD 0) xs
theorem f81 (tl : Tail) (xs : List Nat) (hne : xs ≠ []) (hl : xs.length ≤ 1000) (hx : ∀ x ∈ xs, x < 64) : Fn P0 81 [.sl tl (xs.map N), .fn (.func 82) [] []] (N (fstL xs)) := by
  have hwd:=fun a b ha hb=>f82 a b ha hb
  have hpos:0 < xs.length:=List.length_pos_iff.2 hne
  have h0:xs.headD 0=xs[0]:=by cases xs with | nil=>exact absurd rfl hne | cons _ _=>rfl
  have hst:=fun i (h:i < xs.length)=>(by rw [List.take_succ_eq_append_getElem h,fstC_snoc]:fstC xs[0] (xs.take (i+1))=if cn xs[i] < cn (fstC xs[0] (xs.take i)) then xs[i] else fstC xs[0] (xs.take i))
  have h1:fstC xs[0] (xs.take 1)=xs[0]:=by
    have:=hst 0 hpos
    rw [this]
    show (if cn xs[0] < cn xs[0] then _ else _)=_
    rw [if_neg (Nat.lt_irrefl _)]
    rfl
  have hlt:∀ i,fstC xs[0] (xs.take i) < 64:=fun i=>by
    rcases fstC_mem (xs.take i) xs[0] with h | h
    · rw [h];exact hx _ (List.getElem_mem _)
    · exact hx _ (List.mem_of_mem_take h)
  have hfin:fstL xs=fstC xs[0] (xs.take xs.length):=by unfold fstL;rw [h0,List.take_length]
  have hxl:∀ i (h:i < xs.length),xs[i] < 64:=fun i h=>hx _ (List.getElem_mem h)
  rw [hfin]
  generalize hF:(fun i=>fstC xs[0] (xs.take i))=F at *
  have hF':∀ i,fstC xs[0] (xs.take i)=F i:=fun i=>by rw [← hF]
  simp only [hF'] at *
  refine PFun.of (C:=c81) (cx_ok _ _ _) rfl (fn:=Tryz.f81) (by kernel_rfl) (c:=_) rfl rfl rfl ?_
  refine rS (rN (cx_ok _ _ _) (rO rfl (oA rfl ?_)))
  refine rI (rS (rS (rN (cx_ok _ _ _) (rO rfl (oM rfl ?_)))))
  refine rO rfl (Ope.len (m:=xs.length) rfl (by simp) ?_)
  refine rO rfl (Ope.lt rfl rfl ?_)
  refine rI (rC rfl (fun hc=>?_) fun hc=>?_)
  ·(exfalso;omega)
  ·refine Run.skip (rS (rN (cx_ok _ _ _) (rO rfl (oM rfl ?_))))
   refine rO rfl (Ope.idxM (m:=0) (f:=N) rfl rfl rfl hpos (fun _=>rfl) ?_)
   refine rO rfl (oL rfl rfl ?_)
   refine rO rfl (oA rfl ?_)
   refine rI (rS (rS (rN (cx_ok _ _ _) (rO rfl (oA rfl ?_)))))
   refine rI (Run.block (Run.loop (α:=Nat) (fun i=>[(0,.sl tl (xs.map N)),(1,.fn (.func 82) [] []),(5,N (F i)),(6,I i)]) (fun i=>HE 0 []) (fun i=>1≤i∧i≤xs.length) (fun i=>xs.length - i) 1 ⟨rfl,rfl,by rw [h1];rfl,rfl,trivial⟩ rfl ⟨Nat.le_refl _,hpos⟩ (fun i hi=>?_)))
   obtain ⟨hi1,hi2⟩:=hi
   refine rS (rS (rN (cx_ok _ _ _) (rO rfl (oM rfl ?_))))
   refine rO rfl (oM rfl ?_)
   refine rO rfl (Ope.len (m:=xs.length) rfl (by simp) ?_)
   refine rO rfl (Ope.lt rfl rfl ?_)
   refine rI (rC rfl (fun hc=>?_) fun hc=>?_)
   ·refine Run.skip (rS (Run.block (rS ?_)))
    have hil:i < xs.length:=by omega
    have hw:=hwd xs[i] (F i) (hxl i hil) (hlt i)
    have hsi:=hst i hil
    refine rN (cx_ok _ _ _) (rO rfl (oM rfl ?_))
    refine rO rfl (oM rfl ?_)
    refine rO rfl (oM rfl ?_)
    refine rO rfl (Ope.idxM (m:=i) (f:=N) rfl rfl rfl hil (fun _=>rfl) ?_)
    refine rO rfl (oL rfl rfl ?_)
    refine rO rfl (oM rfl ?_)
    refine rO rfl (Ope.cf rfl rfl (hw) rfl ?_)
    refine rO rfl (Ope.lt rfl rfl ?_)
    refine rI (rC rfl (fun hc=>?_) fun hc=>?_)
    ·refine rN (cx_ok _ _ _) (rO rfl (oM rfl ?_))
     refine rO rfl (oM rfl ?_)
     refine rO rfl (Ope.idxM (m:=i) (f:=N) rfl rfl rfl hil (fun _=>rfl) ?_)
     refine rO rfl (oL rfl rfl ?_)
     refine rO rfl (oA rfl ?_)
     refine rI (Run.bend ?_)
     first
     | (have hc1 : cmpI (cn xs[i]) (cn (F i)) < 0 := hc
        have hsi2:F (i+1)=xs[i]:=by rw [hsi,if_pos (by unfold cmpI at hc1;split at hc1<;>(try split at hc1)<;>omega)]
        rw [← hsi2])
     | (have hc1 : ¬ cmpI (cn xs[i]) (cn (F i)) < 0 := hc
        have hsi2:F (i+1)=F i:=by rw [hsi,if_neg (by unfold cmpI at hc1;split at hc1<;>(try split at hc1)<;>omega)])
     refine rN (cx_ok _ _ _) (rO rfl (oM rfl ?_))
     refine rO rfl (Ope.add rfl rfl (by omega) ?_)
     refine rO rfl (oA rfl ?_)
     refine rI ?_
     first
     | exact Run.lend ⟨i+1,by omega,⟨by omega,by omega⟩,⟨rfl,rfl,rfl,rfl,trivial⟩,rfl,rfl⟩
     | exact Run.lend ⟨i+1,by omega,⟨by omega,by omega⟩,⟨rfl,rfl,by rw [hsi2];rfl,rfl,trivial⟩,rfl,rfl⟩
    ·refine Run.skip (Run.bend ?_)
     first
     | (have hc1 : cmpI (cn xs[i]) (cn (F i)) < 0 := hc
        have hsi2:F (i+1)=xs[i]:=by rw [hsi,if_pos (by unfold cmpI at hc1;split at hc1<;>(try split at hc1)<;>omega)]
        rw [← hsi2])
     | (have hc1 : ¬ cmpI (cn xs[i]) (cn (F i)) < 0 := hc
        have hsi2:F (i+1)=F i:=by rw [hsi,if_neg (by unfold cmpI at hc1;split at hc1<;>(try split at hc1)<;>omega)])
     refine rN (cx_ok _ _ _) (rO rfl (oM rfl ?_))
     refine rO rfl (Ope.add rfl rfl (by omega) ?_)
     refine rO rfl (oA rfl ?_)
     refine rI ?_
     first
     | exact Run.lend ⟨i+1,by omega,⟨by omega,by omega⟩,⟨rfl,rfl,rfl,rfl,trivial⟩,rfl,rfl⟩
     | exact Run.lend ⟨i+1,by omega,⟨by omega,by omega⟩,⟨rfl,rfl,by rw [hsi2];rfl,rfl,trivial⟩,rfl,rfl⟩
   ·refine Run.exit (Jmp.code (Jmp.round (Jmp.here (rS ?_))))
    obtain rfl:i=xs.length:=by omega
    refine rN (cx_ok _ _ _) (rO rfl (oM rfl ?_))
    refine rO rfl (oA rfl ?_)
    exact rI (Run.ret (fin_ret (.tmp rfl .nil) rfl rfl))
end Go.Pv
