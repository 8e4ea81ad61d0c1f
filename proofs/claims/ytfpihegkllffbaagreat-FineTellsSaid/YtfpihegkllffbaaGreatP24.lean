/- Parts of the proof: E42, E43, E44, E45, E46, E47 -/
import Derived.Test.YtfpihegkllffbaaGreatP23
set_option linter.unusedVariables false
set_option linter.unusedSimpArgs false
set_option linter.unusedSectionVars false
namespace Go.Pv
open Go.Proofs Go.Am
set_option maxRecDepth 10000
theorem isum_le {l:List Int} {m:Int} (hm:0≤m) (h:∀ x∈l,0≤x∧x≤m) {n:Nat} (hl:l.length≤n):0≤isum l∧isum l≤m * n:=by
  have h1:=isum_bd hm h
  have h2:m * (l.length:Int)≤m * (n:Int):=Int.mul_le_mul_of_nonneg_left (by omega) hm
  exact ⟨h1.1,by omega⟩
end Go.Pv
namespace Go.Pv
open Go.Proofs Go.Am
set_option maxRecDepth 10000
structure TD (kn len:Nat) (RI X:List Int) (FI PA:Nat→List Int):Prop where
  rl:RI.length=len
  xl:X.length=len
  xb:∀ i (h:i < X.length),0≤X[i]∧X[i]≤1000
  fl:∀ i,(FI i).length=kn
  pl:∀ i,(PA i).length=kn
  f0:FI 0=List.replicate kn 0
  p0:PA 0=List.replicate kn 0
  fb:∀ i r (h:r < (FI i).length),0≤(FI i)[r]∧(FI i)[r]≤5005
  pb:∀ i r (h:r < (PA i).length),0≤(PA i)[r]∧(PA i)[r]≤5005
  st:∀ i (h1:i < RI.length) (h2:i < X.length),∃ w:Nat,RI[i]=(w:Int)∧w < kn∧w ^^^ 1 < kn∧∃ (a:w < (FI i).length) (b:w < (PA i).length) (c:w ^^^ 1 < ((PA i).set w ((PA i)[w]+(X[i]+1) / 2)).length),
    FI (i+1)=(FI i).set w ((FI i)[w]+X[i])∧PA (i+1)=((PA i).set w ((PA i)[w]+(X[i]+1) / 2)).set (w ^^^ 1) (((PA i).set w ((PA i)[w]+(X[i]+1) / 2))[w ^^^ 1]+X[i] / 2)
  af:isum (FI len)=isum X
  ap:isum (PA len)=isum X
  tw:∀ r (h:r+1 < kn),r % 2=0→(FI len)[r+1]'(by rw [fl];exact h)+(FI len)[r]'(by rw [fl];omega)=(PA len)[r+1]'(by rw [pl];exact h)+(PA len)[r]'(by rw [pl];omega)
end Go.Pv
namespace Go.Pv
open Go.Proofs Go.Am
set_option maxRecDepth 10000
set_option maxHeartbeats 4000000
section
variable (f:Fns) {t1 t2:Tail} (h1:t1.isOwn=false) (h2:t2.isOwn=false)
include h1 h2
end
end Go.Pv
namespace Go.Pv
open Go.Proofs Go.Am
set_option maxRecDepth 10000
end Go.Pv
namespace Go.Pv
open Go.Proofs Go.Am
set_option maxRecDepth 10000
set_option maxHeartbeats 4000000
def Fns.gon (f:Fns):Nat→List Deed→List (List Deed)
  | 0,T=>[T]
  | k+1,T=>(f.opts T.length).flatMap fun d=>f.gon k (T++[d])
theorem truN_len {f:Fns}:∀ (n:Nat) {T:List Deed},T∈f.truN n→T.length=n
  | 0,T,h=>by rw [Fns.truN,List.mem_singleton] at h;subst h;rfl
  | n + 1, T, h => by
    rw [Fns.truN,List.mem_flatMap] at h
    obtain ⟨T',h1,h2⟩:=h
    obtain ⟨d,_,rfl⟩:=List.mem_map.1 h2
    rw [List.length_append,truN_len n h1];rfl
theorem flat_congr {α β:Type} {f g:α→List β}:∀ {L:List α},(∀ a∈L,f a=g a)→L.flatMap f=L.flatMap g
  | [],_=>rfl
  | a::L,h=>by rw [List.flatMap_cons,List.flatMap_cons,h a (by simp),flat_congr fun b hb=>h b (List.mem_cons_of_mem _ hb)]
theorem flat_ones {α:Type}:∀ L:List α,(L.flatMap fun a=>[a])=L
  | []=>rfl
  | a::L=>by rw [List.flatMap_cons,flat_ones L];rfl
theorem gon_truN (f:Fns):∀ (k n:Nat),(f.truN n).flatMap (f.gon k)=f.truN (n+k)
  | 0,n=>flat_ones _
  | k + 1, n => by
    have h:=gon_truN f k (n+1)
    rw [show n+1+k=n+(k+1) by omega] at h
    rw [← h]
    show _=((f.truN n).flatMap fun T=>(f.opts n).map fun d=>T++[d]).flatMap (f.gon k)
    rw [List.flatMap_assoc]
    refine flat_congr fun T hT=>?_
    show (f.opts T.length).flatMap _=_
    rw [truN_len n hT,List.flatMap_map]
theorem gon_all (f:Fns):f.gon f.li.length []=f.truN f.li.length:=by
  have h:=gon_truN f f.li.length 0
  rw [Nat.zero_add] at h
  rw [← h]
  show _=([[]]:List (List Deed)).flatMap _
  simp
theorem flat_leD {α β:Type} {f:α→List β} {B:Nat}:∀ {L:List α},(∀ i∈L,(f i).length≤B)→(L.flatMap f).length≤L.length * B
  | [],_=>by simp
  | i :: L, h => by
    have h1:=flat_leD (f:=f) (L:=L) fun j hj=>h j (List.mem_cons_of_mem _ hj)
    have h2:=h i (by simp)
    rw [List.flatMap_cons,List.length_append,List.length_cons,Nat.succ_mul]
    omega
theorem opts_le {f:Fns} (hf:f.ok) {n:Nat} (h:n < f.li.length):(f.opts n).length≤18:=by
  have hn:=hf.n
  have hl:=(hf.lv _ (List.getElem_mem h)).2.2
  have ho:=Fns.ofc_at h
  unfold Fns.opts
  have h1:=flat_leD (B:=3) (f:=fun (r:Nat)=>(List.range ((f.ofc n).hi - (f.ofc n).lo+1).toNat).map fun (j:Nat)=>(⟨(f.ofc n).kd,n,(r:Int),(f.ofc n).lo+(j:Int)⟩:Deed)) (L:=(List.range f.n.toNat).filter fun r=>(f.ofc n).ri.toNat.testBit r) fun r _=>by
    rw [List.length_map,List.length_range,ho];omega
  have h2:((List.range f.n.toNat).filter fun r=>(f.ofc n).ri.toNat.testBit r).length≤6:=Nat.le_trans (List.length_filter_le _ _) (by rw [List.length_range];omega)
  omega
theorem gon_le {f:Fns} (hf:f.ok):∀ (k:Nat) (T:List Deed),T.length+k≤f.li.length→(f.gon k T).length≤18 ^ k
  | 0,_,_=>by simp [Fns.gon]
  | k + 1, T, h => by
    have h1:=flat_leD (B:=18 ^ k) (f:=fun d=>f.gon k (T++[d])) (L:=f.opts T.length) fun d _=>gon_le hf k _ (by rw [List.length_append];simp only [List.length_singleton];omega)
    have h2:=Nat.mul_le_mul_right (18 ^ k) (opts_le hf (n:=T.length) (by omega))
    rw [Nat.pow_succ]
    show ((f.opts T.length).flatMap _).length≤_
    omega
abbrev tV (T:List Deed):PV:=.agg [.sl .no ((T.map Deed.ri).map I),.sl .no ((T.map Deed.ho).map I)]
structure OkU (o:Option Nat) (n:Nat) (out:List (List Deed)):Prop where
  lt:∀ j,o=some j→j < n
  ne:∀ j,o=some j→out≠[]
def QU (out:List (List Deed)) (v:PV) (h':PH):Prop:=∃ (m:Nat) (o:Option Nat),OkU o m out∧h'=HE m (ownU o++[])∧v=.sl (tlU o) (out.map tV)
theorem weakU {s:St} {a b:PV} {ta tb:Tail} {vs vs' ws ws':List PV} (hv:vs=vs') (hw:ws=ws') {xs:List Value} (h:RVs s [a,.agg [.sl ta vs,.sl tb ws],b] xs):RVs s [a,.agg [.sl .no vs',.sl .no ws'],b] xs:=by
  subst hv hw
  obtain ⟨y1,r1,e1,g1,q1⟩:=RVs_cons.1 h
  obtain ⟨y2,r2,e2,g2,q2⟩:=RVs_cons.1 q1
  obtain ⟨y,e3,g3⟩:=RV_agg.1 g2
  obtain ⟨z1,u1,e4,g4,q4⟩:=RVs_cons.1 g3
  obtain ⟨z2,u2,e5,g5,q5⟩:=RVs_cons.1 q4
  refine RVs_cons.2 ⟨_,_,e1,g1,RVs_cons.2 ⟨_,_,e2,RV_agg.2 ⟨_,e3,?_⟩,q2⟩⟩
  exact RVs_cons.2 ⟨_,_,e4,RV_tl_no g4,RVs_cons.2 ⟨_,_,e5,RV_tl_no g5,q5⟩⟩
theorem hs_up2 {o : Option Nat} {n a b : Nat} (h : ∀ j, o = some j → j < n) (ha : n ≤ a) (hb : n ≤ b) {x y : Option PBlk} : ∀ i c, hget (ownU o ++ []) i = some c → hget ((a, x) :: (b, y) :: (ownU o ++ [])) i = some c := by
  intro i c hc
  cases o with
  | none=>simp [ownU,hget] at hc
  | some j =>
    have hj:=h j rfl
    have hi:i=j:=by
      by_cases hi:i=j
      · exact hi
      · rw [ownU, List.append_nil, hget_tl hi] at hc
        simp [hget] at hc
    subst hi
    rw [hget_tl (by omega),hget_tl (by omega)]
    exact hc
theorem hs_up3 {o : Option Nat} {n a b d : Nat} (h : ∀ j, o = some j → j < n) (ha : n ≤ a) (hb : n ≤ b) (hd : n ≤ d) {x y z : Option PBlk} : ∀ i c, hget (ownU o ++ []) i = some c → hget ((a, x) :: (b, y) :: (d, z) :: (ownU o ++ [])) i = some c := by
  intro i c hc
  cases o with
  | none=>simp [ownU,hget] at hc
  | some j =>
    have hj:=h j rfl
    have hi:i=j:=by
      by_cases hi:i=j
      · exact hi
      · rw [ownU, List.append_nil, hget_tl hi] at hc
        simp [hget] at hc
    subst hi
    rw [hget_tl (by omega),hget_tl (by omega),hget_tl (by omega)]
    exact hc
theorem ownU_no {o:Option Nat} {n a:Nat} (h:∀ j,o=some j→j < n) (ha:n≤a):hget (ownU o++[]) a=none:=by
  cases o with
  | none=>rfl
  | some j =>
    have hj:=h j rfl
    rw [ownU,List.append_nil,hget_tl (by omega)]
    rfl
section
variable {C:Cx} {X:EX} {e:EL} {ds:List Nat} {K:PV→PH→Prop} {n:Nat} {l:HL}
variable {d:Option Tmp} {type:TypeId} {pos:String} {after:Array Edge} {guard:Option (Nat×Bool)}
theorem Ope.apE {t tx sz bytes sz' bytes':Nat} {agg agg':Bool} {x y:Operand} {tl':Tail} {ws:List PV} [hs:Slc C.A t agg sz bytes] [hs':Slc C.A tx agg' sz' bytes'] (hx:pev (lget e) x=some (.sl .ex [])) (hy:pev (lget e) y=some (.sl tl' ws))
    (hb1:(0+ws.length) * bytes≤140737488355328) (hb2:0+ws.length≤1000000000) (h1:1≤sz) (hw:∀ v∈ws,v.nc=sz∧PV.allOne v.cells=true) (hK:∀ (o':Option Nat) (n':Nat),n≤n'→(∀ j,o'=some j→ws≠[]∧n≤j∧j < n')→K (.sl (tlU o') ws) (HE n' (ownU o'++l))) :
    Ope C X { dst:=d,op:=.call { callee:=.builtin .append,args:=#[x,y],argTypes:=#[t,tx] },type,pos,after,guard } e ds (HE n l) K:=by
  by_cases hne:ws=[]
  · subst hne
    exact Ope.ap0 hx hy (hK none n (Nat.le_refl _) fun j hj=>by cases hj)
  · exact Ope.apO hx hy hne hb1 hb2 h1 (fun v hv=>by cases hv) hw (hK (some n) (n+1) (Nat.le_succ _) fun j hj=>by cases hj;exact ⟨hne,Nat.le_refl _,Nat.lt_succ_self _⟩)
end
section
variable (f:Fns) {t1 t2:Tail} (h1:t1.isOwn=false) (h2:t2.isOwn=false)
include h1 h2
theorem f64z (hl5:f.li.length≤5) (T:List Deed) (hk:T.length=f.li.length) (out:List (List Deed)) (o:Option Nat) (n:Nat) (ho:OkU o n out) (hout:out.length≤2000000) :
    PCall P0 64 [f.v t1 t2,tV T,.sl (tlU o) (out.map tV)] (HE n (ownU o++[])) (QU (out++[T])) fun _ _=>False:=by
  have hmap:(out++[T]).map tV=out.map tV++[tV T]:=by simp
  have hne:∀ j,o=some j→out.map tV≠[]∧hget ([]:HL) j=none:=fun j hj=>⟨fun e=>ho.ne j hj (List.map_eq_nil_iff.1 e),rfl⟩
  refine PCall.ofH (C:=c64) (cx_ok _ _ _) rfl (fn:=Tryz.f64) (by kernel_rfl) (c:=_) rfl rfl rfl (fun hok=>?_)
  refine rS (rN (cx_ok _ _ _) (rO rfl (Ope.boxF rfl rfl ?_)))
  refine rO rfl (Ope.boxF rfl rfl ?_)
  refine rO rfl (oA rfl ?_)
  refine rI (rS (rN (cx_ok _ _ _) (rO rfl (Ope.fld rfl rfl ?_))))
  refine rO rfl (oL rfl rfl ?_)
  refine rO rfl (Ope.len (m:=T.length) rfl (by simp) ?_)
  refine rO rfl (oA rfl ?_)
  refine rI (rS (rS (rN (cx_ok _ _ _) (rO rfl (oM rfl ?_)))))
  refine rO rfl (Ope.fld rfl rfl ?_)
  refine rO rfl (oL rfl rfl ?_)
  refine rO rfl (Ope.len (m:=f.li.length) rfl (by simp) ?_)
  refine rO rfl (Ope.eq rfl rfl ?_)
  refine rI (rC rfl (fun hc=>?_) fun hc=>?_)
  ·refine rS (rN (cx_ok _ _ _) (rO rfl (oM rfl ?_)))
   refine rO rfl (oL rfl rfl ?_)
   refine rO rfl (Ope.bsl rfl rfl rfl rfl ?_)
   refine rO rfl (Ope.apU (o':=o) (vs:=out.map tV) (ws:=[tV T]) rfl rfl (by simp) hne (by simp only [List.length_map,List.length_singleton];omega) (by simp only [List.length_map,List.length_singleton];omega) (by decide) (by intro v hv;obtain ⟨_,_,rfl⟩:=List.mem_map.1 hv;rfl) (by intro v hv;simp only [List.mem_singleton] at hv;subst hv;exact ⟨rfl,rfl⟩) ?_)
   refine rO rfl (oA rfl ?_)
   exact rI (Run.ret (Jmp.code (finH_ret (.tmp rfl .nil) (Nat.le_refl _) (l':=ownU (some n)++[]) (fun i c h=>h) ⟨n+1,some n,⟨fun j hj=>by cases hj;omega,fun j hj=>by simp⟩,rfl,by rw [hmap];rfl⟩)))
  ·exfalso;omega
theorem f64s (hf : f.ok) (T : List Deed) (k : Nat) (hk : T.length + (k + 1) = f.li.length) (out : List (List Deed)) (o : Option Nat) (n : Nat) (ho : OkU o n out)
    (ih:∀ (d:Deed) (out:List (List Deed)) (o:Option Nat) (n:Nat),OkU o n out→out.length+18 ^ k≤2000000→PCall P0 64 [f.v t1 t2,tV (T++[d]),.sl (tlU o) (out.map tV)] (HE n (ownU o++[])) (QU (out++f.gon k (T++[d]))) fun _ _=>False)
    (hout:out.length+18 ^ (k+1)≤2000000) :
    PCall P0 64 [f.v t1 t2,tV T,.sl (tlU o) (out.map tV)] (HE n (ownU o++[])) (QU (out++f.gon (k+1) T)) fun _ _=>False:=by
  have hl5:=hf.li
  have hlt:T.length < f.li.length:=by omega
  have hn:=hf.n
  have hlv:=hf.lv _ (List.getElem_mem hlt)
  have hofc:=Fns.ofc_at hlt
  obtain ⟨oc,hoc⟩:∃ o,f.li[T.length]=o:=⟨_,rfl⟩
  rw [hoc] at hlv hofc
  obtain ⟨kd,ri,lo,hi⟩:=oc
  simp only at hlv
  obtain ⟨kn,hkn,hk6⟩:∃ k:Nat,f.n=(k:Int)∧k≤6:=⟨f.n.toNat,by omega,by omega⟩
  have hp64:(2:Int) ^ f.n.toNat=((2 ^ kn:Nat):Int):=by rw [hkn,Int.toNat_natCast];push_cast;rfl
  have hpk:2 ^ kn≤2 ^ 6:=Nat.pow_le_pow_right (by decide) hk6
  rw [hp64] at hlv
  obtain ⟨R,rfl⟩:∃ R:Nat,ri=(R:Int):=⟨ri.toNat,by omega⟩
  obtain ⟨H,hH⟩:∃ H:Nat,hi - lo+1=(H:Int):=⟨(hi - lo+1).toNat,by omega⟩
  have hat:∀ F:Ofc→PV,(f.li.map F)[T.length]?=some (F ⟨kd,R,lo,hi⟩):=fun F=>by rw [List.getElem?_map,List.getElem?_eq_getElem hlt,hoc];rfl
  let dd:Nat→Nat→Deed:=fun w j=>⟨kd,T.length,(w:Int),lo+(j:Int)⟩
  let HW:Nat→Nat→List (List Deed):=fun w j=>(List.range j).flatMap fun j=>f.gon k (T++[dd w j])
  let oz:Nat→Nat→List (List Deed):=fun w j=>(out++((List.range w).filter fun r=>R.testBit r).flatMap fun r=>HW r H)++HW w j
  have hHW:∀ w j,HW w (j+1)=HW w j++f.gon k (T++[dd w j]):=fun w j=>by
    show (List.range (j+1)).flatMap _=(List.range j).flatMap _++_
    rw [List.range_succ,List.flatMap_append]
    simp
  have hHl:∀ w j,(HW w j).length≤j * 18 ^ k:=fun w j=>by
    have h:=flat_leD (B:=18 ^ k) (f:=fun j=>f.gon k (T++[dd w j])) (L:=List.range j) fun j _=>gon_le hf k _ (by rw [List.length_append];simp only [List.length_singleton];omega)
    rw [List.length_range] at h
    exact h
  have hoz1:∀ w j,oz w (j+1)=oz w j++f.gon k (T++[dd w j]):=fun w j=>by
    show (out++_)++HW w (j+1)=((out++_)++HW w j)++_
    rw [hHW,List.append_assoc,List.append_assoc,List.append_assoc]
  have hozT:∀ w,R.testBit w=true→oz (w+1) 0=oz w H:=fun w hw=>by
    show (out++_)++[]=(out++_)++HW w H
    rw [List.append_nil,List.range_succ,List.filter_append,List.filter_cons,hw]
    simp only [if_true,List.filter_nil,List.flatMap_append,List.flatMap_cons,List.flatMap_nil,List.append_nil,List.append_assoc]
  have hozF:∀ w,R.testBit w=false→oz (w+1) 0=oz w 0:=fun w hw=>by
    show (out++_)++[]=(out++_)++[]
    rw [List.range_succ,List.filter_append,List.filter_cons,hw]
    simp
  have hoz0:oz 0 0=out:=by
    show (out++[])++[]=out
    simp
  have hozn:oz kn 0=out++f.gon (k+1) T:=by
    show (out++_)++[]=out++(f.opts T.length).flatMap _
    rw [List.append_nil]
    unfold Fns.opts
    rw [hofc,List.flatMap_assoc]
    simp only [hkn,Int.toNat_natCast,hH]
    congr 1
    refine flat_congr fun r _=>?_
    show (List.range H).flatMap _=_
    rw [List.flatMap_map]
  have hlen:∀ w j,w < kn→j < H→(oz w j).length+18 ^ k≤2000000:=fun w j hw hj=>by
    have h3:=flat_leD (B:=H * 18 ^ k) (f:=fun r=>HW r H) (L:=(List.range w).filter fun r=>R.testBit r) fun r _=>hHl r H
    have h4:((List.range w).filter fun r=>R.testBit r).length≤5:=Nat.le_trans (List.length_filter_le _ _) (by rw [List.length_range];omega)
    have h5:=hHl w j
    have hH3:H≤3:=by omega
    have h6:=Nat.mul_le_mul h4 (Nat.mul_le_mul_right (18 ^ k) hH3)
    have h7:=Nat.mul_le_mul_left (List.length ((List.range w).filter fun r=>R.testBit r)) (Nat.mul_le_mul_right (18 ^ k) hH3)
    have h8:=Nat.mul_le_mul_right (18 ^ k) (show j≤2 by omega)
    have hp:18 ^ (k+1)=18 ^ k * 18:=Nat.pow_succ ..
    show ((out++_)++HW w j).length+_≤_
    rw [List.length_append,List.length_append]
    omega
  have hgon:∀ w j,oz w j++f.gon k (T++[dd w j])=oz w (j+1):=fun w j=>(hoz1 w j).symm
  have hbz:∀ x:Nat,PV.bds 0 [N R,N x]=true:=fun x=>rfl
  have hdd:∀ w j,(T++[dd w j]).map Deed.ri=T.map Deed.ri++[(w:Int)]∧(T++[dd w j]).map Deed.ho=T.map Deed.ho++[lo+(j:Int)]:=fun w j=>⟨by simp [dd],by simp [dd]⟩
  have hoz2:∀ w j,(oz w j).length≤2000000∨True:=fun w j=>.inr trivial
  have ih2:=fun w j=>ih (dd w j)
  clear_value oz
  clear ih hoz1 hHW hHl
  clear_value dd
  clear HW
  refine PCall.ofH (C:=c64) (cx_ok _ _ _) rfl (fn:=Tryz.f64) (by kernel_rfl) (c:=_) rfl rfl rfl (fun hok=>?_)
  refine rS (rN (cx_ok _ _ _) (rO rfl (Ope.boxF rfl rfl ?_)))
  refine rO rfl (Ope.boxF rfl rfl ?_)
  refine rO rfl (oA rfl ?_)
  refine rI (rS (rN (cx_ok _ _ _) (rO rfl (Ope.fld rfl rfl ?_))))
  refine rO rfl (oL rfl rfl ?_)
  refine rO rfl (Ope.len (m:=T.length) rfl (by simp) ?_)
  refine rO rfl (oA rfl ?_)
  refine rI (rS (rS (rN (cx_ok _ _ _) (rO rfl (oM rfl ?_)))))
  refine rO rfl (Ope.fld rfl rfl ?_)
  refine rO rfl (oL rfl rfl ?_)
  refine rO rfl (Ope.len (m:=f.li.length) rfl (by simp) ?_)
  refine rO rfl (Ope.eq rfl rfl ?_)
  refine rI (rC rfl (fun hc=>?_) fun hc=>?_)
  ·exfalso;omega
  ·refine Run.skip (rS (rN (cx_ok _ _ _) (rO rfl (Ope.fld rfl rfl ?_))))
   refine rO rfl (oL rfl rfl ?_)
   refine rO rfl (oM rfl ?_)
   refine rO rfl (Ope.idxM (m:=T.length) (f:=Ofc.v) rfl rfl rfl hlt (fun _=>rfl) ?_)
   refine rO rfl (oL rfl rfl ?_)
   refine rO rfl (Ope.newL rfl ?_)
   refine Reg.op0 (Ope.store rfl rfl hget_hd rfl rfl rfl ?_)
   refine rI (rS (rS (Run.frz (d:=8) true rfl hget_hd rfl ?_)))
   rw [hoc]
   refine Run.wideS (m:=n+1) (l':=ownU o++[]) (Nat.le_refl _) (hs_up3 ho.lt (Nat.le_refl _) (Nat.le_refl _) (Nat.le_refl _)) ?_
   refine rN (cx_ok _ _ _) (rO rfl (oA rfl ?_))
   refine rI (Run.block (Run.loop (α:=Nat×Option Nat×Nat) (fun t=>[(2,.sl (tlU t.2.1) ((oz t.1 0).map tV)),(3,.fp (f.v t1 t2)),(4,.fp (tV T)),(8,.fp (Ofc.v ⟨kd,R,lo,hi⟩)),(9,I t.1)]) (fun t=>HE t.2.2 (ownU t.2.1++[])) (fun t=>t.1≤kn∧OkU t.2.1 t.2.2 (oz t.1 0)) (fun t=>kn - t.1) (0,o,n+1) ⟨by show some (PV.sl (tlU o) (out.map tV))=some (PV.sl (tlU o) ((oz 0 0).map tV));rw [hoz0],rfl,rfl,rfl,rfl,trivial⟩ rfl ⟨Nat.zero_le _,by rw [hoz0];exact ⟨fun j hj=>by have:=ho.lt j hj;show j < n+1;omega,ho.ne⟩⟩ (fun t ht=>?_)))
   obtain ⟨w,o,m⟩:=t
   obtain ⟨hw,hO⟩:=ht
   simp only at hw hO
   show Run _ _ _ _ [(2,.sl (tlU o) ((oz w 0).map tV)),(3,.fp (f.v t1 t2)),(4,.fp (tV T)),(8,.fp (Ofc.v ⟨kd,R,lo,hi⟩)),(9,I w)] [] (HE m (ownU o++[]))
   refine rS (rS (rN (cx_ok _ _ _) (rO rfl (oM rfl ?_))))
   refine rO rfl (Ope.fld rfl rfl ?_)
   refine rO rfl (oL rfl rfl ?_)
   refine rO rfl (Ope.lt rfl rfl ?_)
   refine rI (rC rfl (fun hc=>?_) fun hc=>?_)
   ·refine Run.skip (rS (Run.block (rS (rS ?_))))
    have hw2:w < kn:=by omega
    refine rN (cx_ok _ _ _) (rO rfl (Ope.fld rfl rfl ?_))
    refine rO rfl (oL rfl rfl ?_)
    refine rO rfl (oM rfl ?_)
    refine rO rfl (Ope.cf rfl rfl (f65 R w (by omega) (by omega)) (hbz _) ?_)
    refine rO rfl (Ope.not rfl ?_)
    refine rI (rC rfl (fun hc=>?_) fun hc=>?_)
    ·refine Run.exit (Jmp.code (Jmp.here (rN (cx_ok _ _ _) (rO rfl (oM rfl ?_)))))
     refine rO rfl (Ope.add rfl rfl (by omega) ?_)
     refine rO rfl (oA rfl ?_)
     refine rI ?_
     first
     | (obtain rfl : j = H := by have hc' : ¬ (lo + (j : Int) ≤ hi) := hc; omega
        exact Run.lend ⟨(w+1,o,m),by show kn - (w+1) < kn - w;omega,⟨by show w+1≤kn;omega,by show OkU o m (oz (w+1) 0);rw [hozT w hcT];exact hO⟩,⟨by show some (PV.sl (tlU o) ((oz w j).map tV))=some (PV.sl (tlU o) ((oz (w+1) 0).map tV));rw [hozT w hcT],rfl,rfl,rfl,rfl,trivial⟩,rfl,rfl⟩)
     | exact Run.lend ⟨(w+1,o,m),by show kn - (w+1) < kn - w;omega,⟨by show w+1≤kn;omega,by show OkU o m (oz (w+1) 0);rw [hozF w (by simpa using hc)];exact hO⟩,⟨by show some (PV.sl (tlU o) ((oz w 0).map tV))=some (PV.sl (tlU o) ((oz (w+1) 0).map tV));rw [hozF w (by simpa using hc)],rfl,rfl,rfl,rfl,trivial⟩,rfl,rfl⟩
    ·refine Run.skip (rS ?_)
     have hcT:R.testBit w=true:=by simpa using hc
     refine rN (cx_ok _ _ _) (rO rfl (Ope.fld rfl rfl ?_))
     refine rO rfl (Ope.fld rfl rfl ?_)
     refine rO rfl (oL rfl rfl ?_)
     refine rO rfl (oA rfl ?_)
     refine rI (Run.block (Run.loop (α:=Nat×Option Nat×Nat) (fun t=>[(2,.sl (tlU t.2.1) ((oz w t.1).map tV)),(3,.fp (f.v t1 t2)),(4,.fp (tV T)),(8,.fp (Ofc.v ⟨kd,R,lo,hi⟩)),(9,I w),(10,I (lo+t.1))]) (fun t=>HE t.2.2 (ownU t.2.1++[])) (fun t=>t.1≤H∧OkU t.2.1 t.2.2 (oz w t.1)) (fun t=>H - t.1) (0,o,m) ⟨rfl,rfl,rfl,rfl,rfl,by show some (I lo)=some (I (lo+(0:Nat)));rw [show lo+((0:Nat):Int)=lo by omega],trivial⟩ rfl ⟨Nat.zero_le _,hO⟩ (fun t ht=>?_)))
     obtain ⟨j,o,m⟩:=t
     obtain ⟨hj,hO⟩:=ht
     simp only at hj hO
     show Run _ _ _ _ [(2,.sl (tlU o) ((oz w j).map tV)),(3,.fp (f.v t1 t2)),(4,.fp (tV T)),(8,.fp (Ofc.v ⟨kd,R,lo,hi⟩)),(9,I w),(10,I (lo+j))] [] (HE m (ownU o++[]))
     refine rS (rS (rN (cx_ok _ _ _) (rO rfl (oM rfl ?_))))
     refine rO rfl (Ope.fld rfl rfl ?_)
     refine rO rfl (Ope.fld rfl rfl ?_)
     refine rO rfl (oL rfl rfl ?_)
     refine rO rfl (Ope.le rfl rfl ?_)
     refine rI (rC rfl (fun hc=>?_) fun hc=>?_)
     ·refine Run.skip (rS (Run.block ?_))
      have hj2:j < H:=by have hc':lo+(j:Int)≤hi:=hc;omega
      refine Run.draw (cx_ok _ _ _) [(0,false),(1,true),(2,true),(3,true),(5,true),(6,true),(8,true),(9,true),(10,false),(12,true),(13,true),(16,true),(4,true),(7,true),(11,true),(14,true),(15,true),(17,true),(18,true)] (by kernel_rfl) (dO rfl rfl rfl (.load rfl) (oL rfl rfl ?_))
      refine dO rfl rfl rfl .sure (Ope.bsl rfl rfl rfl rfl ?_)
      refine dO rfl rfl rfl .sure (Ope.fld rfl rfl ?_)
      refine dO rfl rfl rfl .sure (oL rfl rfl ?_)
      refine dO rfl rfl rfl .sure (oM rfl ?_)
      refine dO rfl rfl rfl .sure (Ope.bsl rfl rfl rfl rfl ?_)
      refine dO rfl rfl rfl .sure (Ope.bsl rfl rfl rfl rfl ?_)
      refine dO rfl rfl rfl .sure (Ope.fld rfl rfl ?_)
      refine dO rfl rfl rfl (.load rfl) (oL rfl rfl ?_)
      refine dO rfl rfl rfl .sure (oM rfl ?_)
      refine dO rfl rfl rfl .sure (Ope.bsl rfl rfl rfl rfl ?_)
      refine dO rfl rfl rfl .sure (oM rfl ?_)
      refine dO rfl rfl rfl .sure (Ope.apE (ws:=(T.map Deed.ri).map I) rfl rfl (by simp only [List.length_map];omega) (by simp only [List.length_map];omega) (by decide) (by intro v hv;obtain ⟨_,_,rfl⟩:=List.mem_map.1 hv;exact ⟨rfl,rfl⟩) (fun o1 n1 hn1 ho1=>?_))
      refine dO rfl rfl rfl .sure (Ope.apU (o':=o1) (vs:=(T.map Deed.ri).map I) (ws:=[N w]) rfl rfl (by simp) (fun j hj=>⟨(ho1 j hj).1,ownU_no hO.lt (ho1 j hj).2.1⟩) (by simp only [List.length_map,List.length_singleton];omega) (by simp only [List.length_map,List.length_singleton];omega) (by decide) (by intro v hv;obtain ⟨_,_,rfl⟩:=List.mem_map.1 hv;rfl) (by intro v hv;simp only [List.mem_singleton] at hv;subst hv;exact ⟨rfl,rfl⟩) ?_)
      refine dO rfl rfl rfl .sure (Ope.apE (ws:=(T.map Deed.ho).map I) rfl rfl (by simp only [List.length_map];omega) (by simp only [List.length_map];omega) (by decide) (by intro v hv;obtain ⟨_,_,rfl⟩:=List.mem_map.1 hv;exact ⟨rfl,rfl⟩) (fun o2 n2 hn2 ho2=>?_))
      refine dO rfl rfl rfl .sure (Ope.apU (o':=o2) (vs:=(T.map Deed.ho).map I) (ws:=[I (lo+j)]) rfl rfl (by simp) (fun j hj=>⟨(ho2 j hj).1,(hget_tl (by have:=(ho2 j hj).2.1;omega)).trans (ownU_no hO.lt (by have:=(ho2 j hj).2.1;omega))⟩) (by simp only [List.length_map,List.length_singleton];omega) (by simp only [List.length_map,List.length_singleton];omega) (by decide) (by intro v hv;obtain ⟨_,_,rfl⟩:=List.mem_map.1 hv;rfl) (by intro v hv;simp only [List.mem_singleton] at hv;subst hv;exact ⟨rfl,rfl⟩) ?_)
      refine dO rfl rfl rfl .sure (Ope.bld rfl rfl ?_)
      refine dO rfl rfl rfl .sure (Ope.callW (l':=ownU o++[]) rfl rfl (fun s xs h=>weakU (vs':=((T++[dd w j]).map Deed.ri).map I) (ws':=((T++[dd w j]).map Deed.ho).map I) (by rw [(hdd w j).1,List.map_append];rfl) (by rw [(hdd w j).2,List.map_append];rfl) h) (Nat.le_refl _) (hs_up2 hO.lt (by omega) (by omega)) (ih2 w j (oz w j) o _ ⟨fun i hi=>by have:=hO.lt i hi;omega,hO.ne⟩ (hlen w j hw2 hj2)) (fun v h' hq=>?_))
      obtain ⟨m2,o2,hok2,rfl,rfl⟩:=hq
      rw [hgon] at hok2 ⊢
      refine dO rfl rfl rfl .sure (oA rfl ?_)
      refine Dra.nil (Run.bend (rN (cx_ok _ _ _) (rO rfl (oM rfl ?_))))
      refine rO rfl (Ope.add rfl rfl (by omega) ?_)
      refine rO rfl (oA rfl ?_)
      exact rI (Run.lend ⟨(j+1,o2,m2),by show H - (j+1) < H - j;omega,⟨by show j+1≤H;omega,hok2⟩,⟨rfl,rfl,rfl,rfl,rfl,by show some (I (lo+j+1))=some (I (lo+(j+1:Nat)));rw [show lo+((j+1:Nat):Int)=lo+j+1 by omega],trivial⟩,rfl,rfl⟩)
     ·refine Run.exit (Jmp.code (Jmp.round (Jmp.here (Run.bend (rN (cx_ok _ _ _) (rO rfl (oM rfl ?_)))))))
      refine rO rfl (Ope.add rfl rfl (by omega) ?_)
      refine rO rfl (oA rfl ?_)
      refine rI ?_
      first
      | (obtain rfl : j = H := by have hc' : ¬ (lo + (j : Int) ≤ hi) := hc; omega
         exact Run.lend ⟨(w+1,o,m),by show kn - (w+1) < kn - w;omega,⟨by show w+1≤kn;omega,by show OkU o m (oz (w+1) 0);rw [hozT w hcT];exact hO⟩,⟨by show some (PV.sl (tlU o) ((oz w j).map tV))=some (PV.sl (tlU o) ((oz (w+1) 0).map tV));rw [hozT w hcT],rfl,rfl,rfl,rfl,trivial⟩,rfl,rfl⟩)
      | exact Run.lend ⟨(w+1,o,m),by show kn - (w+1) < kn - w;omega,⟨by show w+1≤kn;omega,by show OkU o m (oz (w+1) 0);rw [hozF w (by simpa using hc)];exact hO⟩,⟨by show some (PV.sl (tlU o) ((oz w 0).map tV))=some (PV.sl (tlU o) ((oz (w+1) 0).map tV));rw [hozF w (by simpa using hc)],rfl,rfl,rfl,rfl,trivial⟩,rfl,rfl⟩
   ·refine Run.exit (Jmp.code (Jmp.round (Jmp.here (rS (rN (cx_ok _ _ _) (rO rfl (oM rfl ?_)))))))
    refine rO rfl (oA rfl ?_)
    refine rI (Run.ret ?_)
    obtain rfl:w=kn:=by omega
    exact finH_ret (.tmp rfl .nil) (Nat.le_refl _) (fun _ _ h=>h) ⟨m,o,by rw [← hozn];exact hO,rfl,by rw [← hozn];rfl⟩
end
end Go.Pv
namespace Go.Pv
open Go.Proofs Go.Am
set_option maxRecDepth 10000
set_option maxHeartbeats 4000000
section
variable (f:Fns) {t1 t2:Tail} (h1:t1.isOwn=false) (h2:t2.isOwn=false)
include h1 h2
theorem f64 (hf:f.ok):∀ (k:Nat) (T:List Deed) (out:List (List Deed)) (o:Option Nat) (n:Nat),T.length+k=f.li.length→OkU o n out→out.length+18 ^ k≤2000000 →
    PCall P0 64 [f.v t1 t2,tV T,.sl (tlU o) (out.map tV)] (HE n (ownU o++[])) (QU (out++f.gon k T)) fun _ _=>False
  | 0,T,out,o,n,hk,ho,hout=>f64z f h1 h2 hf.li T (by omega) out o n ho (by omega)
  | k+1,T,out,o,n,hk,ho,hout=>f64s f h1 h2 hf T k hk out o n ho (fun d out o n ho hout=>f64 hf k (T++[d]) out o n (by rw [List.length_append];simp only [List.length_singleton];omega) ho hout) hout
theorem f31 (hf:f.ok):Fn P0 31 [f.v t1 t2] (.sl .no ((f.truN f.li.length).map tV)):=by
  have hl5:=hf.li
  have hp:18 ^ f.li.length≤18 ^ 5:=Nat.pow_le_pow_right (by decide) hl5
  have htr:=fun n=>f64 f h1 h2 hf f.li.length [] [] none n (Nat.zero_add _) ⟨(fun j hj=>by cases hj),(fun j hj=>by cases hj)⟩ (by simp only [List.length_nil];omega)
  simp only [List.nil_append] at htr
  change ∀ n,PCall P0 64 _ _ (QU (f.gon f.li.length [])) _ at htr
  rw [gon_all] at htr
  have hbd:∀ K:List (List Deed),PV.bd 0 (.sl .no (K.map tV))=true:=fun K=>bd_sl (f:=tV) (tl:=.no) rfl (fun l=>bd_agg (bds_cons (bd_sl (f:=I) (tl:=.no) rfl (fun _=>rfl) _) (bds_cons (bd_sl (f:=I) (tl:=.no) rfl (fun _=>rfl) _) rfl))) K
  generalize f.truN f.li.length=L at *
  refine PFun.of (C:=c31) (cx_ok _ _ _) rfl (fn:=Tryz.f31) (by kernel_rfl) (c:=_) rfl rfl rfl ?_
  refine rS (rN (cx_ok _ _ _) (rO rfl (Ope.boxF rfl rfl ?_)))
  refine rO rfl (oA rfl ?_)
  refine rI (rS (rN (cx_ok _ _ _) (rO rfl (oL rfl rfl ?_))))
  refine rO rfl (Ope.bld rfl rfl ?_)
  refine rO rfl (Ope.callW (l':=[]) rfl rfl (fun s xs h=>weakU (vs':=(([]:List Deed).map Deed.ri).map I) (ws':=(([]:List Deed).map Deed.ho).map I) rfl rfl h) (Nat.le_refl _) (fun _ _ h=>h) (htr _) (fun v h' hq=>?_))
  obtain ⟨m0,o0,hok0,rfl,rfl⟩:=hq
  refine rO rfl (oA rfl ?_)
  refine rI (Run.weakT (d:=2) rfl ?_)
  exact Run.ret (fin_ret (.tmp rfl .nil) (hbd _) rfl)
end
end Go.Pv
