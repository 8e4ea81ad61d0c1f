/- Parts of the proof: E30, E31, E32, E33 -/
import Derived.Test.YtfpihegkllffbaaGreatP21
import Derived.Test.YtfpihegkllffbaaGreatP12
set_option linter.unusedVariables false
set_option linter.unusedSimpArgs false
set_option linter.unusedSectionVars false
namespace Go.Pv
open Go.Proofs Go.Am
set_option maxRecDepth 10000
section
variable {C:Cx} {X:EX} {e:EL} {ds:List Nat} {K:PV→PH→Prop} {n:Nat} {l:HL}
variable {d:Option Tmp} {type:TypeId} {pos:String} {after:Array Edge} {guard:Option (Nat×Bool)}
def killU:Option Nat→HL→HL
  | none,l=>l
  | some j,l=>(j,none)::l
theorem Ope.apV {o':Option Nat} {t tx sz bytes sz' bytes':Nat} {agg agg':Bool} {x y:Operand} {tl':Tail} {vs ws:List PV} [hs:Slc C.A t agg sz bytes] [hs':Slc C.A tx agg' sz' bytes'] (hx:pev (lget e) x=some (.sl (tlU o') vs)) (hy:pev (lget e) y=some (.sl tl' ws)) (hne:ws≠[]) (ho:∀ j,o'=some j→vs≠[]∧hget l j=some .own)
    (hb1:(vs.length+ws.length) * bytes≤140737488355328) (hb2:vs.length+ws.length≤1000000000) (h1:1≤sz) (hv:∀ v∈vs,v.nc=sz) (hw:∀ v∈ws,v.nc=sz∧PV.allOne v.cells=true) (hK:K (.sl (.own n) (vs++ws)) (HE (n+1) ((n,some .own)::killU o' l))) :
    Ope C X { dst:=d,op:=.call { callee:=.builtin .append,args:=#[x,y],argTypes:=#[t,tx] },type,pos,after,guard } e ds (HE n l) K:=by
  cases o' with
  | none=>exact Ope.apO hx hy hne hb1 hb2 h1 hv hw hK
  | some j =>
    obtain ⟨h2,h3⟩:=ho j rfl
    exact Ope.apP hx hy hne h2 h3 hb1 hb2 h1 hv hw hK
theorem Ope.apXE {t tx sz bytes sz' bytes':Nat} {agg agg':Bool} {x y:Operand} {tl':Tail} {vs ws:List PV} [hs:Slc C.A t agg sz bytes] [hs':Slc C.A tx agg' sz' bytes'] (hx:pev (lget e) x=some (.sl .ex vs)) (hy:pev (lget e) y=some (.sl tl' ws))
    (hb1:(vs.length+ws.length) * bytes≤140737488355328) (hb2:vs.length+ws.length≤1000000000) (h1:1≤sz) (hv:∀ v∈vs,v.nc=sz) (hw:∀ v∈ws,v.nc=sz∧PV.allOne v.cells=true) (hK:∀ te n',n≤n'→K (.sl te (vs++ws)) (HE n' l)) :
    Ope C X { dst:=d,op:=.call { callee:=.builtin .append,args:=#[x,y],argTypes:=#[t,tx] },type,pos,after,guard } e ds (HE n l) K:=by
  by_cases hne:ws=[]
  · subst hne
    have h:=hK .ex n (Nat.le_refl _)
    rw [List.append_nil] at h
    exact Ope.ap0 hx hy h
  · exact Ope.apX hx hy hne hb1 hb2 h1 hv hw (hK .no (n+1) (Nat.le_succ _))
theorem Ope.cfW {f:Operand} {args:Array Operand} {tys:Array TypeId} {g:Nat} {fs ar cp args':List PV} {v:PV} (hf:pev (lget e) f=some (.fn (.func g) fs cp)) (ha:pargs (pev (lget e)) args.toList=some ar)
    (hw:∀ (s:St) (xs:List Value),RVs s (fs++ar++cp) xs→RVs s args' xs) (hc:Fn C.P g args' v) (hb:PV.bds 0 args'=true) (hK:K v (HE n l)):Ope C X { dst:=d,op:=.call { callee:=.value f,args,argTypes:=tys },type,pos,after,guard } e ds (HE n l) K :=
  Ope.callW hf ha hw (Nat.le_refl _) (fun _ _ h=>h) (hc.call (K:=fun v' h'=>v'=v∧h'=HE n l) hb ⟨rfl,rfl⟩) fun v' h' hq=>by
    obtain ⟨rfl,rfl⟩:=hq
    exact hK
end
theorem weak2 {s:St} {a:PV} {tl tl':Tail} {vs vs' ws ws':List PV} (hv:vs=vs') (hw:ws=ws') {xs:List Value} (h:RVs s [a,.sl tl vs,.sl tl' ws] xs):RVs s [a,.sl .no vs',.sl .no ws'] xs:=by
  subst hv hw
  obtain ⟨y1,r1,rfl,h1,h⟩:=RVs_cons.1 h
  obtain ⟨y2,r2,rfl,h2,h⟩:=RVs_cons.1 h
  obtain ⟨y3,r3,rfl,h3,h⟩:=RVs_cons.1 h
  exact RVs_cons.2 ⟨_,_,rfl,h1,RVs_cons.2 ⟨_,_,rfl,RV_tl_no h2,RVs_cons.2 ⟨_,_,rfl,RV_tl_no h3,h⟩⟩⟩
def cntN (p:Nat→Bool):Nat→Nat
  | 0=>0
  | m+1=>cntN p m+if p m=true then 1 else 0
theorem cntN_len (p:Nat→Bool):∀ m,cntN p m=((List.range m).filter p).length
  | 0=>rfl
  | m + 1 => by
    rw [List.range_succ,List.filter_append,List.length_append,← cntN_len p m,List.filter_cons,List.filter_nil]
    show cntN p m+_=_
    split<;>rfl
theorem cntN_le (p:Nat→Bool):∀ m,cntN p m≤m
  | 0=>Nat.le_refl _
  | m + 1 => by
    have:=cntN_le p m
    show cntN p m+(if p m=true then 1 else 0)≤m+1
    split<;>omega
def cndP (kk ki rk ri hk hi wi:Int) (k i:Nat):Prop:=k≠i∧kk=ki∧rk=ri∧hk≤hi∧(hk < hi∨k < i)∧hi - hk≤wi
instance (kk ki rk ri hk hi wi:Int) (k i:Nat):Decidable (cndP kk ki rk ri hk hi wi k i):=by unfold cndP;infer_instance
def Fns.cnd (f:Fns) (ri ho:List Int) (i k:Nat):Bool:=decide (cndP (f.ofc k).kd (f.ofc i).kd (ri.getD k 0) (ri.getD i 0) (ho.getD k 0) (ho.getD i 0) (f.rule (f.ofc i).kd).wi k i)
theorem cnd_bool (a1 a2 a3 a4 a5 a6 a7:Int) (k i:Nat) (hki:k=i→a5=a6):(((decide (a1=a2) && decide (a3=a4)) && decide (a6 - a7≤a5)) && (if a5=a6 then decide (k < i) else decide (a5 < a6)))=decide (cndP a1 a2 a3 a4 a5 a6 a7 k i):=by
  rw [Bool.eq_iff_iff,decide_eq_true_eq]
  unfold cndP
  by_cases h:a5=a6
  · rw [if_pos h]
    simp only [Bool.and_eq_true,decide_eq_true_eq]
    omega
  · rw [if_neg h]
    simp only [Bool.and_eq_true,decide_eq_true_eq]
    constructor
    · rintro ⟨⟨⟨b1, b2⟩, b3⟩, b4⟩
      exact ⟨fun e=>h (hki e),b1,b2,by omega,.inl b4,by omega⟩
    · rintro ⟨b0, b1, b2, b3, b4, b5⟩
      exact ⟨⟨⟨b1,b2⟩,by omega⟩,by omega⟩
theorem exa_at (f:Fns) (ri ho:List Int) {n i:Nat} (hi:i < (f.exa (f.dl ri ho n)).length):(f.exa (f.dl ri ho n))[i]=min (f.rule (f.ofc i).kd).mo ((f.rule (f.ofc i).kd).ba+(f.rule (f.ofc i).kd).st * (cntN (f.cnd ri ho i) n:Nat)):=by
  have hd:f.dl ri ho n=(List.range n).map fun (k:Nat)=>(⟨(f.ofc k).kd,k,ri.getD k 0,ho.getD k 0⟩:Deed):=rfl
  have hin:i < n:=by
    unfold Fns.exa at hi
    rw [List.length_map,dl_len] at hi
    exact hi
  have e0:(f.exa (f.dl ri ho n))[i]=f.cin (f.dl ri ho n) ((f.dl ri ho n)[i]'(by rw [dl_len];exact hin)):=List.getElem_map ..
  have hdi:(f.dl ri ho n)[i]'(by rw [dl_len];exact hin)=⟨(f.ofc i).kd,i,ri.getD i 0,ho.getD i 0⟩:=by
    simp [Fns.dl]
  rw [e0,hdi]
  unfold Fns.cin Fns.cst Fns.earl
  rw [cntN_len]
  congr 4
  rw [hd,List.filter_map,List.filter_map,List.length_map,List.filter_filter]
  congr 1
  refine List.filter_congr fun k _=>?_
  exact cnd_bool _ _ _ _ _ _ _ k i fun e=>by rw [e]
end Go.Pv
namespace Go.Pv
open Go.Proofs Go.Am
set_option maxRecDepth 10000
theorem kn_ok {f:Fns} {ri ho:List Int} (h1:ri.length=f.li.length) (h2:ho.length=f.li.length) (h3:∀ x∈ri,0≤x∧x < f.n) (h4:∀ x∈ho,0≤x∧x≤144):f.knB ri ho=true:=by
  unfold Fns.knB knN
  simp only [Bool.and_eq_true,decide_eq_true_eq,List.all_eq_true]
  refine ⟨⟨h1,h2⟩,fun i hi=>?_⟩
  have hi:=List.mem_range.1 hi
  have a1:=h3 _ (getD_mem (i:=i) (by omega))
  have a2:=h4 _ (getD_mem (i:=i) (by omega))
  simp only [numB,upB,Bool.and_eq_true,decide_eq_true_eq]
  exact ⟨a1,a2⟩
theorem kn_at {f:Fns} {ri ho:List Int} (hl:0 < f.li.length) (h:(numB f.n (ri.getD 0 0) && upB 144 (ho.getD 0 0))=false):f.knB ri ho=false:=by
  unfold Fns.knB
  rw [knN_no hl h,Bool.and_false]
theorem kn_len1 {f:Fns} {ri ho:List Int} (h:ri.length≠f.li.length):f.knB ri ho=false:=by
  unfold Fns.knB
  rw [decide_eq_false h,Bool.false_and,Bool.false_and]
theorem kn_len2 {f:Fns} {ri ho:List Int} (h:ho.length≠f.li.length):f.knB ri ho=false:=by
  unfold Fns.knB
  rw [decide_eq_false h,Bool.and_false,Bool.false_and]
theorem tolL_no {f:Fns} (h:f.B=true) (t:Tail) (xs:List Int):tolL f false t xs=.tup [.sl .ex [],I 2]:=by unfold tolL;rw [if_pos h,if_neg (by decide)]
theorem tolL_ba {f:Fns} (h:f.B=false) (b:Bool) (t:Tail) (xs:List Int):tolL f b t xs=.tup [.sl .ex [],I 1]:=by unfold tolL;rw [if_neg (by rw [h];decide)]
theorem tolS_ba {f:Fns} (h:f.B=false) (b:Bool) (e:Spn):tolS f b e=.tup [.agg [I 0,I 0],I 1]:=by unfold tolS;rw [if_neg (by rw [h];decide)]
section
variable (f:Fns) {t1 t2:Tail} (h1:t1.isOwn=false) (h2:t2.isOwn=false)
include h1 h2
theorem f6l (tb:Tail) (xs:List Nat) (hl:f.lng=true):Fn P0 6 [f.v t1 t2,.sl tb (xs.map U16)] (B true):=by
  have hlo:=f30n f h1 h2
  rw [hl] at hlo
  have hb:PV.bds 0 [f.v t1 t2,.sl .ex []]=true:=bd_fnsV f h1 h2 rfl
  refine PFun.of (C:=c6) (cx_ok _ _ _) rfl (fn:=Tryz.f6) (by kernel_rfl) (c:=_) rfl rfl rfl ?_
  refine Run.seq (Run.region (cx_ok _ _ _) (Reg.op rfl (Ope.boxF rfl rfl ?_)))
  refine Reg.op rfl (Ope.asg rfl ?_)
  refine Reg.nil (Run.seq (Run.seq (Run.region (cx_ok _ _ _) (Reg.op rfl (Ope.load rfl rfl ?_)))))
  refine Reg.op rfl (Ope.cf rfl rfl hlo hb ?_)
  refine Reg.nil (Run.condT rfl (Run.seq (Run.region (cx_ok _ _ _) (Reg.op rfl (Ope.cf rfl rfl (aliveF) rfl ?_)))))
  refine Reg.op rfl (Ope.asg rfl ?_)
  exact Reg.nil (Run.ret (Jmp.code (fin_ret (.tmp rfl .nil) rfl rfl)))
theorem f6n (hS : f.ru.length ≤ 9223372036854775807) (hJ : f.li.length ≤ 9223372036854775807) (tb : Tail) (xs : List Nat) (hl : f.lng = false) (hv : f.B = false) : Fn P0 6 [f.v t1 t2, .sl tb (xs.map U16)] (B true) := by
  have hlo:=f30n f h1 h2
  rw [hl] at hlo
  have hb:PV.bds 0 [f.v t1 t2,.sl .ex []]=true:=bd_fnsV f h1 h2 rfl
  have hb0:PV.bds 0 [f.v t1 t2]=true:=bd_fnsV f h1 h2 rfl
  have hb2:PV.bds 0 [f.v t1 t2,.sl .ex (([]:List Int).map I),.sl .ex (([]:List Int).map I)]=true:=bd_fnsV f h1 h2 rfl
  have hfi:=f26 f h1 h2 hS hJ
  rw [hv] at hfi
  obtain ⟨t3,ht3,hex⟩:=f21 f h1 h2 hS hJ .ex .ex rfl rfl [] []
  rw [tolL_ba hv] at hex
  have hto:=f19 f h1 h2 hS hJ
  rw [tolS_ba hv] at hto
  refine PFun.of (C:=c6) (cx_ok _ _ _) rfl (fn:=Tryz.f6) (by kernel_rfl) (c:=_) rfl rfl rfl ?_
  refine Run.seq (Run.region (cx_ok _ _ _) (Reg.op rfl (Ope.boxF rfl rfl ?_)))
  refine Reg.op rfl (Ope.asg rfl ?_)
  refine Reg.nil (Run.seq (Run.seq (Run.region (cx_ok _ _ _) (Reg.op rfl (Ope.load rfl rfl ?_)))))
  refine Reg.op rfl (Ope.cf rfl rfl hlo hb ?_)
  refine Reg.nil (Run.condF rfl (Run.skip (Run.seq (Run.seq (Run.region (cx_ok _ _ _) (Reg.op rfl (Ope.load rfl rfl ?_)))))))
  refine Reg.op rfl (Ope.cf rfl rfl hfi hb0 ?_)
  refine Reg.op rfl (Ope.not rfl ?_)
  refine Reg.nil (Run.condT rfl (Run.seq (Run.region (cx_ok _ _ _) (Reg.op rfl (Ope.load rfl rfl ?_)))))
  refine Reg.op rfl (Ope.cf rfl rfl hex hb2 ?_)
  refine Reg.op rfl (Ope.mov rfl ?_)
  refine Reg.op rfl (Ope.ext rfl rfl ?_)
  refine Reg.op rfl (Ope.ext rfl rfl ?_)
  refine Reg.op rfl (Ope.asg rfl ?_)
  refine Reg.op rfl (Ope.asg rfl ?_)
  refine Reg.nil (Run.seq (Run.region (cx_ok _ _ _) (Reg.op rfl (Ope.load rfl rfl ?_))))
  refine Reg.op rfl (Ope.cf rfl rfl hto hb0 ?_)
  refine Reg.op rfl (Ope.mov rfl ?_)
  refine Reg.op rfl (Ope.ext rfl rfl ?_)
  refine Reg.op rfl (Ope.ext rfl rfl ?_)
  refine Reg.op rfl (Ope.newL rfl ?_)
  refine Reg.op0 (Ope.store rfl rfl rfl rfl rfl rfl ?_)
  refine Reg.op rfl (Ope.asg rfl ?_)
  refine Reg.nil (Run.seq (Run.region (cx_ok _ _ _) (Reg.op rfl (Ope.mov rfl ?_))))
  refine Reg.op rfl (Ope.eq rfl rfl ?_)
  refine Reg.op rfl (Ope.mov rfl ?_)
  refine Reg.splitX rfl rfl (fun hg=>?_) fun hg=>?_
  ·first
   |(first | exact absurd rfl hg | (exact absurd hg (by decide)))
   |refine Reg.on rfl rfl rfl (Ope.mov rfl ?_)
    refine Reg.on rfl rfl rfl (Ope.len (m:=0) rfl rfl ?_)
    refine Reg.on rfl rfl rfl (Ope.eq rfl rfl ?_)
    refine Reg.op rfl (Ope.pickT rfl rfl ?_)
    refine Reg.op rfl (Ope.mov rfl ?_)
    refine Reg.splitX rfl rfl (fun hg=>?_) fun hg=>?_
    ·first
     |(first | exact absurd rfl hg | (exact absurd hg (by decide)))
     |refine Reg.on rfl rfl rfl (Ope.mov rfl ?_)
      refine Reg.on rfl rfl rfl (Ope.mov rfl ?_)
      refine Reg.on rfl rfl rfl (Ope.eq rfl rfl ?_)
      refine Reg.op rfl (Ope.pickT rfl rfl ?_)
      refine Reg.op rfl (Ope.mov rfl ?_)
      refine Reg.splitX rfl rfl (fun hg=>?_) fun hg=>?_
      ·first
       |(first | exact absurd rfl hg | (exact absurd hg (by decide)))
       |refine Reg.on rfl rfl rfl (Ope.cf rfl rfl (aliveF) rfl ?_)
        refine Reg.op rfl (Ope.pickT rfl rfl ?_)
        refine Reg.op rfl (Ope.asg rfl ?_)
        exact Reg.nil (Run.ret (Jmp.code (fin_ret (.tmp rfl .nil) rfl rfl)))
      ·first
       |(first | exact absurd rfl hg | (exact absurd hg (by decide)))
       |refine Reg.off rfl rfl rfl (Reg.op rfl (Ope.pickF rfl rfl ?_))
        refine Reg.op rfl (Ope.asg rfl ?_)
        exact Reg.nil (Run.ret (Jmp.code (fin_ret (.tmp rfl .nil) rfl rfl)))
    ·first
     |(first | exact absurd rfl hg | (exact absurd hg (by decide)))
     |refine Reg.off rfl rfl rfl (Reg.off rfl rfl rfl (Reg.off rfl rfl rfl (Reg.op rfl (Ope.pickF rfl rfl ?_))))
      refine Reg.op rfl (Ope.mov rfl ?_)
      refine Reg.off rfl rfl rfl (Reg.op rfl (Ope.pickF rfl rfl ?_))
      refine Reg.op rfl (Ope.asg rfl ?_)
      exact Reg.nil (Run.ret (Jmp.code (fin_ret (.tmp rfl .nil) rfl rfl)))
  ·first
   |(first | exact absurd rfl hg | (exact absurd hg (by decide)))
   |refine Reg.off rfl rfl rfl (Reg.off rfl rfl rfl (Reg.off rfl rfl rfl (Reg.op rfl (Ope.pickF rfl rfl ?_))))
    refine Reg.op rfl (Ope.mov rfl ?_)
    refine Reg.off rfl rfl rfl (Reg.off rfl rfl rfl (Reg.off rfl rfl rfl (Reg.op rfl (Ope.pickF rfl rfl ?_))))
    refine Reg.op rfl (Ope.mov rfl ?_)
    refine Reg.off rfl rfl rfl (Reg.op rfl (Ope.pickF rfl rfl ?_))
    refine Reg.op rfl (Ope.asg rfl ?_)
    exact Reg.nil (Run.ret (Jmp.code (fin_ret (.tmp rfl .nil) rfl rfl)))
end
end Go.Pv
namespace Go.Pv
open Go.Proofs Go.Am
set_option maxRecDepth 10000
set_option maxHeartbeats 2000000
theorem killU_at {o:Option Nat} {l:HL} {i:Nat} (h:∀ j,o=some j→j≠i):hget (killU o l) i=hget l i:=by
  cases o with
  | none=>rfl
  | some j=>exact hget_tl (Ne.symm (h j rfl))
theorem hs_ownU {o:Option Nat} {l:HL} (h:∀ j,o=some j→hget l j=some .own):∀ i b,hget (ownU o++[]) i=some b→hget l i=some b:=by
  intro i b hb
  cases o with
  | none=>cases hb
  | some j =>
    by_cases hi:i=j
    · subst hi
      have:hget (ownU (some i)++[]) i=some .own:=hget_hd
      rw [this] at hb
      rw [h i rfl,hb]
    · have : hget (ownU (some j) ++ []) i = none := hget_tl hi
      rw [this] at hb
      cases hb
section
variable (f:Fns) {t1 t2:Tail} (h1:t1.isOwn=false) (h2:t2.isOwn=false)
include h1 h2
theorem f6v (hf : f.ok) (tb : Tail) (xs : List Nat) (hx : ∀ x ∈ xs, x < 65536) : Fn P0 6 [f.v t1 t2, .sl tb (xs.map U16)] (B true) := by
  have hl5:=hf.li
  have hr4:=hf.ru
  have hS:f.ru.length≤9223372036854775807:=by omega
  have hJ:f.li.length≤9223372036854775807:=by omega
  have hv:=fns_B f hf
  have hlo:=f30n f h1 h2
  rw [show f.lng=false from decide_eq_false (by omega)] at hlo
  have hb:PV.bds 0 [f.v t1 t2,.sl .ex []]=true:=bd_fnsV f h1 h2 rfl
  have hb0:PV.bds 0 [f.v t1 t2]=true:=bd_fnsV f h1 h2 rfl
  have hb2:∀ ri ho:List Int,PV.bds 0 [f.v t1 t2,.sl .no (ri.map I),.sl .no (ho.map I)]=true:=fun ri ho=>bd_fnsV f h1 h2 (bds_cons (bd_sl (f:=I) (tl:=.no) rfl (fun _=>rfl) _) (bds_cons (bd_sl (f:=I) (tl:=.no) rfl (fun _=>rfl) _) rfl))
  have hfi:=f26 f h1 h2 hS hJ
  rw [hv] at hfi
  have hexY:∀ ri ho,f.knB ri ho=true→∃ (t3:Tail) (X:List Int),t3.isOwn=false∧X.length=f.li.length∧(∀ i (h:i < X.length),X[i]=min (f.rule (f.ofc i).kd).mo ((f.rule (f.ofc i).kd).ba+(f.rule (f.ofc i).kd).st * ((cntN (f.cnd ri ho i) f.li.length:Nat):Int)))∧Fn P0 21 [f.v t1 t2,.sl .no (ri.map I),.sl .no (ho.map I)] (.tup [.sl t3 (X.map I),I 0]):=fun ri ho hk=>by
    obtain ⟨t3,ht3,h⟩:=f21 f h1 h2 hS hJ .no .no rfl rfl ri ho
    rw [hk,tolL_ok hv] at h
    exact ⟨t3,_,ht3,by unfold Fns.exa;rw [List.length_map,dl_len],fun i h=>exa_at f ri ho h,h⟩
  have hexN:∀ ri ho,f.knB ri ho=false→Fn P0 21 [f.v t1 t2,.sl .no (ri.map I),.sl .no (ho.map I)] (.tup [.sl .ex [],I 2]):=fun ri ho hk=>by
    obtain ⟨t3,ht3,h⟩:=f21 f h1 h2 hS hJ .no .no rfl rfl ri ho
    rw [hk,tolL_no hv] at h
    exact h
  obtain ⟨kn,hkn,hk6⟩:∃ k:Nat,f.n=(k:Int)∧(0 < k∧k≤6):=⟨f.n.toNat,by have:=hf.n;omega,by have:=hf.n;omega⟩
  have hdr:=fun (n l)=>f28 tb xs n l
  have hd1:=fun (n:Nat) (hn:0 < n∧n≤1000) (k:Nat) (hk:k≤100000) (m:Nat) (l:HL) hl=>f63 tb xs hx 0 n hn k hk m l hl
  have hkY:=@kn_ok f
  have hk0:=@kn_at f
  have hkl1:=@kn_len1 f
  have hkl2:=@kn_len2 f
  have hof:=fun {i:Nat} (h:i < f.li.length)=>Fns.ofc_at (f:=f) h
  have hli:=hf.lv
  have hru:=fun {k:Nat} (h:k < f.ru.length)=>Fns.rule_at (f:=f) h
  have hrv:=fun k=>hf.rule k
  have hcd:∀ ri ho i k,f.cnd ri ho i k=decide (cndP (f.ofc k).kd (f.ofc i).kd (ri.getD k 0) (ri.getD i 0) (ho.getD k 0) (ho.getD i 0) (f.rule (f.ofc i).kd).wi k i):=fun _ _ _ _=>rfl
  generalize f.knB=KN at *
  generalize f.cnd=CN at *
  generalize f.rule=RU at *
  generalize f.ofc=OF at *
  obtain ⟨ru,n,li⟩:=f
  simp only at hkn
  subst hkn
  simp only at hl5 hr4 hkY hk0 hkl1 hkl2 hexY hof hli hru
  refine PFun.of (C:=c6) (cx_ok _ _ _) rfl (fn:=Tryz.f6) (by kernel_rfl) (c:=_) rfl rfl rfl ?_
  refine Run.seq (Run.region (cx_ok _ _ _) (Reg.op rfl (Ope.boxF rfl rfl ?_)))
  refine Reg.op rfl (Ope.asg rfl ?_)
  refine Reg.nil (Run.seq (Run.seq (Run.region (cx_ok _ _ _) (Reg.op rfl (Ope.load rfl rfl ?_)))))
  refine Reg.op rfl (Ope.cf rfl rfl hlo hb ?_)
  refine Reg.nil (Run.condF rfl (Run.skip (Run.seq (Run.seq (Run.region (cx_ok _ _ _) (Reg.op rfl (Ope.load rfl rfl ?_)))))))
  refine Reg.op rfl (Ope.cf rfl rfl hfi hb0 ?_)
  refine Reg.op rfl (Ope.not rfl ?_)
  refine Reg.nil (Run.condF rfl (Run.skip (Run.seq (Run.region (cx_ok _ _ _) (Reg.op rfl (Ope.mov rfl ?_))))))
  refine Reg.op rfl (Ope.call rfl rfl rfl ((hdr _ _).mono (fun v h' q=>?_) fun _ _ q=>q.elim))
  obtain ⟨rfl,rfl⟩:=q
  refine Reg.op rfl (Ope.asg rfl ?_)
  refine Reg.nil (Run.seq (Run.region (cx_ok _ _ _) (Reg.op rfl (Ope.asg rfl ?_))))
  refine Reg.op rfl (Ope.asg rfl ?_)
  refine Reg.nil (Run.seq (Run.seq (Run.region (cx_ok _ _ _) (Reg.op rfl (Ope.fld rfl rfl ?_)))))
  refine Reg.op rfl (Ope.load rfl rfl ?_)
  refine Reg.op rfl (Ope.len (m:=li.length) rfl (by simp) ?_)
  refine Reg.op rfl (Ope.mov rfl ?_)
  refine Reg.nil (Run.block ?_)
  refine Run.loop (α:=Nat×Nat×Option Nat×Option Nat×List Int×List Int×HL) (fun t=>[(2,.fp ((⟨ru,(kn:Int),li⟩:Fns).v t1 t2)),(9,.fn (.func 63) [] [.ptr 0 0,.fp (.sl tb (xs.map U16))]),(10,.sl (tlU t.2.2.1) (t.2.2.2.2.1.map I)),(11,.sl (tlU t.2.2.2.1) (t.2.2.2.2.2.1.map I)),(69,I li.length),(70,I t.1)]) (fun t=>HE t.2.1 t.2.2.2.2.2.2) (fun t=>t.1≤li.length∧0 < t.2.1∧hget t.2.2.2.2.2.2 0=some (.cells [I ((2 * t.1:Nat):Int)])∧(∀ j,t.2.2.1=some j→0 < j∧j < t.2.1∧hget t.2.2.2.2.2.2 j=some .own∧0 < t.1)∧(∀ j,t.2.2.2.1=some j→0 < j∧j < t.2.1∧hget t.2.2.2.2.2.2 j=some .own∧0 < t.1∧t.2.2.1≠some j)∧t.2.2.2.2.1.length=t.1∧t.2.2.2.2.2.1.length=t.1∧(∀ x∈t.2.2.2.2.1,0≤x∧x < (kn:Int))∧(∀ x∈t.2.2.2.2.2.1,0≤x∧x≤144)) (fun t=>li.length - t.1) (0,1,none,none,[],[],[(0,some (.cells [I 0]))]) ⟨rfl,rfl,rfl,rfl,rfl,rfl,trivial⟩ rfl ⟨Nat.zero_le _,Nat.zero_lt_one,rfl,(fun j h=>by cases h),(fun j h=>by cases h),rfl,rfl,(fun x h=>(List.not_mem_nil h).elim),(fun x h=>(List.not_mem_nil h).elim)⟩ (fun t ht=>?_)
  obtain ⟨i,m,o1,o2,ri,ho,l⟩:=t
  obtain ⟨hi,hm0,hl0,hO1,hO2,hrl,hhl,hrb,hhb⟩:=ht
  simp only at hi hm0 hl0 hO1 hO2 hrl hhl hrb hhb
  show Run _ _ _ _ [(2,.fp ((⟨ru,(kn:Int),li⟩:Fns).v t1 t2)),(9,.fn (.func 63) [] [.ptr 0 0,.fp (.sl tb (xs.map U16))]),(10,.sl (tlU o1) (ri.map I)),(11,.sl (tlU o2) (ho.map I)),(69,I li.length),(70,I i)] [] (HE m l)
  refine Run.seq (Run.region (cx_ok _ _ _) (Reg.op rfl (Ope.lt rfl rfl ?_)))
  refine Reg.nil (Run.seq (Run.condX rfl (fun hc=>?_) fun hc=>?_))
  ·refine Run.skip (Run.seq (Run.block ?_))
   have hlt:i < li.length:=by omega
   have hA1:∀ d k':Int,∀ j,o1=some j→ri.map I≠[]∧hget ((0,some (.cells [I k']))::l) j=some .own:=fun d k' j hj=>⟨fun e=>by have hz:ri.length=0:=(by have:=congrArg List.length e;simpa using this);have:=(hO1 j hj).2.2.2;omega,(hget_tl (by have:=(hO1 j hj).1;omega)).trans (hO1 j hj).2.2.1⟩
   have hk1:∀ j,o1=some j→j≠0:=fun j hj=>by have:=(hO1 j hj).1;omega
   have hA2:∀ k' k'':Int,∀ j,o2=some j→ho.map I≠[]∧hget ((0,some (.cells [I k'']))::(m,some .own)::killU o1 ((0,some (.cells [I k']))::l)) j=some .own:=fun k' k'' j hj=>⟨fun e=>by have hz:ho.length=0:=(by have:=congrArg List.length e;simpa using this);have:=(hO2 j hj).2.2.2.1;omega,(hget_tl (by have:=(hO2 j hj).1;omega)).trans ((hget_tl (by have:=(hO2 j hj).2.1;omega)).trans ((killU_at (fun q hq e=>(hO2 j hj).2.2.2.2 (by rw [hq,e]))).trans ((hget_tl (by have:=(hO2 j hj).1;omega)).trans (hO2 j hj).2.2.1)))⟩
   refine Run.region (cx_ok _ _ _) (Reg.op rfl (Ope.mov rfl ?_))
   refine Reg.op rfl (Ope.mov rfl ?_)
   refine Reg.op rfl (Ope.fld rfl rfl ?_)
   refine Reg.op rfl (Ope.load rfl rfl ?_)
   refine Reg.op rfl (Ope.call rfl rfl rfl ((hd1 kn (by omega) (2 * i) (by omega) _ _ hl0).mono (fun v h' q=>?_) fun _ _ q=>q.elim))
   obtain ⟨d1,hdl1,rfl,rfl⟩:=q
   refine Reg.op rfl (Ope.bsl rfl rfl rfl rfl ?_)
   refine Reg.op rfl (Ope.apV (o':=o1) (vs:=ri.map I) (ws:=[I d1]) rfl rfl (by simp) (hA1 0 _) (by simp only [List.length_map,List.length_singleton];omega) (by simp only [List.length_map,List.length_singleton];omega) (by decide) (by intro v hv;obtain ⟨_,_,rfl⟩:=List.mem_map.1 hv;rfl) (by intro v hv;simp only [List.mem_singleton] at hv;subst hv;exact ⟨rfl,rfl⟩) ?_)
   refine Reg.op rfl (Ope.mov rfl ?_)
   refine Reg.op rfl (Ope.mov rfl ?_)
   refine Reg.op rfl (Ope.call rfl rfl rfl ((hd1 20 (by omega) (2 * i+1) (by omega) _ _ ((hget_tl (by omega)).trans ((killU_at hk1).trans hget_hd))).mono (fun v h' q=>?_) fun _ _ q=>q.elim))
   obtain ⟨d2,hdl2,rfl,rfl⟩:=q
   refine Reg.op rfl (Ope.bsl rfl rfl rfl rfl ?_)
   refine Reg.op rfl (Ope.apV (o':=o2) (vs:=ho.map I) (ws:=[I d2]) rfl rfl (by simp) (hA2 _ _) (by simp only [List.length_map,List.length_singleton];omega) (by simp only [List.length_map,List.length_singleton];omega) (by decide) (by intro v hv;obtain ⟨_,_,rfl⟩:=List.mem_map.1 hv;rfl) (by intro v hv;simp only [List.mem_singleton] at hv;subst hv;exact ⟨rfl,rfl⟩) ?_)
   refine Reg.op rfl (Ope.asg rfl ?_)
   refine Reg.op rfl (Ope.asg rfl ?_)
   refine Reg.nil (Run.bend (Run.region (cx_ok _ _ _) (Reg.op rfl (Ope.add rfl rfl (by omega) ?_))))
   refine Reg.op rfl (Ope.mov rfl ?_)
   refine Reg.nil ?_
   exact Run.lend ⟨(i+1,m+2,some m,some (m+1),ri++[(d1:Int)],ho++[(d2:Int)],_),by show li.length - (i+1) < li.length - i;omega,⟨by show i+1≤li.length;omega,by show 0 < m+2;omega,(hget_tl (by omega)).trans ((killU_at (fun j hj=>by have:=(hO2 j hj).1;omega)).trans (hget_hd.trans (by show some (PBlk.cells [I ((2 * i+1+1:Nat):Int)])=some (PBlk.cells [I ((2 * (i+1):Nat):Int)]);rw [show 2 * i+1+1=2 * (i+1) by omega]))),fun j hj=>by cases hj;exact ⟨hm0,by show m < m+2;omega,(hget_tl (by omega)).trans ((killU_at (fun j hj=>by have:=(hO2 j hj).2.1;omega)).trans ((hget_tl (by omega)).trans hget_hd)),by show 0 < i+1;omega⟩,fun j hj=>by cases hj;exact ⟨by show 0 < m+1;omega,by show m+1 < m+2;omega,hget_hd,by show 0 < i+1;omega,by intro h;have:=Option.some.inj h;omega⟩,by show (ri++[(d1:Int)]).length=i+1;rw [List.length_append,hrl];rfl,by show (ho++[(d2:Int)]).length=i+1;rw [List.length_append,hhl];rfl,fun x hx=>by
     rcases List.mem_append.1 hx with hx | hx
     · exact hrb x hx
     · rw [List.mem_singleton.1 hx];omega,fun x hx=>by
     rcases List.mem_append.1 hx with hx | hx
     · exact hhb x hx
     · rw [List.mem_singleton.1 hx];omega⟩,⟨rfl,rfl,congrArg (fun l=>some (PV.sl (.own m) l)) (by rw [List.map_append];rfl),congrArg (fun l=>some (PV.sl (.own (m+1)) l)) (by rw [List.map_append];rfl),rfl,rfl,trivial⟩,rfl,rfl⟩
  ·refine Run.exit (Jmp.code (Jmp.round (Jmp.here (Run.seq ?_))))
   obtain rfl:i=li.length:=by omega
   have hno:∀ j,o2=some j→j < m:=fun j hj=>(hO2 j hj).2.1
   have hne2:∀ j,o2=some j→ho.map I≠[]:=fun j hj e=>by
     have hz:ho.length=0:=(by have:=congrArg List.length e;simpa using this)
     have:=(hO2 j hj).2.2.2.1;omega
   refine Run.wideS (m:=m) (l':=ownU o2++[]) (Nat.le_refl _) (hs_ownU fun j hj=>(hO2 j hj).2.2.1) ?_
   refine Run.weakT (d:=10) rfl ?_
   have hkk:=hkY hrl hhl hrb hhb
   obtain ⟨t3,X,ht3,hXl',hXa',hex⟩:=hexY ri ho hkk
   have hbb:=hb2 ri ho
   refine Run.region (cx_ok _ _ _) (Reg.op rfl (Ope.load rfl rfl ?_))
   refine Reg.op rfl (Ope.mov rfl ?_)
   refine Reg.op rfl (Ope.mov rfl ?_)
   refine Reg.op rfl (Ope.cfW rfl rfl (fun s xs h=>weak2 rfl rfl h) hex hbb ?_)
   refine Reg.op rfl (Ope.mov rfl ?_)
   refine Reg.op rfl (Ope.ext rfl rfl ?_)
   refine Reg.op rfl (Ope.ext rfl rfl ?_)
   refine Reg.op rfl (Ope.asg rfl ?_)
   refine Reg.op rfl (Ope.asg rfl ?_)
   refine Reg.nil (Run.seq (Run.seq (Run.region (cx_ok _ _ _) (Reg.op rfl (Ope.mov rfl ?_)))))
   refine Reg.op rfl (Ope.ne rfl rfl ?_)
   refine Reg.op rfl (Ope.mov rfl ?_)
   refine Reg.splitX rfl rfl (fun hg=>?_) fun hg=>?_
   ·(exfalso;omega)
   ·refine Reg.on rfl rfl rfl (Ope.mov rfl ?_)
    refine Reg.on rfl rfl rfl (Ope.len (m:=X.length) rfl (by simp) ?_)
    refine Reg.on rfl rfl rfl (Ope.fld rfl rfl ?_)
    refine Reg.on rfl rfl rfl (Ope.load rfl rfl ?_)
    refine Reg.on rfl rfl rfl (Ope.len (m:=li.length) rfl (by simp) ?_)
    refine Reg.on rfl rfl rfl (Ope.ne rfl rfl ?_)
    refine Reg.op rfl (Ope.pickF rfl rfl ?_)
    refine Reg.nil (Run.condX rfl (fun hc=>?_) fun hc=>?_)
    ·(exfalso;omega)
    ·refine Run.skip (Run.seq (Run.seq (Run.region (cx_ok _ _ _) (Reg.op rfl (Ope.fld rfl rfl ?_)))))
     refine Reg.op rfl (Ope.load rfl rfl ?_)
     refine Reg.op rfl (Ope.len (m:=li.length) rfl (by simp) ?_)
     refine Reg.op rfl (Ope.mov rfl ?_)
     refine Reg.nil (Run.block (Run.loop (α:=Nat×Nat) (fun t=>[(2,.fp ((⟨ru,(kn:Int),li⟩:Fns).v t1 t2)),(10,.sl .no (ri.map I)),(11,.sl (tlU o2) (ho.map I)),(12,.sl t3 (X.map I)),(103,.sl t2 (li.map Ofc.v)),(104,I li.length),(105,I t.1)]) (fun t=>HE t.2 (ownU o2++[])) (fun t=>t.1≤li.length∧m≤t.2) (fun t=>li.length - t.1) (0,m) ⟨rfl,rfl,rfl,rfl,rfl,rfl,rfl,trivial⟩ rfl ⟨Nat.zero_le _,Nat.le_refl _⟩ (fun t ht=>?_)))
     obtain ⟨i,m2⟩:=t
     obtain ⟨hi',hm2⟩:=ht
     simp only at hi' hm2
     refine Run.seq (Run.region (cx_ok _ _ _) (Reg.op rfl (Ope.lt rfl rfl ?_)))
     refine Reg.nil (Run.seq (Run.condX rfl (fun hc=>?_) fun hc=>?_))
     ·refine Run.skip (Run.seq (Run.block (Run.seq ?_)))
      have hlt:i < li.length:=by omega
      have hnoi:∀ j,o2=some j→j < m2:=fun j hj=>by have:=hno j hj;omega
      have hkd:=hli li[i] (List.getElem_mem hlt)
      obtain ⟨kk,hkk1,hkk2⟩:∃ kk:Nat,li[i].kd=(kk:Int)∧kk < ru.length:=⟨li[i].kd.toNat,by omega,by omega⟩
      have hXi:=hXa' i (by omega)
      have hcn:=hcd ri ho i
      have hoi:=hof hlt
      rw [hoi] at hXi hcn
      have hrui:=hru hkk2
      rw [← hkk1] at hrui
      have hrvi:=hrv li[i].kd
      rw [hrui] at hXi hrvi hcn
      have hcl:=cntN_le (CN ri ho i)
      have hcs:∀ k,cntN (CN ri ho i) (k+1)=cntN (CN ri ho i) k+if CN ri ho i k=true then 1 else 0:=fun k=>rfl
      have hc0:cntN (CN ri ho i) 0=0:=rfl
      generalize CN ri ho i=P at *
      generalize cntN P=W at *
      have hrgi:ri.getD i 0=ri[i]:=by simp [List.getD,hrl,hlt]
      have hhgi:ho.getD i 0=ho[i]:=by simp [List.getD,hhl,hlt]
      refine Run.region (cx_ok _ _ _) (Reg.op rfl (Ope.mov rfl ?_))
      refine Reg.op rfl (Ope.idxM (m:=i) (f:=Ofc.v) rfl rfl rfl hlt (fun _=>rfl) ?_)
      refine Reg.op rfl (Ope.load rfl rfl ?_)
      refine Reg.op rfl (Ope.newL rfl ?_)
      refine Reg.op rfl (Ope.asg rfl ?_)
      refine Reg.op0 (Ope.store rfl rfl hget_hd rfl rfl rfl ?_)
      refine Reg.nil (Run.seq (Run.frz (d:=15) true rfl hget_hd rfl ?_))
      refine Run.wideS (m:=m2+1) (l':=ownU o2++[]) (Nat.le_refl _) (hs_skip (hs_skip (hs_skip hs_refl (ownU_none hnoi rfl)) (ownU_none hnoi rfl)) (ownU_none hnoi rfl)) ?_
      have hnoi1:∀ j,o2=some j→j < m2+1:=fun j hj=>by have:=hnoi j hj;omega
      refine Run.region (cx_ok _ _ _) (Reg.op rfl (Ope.fld rfl rfl ?_))
      refine Reg.op rfl (Ope.load rfl rfl ?_)
      refine Reg.op rfl (Ope.fld rfl rfl ?_)
      refine Reg.op rfl (Ope.load rfl rfl ?_)
      refine Reg.op rfl (Ope.idxM (m:=kk) (f:=Rul.v) rfl rfl (by rw [hkk1];rfl) hkk2 (fun _=>rfl) ?_)
      refine Reg.op rfl (Ope.load rfl rfl ?_)
      refine Reg.op rfl (Ope.newL rfl ?_)
      refine Reg.op0 (Ope.store rfl rfl hget_hd rfl rfl rfl ?_)
      refine Reg.nil (Run.seq (Run.frz (d:=16) true rfl hget_hd rfl ?_))
      refine Run.wideS (m:=m2+1+1) (l':=ownU o2++[]) (Nat.le_refl _) (hs_skip (hs_skip (hs_skip hs_refl (ownU_none hnoi1 rfl)) (ownU_none hnoi1 rfl)) (ownU_none hnoi1 rfl)) ?_
      refine Run.region (cx_ok _ _ _) (Reg.op rfl (Ope.asg rfl ?_))
      refine Reg.nil (Run.seq (Run.seq (Run.region (cx_ok _ _ _) (Reg.op rfl (Ope.fld rfl rfl ?_)))))
      refine Reg.op rfl (Ope.load rfl rfl ?_)
      refine Reg.op rfl (Ope.len (m:=li.length) rfl (by simp) ?_)
      refine Reg.op rfl (Ope.mov rfl ?_)
      refine Reg.nil (Run.block (Run.loop (α:=Nat×Nat) (fun t=>[(2,.fp ((⟨ru,(kn:Int),li⟩:Fns).v t1 t2)),(10,.sl .no (ri.map I)),(11,.sl (tlU o2) (ho.map I)),(12,.sl t3 (X.map I)),(103,.sl t2 (li.map Ofc.v)),(104,I li.length),(105,I i),(14,I i),(15,.fp li[i].v),(16,.fp ru[kk].v),(17,I (W t.1)),(117,.sl t2 (li.map Ofc.v)),(118,I li.length),(119,I t.1)]) (fun t=>HE t.2 (ownU o2++[])) (fun t=>t.1≤li.length∧m≤t.2) (fun t=>li.length - t.1) (0,m2+1+1) ⟨rfl,rfl,rfl,rfl,rfl,rfl,rfl,rfl,rfl,rfl,by rw [hc0];rfl,rfl,rfl,rfl,trivial⟩ rfl ⟨Nat.zero_le _,by show m≤m2+1+1;omega⟩ (fun t ht=>?_)))
      obtain ⟨k,m3⟩:=t
      obtain ⟨hk',hm3⟩:=ht
      simp only at hk' hm3
      show Run _ _ _ _ [(2,.fp ((⟨ru,(kn:Int),li⟩:Fns).v t1 t2)),(10,.sl .no (ri.map I)),(11,.sl (tlU o2) (ho.map I)),(12,.sl t3 (X.map I)),(103,.sl t2 (li.map Ofc.v)),(104,I li.length),(105,I i),(14,I i),(15,.fp li[i].v),(16,.fp ru[kk].v),(17,I (W k)),(117,.sl t2 (li.map Ofc.v)),(118,I li.length),(119,I k)] [] (HE m3 (ownU o2++[]))
      refine Run.seq (Run.region (cx_ok _ _ _) (Reg.op rfl (Ope.lt rfl rfl ?_)))
      refine Reg.nil (Run.seq (Run.condX rfl (fun hc=>?_) fun hc=>?_))
      ·refine Run.skip (Run.seq (Run.block (Run.seq ?_)))
       have hkl:k < li.length:=by omega
       have hnok:∀ j,o2=some j→j < m3:=fun j hj=>by have:=hno j hj;omega
       have hWk:=hcl k
       have hWs:=hcs k
       have hPk:=hcn k
       have hok:=hof hkl
       have hrgk:ri.getD k 0=ri[k]:=by simp [List.getD,hrl,hkl]
       have hhgk:ho.getD k 0=ho[k]:=by simp [List.getD,hhl,hkl]
       rw [hok,hrgk,hhgk,hrgi,hhgi] at hPk
       have hPt:cndP li[k].kd li[i].kd ri[k] ri[i] ho[k] ho[i] ru[kk].wi k i→W (k+1)=W k+1:=fun h=>by rw [hWs,hPk,decide_eq_true h,if_pos rfl]
       have hPf:¬ cndP li[k].kd li[i].kd ri[k] ri[i] ho[k] ho[i] ru[kk].wi k i→W (k+1)=W k:=fun h=>by rw [hWs,hPk,decide_eq_false h,if_neg (by decide)];rfl
       have hbk:0≤ho[k]∧ho[k]≤144:=hhb _ (List.getElem_mem _)
       have hbi:0≤ho[i]∧ho[i]≤144:=hhb _ (List.getElem_mem _)
       unfold cndP at hPt hPf
       refine Run.region (cx_ok _ _ _) (Reg.op rfl (Ope.mov rfl ?_))
       refine Reg.op rfl (Ope.idxM (m:=k) (f:=Ofc.v) rfl rfl rfl hkl (fun _=>rfl) ?_)
       refine Reg.op rfl (Ope.load rfl rfl ?_)
       refine Reg.op rfl (Ope.newL rfl ?_)
       refine Reg.op rfl (Ope.asg rfl ?_)
       refine Reg.op0 (Ope.store rfl rfl hget_hd rfl rfl rfl ?_)
       refine Reg.nil (Run.seq (Run.frz (d:=19) true rfl hget_hd rfl ?_))
       refine Run.wideS (m:=m3+1) (l':=ownU o2++[]) (Nat.le_refl _) (hs_skip (hs_skip (hs_skip hs_refl (ownU_none hnok rfl)) (ownU_none hnok rfl)) (ownU_none hnok rfl)) ?_
       refine Run.draw (cx_ok _ _ _) [(0,true),(1,true),(2,true),(3,true),(4,true),(5,true),(6,true),(7,true),(8,true),(9,true),(10,true),(11,true),(12,true),(13,true),(14,true),(15,true),(16,true),(17,true),(18,true),(19,true),(20,true),(21,true),(22,true),(23,true),(24,true),(25,true),(26,true),(27,true),(28,true),(29,true),(30,true),(31,true),(32,true),(33,true),(34,true),(35,true),(36,true),(37,true),(38,true),(39,true),(40,true),(41,true),(42,true),(43,true),(44,true),(45,true),(46,true),(47,true),(48,true),(49,true),(50,true),(51,true),(52,true),(53,true),(54,true),(55,true),(56,true),(57,true),(58,true),(59,true),(60,true),(61,true)] (by kernel_rfl) (Dra.op' rfl rfl rfl .sure (Ope.mov rfl ?_))
       refine Dra.op' rfl rfl rfl .sure (Ope.mov rfl ?_)
       refine Dra.op' rfl rfl rfl .sure (Ope.ne rfl rfl ?_)
       refine Dra.op' rfl rfl rfl .sure (Ope.mov rfl ?_)
       refine Dra.splitX rfl rfl rfl rfl (fun hg=>?_) fun hg=>?_
       ·refine Dra.on' rfl rfl rfl rfl rfl .sure (Ope.fld rfl rfl ?_)
        refine Dra.on' rfl rfl rfl rfl rfl .sure (Ope.load rfl rfl ?_)
        refine Dra.on' rfl rfl rfl rfl rfl .sure (Ope.fld rfl rfl ?_)
        refine Dra.on' rfl rfl rfl rfl rfl .sure (Ope.load rfl rfl ?_)
        refine Dra.on' rfl rfl rfl rfl rfl .sure (Ope.eq rfl rfl ?_)
        refine Dra.op' rfl rfl rfl .sure (Ope.pickT rfl rfl ?_)
        refine Dra.op' rfl rfl rfl .sure (Ope.mov rfl ?_)
        refine Dra.splitX rfl rfl rfl rfl (fun hg=>?_) fun hg=>?_
        ·refine Dra.on' rfl rfl rfl rfl rfl .sure (Ope.mov rfl ?_)
         refine Dra.on' rfl rfl rfl rfl rfl .sure (Ope.mov rfl ?_)
         refine Dra.on' rfl rfl rfl rfl rfl .sure (Ope.idxM (m:=k) (f:=I) rfl rfl rfl (by omega) (fun _=>rfl) ?_)
         refine Dra.on' rfl rfl rfl rfl rfl .sure (Ope.load rfl rfl ?_)
         refine Dra.on' rfl rfl rfl rfl rfl .sure (Ope.mov rfl ?_)
         refine Dra.on' rfl rfl rfl rfl rfl .sure (Ope.mov rfl ?_)
         refine Dra.on' rfl rfl rfl rfl rfl .sure (Ope.idxM (m:=i) (f:=I) rfl rfl rfl (by omega) (fun _=>rfl) ?_)
         refine Dra.on' rfl rfl rfl rfl rfl .sure (Ope.load rfl rfl ?_)
         refine Dra.on' rfl rfl rfl rfl rfl .sure (Ope.eq rfl rfl ?_)
         refine Dra.op' rfl rfl rfl .sure (Ope.pickT rfl rfl ?_)
         refine Dra.op' rfl rfl rfl .sure (Ope.mov rfl ?_)
         refine Dra.splitX rfl rfl rfl rfl (fun hg=>?_) fun hg=>?_
         ·refine Dra.on' rfl rfl rfl rfl rfl .sure (Ope.mov rfl ?_)
          refine Dra.on' rfl rfl rfl rfl rfl .sure (Ope.mov rfl ?_)
          refine Dra.on' rfl rfl rfl rfl rfl .sure (Ope.idxM (m:=k) (f:=I) rfl rfl rfl (by omega) (fun _=>rfl) ?_)
          refine Dra.on' rfl rfl rfl rfl rfl .sure (Ope.load rfl rfl ?_)
          refine Dra.on' rfl rfl rfl rfl rfl .sure (Ope.mov rfl ?_)
          refine Dra.on' rfl rfl rfl rfl rfl .sure (Ope.mov rfl ?_)
          refine Dra.on' rfl rfl rfl rfl rfl .sure (Ope.idxM (m:=i) (f:=I) rfl rfl rfl (by omega) (fun _=>rfl) ?_)
          refine Dra.on' rfl rfl rfl rfl rfl .sure (Ope.load rfl rfl ?_)
          refine Dra.on' rfl rfl rfl rfl rfl .sure (Ope.le rfl rfl ?_)
          refine Dra.op' rfl rfl rfl .sure (Ope.pickT rfl rfl ?_)
          refine Dra.op' rfl rfl rfl .sure (Ope.mov rfl ?_)
          refine Dra.splitX rfl rfl rfl rfl (fun hg=>?_) fun hg=>?_
          ·refine Dra.on' rfl rfl rfl rfl rfl .sure (Ope.mov rfl ?_)
           refine Dra.on' rfl rfl rfl rfl rfl .sure (Ope.mov rfl ?_)
           refine Dra.on' rfl rfl rfl rfl rfl .sure (Ope.idxM (m:=k) (f:=I) rfl rfl rfl (by omega) (fun _=>rfl) ?_)
           refine Dra.on' rfl rfl rfl rfl rfl .sure (Ope.load rfl rfl ?_)
           refine Dra.on' rfl rfl rfl rfl rfl .sure (Ope.mov rfl ?_)
           refine Dra.on' rfl rfl rfl rfl rfl .sure (Ope.mov rfl ?_)
           refine Dra.on' rfl rfl rfl rfl rfl .sure (Ope.idxM (m:=i) (f:=I) rfl rfl rfl (by omega) (fun _=>rfl) ?_)
           refine Dra.on' rfl rfl rfl rfl rfl .sure (Ope.load rfl rfl ?_)
           refine Dra.on' rfl rfl rfl rfl rfl .sure (Ope.lt rfl rfl ?_)
           refine Dra.on' rfl rfl rfl rfl rfl .sure (Ope.mov rfl ?_)
           refine Dra.splitX rfl rfl rfl rfl (fun hg=>?_) fun hg=>?_
           ·refine Dra.off' rfl rfl rfl (.inl rfl) rfl (Dra.off' rfl rfl rfl (.inl rfl) rfl (Dra.off' rfl rfl rfl (.inl rfl) rfl (Dra.on' rfl rfl rfl rfl rfl .sure (Ope.pickT rfl rfl ?_))))
            refine Dra.op' rfl rfl rfl .sure (Ope.pickT rfl rfl ?_)
            refine Dra.op' rfl rfl rfl .sure (Ope.mov rfl ?_)
            refine Dra.on' rfl rfl rfl rfl rfl .sure (Ope.mov rfl ?_)
            refine Dra.on' rfl rfl rfl rfl rfl .sure (Ope.mov rfl ?_)
            refine Dra.on' rfl rfl rfl rfl rfl .sure (Ope.idxM (m:=i) (f:=I) rfl rfl rfl (by omega) (fun _=>rfl) ?_)
            refine Dra.on' rfl rfl rfl rfl rfl .sure (Ope.load rfl rfl ?_)
            refine Dra.on' rfl rfl rfl rfl rfl .sure (Ope.mov rfl ?_)
            refine Dra.on' rfl rfl rfl rfl rfl .sure (Ope.mov rfl ?_)
            refine Dra.on' rfl rfl rfl rfl rfl .sure (Ope.idxM (m:=k) (f:=I) rfl rfl rfl (by omega) (fun _=>rfl) ?_)
            refine Dra.on' rfl rfl rfl rfl rfl .sure (Ope.load rfl rfl ?_)
            refine Dra.on' rfl rfl rfl rfl rfl .sure (Ope.sub rfl rfl (by omega) ?_)
            refine Dra.on' rfl rfl rfl rfl rfl .sure (Ope.fld rfl rfl ?_)
            refine Dra.on' rfl rfl rfl rfl rfl .sure (Ope.load rfl rfl ?_)
            refine Dra.on' rfl rfl rfl rfl rfl .sure (Ope.le rfl rfl ?_)
            refine Dra.op' rfl rfl rfl .sure (Ope.pickT rfl rfl ?_)
            refine Dra.nil (Run.condX rfl (fun hc=>?_) fun hc=>?_)
            ·refine Run.region (cx_ok _ _ _) (Reg.op rfl (Ope.mov rfl ?_))
             refine Reg.op rfl (Ope.add rfl rfl (by omega) ?_)
             refine Reg.op rfl (Ope.asg rfl ?_)
             refine Reg.nil (Run.bend (Run.region (cx_ok _ _ _) (Reg.op rfl (Ope.add rfl rfl (by omega) ?_))))
             refine Reg.op rfl (Ope.mov rfl ?_)
             refine Reg.nil ?_
             first
             | (have hW1 : ((W k : Nat) : Int) + 1 = ((W (k + 1) : Nat) : Int) := by (have := hPt (by omega)); omega
                exact Run.lend ⟨(k+1,m3+1),by show li.length - (k+1) < li.length - k;omega,⟨by show k+1≤li.length;omega,by show m≤m3+1;omega⟩,⟨rfl,rfl,rfl,rfl,rfl,rfl,rfl,rfl,rfl,rfl,by rw [hW1];rfl,rfl,rfl,rfl,trivial⟩,rfl,rfl⟩)
             | (have hW1 : W (k + 1) = W k := hPf (by omega)
                exact Run.lend ⟨(k+1,m3+1),by show li.length - (k+1) < li.length - k;omega,⟨by show k+1≤li.length;omega,by show m≤m3+1;omega⟩,⟨rfl,rfl,rfl,rfl,rfl,rfl,rfl,rfl,rfl,rfl,by rw [hW1];rfl,rfl,rfl,rfl,trivial⟩,rfl,rfl⟩)
            ·refine Run.skip (Run.bend (Run.region (cx_ok _ _ _) (Reg.op rfl (Ope.add rfl rfl (by omega) ?_))))
             refine Reg.op rfl (Ope.mov rfl ?_)
             refine Reg.nil ?_
             first
             | (have hW1 : ((W k : Nat) : Int) + 1 = ((W (k + 1) : Nat) : Int) := by (have := hPt (by omega)); omega
                exact Run.lend ⟨(k+1,m3+1),by show li.length - (k+1) < li.length - k;omega,⟨by show k+1≤li.length;omega,by show m≤m3+1;omega⟩,⟨rfl,rfl,rfl,rfl,rfl,rfl,rfl,rfl,rfl,rfl,by rw [hW1];rfl,rfl,rfl,rfl,trivial⟩,rfl,rfl⟩)
             | (have hW1 : W (k + 1) = W k := hPf (by omega)
                exact Run.lend ⟨(k+1,m3+1),by show li.length - (k+1) < li.length - k;omega,⟨by show k+1≤li.length;omega,by show m≤m3+1;omega⟩,⟨rfl,rfl,rfl,rfl,rfl,rfl,rfl,rfl,rfl,rfl,by rw [hW1];rfl,rfl,rfl,rfl,trivial⟩,rfl,rfl⟩)
           ·refine Dra.on' rfl rfl rfl rfl rfl .sure (Ope.mov rfl ?_)
            refine Dra.on' rfl rfl rfl rfl rfl .sure (Ope.mov rfl ?_)
            refine Dra.on' rfl rfl rfl rfl rfl .sure (Ope.lt rfl rfl ?_)
            refine Dra.on' rfl rfl rfl rfl rfl .sure (Ope.pickF rfl rfl ?_)
            refine Dra.op' rfl rfl rfl .sure (Ope.pickT rfl rfl ?_)
            refine Dra.op' rfl rfl rfl .sure (Ope.mov rfl ?_)
            refine Dra.splitX rfl rfl rfl rfl (fun hg=>?_) fun hg=>?_
            ·refine Dra.on' rfl rfl rfl rfl rfl .sure (Ope.mov rfl ?_)
             refine Dra.on' rfl rfl rfl rfl rfl .sure (Ope.mov rfl ?_)
             refine Dra.on' rfl rfl rfl rfl rfl .sure (Ope.idxM (m:=i) (f:=I) rfl rfl rfl (by omega) (fun _=>rfl) ?_)
             refine Dra.on' rfl rfl rfl rfl rfl .sure (Ope.load rfl rfl ?_)
             refine Dra.on' rfl rfl rfl rfl rfl .sure (Ope.mov rfl ?_)
             refine Dra.on' rfl rfl rfl rfl rfl .sure (Ope.mov rfl ?_)
             refine Dra.on' rfl rfl rfl rfl rfl .sure (Ope.idxM (m:=k) (f:=I) rfl rfl rfl (by omega) (fun _=>rfl) ?_)
             refine Dra.on' rfl rfl rfl rfl rfl .sure (Ope.load rfl rfl ?_)
             refine Dra.on' rfl rfl rfl rfl rfl .sure (Ope.sub rfl rfl (by omega) ?_)
             refine Dra.on' rfl rfl rfl rfl rfl .sure (Ope.fld rfl rfl ?_)
             refine Dra.on' rfl rfl rfl rfl rfl .sure (Ope.load rfl rfl ?_)
             refine Dra.on' rfl rfl rfl rfl rfl .sure (Ope.le rfl rfl ?_)
             refine Dra.op' rfl rfl rfl .sure (Ope.pickT rfl rfl ?_)
             refine Dra.nil (Run.condX rfl (fun hc=>?_) fun hc=>?_)
             ·refine Run.region (cx_ok _ _ _) (Reg.op rfl (Ope.mov rfl ?_))
              refine Reg.op rfl (Ope.add rfl rfl (by omega) ?_)
              refine Reg.op rfl (Ope.asg rfl ?_)
              refine Reg.nil (Run.bend (Run.region (cx_ok _ _ _) (Reg.op rfl (Ope.add rfl rfl (by omega) ?_))))
              refine Reg.op rfl (Ope.mov rfl ?_)
              refine Reg.nil ?_
              first
              | (have hW1 : ((W k : Nat) : Int) + 1 = ((W (k + 1) : Nat) : Int) := by (have := hPt (by omega)); omega
                 exact Run.lend ⟨(k+1,m3+1),by show li.length - (k+1) < li.length - k;omega,⟨by show k+1≤li.length;omega,by show m≤m3+1;omega⟩,⟨rfl,rfl,rfl,rfl,rfl,rfl,rfl,rfl,rfl,rfl,by rw [hW1];rfl,rfl,rfl,rfl,trivial⟩,rfl,rfl⟩)
              | (have hW1 : W (k + 1) = W k := hPf (by omega)
                 exact Run.lend ⟨(k+1,m3+1),by show li.length - (k+1) < li.length - k;omega,⟨by show k+1≤li.length;omega,by show m≤m3+1;omega⟩,⟨rfl,rfl,rfl,rfl,rfl,rfl,rfl,rfl,rfl,rfl,by rw [hW1];rfl,rfl,rfl,rfl,trivial⟩,rfl,rfl⟩)
             ·(exfalso;omega)
            ·refine Dra.off' rfl rfl rfl (.inl rfl) rfl (Dra.off' rfl rfl rfl (.inl rfl) rfl (Dra.off' rfl rfl rfl (.inl rfl) rfl (Dra.off' rfl rfl rfl (.inl rfl) rfl (Dra.off' rfl rfl rfl (.inl rfl) rfl (Dra.off' rfl rfl rfl (.inl rfl) rfl (Dra.off' rfl rfl rfl (.inl rfl) rfl (Dra.off' rfl rfl rfl (.inl rfl) rfl (Dra.off' rfl rfl rfl (.inl rfl) rfl (Dra.off' rfl rfl rfl (.inl rfl) rfl (Dra.off' rfl rfl rfl (.inl rfl) rfl (Dra.off' rfl rfl rfl (.inl rfl) rfl (Dra.op' rfl rfl rfl .sure (Ope.pickF rfl rfl ?_)))))))))))))
             refine Dra.nil (Run.condF rfl (Run.skip (Run.bend (Run.region (cx_ok _ _ _) (Reg.op rfl (Ope.add rfl rfl (by omega) ?_))))))
             refine Reg.op rfl (Ope.mov rfl ?_)
             refine Reg.nil ?_
             first
             | (have hW1 : ((W k : Nat) : Int) + 1 = ((W (k + 1) : Nat) : Int) := by (have := hPt (by omega)); omega
                exact Run.lend ⟨(k+1,m3+1),by show li.length - (k+1) < li.length - k;omega,⟨by show k+1≤li.length;omega,by show m≤m3+1;omega⟩,⟨rfl,rfl,rfl,rfl,rfl,rfl,rfl,rfl,rfl,rfl,by rw [hW1];rfl,rfl,rfl,rfl,trivial⟩,rfl,rfl⟩)
             | (have hW1 : W (k + 1) = W k := hPf (by omega)
                exact Run.lend ⟨(k+1,m3+1),by show li.length - (k+1) < li.length - k;omega,⟨by show k+1≤li.length;omega,by show m≤m3+1;omega⟩,⟨rfl,rfl,rfl,rfl,rfl,rfl,rfl,rfl,rfl,rfl,by rw [hW1];rfl,rfl,rfl,rfl,trivial⟩,rfl,rfl⟩)
          ·refine Dra.off' rfl rfl rfl (.inl rfl) rfl (Dra.off' rfl rfl rfl (.inl rfl) rfl (Dra.off' rfl rfl rfl (.inl rfl) rfl (Dra.off' rfl rfl rfl (.inl rfl) rfl (Dra.off' rfl rfl rfl (.inl rfl) rfl (Dra.off' rfl rfl rfl (.inl rfl) rfl (Dra.off' rfl rfl rfl (.inl rfl) rfl (Dra.off' rfl rfl rfl (.inl rfl) rfl (Dra.off' rfl rfl rfl (.inl rfl) rfl (Dra.off' rfl rfl rfl (.inl rfl) rfl (Dra.off' rfl rfl rfl (.inr rfl) rfl (Dra.off' rfl rfl rfl (.inr rfl) rfl (Dra.off' rfl rfl rfl (.inr rfl) rfl (Dra.off' rfl rfl rfl (.inl rfl) rfl (Dra.op' rfl rfl rfl .sure (Ope.pickF rfl rfl ?_)))))))))))))))
           refine Dra.op' rfl rfl rfl .sure (Ope.mov rfl ?_)
           refine Dra.off' rfl rfl rfl (.inl rfl) rfl (Dra.off' rfl rfl rfl (.inl rfl) rfl (Dra.off' rfl rfl rfl (.inl rfl) rfl (Dra.off' rfl rfl rfl (.inl rfl) rfl (Dra.off' rfl rfl rfl (.inl rfl) rfl (Dra.off' rfl rfl rfl (.inl rfl) rfl (Dra.off' rfl rfl rfl (.inl rfl) rfl (Dra.off' rfl rfl rfl (.inl rfl) rfl (Dra.off' rfl rfl rfl (.inl rfl) rfl (Dra.off' rfl rfl rfl (.inl rfl) rfl (Dra.off' rfl rfl rfl (.inl rfl) rfl (Dra.off' rfl rfl rfl (.inl rfl) rfl (Dra.op' rfl rfl rfl .sure (Ope.pickF rfl rfl ?_)))))))))))))
           refine Dra.nil (Run.condF rfl (Run.skip (Run.bend (Run.region (cx_ok _ _ _) (Reg.op rfl (Ope.add rfl rfl (by omega) ?_))))))
           refine Reg.op rfl (Ope.mov rfl ?_)
           refine Reg.nil ?_
           first
           | (have hW1 : ((W k : Nat) : Int) + 1 = ((W (k + 1) : Nat) : Int) := by (have := hPt (by omega)); omega
              exact Run.lend ⟨(k+1,m3+1),by show li.length - (k+1) < li.length - k;omega,⟨by show k+1≤li.length;omega,by show m≤m3+1;omega⟩,⟨rfl,rfl,rfl,rfl,rfl,rfl,rfl,rfl,rfl,rfl,by rw [hW1];rfl,rfl,rfl,rfl,trivial⟩,rfl,rfl⟩)
           | (have hW1 : W (k + 1) = W k := hPf (by omega)
              exact Run.lend ⟨(k+1,m3+1),by show li.length - (k+1) < li.length - k;omega,⟨by show k+1≤li.length;omega,by show m≤m3+1;omega⟩,⟨rfl,rfl,rfl,rfl,rfl,rfl,rfl,rfl,rfl,rfl,by rw [hW1];rfl,rfl,rfl,rfl,trivial⟩,rfl,rfl⟩)
         ·refine Dra.off' rfl rfl rfl (.inl rfl) rfl (Dra.off' rfl rfl rfl (.inl rfl) rfl (Dra.off' rfl rfl rfl (.inl rfl) rfl (Dra.off' rfl rfl rfl (.inl rfl) rfl (Dra.off' rfl rfl rfl (.inl rfl) rfl (Dra.off' rfl rfl rfl (.inl rfl) rfl (Dra.off' rfl rfl rfl (.inl rfl) rfl (Dra.off' rfl rfl rfl (.inl rfl) rfl (Dra.off' rfl rfl rfl (.inl rfl) rfl (Dra.op' rfl rfl rfl .sure (Ope.pickF rfl rfl ?_))))))))))
          refine Dra.op' rfl rfl rfl .sure (Ope.mov rfl ?_)
          refine Dra.off' rfl rfl rfl (.inl rfl) rfl (Dra.off' rfl rfl rfl (.inl rfl) rfl (Dra.off' rfl rfl rfl (.inl rfl) rfl (Dra.off' rfl rfl rfl (.inl rfl) rfl (Dra.off' rfl rfl rfl (.inl rfl) rfl (Dra.off' rfl rfl rfl (.inl rfl) rfl (Dra.off' rfl rfl rfl (.inl rfl) rfl (Dra.off' rfl rfl rfl (.inl rfl) rfl (Dra.off' rfl rfl rfl (.inl rfl) rfl (Dra.off' rfl rfl rfl (.inl rfl) rfl (Dra.off' rfl rfl rfl (.inr rfl) rfl (Dra.off' rfl rfl rfl (.inr rfl) rfl (Dra.off' rfl rfl rfl (.inr rfl) rfl (Dra.off' rfl rfl rfl (.inl rfl) rfl (Dra.op' rfl rfl rfl .sure (Ope.pickF rfl rfl ?_)))))))))))))))
          refine Dra.op' rfl rfl rfl .sure (Ope.mov rfl ?_)
          refine Dra.off' rfl rfl rfl (.inl rfl) rfl (Dra.off' rfl rfl rfl (.inl rfl) rfl (Dra.off' rfl rfl rfl (.inl rfl) rfl (Dra.off' rfl rfl rfl (.inl rfl) rfl (Dra.off' rfl rfl rfl (.inl rfl) rfl (Dra.off' rfl rfl rfl (.inl rfl) rfl (Dra.off' rfl rfl rfl (.inl rfl) rfl (Dra.off' rfl rfl rfl (.inl rfl) rfl (Dra.off' rfl rfl rfl (.inl rfl) rfl (Dra.off' rfl rfl rfl (.inl rfl) rfl (Dra.off' rfl rfl rfl (.inl rfl) rfl (Dra.off' rfl rfl rfl (.inl rfl) rfl (Dra.op' rfl rfl rfl .sure (Ope.pickF rfl rfl ?_)))))))))))))
          refine Dra.nil (Run.condF rfl (Run.skip (Run.bend (Run.region (cx_ok _ _ _) (Reg.op rfl (Ope.add rfl rfl (by omega) ?_))))))
          refine Reg.op rfl (Ope.mov rfl ?_)
          refine Reg.nil ?_
          first
          | (have hW1 : ((W k : Nat) : Int) + 1 = ((W (k + 1) : Nat) : Int) := by (have := hPt (by omega)); omega
             exact Run.lend ⟨(k+1,m3+1),by show li.length - (k+1) < li.length - k;omega,⟨by show k+1≤li.length;omega,by show m≤m3+1;omega⟩,⟨rfl,rfl,rfl,rfl,rfl,rfl,rfl,rfl,rfl,rfl,by rw [hW1];rfl,rfl,rfl,rfl,trivial⟩,rfl,rfl⟩)
          | (have hW1 : W (k + 1) = W k := hPf (by omega)
             exact Run.lend ⟨(k+1,m3+1),by show li.length - (k+1) < li.length - k;omega,⟨by show k+1≤li.length;omega,by show m≤m3+1;omega⟩,⟨rfl,rfl,rfl,rfl,rfl,rfl,rfl,rfl,rfl,rfl,by rw [hW1];rfl,rfl,rfl,rfl,trivial⟩,rfl,rfl⟩)
        ·refine Dra.off' rfl rfl rfl (.inl rfl) rfl (Dra.off' rfl rfl rfl (.inl rfl) rfl (Dra.off' rfl rfl rfl (.inl rfl) rfl (Dra.off' rfl rfl rfl (.inl rfl) rfl (Dra.off' rfl rfl rfl (.inl rfl) rfl (Dra.off' rfl rfl rfl (.inl rfl) rfl (Dra.off' rfl rfl rfl (.inl rfl) rfl (Dra.off' rfl rfl rfl (.inl rfl) rfl (Dra.off' rfl rfl rfl (.inl rfl) rfl (Dra.op' rfl rfl rfl .sure (Ope.pickF rfl rfl ?_))))))))))
         refine Dra.op' rfl rfl rfl .sure (Ope.mov rfl ?_)
         refine Dra.off' rfl rfl rfl (.inl rfl) rfl (Dra.off' rfl rfl rfl (.inl rfl) rfl (Dra.off' rfl rfl rfl (.inl rfl) rfl (Dra.off' rfl rfl rfl (.inl rfl) rfl (Dra.off' rfl rfl rfl (.inl rfl) rfl (Dra.off' rfl rfl rfl (.inl rfl) rfl (Dra.off' rfl rfl rfl (.inl rfl) rfl (Dra.off' rfl rfl rfl (.inl rfl) rfl (Dra.off' rfl rfl rfl (.inl rfl) rfl (Dra.op' rfl rfl rfl .sure (Ope.pickF rfl rfl ?_))))))))))
         refine Dra.op' rfl rfl rfl .sure (Ope.mov rfl ?_)
         refine Dra.off' rfl rfl rfl (.inl rfl) rfl (Dra.off' rfl rfl rfl (.inl rfl) rfl (Dra.off' rfl rfl rfl (.inl rfl) rfl (Dra.off' rfl rfl rfl (.inl rfl) rfl (Dra.off' rfl rfl rfl (.inl rfl) rfl (Dra.off' rfl rfl rfl (.inl rfl) rfl (Dra.off' rfl rfl rfl (.inl rfl) rfl (Dra.off' rfl rfl rfl (.inl rfl) rfl (Dra.off' rfl rfl rfl (.inl rfl) rfl (Dra.off' rfl rfl rfl (.inl rfl) rfl (Dra.off' rfl rfl rfl (.inr rfl) rfl (Dra.off' rfl rfl rfl (.inr rfl) rfl (Dra.off' rfl rfl rfl (.inr rfl) rfl (Dra.off' rfl rfl rfl (.inl rfl) rfl (Dra.op' rfl rfl rfl .sure (Ope.pickF rfl rfl ?_)))))))))))))))
         refine Dra.op' rfl rfl rfl .sure (Ope.mov rfl ?_)
         refine Dra.off' rfl rfl rfl (.inl rfl) rfl (Dra.off' rfl rfl rfl (.inl rfl) rfl (Dra.off' rfl rfl rfl (.inl rfl) rfl (Dra.off' rfl rfl rfl (.inl rfl) rfl (Dra.off' rfl rfl rfl (.inl rfl) rfl (Dra.off' rfl rfl rfl (.inl rfl) rfl (Dra.off' rfl rfl rfl (.inl rfl) rfl (Dra.off' rfl rfl rfl (.inl rfl) rfl (Dra.off' rfl rfl rfl (.inl rfl) rfl (Dra.off' rfl rfl rfl (.inl rfl) rfl (Dra.off' rfl rfl rfl (.inl rfl) rfl (Dra.off' rfl rfl rfl (.inl rfl) rfl (Dra.op' rfl rfl rfl .sure (Ope.pickF rfl rfl ?_)))))))))))))
         refine Dra.nil (Run.condF rfl (Run.skip (Run.bend (Run.region (cx_ok _ _ _) (Reg.op rfl (Ope.add rfl rfl (by omega) ?_))))))
         refine Reg.op rfl (Ope.mov rfl ?_)
         refine Reg.nil ?_
         first
         | (have hW1 : ((W k : Nat) : Int) + 1 = ((W (k + 1) : Nat) : Int) := by (have := hPt (by omega)); omega
            exact Run.lend ⟨(k+1,m3+1),by show li.length - (k+1) < li.length - k;omega,⟨by show k+1≤li.length;omega,by show m≤m3+1;omega⟩,⟨rfl,rfl,rfl,rfl,rfl,rfl,rfl,rfl,rfl,rfl,by rw [hW1];rfl,rfl,rfl,rfl,trivial⟩,rfl,rfl⟩)
         | (have hW1 : W (k + 1) = W k := hPf (by omega)
            exact Run.lend ⟨(k+1,m3+1),by show li.length - (k+1) < li.length - k;omega,⟨by show k+1≤li.length;omega,by show m≤m3+1;omega⟩,⟨rfl,rfl,rfl,rfl,rfl,rfl,rfl,rfl,rfl,rfl,by rw [hW1];rfl,rfl,rfl,rfl,trivial⟩,rfl,rfl⟩)
       ·refine Dra.off' rfl rfl rfl (.inl rfl) rfl (Dra.off' rfl rfl rfl (.inl rfl) rfl (Dra.off' rfl rfl rfl (.inl rfl) rfl (Dra.off' rfl rfl rfl (.inl rfl) rfl (Dra.off' rfl rfl rfl (.inl rfl) rfl (Dra.op' rfl rfl rfl .sure (Ope.pickF rfl rfl ?_))))))
        refine Dra.op' rfl rfl rfl .sure (Ope.mov rfl ?_)
        refine Dra.off' rfl rfl rfl (.inl rfl) rfl (Dra.off' rfl rfl rfl (.inl rfl) rfl (Dra.off' rfl rfl rfl (.inl rfl) rfl (Dra.off' rfl rfl rfl (.inl rfl) rfl (Dra.off' rfl rfl rfl (.inl rfl) rfl (Dra.off' rfl rfl rfl (.inl rfl) rfl (Dra.off' rfl rfl rfl (.inl rfl) rfl (Dra.off' rfl rfl rfl (.inl rfl) rfl (Dra.off' rfl rfl rfl (.inl rfl) rfl (Dra.op' rfl rfl rfl .sure (Ope.pickF rfl rfl ?_))))))))))
        refine Dra.op' rfl rfl rfl .sure (Ope.mov rfl ?_)
        refine Dra.off' rfl rfl rfl (.inl rfl) rfl (Dra.off' rfl rfl rfl (.inl rfl) rfl (Dra.off' rfl rfl rfl (.inl rfl) rfl (Dra.off' rfl rfl rfl (.inl rfl) rfl (Dra.off' rfl rfl rfl (.inl rfl) rfl (Dra.off' rfl rfl rfl (.inl rfl) rfl (Dra.off' rfl rfl rfl (.inl rfl) rfl (Dra.off' rfl rfl rfl (.inl rfl) rfl (Dra.off' rfl rfl rfl (.inl rfl) rfl (Dra.op' rfl rfl rfl .sure (Ope.pickF rfl rfl ?_))))))))))
        refine Dra.op' rfl rfl rfl .sure (Ope.mov rfl ?_)
        refine Dra.off' rfl rfl rfl (.inl rfl) rfl (Dra.off' rfl rfl rfl (.inl rfl) rfl (Dra.off' rfl rfl rfl (.inl rfl) rfl (Dra.off' rfl rfl rfl (.inl rfl) rfl (Dra.off' rfl rfl rfl (.inl rfl) rfl (Dra.off' rfl rfl rfl (.inl rfl) rfl (Dra.off' rfl rfl rfl (.inl rfl) rfl (Dra.off' rfl rfl rfl (.inl rfl) rfl (Dra.off' rfl rfl rfl (.inl rfl) rfl (Dra.off' rfl rfl rfl (.inl rfl) rfl (Dra.off' rfl rfl rfl (.inr rfl) rfl (Dra.off' rfl rfl rfl (.inr rfl) rfl (Dra.off' rfl rfl rfl (.inr rfl) rfl (Dra.off' rfl rfl rfl (.inl rfl) rfl (Dra.op' rfl rfl rfl .sure (Ope.pickF rfl rfl ?_)))))))))))))))
        refine Dra.op' rfl rfl rfl .sure (Ope.mov rfl ?_)
        refine Dra.off' rfl rfl rfl (.inl rfl) rfl (Dra.off' rfl rfl rfl (.inl rfl) rfl (Dra.off' rfl rfl rfl (.inl rfl) rfl (Dra.off' rfl rfl rfl (.inl rfl) rfl (Dra.off' rfl rfl rfl (.inl rfl) rfl (Dra.off' rfl rfl rfl (.inl rfl) rfl (Dra.off' rfl rfl rfl (.inl rfl) rfl (Dra.off' rfl rfl rfl (.inl rfl) rfl (Dra.off' rfl rfl rfl (.inl rfl) rfl (Dra.off' rfl rfl rfl (.inl rfl) rfl (Dra.off' rfl rfl rfl (.inl rfl) rfl (Dra.off' rfl rfl rfl (.inl rfl) rfl (Dra.op' rfl rfl rfl .sure (Ope.pickF rfl rfl ?_)))))))))))))
        refine Dra.nil (Run.condF rfl (Run.skip (Run.bend (Run.region (cx_ok _ _ _) (Reg.op rfl (Ope.add rfl rfl (by omega) ?_))))))
        refine Reg.op rfl (Ope.mov rfl ?_)
        refine Reg.nil ?_
        first
        | (have hW1 : ((W k : Nat) : Int) + 1 = ((W (k + 1) : Nat) : Int) := by (have := hPt (by omega)); omega
           exact Run.lend ⟨(k+1,m3+1),by show li.length - (k+1) < li.length - k;omega,⟨by show k+1≤li.length;omega,by show m≤m3+1;omega⟩,⟨rfl,rfl,rfl,rfl,rfl,rfl,rfl,rfl,rfl,rfl,by rw [hW1];rfl,rfl,rfl,rfl,trivial⟩,rfl,rfl⟩)
        | (have hW1 : W (k + 1) = W k := hPf (by omega)
           exact Run.lend ⟨(k+1,m3+1),by show li.length - (k+1) < li.length - k;omega,⟨by show k+1≤li.length;omega,by show m≤m3+1;omega⟩,⟨rfl,rfl,rfl,rfl,rfl,rfl,rfl,rfl,rfl,rfl,by rw [hW1];rfl,rfl,rfl,rfl,trivial⟩,rfl,rfl⟩)
      ·refine Run.exit (Jmp.code (Jmp.round (Jmp.here (Run.seq ?_))))
       obtain rfl:k=li.length:=by omega
       have hWl:=hcl li.length
       have hmu:(0:Int)≤((W li.length:Nat):Int) * ru[kk].st∧((W li.length:Nat):Int) * ru[kk].st≤5000:=⟨Int.mul_nonneg (by omega) (by omega),Int.le_trans (Int.mul_le_mul (show ((W li.length:Nat):Int)≤5 by omega) (show ru[kk].st≤1000 by omega) (by omega) (by omega)) (by decide)⟩
       rw [Int.mul_comm] at hXi
       refine Run.draw (cx_ok _ _ _) [(0,true),(1,true),(2,true),(3,true),(4,true),(5,true),(6,true),(7,true),(8,true),(9,true),(10,true),(11,true),(12,true),(13,true),(14,true)] (by kernel_rfl) (Dra.op' rfl rfl rfl .sure (Ope.mov rfl ?_))
       refine Dra.op' rfl rfl rfl .sure (Ope.mov rfl ?_)
       refine Dra.op' rfl rfl rfl .sure (Ope.idxM (m:=i) (f:=I) rfl rfl rfl (by omega) (fun _=>rfl) ?_)
       refine Dra.op' rfl rfl rfl .sure (Ope.load rfl rfl ?_)
       refine Dra.op' rfl rfl rfl .sure (Ope.fld rfl rfl ?_)
       refine Dra.op' rfl rfl rfl .sure (Ope.load rfl rfl ?_)
       refine Dra.op' rfl rfl rfl .sure (Ope.fld rfl rfl ?_)
       refine Dra.op' rfl rfl rfl .sure (Ope.load rfl rfl ?_)
       refine Dra.op' rfl rfl rfl .sure (Ope.mov rfl ?_)
       refine Dra.op' rfl rfl rfl .sure (Ope.fld rfl rfl ?_)
       refine Dra.op' rfl rfl rfl .sure (Ope.load rfl rfl ?_)
       refine Dra.op' rfl rfl rfl .sure (Ope.mul rfl rfl (by omega) ?_)
       refine Dra.op' rfl rfl rfl .sure (Ope.add rfl rfl (by omega) ?_)
       refine Dra.op' rfl rfl rfl .sure (Ope.minI rfl rfl ?_)
       refine Dra.op' rfl rfl rfl .sure (Ope.ne rfl rfl ?_)
       refine Dra.nil (Run.condX rfl (fun hc=>?_) fun hc=>?_)
       ·(exfalso;omega)
       ·refine Run.skip (Run.bend (Run.region (cx_ok _ _ _) (Reg.op rfl (Ope.add rfl rfl (by omega) ?_))))
        refine Reg.op rfl (Ope.mov rfl ?_)
        exact Reg.nil (Run.lend ⟨(i+1,m3),by show li.length - (i+1) < li.length - i;omega,⟨by show i+1≤li.length;omega,by show m≤m3;omega⟩,⟨rfl,rfl,rfl,rfl,rfl,rfl,rfl,trivial⟩,rfl,rfl⟩)
     ·refine Run.exit (Jmp.code (Jmp.round (Jmp.here (Run.seq (Run.seq ?_)))))
      obtain rfl:i=li.length:=by omega
      refine Run.region (cx_ok _ _ _) (Reg.op rfl (Ope.fld rfl rfl ?_))
      refine Reg.op rfl (Ope.load rfl rfl ?_)
      refine Reg.op rfl (Ope.len (m:=li.length) rfl (by simp) ?_)
      refine Reg.op rfl (Ope.gt rfl rfl ?_)
      refine Reg.nil (Run.condX rfl (fun hc=>?_) fun hc=>?_)
      ·refine Run.seq (Run.seq ?_)
       have hpos:0 < li.length:=by omega
       have hdr1:∀ x:Int,[I x]++(ri.map I).drop 1=(x::ri.drop 1).map I:=fun x=>by simp
       have hdh1:∀ x:Int,[I x]++(ho.map I).drop 1=(x::ho.drop 1).map I:=fun x=>by simp
       have hdr2:(ri.map I).drop 1=(ri.drop 1).map I:=by simp
       refine Run.region (cx_ok _ _ _) (Reg.op rfl (Ope.fld rfl rfl ?_))
       refine Reg.op rfl (Ope.load rfl rfl ?_)
       refine Reg.op rfl (Ope.bsl rfl rfl rfl rfl ?_)
       refine Reg.op rfl (Ope.len (m:=2) rfl rfl ?_)
       refine Reg.op rfl (Ope.mov rfl ?_)
       refine Reg.nil (Run.block (Run.loop (α:=Nat×Nat) (fun t=>[(2,.fp ((⟨ru,(kn:Int),li⟩:Fns).v t1 t2)),(10,.sl .no (ri.map I)),(11,.sl (tlU o2) (ho.map I)),(211,.sl .ex ([-1,(kn:Int)].map I)),(212,I 2),(213,I t.1)]) (fun t=>HE t.2 (ownU o2++[])) (fun t=>t.1≤2∧m≤t.2) (fun t=>2 - t.1) (0,m2) ⟨rfl,rfl,rfl,rfl,rfl,rfl,trivial⟩ rfl ⟨Nat.zero_le _,hm2⟩ (fun t ht=>?_)))
       obtain ⟨j,m4⟩:=t
       obtain ⟨hj2,hm4⟩:=ht
       simp only at hj2 hm4
       refine Run.seq (Run.region (cx_ok _ _ _) (Reg.op rfl (Ope.lt rfl rfl ?_)))
       refine Reg.nil (Run.seq (Run.condX rfl (fun hc=>?_) fun hc=>?_))
       ·refine Run.skip (Run.seq (Run.block (Run.seq ?_)))
        have hjl:j < ([-1,(kn:Int)]:List Int).length:=by show j < 2;omega
        have hbad:numB (kn:Int) ([-1,(kn:Int)]:List Int)[j]=false:=by
          rcases (by omega:j=0∨j=1) with rfl | rfl
          · rfl
          · show (decide (0 ≤ (kn : Int)) && decide ((kn : Int) < (kn : Int))) = false
            rw [decide_eq_false (Int.lt_irrefl _),Bool.and_false]
        have hkx:=hexN (([-1,(kn:Int)]:List Int)[j]::ri.drop 1) ho (hk0 hpos (by
          show (numB (kn:Int) ([-1,(kn:Int)]:List Int)[j] && _)=false
          rw [hbad,Bool.false_and]))
        have hbx:=hb2 (([-1,(kn:Int)]:List Int)[j]::ri.drop 1) ho
        refine Run.region (cx_ok _ _ _) (Reg.op rfl (Ope.idxM (m:=j) (f:=I) rfl rfl rfl hjl (fun _=>rfl) ?_))
        refine Reg.op rfl (Ope.load rfl rfl ?_)
        refine Reg.op rfl (Ope.asg rfl ?_)
        refine Reg.nil (Run.seq (Run.region (cx_ok _ _ _) (Reg.op rfl (Ope.mov rfl ?_))))
        refine Reg.op rfl (Ope.bsl rfl rfl rfl rfl ?_)
        refine Reg.op rfl (Ope.mov rfl ?_)
        refine Reg.op rfl (Ope.slD (m:=1) rfl rfl rfl (by rw [List.length_map];omega) (by intro v hv;obtain ⟨_,_,rfl⟩:=List.mem_map.1 hv;rfl) ?_)
        refine Reg.op rfl (Ope.apXE (vs:=[I ([-1,(kn:Int)]:List Int)[j]]) (ws:=(ri.map I).drop 1) rfl rfl (by simp only [List.length_drop,List.length_map,List.length_singleton];omega) (by simp only [List.length_drop,List.length_map,List.length_singleton];omega) (by decide) (by intro v hv;simp only [List.mem_singleton] at hv;subst hv;rfl) (by intro v hv;obtain ⟨_,_,rfl⟩:=List.mem_map.1 (List.mem_of_mem_drop hv);exact ⟨rfl,rfl⟩) (fun te m5 hm5=>?_))
        refine Reg.op rfl (Ope.asg rfl ?_)
        refine Reg.nil (Run.seq (Run.region (cx_ok _ _ _) (Reg.op rfl (Ope.load rfl rfl ?_))))
        refine Reg.op rfl (Ope.mov rfl ?_)
        refine Reg.op rfl (Ope.mov rfl ?_)
        refine Reg.op rfl (Ope.cfW rfl rfl (fun s xs h=>weak2 (hdr1 _) rfl h) hkx hbx ?_)
        refine Reg.op rfl (Ope.mov rfl ?_)
        refine Reg.op rfl (Ope.ext rfl rfl ?_)
        refine Reg.op rfl (Ope.ext rfl rfl ?_)
        refine Reg.op rfl (Ope.asg rfl ?_)
        refine Reg.op rfl (Ope.asg rfl ?_)
        refine Reg.nil (Run.seq (Run.region (cx_ok _ _ _) (Reg.op rfl (Ope.mov rfl ?_))))
        refine Reg.op rfl (Ope.ne rfl rfl ?_)
        refine Reg.nil (Run.condX rfl (fun hc=>?_) fun hc=>?_)
        ·(exfalso;omega)
        ·refine Run.skip (Run.bend (Run.region (cx_ok _ _ _) (Reg.op rfl (Ope.add rfl rfl (by omega) ?_))))
         refine Reg.op rfl (Ope.mov rfl ?_)
         exact Reg.nil (Run.lend ⟨(j+1,m5),by show 2 - (j+1) < 2 - j;omega,⟨by show j+1≤2;omega,by show m≤m5;omega⟩,⟨rfl,rfl,rfl,rfl,rfl,rfl,trivial⟩,rfl,rfl⟩)
       ·refine Run.exit (Jmp.code (Jmp.round (Jmp.here (Run.seq (Run.seq (Run.region (cx_ok _ _ _) (Reg.op rfl (Ope.bsl rfl rfl rfl rfl ?_))))))))
        refine Reg.op rfl (Ope.len (m:=2) rfl rfl ?_)
        refine Reg.op rfl (Ope.mov rfl ?_)
        refine Reg.nil (Run.block (Run.loop (α:=Nat×Nat) (fun t=>[(2,.fp ((⟨ru,(kn:Int),li⟩:Fns).v t1 t2)),(10,.sl .no (ri.map I)),(11,.sl (tlU o2) (ho.map I)),(232,.sl .ex ([-1,145].map I)),(233,I 2),(234,I t.1)]) (fun t=>HE t.2 (ownU o2++[])) (fun t=>t.1≤2∧m≤t.2) (fun t=>2 - t.1) (0,m4) ⟨rfl,rfl,rfl,rfl,rfl,rfl,trivial⟩ rfl ⟨Nat.zero_le _,hm4⟩ (fun t ht=>?_)))
        obtain ⟨j',m6⟩:=t
        obtain ⟨hj2',hm6⟩:=ht
        simp only at hj2' hm6
        refine Run.seq (Run.region (cx_ok _ _ _) (Reg.op rfl (Ope.lt rfl rfl ?_)))
        refine Reg.nil (Run.seq (Run.condX rfl (fun hc=>?_) fun hc=>?_))
        ·refine Run.skip (Run.seq (Run.block (Run.seq ?_)))
         have hjl':j' < ([-1,145]:List Int).length:=by show j' < 2;omega
         have hbad':upB 144 ([-1,145]:List Int)[j']=false:=by
           rcases (by omega:j'=0∨j'=1) with rfl | rfl
           · rfl
           · rfl
         have hkx':=hexN ri (([-1,145]:List Int)[j']::ho.drop 1) (hk0 hpos (by
           show (_ && upB 144 ([-1,145]:List Int)[j'])=false
           rw [hbad',Bool.and_false]))
         have hbx':=hb2 ri (([-1,145]:List Int)[j']::ho.drop 1)
         refine Run.region (cx_ok _ _ _) (Reg.op rfl (Ope.idxM (m:=j') (f:=I) rfl rfl rfl hjl' (fun _=>rfl) ?_))
         refine Reg.op rfl (Ope.load rfl rfl ?_)
         refine Reg.op rfl (Ope.asg rfl ?_)
         refine Reg.nil (Run.seq (Run.region (cx_ok _ _ _) (Reg.op rfl (Ope.mov rfl ?_))))
         refine Reg.op rfl (Ope.bsl rfl rfl rfl rfl ?_)
         refine Reg.op rfl (Ope.mov rfl ?_)
         refine Reg.op rfl (Ope.slD (m:=1) rfl rfl rfl (by rw [List.length_map];omega) (by intro v hv;obtain ⟨_,_,rfl⟩:=List.mem_map.1 hv;rfl) ?_)
         refine Reg.op rfl (Ope.apXE (vs:=[I ([-1,145]:List Int)[j']]) (ws:=(ho.map I).drop 1) rfl rfl (by simp only [List.length_drop,List.length_map,List.length_singleton];omega) (by simp only [List.length_drop,List.length_map,List.length_singleton];omega) (by decide) (by intro v hv;simp only [List.mem_singleton] at hv;subst hv;rfl) (by intro v hv;obtain ⟨_,_,rfl⟩:=List.mem_map.1 (List.mem_of_mem_drop hv);exact ⟨rfl,rfl⟩) (fun te' m7 hm7=>?_))
         refine Reg.op rfl (Ope.asg rfl ?_)
         refine Reg.nil (Run.seq (Run.region (cx_ok _ _ _) (Reg.op rfl (Ope.load rfl rfl ?_))))
         refine Reg.op rfl (Ope.mov rfl ?_)
         refine Reg.op rfl (Ope.mov rfl ?_)
         refine Reg.op rfl (Ope.cfW rfl rfl (fun s xs h=>weak2 rfl (hdh1 _) h) hkx' hbx' ?_)
         refine Reg.op rfl (Ope.mov rfl ?_)
         refine Reg.op rfl (Ope.ext rfl rfl ?_)
         refine Reg.op rfl (Ope.ext rfl rfl ?_)
         refine Reg.op rfl (Ope.asg rfl ?_)
         refine Reg.op rfl (Ope.asg rfl ?_)
         refine Reg.nil (Run.seq (Run.region (cx_ok _ _ _) (Reg.op rfl (Ope.mov rfl ?_))))
         refine Reg.op rfl (Ope.ne rfl rfl ?_)
         refine Reg.nil (Run.condX rfl (fun hc=>?_) fun hc=>?_)
         ·(exfalso;omega)
         ·refine Run.skip (Run.bend (Run.region (cx_ok _ _ _) (Reg.op rfl (Ope.add rfl rfl (by omega) ?_))))
          refine Reg.op rfl (Ope.mov rfl ?_)
          exact Reg.nil (Run.lend ⟨(j'+1,m7),by show 2 - (j'+1) < 2 - j';omega,⟨by show j'+1≤2;omega,by show m≤m7;omega⟩,⟨rfl,rfl,rfl,rfl,rfl,rfl,trivial⟩,rfl,rfl⟩)
        ·refine Run.exit (Jmp.code (Jmp.round (Jmp.here (Run.seq ?_))))
         have hkz:=hexN (ri.drop 1) ho (hkl1 (by rw [List.length_drop];omega))
         have hbz:=hb2 (ri.drop 1) ho
         refine Run.draw (cx_ok _ _ _) [(0,true),(1,true),(2,true),(3,true),(4,true),(5,true),(6,true),(7,true),(8,true),(9,true)] (by kernel_rfl) (Dra.op' rfl rfl rfl .sure (Ope.load rfl rfl ?_))
         refine Dra.op' rfl rfl rfl .sure (Ope.mov rfl ?_)
         refine Dra.op' rfl rfl rfl .sure (Ope.slD (m:=1) rfl rfl rfl (by rw [List.length_map];omega) (by intro v hv;obtain ⟨_,_,rfl⟩:=List.mem_map.1 hv;rfl) ?_)
         refine Dra.op' rfl rfl rfl .sure (Ope.mov rfl ?_)
         refine Dra.op' rfl rfl rfl .sure (Ope.cfW rfl rfl (fun s xs h=>weak2 hdr2 rfl h) hkz hbz ?_)
         refine Dra.op' rfl rfl rfl .sure (Ope.mov rfl ?_)
         refine Dra.op' rfl rfl rfl .sure (Ope.ext rfl rfl ?_)
         refine Dra.op' rfl rfl rfl .sure (Ope.ext rfl rfl ?_)
         refine Dra.op' rfl rfl rfl .sure (Ope.asg rfl ?_)
         refine Dra.op' rfl rfl rfl .sure (Ope.asg rfl ?_)
         refine Dra.nil (Run.seq (Run.region (cx_ok _ _ _) (Reg.op rfl (Ope.mov rfl ?_))))
         refine Reg.op rfl (Ope.ne rfl rfl ?_)
         refine Reg.nil (Run.condX rfl (fun hc=>?_) fun hc=>?_)
         ·(exfalso;omega)
         ·refine Run.skip (Run.seq ?_)
          have hkw:=hexN ri (ho++[1]) (hkl2 (by rw [List.length_append,hhl];show li.length+1≠li.length;omega))
          have hbw:=hb2 ri (ho++[1])
          have hdw:ho.map I++[I 1]=(ho++[1]).map I:=by rw [List.map_append];rfl
          refine Run.draw (cx_ok _ _ _) [(0,false),(1,true),(2,true),(3,true),(4,true),(5,true),(6,true),(7,true),(8,true),(9,true),(10,true)] (by kernel_rfl) (Dra.op' rfl rfl rfl (.load rfl) (Ope.load rfl rfl ?_))
          refine Dra.op' rfl rfl rfl .sure (Ope.mov rfl ?_)
          refine Dra.op' rfl rfl rfl .sure (Ope.mov rfl ?_)
          refine Dra.op' rfl rfl rfl .sure (Ope.bsl rfl rfl rfl rfl ?_)
          refine Dra.op' rfl rfl rfl .sure (Ope.apU (o':=o2) (vs:=ho.map I) (ws:=[I 1]) (l:=[]) rfl rfl (by simp) (fun j hj=>⟨hne2 j hj,rfl⟩) (by simp only [List.length_map,List.length_singleton];omega) (by simp only [List.length_map,List.length_singleton];omega) (by decide) (by intro v hv;obtain ⟨_,_,rfl⟩:=List.mem_map.1 hv;rfl) (by intro v hv;simp only [List.mem_singleton] at hv;subst hv;exact ⟨rfl,rfl⟩) ?_)
          refine Dra.op' rfl rfl rfl .sure (Ope.cfW rfl rfl (fun s xs h=>weak2 rfl hdw h) hkw hbw ?_)
          refine Dra.op' rfl rfl rfl .sure (Ope.mov rfl ?_)
          refine Dra.op' rfl rfl rfl .sure (Ope.ext rfl rfl ?_)
          refine Dra.op' rfl rfl rfl .sure (Ope.ext rfl rfl ?_)
          refine Dra.op' rfl rfl rfl .sure (Ope.asg rfl ?_)
          refine Dra.op' rfl rfl rfl .sure (Ope.asg rfl ?_)
          refine Dra.nil (Run.seq (Run.region (cx_ok _ _ _) (Reg.op rfl (Ope.mov rfl ?_))))
          refine Reg.op rfl (Ope.eq rfl rfl ?_)
          refine Reg.op rfl (Ope.mov rfl ?_)
          refine Reg.splitX rfl rfl (fun hg=>?_) fun hg=>?_
          ·refine Reg.on rfl rfl rfl (Ope.cf rfl rfl (aliveF) rfl ?_)
           refine Reg.op rfl (Ope.pickT rfl rfl ?_)
           refine Reg.op rfl (Ope.asg rfl ?_)
           exact Reg.nil (Run.ret (fin_ret (.tmp rfl .nil) rfl rfl))
          ·(exfalso;omega)
      ·refine Run.skip (Run.seq ?_)
       have hkw:=hexN ri (ho++[1]) (hkl2 (by rw [List.length_append,hhl];show li.length+1≠li.length;omega))
       have hbw:=hb2 ri (ho++[1])
       have hdw:ho.map I++[I 1]=(ho++[1]).map I:=by rw [List.map_append];rfl
       refine Run.draw (cx_ok _ _ _) [(0,false),(1,true),(2,true),(3,true),(4,true),(5,true),(6,true),(7,true),(8,true),(9,true),(10,true)] (by kernel_rfl) (Dra.op' rfl rfl rfl (.load rfl) (Ope.load rfl rfl ?_))
       refine Dra.op' rfl rfl rfl .sure (Ope.mov rfl ?_)
       refine Dra.op' rfl rfl rfl .sure (Ope.mov rfl ?_)
       refine Dra.op' rfl rfl rfl .sure (Ope.bsl rfl rfl rfl rfl ?_)
       refine Dra.op' rfl rfl rfl .sure (Ope.apU (o':=o2) (vs:=ho.map I) (ws:=[I 1]) (l:=[]) rfl rfl (by simp) (fun j hj=>⟨hne2 j hj,rfl⟩) (by simp only [List.length_map,List.length_singleton];omega) (by simp only [List.length_map,List.length_singleton];omega) (by decide) (by intro v hv;obtain ⟨_,_,rfl⟩:=List.mem_map.1 hv;rfl) (by intro v hv;simp only [List.mem_singleton] at hv;subst hv;exact ⟨rfl,rfl⟩) ?_)
       refine Dra.op' rfl rfl rfl .sure (Ope.cfW rfl rfl (fun s xs h=>weak2 rfl hdw h) hkw hbw ?_)
       refine Dra.op' rfl rfl rfl .sure (Ope.mov rfl ?_)
       refine Dra.op' rfl rfl rfl .sure (Ope.ext rfl rfl ?_)
       refine Dra.op' rfl rfl rfl .sure (Ope.ext rfl rfl ?_)
       refine Dra.op' rfl rfl rfl .sure (Ope.asg rfl ?_)
       refine Dra.op' rfl rfl rfl .sure (Ope.asg rfl ?_)
       refine Dra.nil (Run.seq (Run.region (cx_ok _ _ _) (Reg.op rfl (Ope.mov rfl ?_))))
       refine Reg.op rfl (Ope.eq rfl rfl ?_)
       refine Reg.op rfl (Ope.mov rfl ?_)
       refine Reg.splitX rfl rfl (fun hg=>?_) fun hg=>?_
       ·refine Reg.on rfl rfl rfl (Ope.cf rfl rfl (aliveF) rfl ?_)
        refine Reg.op rfl (Ope.pickT rfl rfl ?_)
        refine Reg.op rfl (Ope.asg rfl ?_)
        exact Reg.nil (Run.ret (fin_ret (.tmp rfl .nil) rfl rfl))
       ·(exfalso;omega)
end
end Go.Pv
namespace Go.Pv
open Go.Proofs Go.Am
set_option maxRecDepth 10000
section
variable {H:Type} {enc:TypeId×Value→H} {w:World} {base:Nat} {held:Bool}
theorem reads_int:Reads enc Tryz.prog w base (fun _=>true) held 3 fun ps=>∃ n:Int,ps=[I n]∧(-9223372036854775808≤n∧n≤9223372036854775807) :=
  (Reads.int Tryz.underlying3).mono fun ps ⟨n,h,h1,h2⟩=>⟨n,h,Int.le_trans (by decide) h1,Int.le_trans h2 (by decide)⟩
theorem reads_span:Reads enc Tryz.prog w base (fun _=>true) held 30 fun ps=>∃ a b:Int,ps=[I a,I b] :=
  (Reads.struct (Qs:=[fun ps=>∃ n:Int,ps=[I n]∧_,fun ps=>∃ n:Int,ps=[I n]∧_]) Tryz.underlying30 (by kernel_rfl) ⟨reads_int,reads_int,trivial⟩).mono fun ps h=>by
    obtain ⟨_,_,rfl,⟨a,rfl,_⟩,_,_,rfl,⟨b,rfl,_⟩,rfl⟩:=h
    exact ⟨a,b,rfl⟩
theorem reads_ofc:Reads enc Tryz.prog w base (fun _=>true) held 52 fun ps=>∃ j:Ofc,ps=j.v.cells :=
  (Reads.struct (Qs:=[fun ps=>∃ n:Int,ps=[I n]∧_,fun ps=>∃ n:Int,ps=[I n]∧_,fun ps=>∃ a b:Int,ps=[I a,I b]]) Tryz.underlying52 (by kernel_rfl) ⟨reads_int,reads_int,reads_span,trivial⟩).mono fun ps h=>by
    obtain ⟨_,_,rfl,⟨a,rfl,_⟩,_,_,rfl,⟨d,rfl,_⟩,_,_,rfl,⟨b,c,rfl⟩,rfl⟩:=h
    exact ⟨⟨a,d,b,c⟩,rfl⟩
theorem reads_rul:Reads enc Tryz.prog w base (fun _=>true) held 54 fun ps=>∃ j:Rul,ps=j.v.cells :=
  (Reads.struct (Qs:=[fun ps=>∃ n:Int,ps=[I n]∧_,fun ps=>∃ n:Int,ps=[I n]∧_,fun ps=>∃ n:Int,ps=[I n]∧_,fun ps=>∃ n:Int,ps=[I n]∧_]) Tryz.underlying54 (by kernel_rfl) ⟨reads_int,reads_int,reads_int,reads_int,trivial⟩).mono fun ps h=>by
    obtain ⟨_,_,rfl,⟨a,rfl,_⟩,_,_,rfl,⟨b,rfl,_⟩,_,_,rfl,⟨c,rfl,_⟩,_,_,rfl,⟨d,rfl,_⟩,rfl⟩:=h
    exact ⟨⟨a,b,c,d⟩,rfl⟩
theorem cells_ofc:Tryz.prog.cellsOf 52=4:=by kernel_rfl
theorem cells_rul:Tryz.prog.cellsOf 54=4:=by kernel_rfl
theorem cells_u16:Tryz.prog.cellsOf 62=1:=by kernel_rfl
structure Fns.hnd (s:Fns):Prop where
  ru:s.ru.length≤9223372036854775807
  li:s.li.length≤9223372036854775807
theorem reads_fines:Reads enc Tryz.prog w base (fun _=>true) held 25 fun ps=>∃ s:Fns,s.hnd∧ps=[.sl .no (s.ru.map Rul.v),I s.n,.sl .no (s.li.map Ofc.v)] :=
  (Reads.struct (Qs:=[fun ps=>∃ S:List Rul,ps=[.sl .no (S.map Rul.v)]∧S.length≤maxLen∧_,fun ps=>∃ n:Int,ps=[I n]∧_,fun ps=>∃ S:List Ofc,ps=[.sl .no (S.map Ofc.v)]∧S.length≤maxLen∧_]) Tryz.underlying25 (by kernel_rfl)
    ⟨Reads.slice (Q := fun _ => True) (f := Rul.v) (fun _ => rfl) Tryz.underlying22 (by rw [cells_rul]; decide) (reads_rul.mono fun ps ⟨s, h⟩ => ⟨s, h, by rw [cells_rul]; rfl, trivial⟩), reads_int,
     Reads.slice (Q:=fun _=>True) (f:=Ofc.v) (fun _=>rfl) Tryz.underlying23 (by rw [cells_ofc];decide) (reads_ofc.mono fun ps ⟨s,h⟩=>⟨s,h,by rw [cells_ofc];rfl,trivial⟩),trivial⟩).mono fun ps h=>by
    obtain ⟨_,_,rfl,⟨ru,rfl,hl,_⟩,_,_,rfl,⟨n,rfl,_⟩,_,_,rfl,⟨li,rfl,hl2,_⟩,rfl⟩:=h
    exact ⟨⟨ru,n,li⟩,⟨hl,hl2⟩,rfl⟩
theorem trod_fines {v:Value} {d:DataW H} {ps:List MemPlace} {r:Reach} {b:Nat} (hv:Value.okWide Tryz.prog w r b 25 v) (h:DataW.Trod enc Tryz.prog w base (fun _=>true) held 25 v d ps):∃ s:Fns,s.hnd∧RV (St.froz w) (s.v .no .no) v:=by
  obtain ⟨l,h1,s,hi,rfl⟩:=trod_agg Tryz.underlying25 hv h reads_fines
  exact ⟨s,hi,h1⟩
theorem trod_u16 {v : Value} {d : DataW H} {ps : List MemPlace} {r : Reach} {b : Nat} (hv : Value.okWide Tryz.prog w r b 42 v) (h : DataW.Trod enc Tryz.prog w base (fun _ => true) held 42 v d ps) : ∃ xs : List Nat, (∀ x ∈ xs, x < 65536) ∧ RV (St.froz w) (.sl .no (xs.map U16)) v := by
  obtain ⟨xs,h1,_,h3⟩:=trod_ints Tryz.underlying42 Tryz.underlying62 cells_u16 hv h
  have h4:∀ x∈xs,0≤x∧x≤65535:=fun x hx=>⟨Int.le_trans (by decide) (h3 x hx).1,Int.le_trans (h3 x hx).2 (by decide)⟩
  refine ⟨xs.map Int.toNat,fun x hx=>?_,?_⟩
  · obtain ⟨y, hy, rfl⟩ := List.mem_map.1 hx
    have:=h4 y hy;omega
  · have e : (xs.map Int.toNat).map U16 = xs.map fun n => .lit (.int .u16 n) := by
      rw [List.map_map]
      exact List.map_congr_left fun x hx=>by
        have:=h4 x hx
        show PV.lit (.int .u16 ((x.toNat:Nat):Int))=_
        rw [Int.toNat_of_nonneg this.1]
    rw [e]
    exact h1
end
theorem f6 (s:Fns) (hi:s.hnd) (xs:List Nat) (hx:∀ x∈xs,x < 65536):Fn P0 6 [s.v .no .no,.sl .no (xs.map U16)] (B true):=by
  cases hl:s.lng with
  | true=>exact f6l s rfl rfl .no xs hl
  | false =>
    cases hv:s.B with
    | false=>exact f6n s rfl rfl hi.ru hi.li .no xs hl hv
    | true=>exact f6v s rfl rfl (fns_ok s hv) .no xs hx
end Go.Pv
