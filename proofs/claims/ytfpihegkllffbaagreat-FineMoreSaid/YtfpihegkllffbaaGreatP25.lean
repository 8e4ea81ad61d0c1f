/- Parts of the proof: E53, E54 -/
import Derived.Test.YtfpihegkllffbaaGreatP24
set_option linter.unusedVariables false
set_option linter.unusedSimpArgs false
set_option linter.unusedSectionVars false
namespace Go.Pv
open Go.Proofs Go.Am
set_option maxRecDepth 10000
set_option maxHeartbeats 4000000
theorem neSpF (xo yo:Operand) (x y:Int):pbin A0 E0 .neq 30 xo yo (.agg [I x,I y]) (.agg [I x,I y])=some (B false):=by
  rw [neSp]
  simp
theorem ofcs_lenN (L:List Ofc) (post:List PV):(flat (L.map Ofc.v)++post).length=L.length * 4+post.length:=by rw [ofcs_len];omega
section
variable (f:Fns) {t1 t2:Tail} (h1:t1.isOwn=false) (h2:t2.isOwn=false)
include h1 h2
theorem f9v (hf : f.ok) (hh : Fn P0 11 [f.v t1 t2, I 4000, .sl .ex []] (B false)) (hl0 : 0 < f.li.length) (p q w : Nat) (hp : p < 256) (hq : q < 256) (hw : w < 256) : Fn P0 9 [f.v t1 t2, .lit (.int .u8 (p : Int)), .lit (.int .u8 (q : Int)), .lit (.int .u8 (w : Int))] (B true) := by
  have hl5:=hf.li
  have hr4:=hf.ru
  have hS:f.ru.length≤9223372036854775807:=by omega
  have hJ:f.li.length≤9223372036854775807:=by omega
  have hv:=fns_B f hf
  have hfi:=f26 f h1 h2 hS hJ
  rw [hv] at hfi
  have hb:PV.bds 0 [f.v t1 t2,I 4000,.sl .ex []]=true:=bd_fnsV f h1 h2 rfl
  have hb0:PV.bds 0 [f.v t1 t2]=true:=bd_fnsV f h1 h2 rfl
  have hb1:∀ i:Nat,PV.bds 0 [f.v t1 t2,N i]=true:=fun i=>bd_fnsV f h1 h2 rfl
  have hbx:∀ L:List Ofc,PV.bds 0 [(f.wl L).v t1 .no]=true:=fun L=>bd_fnsV (f.wl L) h1 rfl rfl
  have hbx1:∀ (L:List Ofc) (i:Nat),PV.bds 0 [(f.wl L).v t1 .no,N i]=true:=fun L i=>bd_fnsV (f.wl L) h1 rfl rfl
  obtain ⟨kn,hkn,hk6⟩:∃ k:Nat,f.n=(k:Int)∧(0 < k∧k≤6):=⟨f.n.toNat,by have:=hf.n;omega,by have:=hf.n;omega⟩
  have hnl:p % f.li.length < f.li.length:=Nat.mod_lt _ hl0
  generalize hnn:p % f.li.length=nn at *
  have hnn64:1 * 2 ^ nn < 64:=by
    have:=Nat.pow_lt_pow_right (a:=2) (by decide) (show nn < 6 by omega)
    omega
  have hwo:=f33 f h1 h2 hl5 (1 * 2 ^ nn) hnn64
  have hbw:PV.bds 0 [f.v t1 t2,N (1 * 2 ^ nn)]=true:=bd_fnsV f h1 h2 rfl
  rw [wo_one] at hwo
  obtain ⟨LS,hLS⟩:∃ L,f.li.eraseIdx nn=L:=⟨_,rfl⟩
  rw [hLS] at hwo
  have hlok:(f.wl LS).ok:=hLS ▸ less_ok hf nn
  have hlv:=fns_B _ hlok
  have hll:LS.length+1=f.li.length:=hLS ▸ len_less hnl
  have hofn:=Fns.ofc_at hnl
  have hlvn:=hf.lv _ (List.getElem_mem hnl)
  obtain ⟨oc,hoc⟩:∃ o,f.li[nn]=o:=⟨_,rfl⟩
  rw [hoc] at hlvn hofn
  obtain ⟨kd,ri,lo,hi⟩:=oc
  simp only at hlvn
  have hp64:(2:Int) ^ f.n.toNat=((2 ^ kn:Nat):Int):=by rw [hkn,Int.toNat_natCast];push_cast;rfl
  have hpk:2 ^ kn≤2 ^ 6:=Nat.pow_le_pow_right (by decide) hk6.2
  rw [hp64] at hlvn
  obtain ⟨R,rfl⟩:∃ R:Nat,ri=(R:Int):=⟨ri.toNat,by omega⟩
  have hqk:q % kn < kn:=Nat.mod_lt _ hk6.1
  have hsh:1 * 2 ^ (q % kn) < 64:=by
    have:=Nat.pow_lt_pow_right (a:=2) (by decide) (show q % kn < 6 by omega)
    omega
  have hor:(q ||| 1 * 2 ^ (q % kn)) < 256:=Nat.or_lt_two_pow (n:=8) (by omega) (by omega)
  obtain ⟨OWN,hOWN⟩:∃ x,R &&& (q ||| 1 * 2 ^ (q % kn))=x:=⟨_,rfl⟩
  have hown1:OWN≤R:=hOWN ▸ Nat.and_le_left
  have hown2:∀ r,OWN.testBit r=true→R.testBit r=true:=fun r h=>by
    rw [← hOWN,Nat.testBit_and] at h
    exact (Bool.and_eq_true _ _ ▸ h).1
  have hw2:w % 2 < 2:=Nat.mod_lt _ (by decide)
  obtain ⟨al,hal⟩:∃ a:Nat→Bool,a=fun k=>(List.range k).all fun i=>decide (i=nn) || decide ((f.ofc i).kd≠kd):=⟨_,rfl⟩
  have hals:∀ k,al (k+1)=(al k && (decide (k=nn) || decide ((f.ofc k).kd≠kd))):=fun k=>by
    rw [hal]
    show (List.range (k+1)).all _=_
    rw [List.range_succ,List.all_append]
    simp
  have hal0:al 0=true:=by rw [hal];rfl
  have hall1:al f.li.length=true→∀ i,i < f.li.length→i≠nn→(f.ofc i).kd≠kd:=fun h i hi hne=>by
    rw [hal] at h
    have:=List.all_eq_true.1 h i (List.mem_range.2 hi)
    simpa [hne] using this
  have hofk:∀ k (h:k < f.li.length),(f.ofc k).kd=f.li[k].kd:=fun k h=>by rw [Fns.ofc_at h]
  have hnum:∀ (m i:Nat),i < m→numB (m:Int) (i:Int)=true:=fun m i h=>by unfold numB;rw [decide_eq_true (by omega),decide_eq_true (by omega)];rfl
  have hall:∀ (R':Nat) (lo':Int),0 < R'→R' < 2 ^ kn→(∀ r,R'.testBit r=true→R.testBit r=true)→lo≤lo'→lo'≤hi →
      (∃ a b c d e g:Int,Fn P0 19 [f.v t1 t2] (.tup [.agg [I a,I b],I 0])∧Fn P0 19 [(f.wl (f.li.set nn ⟨kd,R',lo',hi⟩)).v t1 .no] (.tup [.agg [I c,I d],I 0])∧Fn P0 19 [(f.wl LS).v t1 .no] (.tup [.agg [I e,I g],I 0])∧(a≤c∧d≤b)∧e≤a∧g≤b) ∧
      (∀ r:Nat,r < kn→∃ a b c d e g a' b' c' d' e' g':Int,Fn P0 15 [f.v t1 t2,N r] (.tup [.agg [I a,I b],I 0])∧Fn P0 15 [(f.wl (f.li.set nn ⟨kd,R',lo',hi⟩)).v t1 .no,N r] (.tup [.agg [I c,I d],I 0])∧Fn P0 15 [(f.wl LS).v t1 .no,N r] (.tup [.agg [I e,I g],I 0]) ∧
        Fn P0 17 [f.v t1 t2,N r] (.tup [.agg [I a',I b'],I 0])∧Fn P0 17 [(f.wl (f.li.set nn ⟨kd,R',lo',hi⟩)).v t1 .no,N r] (.tup [.agg [I c',I d'],I 0])∧Fn P0 17 [(f.wl LS).v t1 .no,N r] (.tup [.agg [I e',I g'],I 0]) ∧
        (a≤c∧d≤b)∧(a'≤c'∧d'≤b')∧g≤b∧g'≤b') ∧
      (∀ i:Nat,i < f.li.length→∃ a b c d:Int,Fn P0 13 [f.v t1 t2,N i] (.tup [.agg [I a,I b],I 0])∧Fn P0 13 [(f.wl (f.li.set nn ⟨kd,R',lo',hi⟩)).v t1 .no,N i] (.tup [.agg [I c,I d],I 0])∧(a≤c∧d≤b)∧(al f.li.length=true→i≠nn→Fn P0 13 [(f.wl LS).v t1 .no,N (if nn < i then i - 1 else i)] (.tup [.agg [I a,I b],I 0]))):=fun R' lo' r1 r2 r3 l1 l2=>by
    have hxo:(f.wl (f.li.set nn ⟨kd,R',lo',hi⟩)).ok:=nar_ok hf ⟨hlvn.1,⟨by show (0:Int) < (R':Int);omega,by show (R':Int) < 2 ^ f.n.toNat;rw [hp64];omega⟩,by show 0≤lo';omega,by show lo'≤hi;omega,by show hi≤144;omega,by show hi - lo'≤2;omega⟩
    have hxv:=fns_B _ hxo
    have hxt:=fun T=>nar_tru (f:=f) hnl (o:=⟨kd,R',lo',hi⟩) (by rw [hofn]) (fun r h=>by rw [hofn];exact r3 r h) (by rw [hofn];exact l1) (by rw [hofn];exact Int.le_refl _) T
    have hxl:(f.wl (f.li.set nn ⟨kd,R',lo',hi⟩)).li.length=f.li.length:=List.length_set ..
    have hin:=fun {g} (hg:Gok g)=>spn_in hf hxo hxt hg
    have hdn:=fun {g} (hg:Gok g) (hm:Gmo g)=>dn_spn hf hnl hg hm
    rw [hLS] at hdn
    refine ⟨?_,fun r hr=>?_,fun i hi'=>?_⟩
    · have e1 := f19 f h1 h2 hS hJ
      have e2:=f19 (f.wl (f.li.set nn ⟨kd,R',lo',hi⟩)) (t1:=t1) (t2:=.no) h1 rfl hS (by rw [hxl];omega)
      have e3:=f19 (f.wl LS) (t1:=t1) (t2:=.no) h1 rfl hS (by show LS.length≤_;omega)
      rw [tolS_ok hv,spn_total hf] at e1
      rw [tolS_ok hxv,spn_total hxo] at e2
      rw [tolS_ok hlv,spn_total hlok] at e3
      have g1:=hin gA_ok
      have g2:=hdn gA_ok gA_mo
      exact ⟨_,_,_,_,_,_,e1,e2,e3,g1,g2.1,g2.2⟩
    · have hrn : ∀ g : Fns, g.n = f.n → numB g.n (r : Int) = true := fun g hg => by rw [hg, hkn]; exact hnum kn r hr
      have e1:=f15 f h1 h2 hS hJ (r:Int)
      have e2:=f15 (f.wl (f.li.set nn ⟨kd,R',lo',hi⟩)) (t1:=t1) (t2:=.no) h1 rfl hS (by rw [hxl];omega) (r:Int)
      have e3:=f15 (f.wl LS) (t1:=t1) (t2:=.no) h1 rfl hS (by show LS.length≤_;omega) (r:Int)
      have e4:=f17 f h1 h2 hS hJ (r:Int)
      have e5:=f17 (f.wl (f.li.set nn ⟨kd,R',lo',hi⟩)) (t1:=t1) (t2:=.no) h1 rfl hS (by rw [hxl];omega) (r:Int)
      have e6:=f17 (f.wl LS) (t1:=t1) (t2:=.no) h1 rfl hS (by show LS.length≤_;omega) (r:Int)
      rw [hrn f rfl,tolS_ok hv] at e1 e4
      rw [hrn (f.wl (f.li.set nn ⟨kd,R',lo',hi⟩)) rfl,tolS_ok hxv] at e2 e5
      rw [hrn (f.wl LS) rfl,tolS_ok hlv] at e3 e6
      exact ⟨_,_,_,_,_,_,_,_,_,_,_,_,e1,e2,e3,e4,e5,e6,hin (gF_ok _),hin (gP_ok _),(hdn (gF_ok _) (gF_mo _)).2,(hdn (gP_ok _) (gP_mo _)).2⟩
    · have e1 := f13 f h1 h2 hS hJ (i : Int)
      have e2:=f13 (f.wl (f.li.set nn ⟨kd,R',lo',hi⟩)) (t1:=t1) (t2:=.no) h1 rfl hS (by rw [hxl];omega) (i:Int)
      rw [hnum _ _ hi',tolS_ok hv,Int.toNat_natCast] at e1
      rw [hxl,hnum _ _ hi',tolS_ok hxv,Int.toNat_natCast] at e2
      refine ⟨_,_,_,_,e1,e2,hin (gC_ok _),fun ha hne=>?_⟩
      have e3:=f13 (f.wl LS) (t1:=t1) (t2:=.no) h1 rfl hS (by show LS.length≤_;omega) ((if nn < i then i - 1 else i:Nat):Int)
      rw [show numB ((f.wl LS).li.length:Int) ((if nn < i then i - 1 else i:Nat):Int)=true from hnum _ _ (by show _ < LS.length;split<;>omega),tolS_ok hlv,Int.toNat_natCast] at e3
      have hd:=dn_cost hf hnl hi' hne (by rw [hofn];exact hall1 ha i hi' hne)
      rw [hLS] at hd
      rw [hd] at e3
      exact e3
  have hsetn:f.li.set nn ⟨kd,R,lo,hi⟩=f.li:=by rw [← hoc,List.set_getElem_self]
  obtain ⟨ru,n,li⟩:=f
  simp only at hkn
  subst hkn
  simp only [Fns.wl] at hl5 hr4 hall hl0 hnl hlvn hwo hbx hbx1 hsetn hoc hll hofk
  have hlne:li.map Ofc.v≠[]:=fun h=>by have h9:=congrArg List.length h;rw [List.length_map] at h9;have h8:li.length=0:=h9;omega
  have hln:([]:List PV).length+(li.map Ofc.v).length=li.length:=by simp
  have hcs:=ofcs_lenN
  clear hf hv hlok hlv hofn hall1 hal hLS
  refine PFun.of (C:=c9) (cx_ok _ _ _) rfl (fn:=Tryz.f9) (by kernel_rfl) (c:=_) rfl rfl rfl ?_
  refine Run.seq (Run.region (cx_ok _ _ _) (Reg.op rfl (Ope.boxF rfl rfl ?_)))
  refine Reg.op rfl (Ope.asg rfl ?_)
  refine Reg.nil (Run.seq (Run.seq (Run.region (cx_ok _ _ _) (Reg.op rfl (Ope.load rfl rfl ?_)))))
  refine Reg.op rfl (Ope.cf rfl rfl hh hb ?_)
  refine Reg.op rfl (Ope.mov rfl ?_)
  refine Reg.on rfl rfl rfl (Ope.load rfl rfl ?_)
  refine Reg.on rfl rfl rfl (Ope.cf rfl rfl hfi hb0 ?_)
  refine Reg.on rfl rfl rfl (Ope.not rfl ?_)
  refine Reg.op rfl (Ope.pickF rfl rfl ?_)
  refine Reg.op rfl (Ope.mov rfl ?_)
  refine Reg.on rfl rfl rfl (Ope.fld rfl rfl ?_)
  refine Reg.on rfl rfl rfl (Ope.load rfl rfl ?_)
  refine Reg.on rfl rfl rfl (Ope.len (m:=li.length) rfl (by simp) ?_)
  refine Reg.on rfl rfl rfl (Ope.eq rfl rfl ?_)
  refine Reg.op rfl (Ope.pickF rfl rfl ?_)
  refine Reg.nil (Run.condX rfl (fun hc=>?_) fun hc=>?_)
  ·exfalso;(have hz:(li.length:Int)=0:=by simpa using hc);omega
  ·refine Run.skip (Run.seq (Run.region (cx_ok _ _ _) (Reg.op rfl (Ope.mov rfl ?_))))
   first | refine Reg.op rfl (Ope.conv rfl (wrap_in _ (by omega) (by omega)) ?_) | refine Reg.op rfl (Ope.conv rfl rfl ?_)
   refine Reg.op rfl (Ope.fld rfl rfl ?_)
   refine Reg.op rfl (Ope.load rfl rfl ?_)
   refine Reg.op rfl (Ope.len (m:=li.length) rfl (by simp) ?_)
   refine Reg.op rfl (Ope.remN (p:=p) (q:=li.length) rfl rfl rfl rfl hl0 ?_)
   rw [hnn]
   refine Reg.op rfl (Ope.asg rfl ?_)
   refine Reg.nil (Run.seq (Run.region (cx_ok _ _ _) (Reg.op rfl (Ope.load rfl rfl ?_))))
   refine Reg.op rfl (Ope.newL rfl ?_)
   refine Reg.op0 (Ope.store rfl rfl hget_hd rfl rfl rfl ?_)
   refine Reg.nil (Run.seq (Run.region (cx_ok _ _ _) (Reg.op rfl (Ope.bsl rfl rfl rfl rfl ?_))))
   refine Reg.op rfl (Ope.fld rfl rfl ?_)
   refine Reg.op rfl (Ope.load rfl rfl ?_)
   refine Reg.op rfl (Ope.apLa rfl rfl hlne (by rw [hln];omega) (by rw [hln];omega) (by decide) (by simp) (by intro v hv;obtain ⟨_,_,rfl⟩:=List.mem_map.1 hv;exact ⟨rfl,rfl⟩) (fun cp post ez hcp=>?_))
   refine Reg.op rfl (Ope.fld rfl rfl ?_)
   refine Reg.op0 (Ope.store rfl rfl rfl rfl rfl rfl ?_)
   refine Reg.nil (Run.seq (Run.region (cx_ok _ _ _) (Reg.op rfl (Ope.fld rfl rfl ?_))))
   refine Reg.op rfl (Ope.load rfl rfl ?_)
   refine Reg.op rfl (Ope.mov rfl ?_)
   refine Reg.op rfl (Ope.idxL (m:=nn) rfl rfl rfl (by rw [hln];exact hnl) ?_)
   refine Reg.op rfl (Ope.asg rfl ?_)
   refine Reg.nil (Run.seq (Run.seq (Run.draw (cx_ok _ _ _) [(0,true),(1,true),(2,true),(3,true),(4,true),(5,true),(6,true),(7,true),(8,true),(9,true),(10,true),(11,true),(12,true),(13,true),(14,true)] (by kernel_rfl) (Dra.op' rfl rfl rfl .sure (Ope.mov rfl ?_)))))
   refine Dra.op' rfl rfl rfl .sure (Ope.nilc rfl rfl ?_)
   refine Dra.op' rfl rfl rfl .sure (Ope.fld rfl rfl ?_)
   refine Dra.op' rfl rfl rfl .sure (Ope.load rfl (ld_ofc (L:=li) (post:=post) (p:=nn) (c:=1) (v:=R) rfl hnl (by decide) (by show 0+nn * 4+1=_;omega) (by rw [hoc];rfl)) ?_)
   refine Dra.op' rfl rfl rfl .sure (Ope.mov rfl ?_)
   first | refine Dra.op' rfl rfl rfl .sure (Ope.conv rfl (wrap_in _ (by omega) (by omega)) ?_) | refine Dra.op' rfl rfl rfl .sure (Ope.conv rfl rfl ?_)
   refine Dra.op' rfl rfl rfl .sure (Ope.mov rfl ?_)
   first | refine Dra.op' rfl rfl rfl .sure (Ope.conv rfl (wrap_in _ (by omega) (by omega)) ?_) | refine Dra.op' rfl rfl rfl .sure (Ope.conv rfl rfl ?_)
   refine Dra.op' rfl rfl rfl .sure (Ope.fld rfl rfl ?_)
   refine Dra.op' rfl rfl rfl .sure (Ope.load rfl rfl ?_)
   refine Dra.op' rfl rfl rfl .sure (Ope.remN (p:=q) (q:=kn) rfl rfl rfl rfl hk6.1 ?_)
   refine Dra.op' rfl rfl rfl .sure (Ope.shlN (p:=1) (m:=q % kn) rfl rfl rfl rfl (by omega) (by omega) ?_)
   refine Dra.op' rfl rfl rfl .sure (Ope.orN (p:=q) (q:=1 * 2 ^ (q % kn)) rfl rfl rfl rfl (by show q < 2 ^ 63;omega) (by show 1 * 2 ^ (q % kn) < 2 ^ 63;omega) ?_)
   refine Dra.op' rfl rfl rfl .sure (Ope.andN (p:=R) (q:=q ||| 1 * 2 ^ (q % kn)) rfl rfl rfl rfl (by show R < 2 ^ 64;omega) (by show (q ||| 1 * 2 ^ (q % kn)) < 2 ^ 63;omega) ?_)
   rw [hOWN]
   refine Dra.op' rfl rfl rfl .sure (Ope.asg rfl ?_)
   refine Dra.nil (Run.seq (Run.region (cx_ok _ _ _) (Reg.op rfl (Ope.mov rfl ?_))))
   refine Reg.op rfl (Ope.ne rfl rfl ?_)
   refine Reg.nil (Run.cut (fun e' d' h'=>∃ (R':Nat) (l':HL),Lsub [(3,.lit (.int .u8 (w:Int))),(4,.fp ((⟨ru,(kn:Int),li⟩:Fns).v t1 t2)),(9,I nn),(10,.ptr 0 0),(11,.ptr 1 (0+nn * 4))] e'∧(d'=[]∧h'=HE 2 l')∧(hget l' 0=some (.cells [.sl t1 (ru.map Rul.v),I kn,.ms 1 0 (([]:List PV).length+(li.map Ofc.v).length) cp ez])∧hget l' 1=some (.cells (flat ((li.set nn ⟨kd,R',lo,hi⟩).map Ofc.v)++post)))∧0 < R'∧R'≤R∧∀ r,R'.testBit r=true→R.testBit r=true) ?_ ?_)
   ·refine Run.condX rfl (fun hc=>?_) fun hc=>?_
    ·refine Run.region (cx_ok _ _ _) (Reg.op rfl (Ope.mov rfl ?_))
     refine Reg.op rfl (Ope.mov rfl ?_)
     refine Reg.op rfl (Ope.nilc rfl rfl ?_)
     refine Reg.op rfl (Ope.fld rfl rfl ?_)
     refine Reg.op0 (Ope.storeP rfl rfl rfl rfl rfl (by rw [List.nil_append,hcs];show 0+nn * 4+1+1≤li.length * 4+post.length;omega) ?_)
     refine Reg.nil ?_
     first
     | exact Run.lend ⟨OWN,_,⟨rfl,rfl,rfl,rfl,rfl,trivial⟩,⟨rfl,rfl⟩,⟨rfl,congrArg (fun l=>some (PBlk.cells l)) (by have h9:=put_ri post (OWN:Int) li nn hnl (0+nn * 4+1) (by omega);rw [hoc] at h9;exact h9)⟩,(by have h9:¬ (OWN:Int)=0:=(by simpa using hc);omega),hown1,hown2⟩
     | exact Run.lend ⟨R,_,⟨rfl,rfl,rfl,rfl,rfl,trivial⟩,⟨rfl,rfl⟩,⟨rfl,congrArg (fun l=>some (PBlk.cells l)) (by rw [hsetn];rfl)⟩,by omega,Nat.le_refl _,fun r h=>h⟩
    ·refine Run.skip ?_
     first
     | exact Run.lend ⟨OWN,_,⟨rfl,rfl,rfl,rfl,rfl,trivial⟩,⟨rfl,rfl⟩,⟨rfl,congrArg (fun l=>some (PBlk.cells l)) (by have h9:=put_ri post (OWN:Int) li nn hnl (0+nn * 4+1) (by omega);rw [hoc] at h9;exact h9)⟩,(by have h9:¬ (OWN:Int)=0:=(by simpa using hc);omega),hown1,hown2⟩
     | exact Run.lend ⟨R,_,⟨rfl,rfl,rfl,rfl,rfl,trivial⟩,⟨rfl,rfl⟩,⟨rfl,congrArg (fun l=>some (PBlk.cells l)) (by rw [hsetn];rfl)⟩,by omega,Nat.le_refl _,fun r h=>h⟩
   ·rintro e' d' h' ⟨R', l', hs, ⟨rfl, rfl⟩, ⟨hl0', hl1'⟩, hR1, hR2, hR3⟩; refine Run.less hs ?_
    refine Run.seq (Run.draw (cx_ok _ _ _) [(0,true),(1,true),(2,true),(3,true),(4,true),(5,true),(6,true),(7,true),(8,true),(9,true),(10,true),(11,true),(12,true),(13,true),(14,true),(15,true),(16,true),(17,true),(18,true),(19,true)] (by kernel_rfl) (Dra.op' rfl rfl rfl .sure (Ope.mov rfl ?_)))
    refine Dra.op' rfl rfl rfl .sure (Ope.mov rfl ?_)
    refine Dra.op' rfl rfl rfl .sure (Ope.nilc rfl rfl ?_)
    refine Dra.op' rfl rfl rfl .sure (Ope.fld rfl rfl ?_)
    refine Dra.op' rfl rfl rfl .sure (Ope.fld rfl rfl ?_)
    refine Dra.op' rfl rfl rfl .sure (Ope.load rfl (ld_ofc (p:=nn) (c:=3) (v:=hi) hl1' (by rw [List.length_set];exact hnl) (by decide) (by show 0+nn * 4+2+1=_;omega) (by rw [List.getElem_set_self];rfl)) ?_)
    refine Dra.op' rfl rfl rfl .sure (Ope.mov rfl ?_)
    refine Dra.op' rfl rfl rfl .sure (Ope.nilc rfl rfl ?_)
    refine Dra.op' rfl rfl rfl .sure (Ope.fld rfl rfl ?_)
    refine Dra.op' rfl rfl rfl .sure (Ope.fld rfl rfl ?_)
    refine Dra.op' rfl rfl rfl .sure (Ope.load rfl (ld_ofc (p:=nn) (c:=2) (v:=lo) hl1' (by rw [List.length_set];exact hnl) (by decide) (by show 0+nn * 4+2+0=_;omega) (by rw [List.getElem_set_self];rfl)) ?_)
    refine Dra.op' rfl rfl rfl .sure (Ope.mov rfl ?_)
    first | refine Dra.op' rfl rfl rfl .sure (Ope.conv rfl (wrap_in _ (by omega) (by omega)) ?_) | refine Dra.op' rfl rfl rfl .sure (Ope.conv rfl rfl ?_)
    refine Dra.op' rfl rfl rfl .sure (Ope.remN (p:=w) (q:=2) rfl rfl rfl rfl (by decide) ?_)
    refine Dra.op' rfl rfl rfl .sure (Ope.add rfl rfl (by omega) ?_)
    refine Dra.op' rfl rfl rfl .sure (Ope.minI rfl rfl ?_)
    refine Dra.op' rfl rfl rfl .sure (Ope.nilc rfl rfl ?_)
    refine Dra.op' rfl rfl rfl .sure (Ope.fld rfl rfl ?_)
    refine Dra.op' rfl rfl rfl .sure (Ope.fld rfl rfl ?_)
    refine Dra.op' rfl rfl rfl .sure (Ope.storeP rfl rfl hl1' rfl rfl (by rw [hcs,List.length_set];show 0+nn * 4+2+0+1≤li.length * 4+post.length;omega) ?_)
    refine Dra.nil (Run.seq ?_)
    obtain ⟨lo',hlo'⟩:∃ z,min hi (lo+((w % 2:Nat):Int))=z:=⟨_,rfl⟩
    obtain ⟨hTo,hRi,hCo⟩:=hall R' lo' hR1 (by omega) hR3 (by omega) (by omega)
    refine Run.wide (m:=2) (l':=[(1,some (.cells (flat ((li.set nn ⟨kd,R',lo',hi⟩).map Ofc.v)++post))),(0,some (.cells [.sl t1 (ru.map Rul.v),I kn,.ms 1 0 (([]:List PV).length+(li.map Ofc.v).length) cp ez]))]) (Nat.le_refl _) ⟨hget_hd.trans (congrArg (fun l=>some (PBlk.cells l)) (by
      have h9:=put_lo post lo' (li.set nn ⟨kd,R',lo,hi⟩) nn (by rw [List.length_set];exact hnl) (0+nn * 4+2+0) (by omega)
      rw [List.getElem_set_self,List.set_set] at h9
      rw [hlo']
      exact h9)),(hget_tl (by decide)).trans hl0',trivial⟩ ?_
    refine Run.frzB (x:=0) (i:=1) (pre:=[.sl t1 (ru.map Rul.v),I kn]) (suf:=[]) (vs:=(li.set nn ⟨kd,R',lo',hi⟩).map Ofc.v) (post:=post) (sz:=4) rfl rfl (by decide) (by simp) (by rw [hln] at hcp ⊢;exact hcp) (by intro v hv;obtain ⟨_,_,rfl⟩:=List.mem_map.1 hv;rfl) ?_
    refine Run.frz (d:=10) true rfl hget_hd rfl ?_
    refine Run.wide (m:=2) (l':=[]) (Nat.le_refl _) trivial ?_
    obtain ⟨LX,hLX⟩:∃ L,li.set nn ⟨kd,R',lo',hi⟩=L:=⟨_,rfl⟩
    rw [hLX] at hTo hRi hCo
    rw [hLX]
    refine Run.cut (fun e' d' h'=>∃ (m b:Nat) (l':HL),Lsub [(4,.fp ((⟨ru,(kn:Int),li⟩:Fns).v t1 t2)),(9,I nn),(10,.fp ((⟨ru,(kn:Int),LX⟩:Fns).v t1 .no)),(13,.ptr b 0)] e'∧(d'=[]∧h'=HE m l')∧hget l' b=some (.cells [.sl t1 (ru.map Rul.v),I kn,.sl .no (LS.map Ofc.v)])) ?_ ?_
    ·refine Run.drawL (cx_ok _ _ _) [[(0,true),(1,true),(2,true),(3,true),(4,true),(5,true)],[(0,false),(1,true),(2,true),(4,true),(3,true),(5,true)]] (by kernel_rfl) ⟨?_,?_,trivial⟩
     ·refine Dra.op' rfl rfl rfl .sure (Ope.load rfl rfl ?_)
      refine Dra.op' rfl rfl rfl .sure (Ope.mov rfl ?_)
      refine Dra.op' rfl rfl rfl .sure (Ope.shlN (p:=1) (m:=nn) rfl rfl rfl rfl (by omega) (by omega) ?_)
      refine Dra.op' rfl rfl rfl .sure (Ope.cf rfl rfl hwo hbw ?_)
      refine Dra.op' rfl rfl rfl .sure (Ope.newL rfl ?_)
      refine Dra.op' rfl rfl rfl .sure (Ope.store rfl rfl hget_hd rfl rfl rfl ?_)
      exact Dra.nil (Run.lend ⟨_,_,_,⟨rfl,rfl,rfl,rfl,trivial⟩,⟨rfl,rfl⟩,hget_hd⟩)
     ·refine Dra.op' rfl rfl rfl (.load rfl) (Ope.load rfl rfl ?_)
      refine Dra.op' rfl rfl rfl .sure (Ope.mov rfl ?_)
      refine Dra.op' rfl rfl rfl .sure (Ope.shlN (p:=1) (m:=nn) rfl rfl rfl rfl (by omega) (by omega) ?_)
      refine Dra.op' rfl rfl rfl .sure (Ope.newL rfl ?_)
      refine Dra.op' rfl rfl rfl .sure (Ope.cf rfl rfl hwo hbw ?_)
      refine Dra.op' rfl rfl rfl .sure (Ope.store rfl rfl hget_hd rfl rfl rfl ?_)
      exact Dra.nil (Run.lend ⟨_,_,_,⟨rfl,rfl,rfl,rfl,trivial⟩,⟨rfl,rfl⟩,hget_hd⟩)
    ·rintro e' d' h' ⟨m,b,l',hs,⟨rfl,rfl⟩,hlb⟩;refine Run.less hs ?_
     refine Run.seq (Run.frz (d:=13) true rfl hlb rfl ?_)
     refine Run.wide (m:=m) (l':=[]) (Nat.le_refl _) trivial ?_
     obtain ⟨ta,tb,tc,td,te,tg,hT1,hT2,hT3,hTi,hTe,hTg⟩:=hTo
     have hin1:=f35 tc td ta tb hTi
     refine Run.region (cx_ok _ _ _) (Reg.op rfl (Ope.asg rfl ?_))
     refine Reg.nil (Run.seq (Run.region (cx_ok _ _ _) (Reg.op rfl (Ope.load rfl rfl ?_))))
     refine Reg.op rfl (Ope.cf rfl rfl hT1 hb0 ?_)
     refine Reg.op rfl (Ope.mov rfl ?_)
     refine Reg.op rfl (Ope.ext rfl rfl ?_)
     refine Reg.op rfl (Ope.ext rfl rfl ?_)
     refine Reg.op rfl (Ope.newL rfl ?_)
     refine Reg.op0 (Ope.store rfl rfl hget_hd rfl rfl rfl ?_)
     refine Reg.op rfl (Ope.asg rfl ?_)
     refine Reg.nil (Run.seq (Run.frz (d:=15) true rfl hget_hd rfl ?_))
     refine Run.region (cx_ok _ _ _) (Reg.op rfl (Ope.load rfl rfl ?_))
     refine Reg.op rfl (Ope.cf rfl rfl hT2 (hbx LX) ?_)
     refine Reg.op rfl (Ope.mov rfl ?_)
     refine Reg.op rfl (Ope.ext rfl rfl ?_)
     refine Reg.op rfl (Ope.ext rfl rfl ?_)
     refine Reg.op rfl (Ope.newL rfl ?_)
     refine Reg.op0 (Ope.store rfl rfl hget_hd rfl rfl rfl ?_)
     refine Reg.op rfl (Ope.asg rfl ?_)
     refine Reg.nil (Run.seq (Run.frz (d:=17) true rfl hget_hd rfl ?_))
     refine Run.region (cx_ok _ _ _) (Reg.op rfl (Ope.load rfl rfl ?_))
     refine Reg.op rfl (Ope.cf rfl rfl hT3 (hbx LS) ?_)
     refine Reg.op rfl (Ope.mov rfl ?_)
     refine Reg.op rfl (Ope.ext rfl rfl ?_)
     refine Reg.op rfl (Ope.ext rfl rfl ?_)
     refine Reg.op rfl (Ope.newL rfl ?_)
     refine Reg.op0 (Ope.store rfl rfl hget_hd rfl rfl rfl ?_)
     refine Reg.op rfl (Ope.asg rfl ?_)
     refine Reg.nil (Run.seq (Run.seq (Run.frz (d:=19) true rfl hget_hd rfl ?_)))
     refine Run.wide (m:=m+3) (l':=[]) (Nat.le_refl _) trivial ?_
     refine Run.region (cx_ok _ _ _) (Reg.op rfl (Ope.mov rfl ?_))
     refine Reg.op rfl (Ope.neS rfl rfl ?_)
     refine Reg.op rfl (Ope.mov rfl ?_)
     refine Reg.on rfl rfl rfl (Ope.mov rfl ?_)
     refine Reg.on rfl rfl rfl (Ope.neS rfl rfl ?_)
     refine Reg.op rfl (Ope.pickF rfl rfl ?_)
     refine Reg.op rfl (Ope.mov rfl ?_)
     refine Reg.on rfl rfl rfl (Ope.mov rfl ?_)
     refine Reg.on rfl rfl rfl (Ope.neS rfl rfl ?_)
     refine Reg.op rfl (Ope.pickF rfl rfl ?_)
     refine Reg.op rfl (Ope.mov rfl ?_)
     refine Reg.on rfl rfl rfl (Ope.mov rfl ?_)
     refine Reg.on rfl rfl rfl (Ope.load rfl rfl ?_)
     refine Reg.on rfl rfl rfl (Ope.load rfl rfl ?_)
     refine Reg.on rfl rfl rfl (Ope.cf rfl rfl (hin1) rfl ?_)
     refine Reg.on rfl rfl rfl (Ope.not rfl ?_)
     refine Reg.op rfl (Ope.pickF rfl rfl ?_)
     refine Reg.op rfl (Ope.mov rfl ?_)
     refine Reg.on rfl rfl rfl (Ope.fld rfl rfl ?_)
     refine Reg.on rfl rfl rfl (Ope.load rfl rfl ?_)
     refine Reg.on rfl rfl rfl (Ope.fld rfl rfl ?_)
     refine Reg.on rfl rfl rfl (Ope.load rfl rfl ?_)
     refine Reg.on rfl rfl rfl (Ope.gtF hTg rfl rfl ?_)
     refine Reg.op rfl (Ope.pickF rfl rfl ?_)
     refine Reg.op rfl (Ope.mov rfl ?_)
     refine Reg.on rfl rfl rfl (Ope.fld rfl rfl ?_)
     refine Reg.on rfl rfl rfl (Ope.load rfl rfl ?_)
     refine Reg.on rfl rfl rfl (Ope.fld rfl rfl ?_)
     refine Reg.on rfl rfl rfl (Ope.load rfl rfl ?_)
     refine Reg.on rfl rfl rfl (Ope.gtF hTe rfl rfl ?_)
     refine Reg.op rfl (Ope.pickF rfl rfl ?_)
     refine Reg.nil (Run.condF rfl (Run.skip (Run.seq (Run.seq (Run.region (cx_ok _ _ _) (Reg.op rfl (Ope.fld rfl rfl ?_)))))))
     refine Reg.op rfl (Ope.load rfl rfl ?_)
     refine Reg.op rfl (Ope.mov rfl ?_)
     refine Reg.nil (Run.block (Run.loop (α:=Nat×Nat) (fun t=>[(4,.fp ((⟨ru,(kn:Int),li⟩:Fns).v t1 t2)),(9,I nn),(10,.fp ((⟨ru,(kn:Int),LX⟩:Fns).v t1 .no)),(13,.fp ((⟨ru,(kn:Int),LS⟩:Fns).v t1 .no)),(14,.fn (.func 35) [] []),(165,I kn),(166,I t.1)]) (fun t=>HE t.2 []) (fun t=>t.1≤kn) (fun t=>kn - t.1) (0,m+3) ⟨rfl,rfl,rfl,rfl,rfl,rfl,rfl,trivial⟩ rfl (Nat.zero_le _) (fun t ht=>?_)))
     obtain ⟨r,m2⟩:=t
     simp only at ht
     show Run _ _ _ _ [(4,.fp ((⟨ru,(kn:Int),li⟩:Fns).v t1 t2)),(9,I nn),(10,.fp ((⟨ru,(kn:Int),LX⟩:Fns).v t1 .no)),(13,.fp ((⟨ru,(kn:Int),LS⟩:Fns).v t1 .no)),(14,.fn (.func 35) [] []),(165,I kn),(166,I r)] [] (HE m2 [])
     refine Run.seq (Run.region (cx_ok _ _ _) (Reg.op rfl (Ope.lt rfl rfl ?_)))
     refine Reg.nil (Run.seq (Run.condX rfl (fun hc=>?_) fun hc=>?_))
     ·refine Run.skip (Run.seq (Run.block (Run.seq ?_)))
      have hrk:r < kn:=by omega
      obtain ⟨fa,fb,fc,fd,fe,fg,pa,pb,pc,pd,pe,pg,hF1,hF2,hF3,hP1,hP2,hP3,hFi,hPi,hFg,hPg⟩:=hRi r hrk
      have hin2:=f35 fc fd fa fb hFi
      have hin3:=f35 pc pd pa pb hPi
      refine Run.region (cx_ok _ _ _) (Reg.op rfl (Ope.mov rfl ?_))
      refine Reg.op rfl (Ope.asg rfl ?_)
      refine Reg.nil (Run.seq (Run.region (cx_ok _ _ _) (Reg.op rfl (Ope.load rfl rfl ?_))))
      refine Reg.op rfl (Ope.mov rfl ?_)
      refine Reg.op rfl (Ope.cf rfl rfl hF1 (hb1 r) ?_)
      refine Reg.op rfl (Ope.mov rfl ?_)
      refine Reg.op rfl (Ope.ext rfl rfl ?_)
      refine Reg.op rfl (Ope.ext rfl rfl ?_)
      refine Reg.op rfl (Ope.newL rfl ?_)
      refine Reg.op0 (Ope.store rfl rfl hget_hd rfl rfl rfl ?_)
      refine Reg.op rfl (Ope.asg rfl ?_)
      refine Reg.nil (Run.seq (Run.frz (d:=22) true rfl hget_hd rfl ?_))
      refine Run.region (cx_ok _ _ _) (Reg.op rfl (Ope.load rfl rfl ?_))
      refine Reg.op rfl (Ope.mov rfl ?_)
      refine Reg.op rfl (Ope.cf rfl rfl hF2 (hbx1 LX r) ?_)
      refine Reg.op rfl (Ope.mov rfl ?_)
      refine Reg.op rfl (Ope.ext rfl rfl ?_)
      refine Reg.op rfl (Ope.ext rfl rfl ?_)
      refine Reg.op rfl (Ope.newL rfl ?_)
      refine Reg.op0 (Ope.store rfl rfl hget_hd rfl rfl rfl ?_)
      refine Reg.op rfl (Ope.asg rfl ?_)
      refine Reg.nil (Run.seq (Run.frz (d:=24) true rfl hget_hd rfl ?_))
      refine Run.region (cx_ok _ _ _) (Reg.op rfl (Ope.load rfl rfl ?_))
      refine Reg.op rfl (Ope.mov rfl ?_)
      refine Reg.op rfl (Ope.cf rfl rfl hF3 (hbx1 LS r) ?_)
      refine Reg.op rfl (Ope.mov rfl ?_)
      refine Reg.op rfl (Ope.ext rfl rfl ?_)
      refine Reg.op rfl (Ope.ext rfl rfl ?_)
      refine Reg.op rfl (Ope.newL rfl ?_)
      refine Reg.op0 (Ope.store rfl rfl hget_hd rfl rfl rfl ?_)
      refine Reg.op rfl (Ope.asg rfl ?_)
      refine Reg.nil (Run.seq (Run.frz (d:=26) true rfl hget_hd rfl ?_))
      refine Run.region (cx_ok _ _ _) (Reg.op rfl (Ope.load rfl rfl ?_))
      refine Reg.op rfl (Ope.mov rfl ?_)
      refine Reg.op rfl (Ope.cf rfl rfl hP1 (hb1 r) ?_)
      refine Reg.op rfl (Ope.mov rfl ?_)
      refine Reg.op rfl (Ope.ext rfl rfl ?_)
      refine Reg.op rfl (Ope.ext rfl rfl ?_)
      refine Reg.op rfl (Ope.newL rfl ?_)
      refine Reg.op0 (Ope.store rfl rfl hget_hd rfl rfl rfl ?_)
      refine Reg.op rfl (Ope.asg rfl ?_)
      refine Reg.nil (Run.seq (Run.frz (d:=28) true rfl hget_hd rfl ?_))
      refine Run.region (cx_ok _ _ _) (Reg.op rfl (Ope.load rfl rfl ?_))
      refine Reg.op rfl (Ope.mov rfl ?_)
      refine Reg.op rfl (Ope.cf rfl rfl hP2 (hbx1 LX r) ?_)
      refine Reg.op rfl (Ope.mov rfl ?_)
      refine Reg.op rfl (Ope.ext rfl rfl ?_)
      refine Reg.op rfl (Ope.ext rfl rfl ?_)
      refine Reg.op rfl (Ope.newL rfl ?_)
      refine Reg.op0 (Ope.store rfl rfl hget_hd rfl rfl rfl ?_)
      refine Reg.op rfl (Ope.asg rfl ?_)
      refine Reg.nil (Run.seq (Run.frz (d:=30) true rfl hget_hd rfl ?_))
      refine Run.region (cx_ok _ _ _) (Reg.op rfl (Ope.load rfl rfl ?_))
      refine Reg.op rfl (Ope.mov rfl ?_)
      refine Reg.op rfl (Ope.cf rfl rfl hP3 (hbx1 LS r) ?_)
      refine Reg.op rfl (Ope.mov rfl ?_)
      refine Reg.op rfl (Ope.ext rfl rfl ?_)
      refine Reg.op rfl (Ope.ext rfl rfl ?_)
      refine Reg.op rfl (Ope.newL rfl ?_)
      refine Reg.op0 (Ope.store rfl rfl hget_hd rfl rfl rfl ?_)
      refine Reg.op rfl (Ope.asg rfl ?_)
      refine Reg.nil (Run.seq (Run.frz (d:=32) true rfl hget_hd rfl ?_))
      refine Run.wide (m:=m2+6) (l':=[]) (Nat.le_refl _) trivial ?_
      refine Run.region (cx_ok _ _ _) (Reg.op rfl (Ope.mov rfl ?_))
      refine Reg.op rfl (Ope.neS rfl rfl ?_)
      refine Reg.op rfl (Ope.mov rfl ?_)
      refine Reg.on rfl rfl rfl (Ope.mov rfl ?_)
      refine Reg.on rfl rfl rfl (Ope.neS rfl rfl ?_)
      refine Reg.op rfl (Ope.pickF rfl rfl ?_)
      refine Reg.op rfl (Ope.mov rfl ?_)
      refine Reg.on rfl rfl rfl (Ope.mov rfl ?_)
      refine Reg.on rfl rfl rfl (Ope.neS rfl rfl ?_)
      refine Reg.op rfl (Ope.pickF rfl rfl ?_)
      refine Reg.op rfl (Ope.mov rfl ?_)
      refine Reg.on rfl rfl rfl (Ope.mov rfl ?_)
      refine Reg.on rfl rfl rfl (Ope.neS rfl rfl ?_)
      refine Reg.op rfl (Ope.pickF rfl rfl ?_)
      refine Reg.op rfl (Ope.mov rfl ?_)
      refine Reg.on rfl rfl rfl (Ope.mov rfl ?_)
      refine Reg.on rfl rfl rfl (Ope.neS rfl rfl ?_)
      refine Reg.op rfl (Ope.pickF rfl rfl ?_)
      refine Reg.op rfl (Ope.mov rfl ?_)
      refine Reg.on rfl rfl rfl (Ope.mov rfl ?_)
      refine Reg.on rfl rfl rfl (Ope.neS rfl rfl ?_)
      refine Reg.op rfl (Ope.pickF rfl rfl ?_)
      refine Reg.op rfl (Ope.mov rfl ?_)
      refine Reg.on rfl rfl rfl (Ope.mov rfl ?_)
      refine Reg.on rfl rfl rfl (Ope.load rfl rfl ?_)
      refine Reg.on rfl rfl rfl (Ope.load rfl rfl ?_)
      refine Reg.on rfl rfl rfl (Ope.cf rfl rfl (hin2) rfl ?_)
      refine Reg.on rfl rfl rfl (Ope.not rfl ?_)
      refine Reg.op rfl (Ope.pickF rfl rfl ?_)
      refine Reg.op rfl (Ope.mov rfl ?_)
      refine Reg.on rfl rfl rfl (Ope.mov rfl ?_)
      refine Reg.on rfl rfl rfl (Ope.load rfl rfl ?_)
      refine Reg.on rfl rfl rfl (Ope.load rfl rfl ?_)
      refine Reg.on rfl rfl rfl (Ope.cf rfl rfl (hin3) rfl ?_)
      refine Reg.on rfl rfl rfl (Ope.not rfl ?_)
      refine Reg.op rfl (Ope.pickF rfl rfl ?_)
      refine Reg.op rfl (Ope.mov rfl ?_)
      refine Reg.on rfl rfl rfl (Ope.fld rfl rfl ?_)
      refine Reg.on rfl rfl rfl (Ope.load rfl rfl ?_)
      refine Reg.on rfl rfl rfl (Ope.fld rfl rfl ?_)
      refine Reg.on rfl rfl rfl (Ope.load rfl rfl ?_)
      refine Reg.on rfl rfl rfl (Ope.gtF hFg rfl rfl ?_)
      refine Reg.op rfl (Ope.pickF rfl rfl ?_)
      refine Reg.op rfl (Ope.mov rfl ?_)
      refine Reg.on rfl rfl rfl (Ope.fld rfl rfl ?_)
      refine Reg.on rfl rfl rfl (Ope.load rfl rfl ?_)
      refine Reg.on rfl rfl rfl (Ope.fld rfl rfl ?_)
      refine Reg.on rfl rfl rfl (Ope.load rfl rfl ?_)
      refine Reg.on rfl rfl rfl (Ope.gtF hPg rfl rfl ?_)
      refine Reg.op rfl (Ope.pickF rfl rfl ?_)
      refine Reg.nil (Run.condF rfl (Run.skip (Run.bend (Run.region (cx_ok _ _ _) (Reg.op rfl (Ope.add rfl rfl (by omega) ?_))))))
      refine Reg.op rfl (Ope.mov rfl ?_)
      exact Reg.nil (Run.lend ⟨(r+1,m2+6),by show kn - (r+1) < kn - r;omega,by show r+1≤kn;omega,⟨rfl,rfl,rfl,rfl,rfl,rfl,rfl,trivial⟩,rfl,rfl⟩)
     ·refine Run.exit (Jmp.code (Jmp.round (Jmp.here (Run.seq (Run.region (cx_ok _ _ _) (Reg.op rfl (Ope.asg rfl ?_)))))))
      refine Reg.nil (Run.seq (Run.seq (Run.region (cx_ok _ _ _) (Reg.op rfl (Ope.fld rfl rfl ?_)))))
      refine Reg.op rfl (Ope.load rfl rfl ?_)
      refine Reg.op rfl (Ope.len (m:=li.length) rfl (by simp) ?_)
      refine Reg.op rfl (Ope.mov rfl ?_)
      refine Reg.nil (Run.block (Run.loop (α:=Nat×Nat) (fun t=>[(4,.fp ((⟨ru,(kn:Int),li⟩:Fns).v t1 t2)),(9,I nn),(10,.fp ((⟨ru,(kn:Int),LX⟩:Fns).v t1 .no)),(13,.fp ((⟨ru,(kn:Int),LS⟩:Fns).v t1 .no)),(14,.fn (.func 35) [] []),(34,B (al t.1)),(257,.sl t2 (li.map Ofc.v)),(258,I li.length),(259,I t.1)]) (fun t=>HE t.2 []) (fun t=>t.1≤li.length) (fun t=>li.length - t.1) (0,m2) ⟨rfl,rfl,rfl,rfl,rfl,by rw [hal0];rfl,rfl,rfl,rfl,trivial⟩ rfl (Nat.zero_le _) (fun t ht=>?_)))
      obtain ⟨k,m3⟩:=t
      simp only at ht
      show Run _ _ _ _ [(4,.fp ((⟨ru,(kn:Int),li⟩:Fns).v t1 t2)),(9,I nn),(10,.fp ((⟨ru,(kn:Int),LX⟩:Fns).v t1 .no)),(13,.fp ((⟨ru,(kn:Int),LS⟩:Fns).v t1 .no)),(14,.fn (.func 35) [] []),(34,B (al k)),(257,.sl t2 (li.map Ofc.v)),(258,I li.length),(259,I k)] [] (HE m3 [])
      refine Run.seq (Run.region (cx_ok _ _ _) (Reg.op rfl (Ope.lt rfl rfl ?_)))
      refine Reg.nil (Run.seq (Run.condX rfl (fun hc=>?_) fun hc=>?_))
      ·refine Run.skip (Run.seq (Run.block (Run.seq ?_)))
       have hkl:k < li.length:=by omega
       have hak:=hals k
       rw [hofk k hkl] at hak
       refine Run.region (cx_ok _ _ _) (Reg.op rfl (Ope.mov rfl ?_))
       refine Reg.op rfl (Ope.idxM (m:=k) (f:=Ofc.v) rfl rfl rfl hkl (fun _=>rfl) ?_)
       refine Reg.op rfl (Ope.load rfl rfl ?_)
       refine Reg.op rfl (Ope.newL rfl ?_)
       refine Reg.op rfl (Ope.asg rfl ?_)
       refine Reg.op0 (Ope.store rfl rfl hget_hd rfl rfl rfl ?_)
       refine Reg.nil (Run.frz (d:=36) true rfl hget_hd rfl ?_)
       refine Run.wide (m:=m3+1) (l':=[]) (Nat.le_refl _) trivial ?_
       refine Run.draw (cx_ok _ _ _) [(0,true),(1,true),(2,true),(3,true),(4,true),(5,true),(6,true),(7,true),(8,true),(9,true),(10,true),(11,true),(12,true),(13,true),(14,true),(15,true),(16,true),(17,true)] (by kernel_rfl) (Dra.op' rfl rfl rfl .sure (Ope.mov rfl ?_))
       refine Dra.op' rfl rfl rfl .sure (Ope.mov rfl ?_)
       refine Dra.splitX rfl rfl rfl rfl (fun hg=>?_) fun hg=>?_
       ·refine Dra.on' rfl rfl rfl rfl rfl .sure (Ope.mov rfl ?_)
        refine Dra.on' rfl rfl rfl rfl rfl .sure (Ope.mov rfl ?_)
        refine Dra.on' rfl rfl rfl rfl rfl .sure (Ope.eq rfl rfl ?_)
        refine Dra.on' rfl rfl rfl rfl rfl .sure (Ope.mov rfl ?_)
        refine Dra.splitX rfl rfl rfl rfl (fun hg=>?_) fun hg=>?_
        ·refine Dra.off' rfl rfl rfl (.inl rfl) rfl (Dra.off' rfl rfl rfl (.inl rfl) rfl (Dra.off' rfl rfl rfl (.inl rfl) rfl (Dra.off' rfl rfl rfl (.inl rfl) rfl (Dra.off' rfl rfl rfl (.inl rfl) rfl (Dra.off' rfl rfl rfl (.inl rfl) rfl (Dra.off' rfl rfl rfl (.inl rfl) rfl (Dra.off' rfl rfl rfl (.inl rfl) rfl (Dra.off' rfl rfl rfl (.inl rfl) rfl (Dra.on' rfl rfl rfl rfl rfl .sure (Ope.pickT rfl rfl ?_))))))))))
         refine Dra.op' rfl rfl rfl .sure (Ope.pickT rfl rfl ?_)
         refine Dra.op' rfl rfl rfl .sure (Ope.asg rfl ?_)
         refine Dra.nil (Run.bend (Run.region (cx_ok _ _ _) (Reg.op rfl (Ope.add rfl rfl (by omega) ?_))))
         refine Reg.op rfl (Ope.mov rfl ?_)
         refine Reg.nil ?_
         first
         | exact Run.lend ⟨(k+1,m3+1),by show li.length - (k+1) < li.length - k;omega,by show k+1≤li.length;omega,⟨rfl,rfl,rfl,rfl,rfl,congrArg (fun b=>some (B b)) (by rw [hak,decide_eq_true (show k=nn by omega),Bool.true_or,Bool.and_true];exact (show al k=true by assumption).symm),rfl,rfl,rfl,trivial⟩,rfl,rfl⟩
         | exact Run.lend ⟨(k+1,m3+1),by show li.length - (k+1) < li.length - k;omega,by show k+1≤li.length;omega,⟨rfl,rfl,rfl,rfl,rfl,congrArg (fun b=>some (B b)) (by rw [hak,decide_eq_false (show ¬ k=nn by omega),Bool.false_or,show al k=true by assumption,Bool.true_and]),rfl,rfl,rfl,trivial⟩,rfl,rfl⟩
         | exact Run.lend ⟨(k+1,m3+1),by show li.length - (k+1) < li.length - k;omega,by show k+1≤li.length;omega,⟨rfl,rfl,rfl,rfl,rfl,congrArg (fun b=>some (B b)) (by rw [hak,show al k=false by assumption];rfl),rfl,rfl,rfl,trivial⟩,rfl,rfl⟩
        ·refine Dra.on' rfl rfl rfl rfl rfl .sure (Ope.fld rfl rfl ?_)
         refine Dra.on' rfl rfl rfl rfl rfl .sure (Ope.load rfl rfl ?_)
         refine Dra.on' rfl rfl rfl rfl rfl .sure (Ope.fld rfl rfl ?_)
         refine Dra.on' rfl rfl rfl rfl rfl .sure (Ope.load rfl rfl ?_)
         refine Dra.on' rfl rfl rfl rfl rfl .sure (Ope.mov rfl ?_)
         refine Dra.on' rfl rfl rfl rfl rfl .sure (Ope.idxM (m:=nn) (f:=Ofc.v) rfl rfl rfl hnl (fun _=>rfl) ?_)
         rw [hoc]
         refine Dra.on' rfl rfl rfl rfl rfl .sure (Ope.fld rfl rfl ?_)
         refine Dra.on' rfl rfl rfl rfl rfl .sure (Ope.load rfl rfl ?_)
         refine Dra.on' rfl rfl rfl rfl rfl .sure (Ope.ne rfl rfl ?_)
         refine Dra.on' rfl rfl rfl rfl rfl .sure (Ope.pickF rfl rfl ?_)
         refine Dra.op' rfl rfl rfl .sure (Ope.pickT rfl rfl ?_)
         refine Dra.op' rfl rfl rfl .sure (Ope.asg rfl ?_)
         refine Dra.nil (Run.bend (Run.region (cx_ok _ _ _) (Reg.op rfl (Ope.add rfl rfl (by omega) ?_))))
         refine Reg.op rfl (Ope.mov rfl ?_)
         refine Reg.nil ?_
         first
         | exact Run.lend ⟨(k+1,m3+1),by show li.length - (k+1) < li.length - k;omega,by show k+1≤li.length;omega,⟨rfl,rfl,rfl,rfl,rfl,congrArg (fun b=>some (B b)) (by rw [hak,decide_eq_true (show k=nn by omega),Bool.true_or,Bool.and_true];exact (show al k=true by assumption).symm),rfl,rfl,rfl,trivial⟩,rfl,rfl⟩
         | exact Run.lend ⟨(k+1,m3+1),by show li.length - (k+1) < li.length - k;omega,by show k+1≤li.length;omega,⟨rfl,rfl,rfl,rfl,rfl,congrArg (fun b=>some (B b)) (by rw [hak,decide_eq_false (show ¬ k=nn by omega),Bool.false_or,show al k=true by assumption,Bool.true_and]),rfl,rfl,rfl,trivial⟩,rfl,rfl⟩
         | exact Run.lend ⟨(k+1,m3+1),by show li.length - (k+1) < li.length - k;omega,by show k+1≤li.length;omega,⟨rfl,rfl,rfl,rfl,rfl,congrArg (fun b=>some (B b)) (by rw [hak,show al k=false by assumption];rfl),rfl,rfl,rfl,trivial⟩,rfl,rfl⟩
       ·refine Dra.off' rfl rfl rfl (.inl rfl) rfl (Dra.off' rfl rfl rfl (.inl rfl) rfl (Dra.off' rfl rfl rfl (.inl rfl) rfl (Dra.off' rfl rfl rfl (.inl rfl) rfl (Dra.off' rfl rfl rfl (.inr rfl) rfl (Dra.off' rfl rfl rfl (.inr rfl) rfl (Dra.off' rfl rfl rfl (.inr rfl) rfl (Dra.off' rfl rfl rfl (.inr rfl) rfl (Dra.off' rfl rfl rfl (.inr rfl) rfl (Dra.off' rfl rfl rfl (.inr rfl) rfl (Dra.off' rfl rfl rfl (.inr rfl) rfl (Dra.off' rfl rfl rfl (.inr rfl) rfl (Dra.off' rfl rfl rfl (.inr rfl) rfl (Dra.off' rfl rfl rfl (.inl rfl) rfl (Dra.op' rfl rfl rfl .sure (Ope.pickF rfl rfl ?_)))))))))))))))
        refine Dra.op' rfl rfl rfl .sure (Ope.asg rfl ?_)
        refine Dra.nil (Run.bend (Run.region (cx_ok _ _ _) (Reg.op rfl (Ope.add rfl rfl (by omega) ?_))))
        refine Reg.op rfl (Ope.mov rfl ?_)
        refine Reg.nil ?_
        first
        | exact Run.lend ⟨(k+1,m3+1),by show li.length - (k+1) < li.length - k;omega,by show k+1≤li.length;omega,⟨rfl,rfl,rfl,rfl,rfl,congrArg (fun b=>some (B b)) (by rw [hak,decide_eq_true (show k=nn by omega),Bool.true_or,Bool.and_true];exact (show al k=true by assumption).symm),rfl,rfl,rfl,trivial⟩,rfl,rfl⟩
        | exact Run.lend ⟨(k+1,m3+1),by show li.length - (k+1) < li.length - k;omega,by show k+1≤li.length;omega,⟨rfl,rfl,rfl,rfl,rfl,congrArg (fun b=>some (B b)) (by rw [hak,decide_eq_false (show ¬ k=nn by omega),Bool.false_or,show al k=true by assumption,Bool.true_and]),rfl,rfl,rfl,trivial⟩,rfl,rfl⟩
        | exact Run.lend ⟨(k+1,m3+1),by show li.length - (k+1) < li.length - k;omega,by show k+1≤li.length;omega,⟨rfl,rfl,rfl,rfl,rfl,congrArg (fun b=>some (B b)) (by rw [hak,show al k=false by assumption];rfl),rfl,rfl,rfl,trivial⟩,rfl,rfl⟩
      ·refine Run.exit (Jmp.code (Jmp.round (Jmp.here (Run.seq (Run.seq (Run.region (cx_ok _ _ _) (Reg.op rfl (Ope.fld rfl rfl ?_))))))))
       refine Reg.op rfl (Ope.load rfl rfl ?_)
       refine Reg.op rfl (Ope.len (m:=li.length) rfl (by simp) ?_)
       refine Reg.op rfl (Ope.mov rfl ?_)
       refine Reg.nil (Run.block ?_)
       obtain rfl:k=li.length:=by omega
       obtain ⟨AL,hAL⟩:∃ a,al li.length=a:=⟨_,rfl⟩
       rw [hAL]
       rw [hAL] at hCo
       refine Run.loop (α:=Nat×Nat) (fun t=>[(4,.fp ((⟨ru,(kn:Int),li⟩:Fns).v t1 t2)),(9,I nn),(10,.fp ((⟨ru,(kn:Int),LX⟩:Fns).v t1 .no)),(13,.fp ((⟨ru,(kn:Int),LS⟩:Fns).v t1 .no)),(14,.fn (.func 35) [] []),(34,B AL),(283,.sl t2 (li.map Ofc.v)),(284,I li.length),(285,I t.1)]) (fun t=>HE t.2 []) (fun t=>t.1≤li.length) (fun t=>li.length - t.1) (0,m3) ⟨rfl,rfl,rfl,rfl,rfl,rfl,rfl,rfl,rfl,trivial⟩ rfl (Nat.zero_le _) (fun t ht=>?_)
       obtain ⟨i,m4⟩:=t
       simp only at ht
       show Run _ _ _ _ [(4,.fp ((⟨ru,(kn:Int),li⟩:Fns).v t1 t2)),(9,I nn),(10,.fp ((⟨ru,(kn:Int),LX⟩:Fns).v t1 .no)),(13,.fp ((⟨ru,(kn:Int),LS⟩:Fns).v t1 .no)),(14,.fn (.func 35) [] []),(34,B AL),(283,.sl t2 (li.map Ofc.v)),(284,I li.length),(285,I i)] [] (HE m4 [])
       refine Run.seq (Run.region (cx_ok _ _ _) (Reg.op rfl (Ope.lt rfl rfl ?_)))
       refine Reg.nil (Run.seq (Run.condX rfl (fun hc=>?_) fun hc=>?_))
       ·refine Run.skip (Run.seq (Run.block (Run.seq ?_)))
        have hil:i < li.length:=by omega
        obtain ⟨ca,cb,cc,cd,hC1,hC2,hCi,hC3⟩:=hCo i hil
        have hin4:=f35 cc cd ca cb hCi
        refine Run.region (cx_ok _ _ _) (Reg.op rfl (Ope.mov rfl ?_))
        refine Reg.op rfl (Ope.asg rfl ?_)
        refine Reg.nil (Run.seq (Run.region (cx_ok _ _ _) (Reg.op rfl (Ope.load rfl rfl ?_))))
        refine Reg.op rfl (Ope.mov rfl ?_)
        refine Reg.op rfl (Ope.cf rfl rfl hC1 (hb1 i) ?_)
        refine Reg.op rfl (Ope.mov rfl ?_)
        refine Reg.op rfl (Ope.ext rfl rfl ?_)
        refine Reg.op rfl (Ope.ext rfl rfl ?_)
        refine Reg.op rfl (Ope.newL rfl ?_)
        refine Reg.op0 (Ope.store rfl rfl hget_hd rfl rfl rfl ?_)
        refine Reg.op rfl (Ope.asg rfl ?_)
        refine Reg.nil (Run.seq (Run.frz (d:=38) true rfl hget_hd rfl ?_))
        refine Run.region (cx_ok _ _ _) (Reg.op rfl (Ope.load rfl rfl ?_))
        refine Reg.op rfl (Ope.mov rfl ?_)
        refine Reg.op rfl (Ope.cf rfl rfl hC2 (hbx1 LX i) ?_)
        refine Reg.op rfl (Ope.mov rfl ?_)
        refine Reg.op rfl (Ope.ext rfl rfl ?_)
        refine Reg.op rfl (Ope.ext rfl rfl ?_)
        refine Reg.op rfl (Ope.newL rfl ?_)
        refine Reg.op0 (Ope.store rfl rfl hget_hd rfl rfl rfl ?_)
        refine Reg.op rfl (Ope.asg rfl ?_)
        refine Reg.nil (Run.seq (Run.seq (Run.frz (d:=40) true rfl hget_hd rfl ?_)))
        refine Run.wide (m:=m4+2) (l':=[]) (Nat.le_refl _) trivial ?_
        refine Run.region (cx_ok _ _ _) (Reg.op rfl (Ope.mov rfl ?_))
        refine Reg.op rfl (Ope.neS rfl rfl ?_)
        refine Reg.op rfl (Ope.mov rfl ?_)
        refine Reg.on rfl rfl rfl (Ope.mov rfl ?_)
        refine Reg.on rfl rfl rfl (Ope.neS rfl rfl ?_)
        refine Reg.op rfl (Ope.pickF rfl rfl ?_)
        refine Reg.op rfl (Ope.mov rfl ?_)
        refine Reg.on rfl rfl rfl (Ope.mov rfl ?_)
        refine Reg.on rfl rfl rfl (Ope.load rfl rfl ?_)
        refine Reg.on rfl rfl rfl (Ope.load rfl rfl ?_)
        refine Reg.on rfl rfl rfl (Ope.cf rfl rfl (hin4) rfl ?_)
        refine Reg.on rfl rfl rfl (Ope.not rfl ?_)
        refine Reg.op rfl (Ope.pickF rfl rfl ?_)
        refine Reg.nil (Run.condF rfl (Run.skip (Run.seq (Run.region (cx_ok _ _ _) (Reg.op rfl (Ope.mov rfl ?_))))))
        refine Reg.op rfl (Ope.asg rfl ?_)
        refine Reg.nil (Run.seq (Run.region (cx_ok _ _ _) (Reg.op rfl (Ope.mov rfl ?_))))
        refine Reg.op rfl (Ope.mov rfl ?_)
        refine Reg.splitX rfl rfl (fun hg=>?_) fun hg=>?_
        ·refine Reg.on rfl rfl rfl (Ope.mov rfl ?_)
         refine Reg.on rfl rfl rfl (Ope.mov rfl ?_)
         refine Reg.on rfl rfl rfl (Ope.ne rfl rfl ?_)
         refine Reg.op rfl (Ope.pickT rfl rfl ?_)
         refine Reg.nil (Run.condX rfl (fun hc=>?_) fun hc=>?_)
         ·refine Run.seq (Run.seq ?_)
          have hne:i≠nn:=fun e=>by
              have h9:¬ (i:Int)=(nn:Int):=by simpa using hc
              omega
          have hls:=hC3 (by simpa using hg) hne
          refine Run.region (cx_ok _ _ _) (Reg.op rfl (Ope.mov rfl ?_))
          refine Reg.op rfl (Ope.mov rfl ?_)
          refine Reg.op rfl (Ope.gt rfl rfl ?_)
          refine Reg.nil (Run.condX rfl (fun hc=>?_) fun hc=>?_)
          ·refine Run.region (cx_ok _ _ _) (Reg.op rfl (Ope.mov rfl ?_))
           refine Reg.op rfl (Ope.sub rfl rfl (by omega) ?_)
           rw [show (i:Int) - 1=((i - 1:Nat):Int) from by omega]
           refine Reg.op rfl (Ope.asg rfl ?_)
           refine Reg.nil (Run.seq ?_)
           first | rw [if_pos (show nn < i by omega)] at hls | rw [if_neg (show ¬ nn < i by omega)] at hls
           refine Run.region (cx_ok _ _ _) (Reg.op rfl (Ope.load rfl rfl ?_))
           refine Reg.op rfl (Ope.mov rfl ?_)
           refine Reg.op rfl (Ope.cf rfl rfl hls (hbx1 LS _) ?_)
           refine Reg.op rfl (Ope.mov rfl ?_)
           refine Reg.op rfl (Ope.ext rfl rfl ?_)
           refine Reg.op rfl (Ope.ext rfl rfl ?_)
           refine Reg.op rfl (Ope.newL rfl ?_)
           refine Reg.op0 (Ope.store rfl rfl hget_hd rfl rfl rfl ?_)
           refine Reg.op rfl (Ope.asg rfl ?_)
           refine Reg.nil (Run.seq (Run.frz (d:=43) true rfl hget_hd rfl ?_))
           refine Run.wide (m:=m4+3) (l':=[]) (Nat.le_refl _) trivial ?_
           refine Run.region (cx_ok _ _ _) (Reg.op rfl (Ope.mov rfl ?_))
           refine Reg.op rfl (Ope.neS rfl rfl ?_)
           refine Reg.op rfl (Ope.mov rfl ?_)
           refine Reg.on rfl rfl rfl (Ope.load rfl rfl ?_)
           refine Reg.on rfl rfl rfl (Ope.load rfl rfl ?_)
           refine Reg.on rfl rfl rfl (Ope.neV rfl rfl (neSpF _ _ _ _) ?_)
           refine Reg.op rfl (Ope.pickF rfl rfl ?_)
           refine Reg.nil (Run.condF rfl (Run.skip (Run.bend (Run.region (cx_ok _ _ _) (Reg.op rfl (Ope.add rfl rfl (by omega) ?_))))))
           refine Reg.op rfl (Ope.mov rfl ?_)
           refine Reg.nil ?_
           first
           | exact Run.lend ⟨(i+1,m4+2),by show li.length - (i+1) < li.length - i;omega,by show i+1≤li.length;omega,⟨rfl,rfl,rfl,rfl,rfl,rfl,rfl,rfl,rfl,trivial⟩,rfl,rfl⟩
           | exact Run.lend ⟨(i+1,m4+3),by show li.length - (i+1) < li.length - i;omega,by show i+1≤li.length;omega,⟨rfl,rfl,rfl,rfl,rfl,rfl,rfl,rfl,rfl,trivial⟩,rfl,rfl⟩
          ·refine Run.skip (Run.seq ?_)
           first | rw [if_pos (show nn < i by omega)] at hls | rw [if_neg (show ¬ nn < i by omega)] at hls
           refine Run.region (cx_ok _ _ _) (Reg.op rfl (Ope.load rfl rfl ?_))
           refine Reg.op rfl (Ope.mov rfl ?_)
           refine Reg.op rfl (Ope.cf rfl rfl hls (hbx1 LS _) ?_)
           refine Reg.op rfl (Ope.mov rfl ?_)
           refine Reg.op rfl (Ope.ext rfl rfl ?_)
           refine Reg.op rfl (Ope.ext rfl rfl ?_)
           refine Reg.op rfl (Ope.newL rfl ?_)
           refine Reg.op0 (Ope.store rfl rfl hget_hd rfl rfl rfl ?_)
           refine Reg.op rfl (Ope.asg rfl ?_)
           refine Reg.nil (Run.seq (Run.frz (d:=43) true rfl hget_hd rfl ?_))
           refine Run.wide (m:=m4+3) (l':=[]) (Nat.le_refl _) trivial ?_
           refine Run.region (cx_ok _ _ _) (Reg.op rfl (Ope.mov rfl ?_))
           refine Reg.op rfl (Ope.neS rfl rfl ?_)
           refine Reg.op rfl (Ope.mov rfl ?_)
           refine Reg.on rfl rfl rfl (Ope.load rfl rfl ?_)
           refine Reg.on rfl rfl rfl (Ope.load rfl rfl ?_)
           refine Reg.on rfl rfl rfl (Ope.neV rfl rfl (neSpF _ _ _ _) ?_)
           refine Reg.op rfl (Ope.pickF rfl rfl ?_)
           refine Reg.nil (Run.condF rfl (Run.skip (Run.bend (Run.region (cx_ok _ _ _) (Reg.op rfl (Ope.add rfl rfl (by omega) ?_))))))
           refine Reg.op rfl (Ope.mov rfl ?_)
           refine Reg.nil ?_
           first
           | exact Run.lend ⟨(i+1,m4+2),by show li.length - (i+1) < li.length - i;omega,by show i+1≤li.length;omega,⟨rfl,rfl,rfl,rfl,rfl,rfl,rfl,rfl,rfl,trivial⟩,rfl,rfl⟩
           | exact Run.lend ⟨(i+1,m4+3),by show li.length - (i+1) < li.length - i;omega,by show i+1≤li.length;omega,⟨rfl,rfl,rfl,rfl,rfl,rfl,rfl,rfl,rfl,trivial⟩,rfl,rfl⟩
         ·refine Run.skip (Run.bend (Run.region (cx_ok _ _ _) (Reg.op rfl (Ope.add rfl rfl (by omega) ?_))))
          refine Reg.op rfl (Ope.mov rfl ?_)
          refine Reg.nil ?_
          first
          | exact Run.lend ⟨(i+1,m4+2),by show li.length - (i+1) < li.length - i;omega,by show i+1≤li.length;omega,⟨rfl,rfl,rfl,rfl,rfl,rfl,rfl,rfl,rfl,trivial⟩,rfl,rfl⟩
          | exact Run.lend ⟨(i+1,m4+3),by show li.length - (i+1) < li.length - i;omega,by show i+1≤li.length;omega,⟨rfl,rfl,rfl,rfl,rfl,rfl,rfl,rfl,rfl,trivial⟩,rfl,rfl⟩
        ·refine Reg.off rfl rfl rfl (Reg.off rfl rfl rfl (Reg.off rfl rfl rfl (Reg.op rfl (Ope.pickF rfl rfl ?_))))
         refine Reg.nil (Run.condF rfl (Run.skip (Run.bend (Run.region (cx_ok _ _ _) (Reg.op rfl (Ope.add rfl rfl (by omega) ?_))))))
         refine Reg.op rfl (Ope.mov rfl ?_)
         refine Reg.nil ?_
         first
         | exact Run.lend ⟨(i+1,m4+2),by show li.length - (i+1) < li.length - i;omega,by show i+1≤li.length;omega,⟨rfl,rfl,rfl,rfl,rfl,rfl,rfl,rfl,rfl,trivial⟩,rfl,rfl⟩
         | exact Run.lend ⟨(i+1,m4+3),by show li.length - (i+1) < li.length - i;omega,by show i+1≤li.length;omega,⟨rfl,rfl,rfl,rfl,rfl,rfl,rfl,rfl,rfl,trivial⟩,rfl,rfl⟩
       ·refine Run.exit (Jmp.code (Jmp.round (Jmp.here (Run.seq (Run.region (cx_ok _ _ _) (Reg.op rfl (Ope.cf rfl rfl (aliveF) rfl ?_)))))))
        refine Reg.op rfl (Ope.asg rfl ?_)
        exact Reg.nil (Run.ret (fin_ret (.tmp rfl .nil) rfl rfl))
end
end Go.Pv
namespace Go.Pv
open Go.Proofs Go.Am
set_option maxRecDepth 10000
theorem f9 (s:Fns) (hi:s.hnd) (p q w:Nat) (hp:p < 256) (hq:q < 256) (hw:w < 256):Fn P0 9 [s.v .no .no,.lit (.int .u8 (p:Int)),.lit (.int .u8 (q:Int)),.lit (.int .u8 (w:Int))] (B true):=by
  by_cases hv:s.lng=true∨s.B=false
  · have hh := f11n s (t1 := .no) (t2 := .no) rfl rfl hi.ru hi.li 4000 hv
    exact f9a s rfl rfl hi.ru hi.li _ _ _ s.lng hh (hv.elim .inl fun h=>.inr (.inl h))
  · have hB : s.B = true := by
      cases hb:s.B with
      | true=>rfl
      | false=>exact absurd (.inr hb) hv
    have hf:=fns_ok s hB
    have hh:=f11v s (t1:=.no) (t2:=.no) rfl rfl hf 4000
    cases hd:decide ((4000:Int) < (prdN s s.li.length:Nat)) with
    | true =>
      rw [hd] at hh
      exact f9a s rfl rfl hi.ru hi.li _ _ _ true hh (.inl rfl)
    | false =>
      rw [hd] at hh
      by_cases h0:0 < s.li.length
      · exact f9v s rfl rfl hf hh h0 p q w hp hq hw
      · exact f9a s rfl rfl hi.ru hi.li _ _ _ false hh (.inr (.inr (by omega)))
end Go.Pv
