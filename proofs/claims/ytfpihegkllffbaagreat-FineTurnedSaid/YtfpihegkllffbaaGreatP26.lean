/- Parts of the proof: E48, E55, E56, E57, E65, E66 -/
import Derived.Test.YtfpihegkllffbaaGreatP25
set_option linter.unusedVariables false
set_option linter.unusedSimpArgs false
set_option linter.unusedSectionVars false
namespace Go.Pv
open Go.Proofs Go.Am
set_option maxRecDepth 10000
set_option maxHeartbeats 4000000
structure EDt (len r:Nat) (RI X:List Int) (FI PA:Nat→Int):Prop where
  rl:RI.length=len
  xl:X.length=len
  xb:∀ i (h:i < X.length),0≤X[i]∧X[i]≤1000
  f0:FI 0=0
  p0:PA 0=0
  fb:∀ i,0≤FI i∧FI i≤5005
  pb:∀ i,0≤PA i∧PA i≤5005
  s1:∀ i (h1:i < RI.length) (h2:i < X.length),RI[i]=(r:Int)→FI (i+1)=FI i+X[i]∧PA (i+1)=PA i+(X[i]+1) / 2
  s2:∀ i (h1:i < RI.length) (h2:i < X.length),¬ RI[i]=(r:Int)→RI[i]=((r ^^^ 1:Nat):Int)→FI (i+1)=FI i∧PA (i+1)=PA i+X[i] / 2
  s3:∀ i (h1:i < RI.length) (h2:i < X.length),¬ RI[i]=(r:Int)→¬ RI[i]=((r ^^^ 1:Nat):Int)→FI (i+1)=FI i∧PA (i+1)=PA i
end Go.Pv
namespace Go.Pv
open Go.Proofs Go.Am
set_option maxRecDepth 10000
set_option maxHeartbeats 4000000
section
variable (f:Fns) {t1 t2:Tail} (h1:t1.isOwn=false) (h2:t2.isOwn=false)
include h1 h2
end
end Go.Pv
namespace Go.Pv
open Go.Proofs Go.Am
set_option maxRecDepth 10000
set_option maxHeartbeats 4000000
section
variable (f:Fns) {t1 t2:Tail} (h1:t1.isOwn=false) (h2:t2.isOwn=false)
include h1 h2
end
end Go.Pv
namespace Go.Pv
open Go.Proofs Go.Am
set_option maxRecDepth 10000
set_option maxHeartbeats 4000000
theorem hs_own0 {o:Option Nat} {c:Option PBlk} (h:∀ j,o=some j→1≤j):∀ x b,hget ([(0,c)]:HL) x=some b→hget (ownU o++[(0,c)]) x=some b:=by
  intro x b hb
  cases o with
  | none=>exact hb
  | some j =>
    have hj:=h j rfl
    by_cases hx:x=0
    · subst hx
      exact (hget_tl (by omega)).trans hb
    · rw [hget_tl hx] at hb
      cases hb
section
variable (f:Fns) {t1 t2:Tail} (h1:t1.isOwn=false) (h2:t2.isOwn=false)
include h1 h2
end
end Go.Pv
namespace Go.Pv
open Go.Proofs Go.Am
set_option maxRecDepth 10000
set_option maxHeartbeats 8000000
theorem hget_own {o:Option Nat} {j:Nat} (h:o=some j) (l:HL):hget (ownU o++l) j=some .own:=by
  subst h
  exact hget_hd
section
variable (f:Fns) {t1 t2:Tail} (h1:t1.isOwn=false) (h2:t2.isOwn=false)
include h1 h2
theorem f10v (hf : f.ok) (hh : Fn P0 11 [f.v t1 t2, I 4000, .sl .ex []] (B false)) (_hl0 : True) (p : Nat) (hp : p < 256) (tb : Tail) (xs : List Nat) (hx : ∀ x ∈ xs, x < 65536) : Fn P0 10 [f.v t1 t2, .lit (.int .u8 (p : Int)), .sl tb (xs.map U16)] (B true) := by
  have hl5:=hf.li
  have hr4:=hf.ru
  have hS:f.ru.length≤9223372036854775807:=by omega
  have hJ:f.li.length≤9223372036854775807:=by omega
  have hv:=fns_B f hf
  have hfi:=f26 f h1 h2 hS hJ
  rw [hv] at hfi
  have hb:PV.bds 0 [f.v t1 t2,I 4000,.sl .ex []]=true:=bd_fnsV f h1 h2 rfl
  have hb0:PV.bds 0 [f.v t1 t2]=true:=bd_fnsV f h1 h2 rfl
  have hb1:∀ i:Nat,PV.bds 0 [f.v t1 t2,N i]=true:=fun i=>bd_fnsV f h1 h2 rfl
  have hbx0:∀ L:List Ofc,PV.bds 0 [(f.wl L).v t1 .no]=true:=fun L=>bd_fnsV (f.wl L) h1 rfl rfl
  have hbx1:∀ (L:List Ofc) (i:Nat),PV.bds 0 [(f.wl L).v t1 .no,N i]=true:=fun L i=>bd_fnsV (f.wl L) h1 rfl rfl
  have hbw:PV.bds 0 [(f.wr ⟨p,0,1000,0⟩).v .no t2]=true:=bd_fnsV (f.wr ⟨p,0,1000,0⟩) rfl h2 rfl
  have hbn:∀ r:Nat,PV.bds 0 [N r,.fp (.lit (.int .u8 (p:Int))),.fp (f.v t1 t2)]=true:=fun r=>bds_cons rfl (bds_cons rfl (bd_fnsV f h1 h2 rfl))
  have hb2:∀ ri ho:List Int,PV.bds 0 [f.v t1 t2,.sl .no (ri.map I),.sl .no (ho.map I)]=true:=fun ri ho=>bd_fnsV f h1 h2 (bds_cons (bd_sl (f:=I) (tl:=.no) rfl (fun _=>rfl) _) (bds_cons (bd_sl (f:=I) (tl:=.no) rfl (fun _=>rfl) _) rfl))
  obtain ⟨kn,hkn,hk3⟩:∃ k:Nat,f.n=(k:Int)∧(k=2∨k=4∨k=6):=⟨f.n.toNat,by have:=hf.n;omega,by have:=hf.n;omega⟩
  have hk6:0 < kn∧kn≤6:=by omega
  have hnm:=fun r hr=>f36 f h1 h2 kn p r hkn hk6 hp hr
  have hnz:∀ r,r < kn→numZ kn p r < kn:=fun r hr=>by
    unfold numZ
    rcases hk3 with rfl | rfl | rfl<;>omega
  have hsz:=fun R k hk=>setZ_lt (t:=p) (R:=R) hk3 k hk
  have hp6:2 ^ kn≤2 ^ 6:=Nat.pow_le_pow_right (by decide) hk6.2
  have hpn:∀ r,r < kn→2 ^ numZ kn p r≤2 ^ 6:=fun r hr=>Nat.pow_le_pow_right (by decide) (by have:=hnz r hr;omega)
  have hsg:Trn f.n (sgm kn p):=hkn ▸ trn_num hk3 p
  have hsr:∀ r:Nat,sgm kn p (r:Int)=(numZ kn p r:Nat):=fun r=>by unfold sgm;rw [Int.toNat_natCast]
  have hxo:=tr_ok hf hkn p
  have hTL:=trL_of hf hkn p
  obtain ⟨LX,hLX⟩:∃ L,f.li.map (trO kn p)=L:=⟨_,rfl⟩
  rw [hLX] at hxo hTL
  have hxv:=fns_B _ hxo
  have hxl:LX.length=f.li.length:=hTL.ln
  have hlv:=hf.lv
  have hnum:∀ (m i:Nat),i < m→numB (m:Int) (i:Int)=true:=fun m i h=>by unfold numB;rw [decide_eq_true (by omega),decide_eq_true (by omega)];rfl
  have hTo:∃ ta tb':Int,Fn P0 19 [f.v t1 t2] (.tup [.agg [I ta,I tb'],I 0])∧Fn P0 19 [(f.wl LX).v t1 .no] (.tup [.agg [I ta,I tb'],I 0])∧(f.ru.length < 4→Fn P0 19 [(f.wr ⟨p,0,1000,0⟩).v .no t2] (.tup [.agg [I ta,I tb'],I 0])):=by
    have e1:=f19 f h1 h2 hS hJ
    have e2:=f19 (f.wl LX) (t1:=t1) (t2:=.no) h1 rfl hS (by show LX.length≤_;omega)
    rw [tolS_ok hv] at e1
    have hs2:=spn_rn hsg hf hxo hTL (gC_ok (2 ^ f.li.length - 1)) (gC_ok (2 ^ f.li.length - 1)) fun d _ _ c=>rfl
    rw [tolS_ok hxv,show (f.wl LX).li.length=f.li.length from hxl,hs2] at e2
    refine ⟨_,_,e1,e2,fun hlt=>?_⟩
    have hwo:=wr_ok hf (r:=⟨p,0,1000,0⟩) hlt ⟨⟨by show (0:Int)≤(p:Int);omega,by show (p:Int)≤1000;omega⟩,(by show (0:Int)≤0∧(0:Int)≤1000;decide),(by show (0:Int)≤1000∧(1000:Int)≤1000;decide),(by show (0:Int)≤0∧(0:Int)≤144;decide)⟩
    have e3:=f19 (f.wr ⟨p,0,1000,0⟩) (t1:=.no) (t2:=t2) rfl h2 (by have:=hwo.ru;omega) hJ
    rw [tolS_ok (fns_B _ hwo),wr_spn hf hwo (gC_ok _)] at e3
    exact e3
  have hRi:∀ r:Nat,r < kn→∃ a b a' b':Int,Fn P0 15 [f.v t1 t2,N r] (.tup [.agg [I a,I b],I 0])∧Fn P0 15 [(f.wl LX).v t1 .no,N (numZ kn p r)] (.tup [.agg [I a,I b],I 0])∧Fn P0 17 [f.v t1 t2,N r] (.tup [.agg [I a',I b'],I 0])∧Fn P0 17 [(f.wl LX).v t1 .no,N (numZ kn p r)] (.tup [.agg [I a',I b'],I 0]):=fun r hr=>by
    have hrn:∀ (g:Fns) (q:Nat),g.n=f.n→q < kn→numB g.n (q:Int)=true:=fun g q hg hq=>by rw [hg,hkn];exact hnum kn q hq
    have e1:=f15 f h1 h2 hS hJ (r:Int)
    have e2:=f15 (f.wl LX) (t1:=t1) (t2:=.no) h1 rfl hS (by show LX.length≤_;omega) (numZ kn p r:Int)
    have e3:=f17 f h1 h2 hS hJ (r:Int)
    have e4:=f17 (f.wl LX) (t1:=t1) (t2:=.no) h1 rfl hS (by show LX.length≤_;omega) (numZ kn p r:Int)
    rw [hrn f r rfl hr,tolS_ok hv] at e1 e3
    rw [hrn (f.wl LX) _ rfl (hnz r hr),tolS_ok hxv] at e2 e4
    have hs1:=spn_rn hsg hf hxo hTL (gF_ok (r:Int)) (gF_ok _) fun d d0 d1 c=>gF_rn hsg (r:=(r:Int)) (by omega) (by omega) d d0 d1 c
    have hs2:=spn_rn hsg hf hxo hTL (gP_ok (r:Int)) (gP_ok _) fun d d0 d1 c=>gP_rn hsg (r:=(r:Int)) (by omega) (by omega) d d0 d1 c
    rw [hsr] at hs1 hs2
    rw [hs1] at e2
    rw [hs2] at e4
    exact ⟨_,_,_,_,e1,e2,e3,e4⟩
  have hCo:∀ i:Nat,i < f.li.length→∃ a b:Int,Fn P0 13 [f.v t1 t2,N i] (.tup [.agg [I a,I b],I 0])∧Fn P0 13 [(f.wl LX).v t1 .no,N i] (.tup [.agg [I a,I b],I 0]):=fun i hi=>by
    have e1:=f13 f h1 h2 hS hJ (i:Int)
    have e2:=f13 (f.wl LX) (t1:=t1) (t2:=.no) h1 rfl hS (by show LX.length≤_;omega) (i:Int)
    rw [hnum _ _ hi,tolS_ok hv,Int.toNat_natCast] at e1
    rw [show (f.wl LX).li.length=f.li.length from hxl,hnum _ _ hi,tolS_ok hxv,Int.toNat_natCast] at e2
    have hs2:=spn_rn hsg hf hxo hTL (gC_ok (1 * 2 ^ i)) (gC_ok (1 * 2 ^ i)) fun d _ _ c=>rfl
    rw [hs2] at e2
    exact ⟨_,_,e1,e2⟩
  have hdr:=fun (n l)=>f28 tb xs n l
  have htr:=fun z n0 hn0=>f27z f h1 h2 hf tb xs hx z n0 hn0
  have hall:∀ T,f.Tru T→∃ (RI HO X:List Int) (t3:Tail),T.map Deed.ri=RI∧T.map Deed.ho=HO∧X.length=f.li.length∧t3.isOwn=false∧Fn P0 21 [f.v t1 t2,.sl .no (RI.map I),.sl .no (HO.map I)] (.tup [.sl t3 (X.map I),I 0])∧∀ n,PCall P0 21 [f.v t1 t2,.sl .no (RI.map I),.sl .no (HO.map I)] (HE n []) (QS X) fun _ _=>False:=fun T hT=>by
    obtain ⟨t3,ht3,hex⟩:=f21 f h1 h2 hS hJ .no .no rfl rfl (T.map Deed.ri) (T.map Deed.ho)
    rw [kn_tru hf hT,tolL_ok hv,dl_tru hT] at hex
    have hli:∀ n,PCall P0 21 [f.v t1 t2,.sl .no ((T.map Deed.ri).map I),.sl .no ((T.map Deed.ho).map I)] (HE n []) (QS (f.exa T)) fun _ _=>False:=fun n=>by
      by_cases h0:0 < f.li.length
      · have h9 := f21L f h1 h2 hf h0 .no .no rfl rfl (T.map Deed.ri) (T.map Deed.ho) (kn_tru hf hT) n
        rw [dl_tru hT] at h9
        exact h9.mono (fun v h' hq=>hq.qs fun e=>by
          have h8:=congrArg List.length e
          unfold Fns.exa at h8
          rw [List.length_map,hT.ln] at h8
          have h7:f.li.length=0:=h8
          omega) fun _ _ q=>q
      · have hX : f.exa T = [] := List.eq_nil_of_length_eq_zero (by unfold Fns.exa; rw [List.length_map, hT.ln]; omega)
        rw [hX] at hex ⊢
        exact Fn.call hex (hb2 _ _) ⟨t3,n,[],none,⟨fun _=>rfl,fun _=>rfl⟩,rfl,rfl⟩
    exact ⟨_,_,f.exa T,t3,rfl,rfl,by unfold Fns.exa;rw [List.length_map,hT.ln],ht3,hex,hli⟩
  have hin:=fun (u1 u2:Tail) (ys:List Int) (h:ys.length≤1000)=>(by
    have h9:=f23 u1 u2 ys ys (by omega) (by omega)
    rw [decide_eq_true rfl] at h9
    exact h9:Fn P0 23 [.sl u1 (ys.map I),.sl u2 (ys.map I)] (B true))
  have hbi:∀ (u1 u2:Tail) (h1:u1.isOwn=false) (h2:u2.isOwn=false) (ys:List Int),PV.bds 0 [.sl u1 (ys.map I),.sl u2 (ys.map I)]=true:=fun u1 u2 h1 h2 ys=>bds_cons (bd_sl (f:=I) h1 (fun _=>rfl) _) (bds_cons (bd_sl (f:=I) h2 (fun _=>rfl) _) rfl)
  generalize f.Tru=TR at *
  obtain ⟨ru,n,li⟩:=f
  simp only at hkn
  subst hkn
  simp only [Fns.wl,Fns.wr] at hl5 hr4 hall hxl hlv hTo hRi hCo hbx0 hbx1 hbw hLX
  clear hf hv hxo hTL hxv
  refine PFun.of (C:=c10) (cx_ok _ _ _) rfl (fn:=Tryz.f10) (by kernel_rfl) (c:=_) rfl rfl rfl ?_
  refine rS (rN (cx_ok _ _ _) (rO rfl (Ope.boxF rfl rfl ?_)))
  refine rO rfl (Ope.boxF rfl rfl ?_)
  refine rO rfl (oA rfl ?_)
  refine rI (rS (rS (rN (cx_ok _ _ _) (rO rfl (oL rfl rfl ?_)))))
  refine rO rfl (Ope.cf rfl rfl hh hb ?_)
  refine rO rfl (oM rfl ?_)
  refine Reg.on rfl rfl rfl (oL rfl rfl ?_)
  refine Reg.on rfl rfl rfl (Ope.cf rfl rfl hfi hb0 ?_)
  refine Reg.on rfl rfl rfl (Ope.not rfl ?_)
  refine rO rfl (Ope.pickF rfl rfl ?_)
  refine rI (Run.condF rfl (Run.skip (rS (rN (cx_ok _ _ _) (rO rfl (Ope.mkf rfl rfl ?_))))))
  refine rO rfl (oA rfl ?_)
  refine rI (rS (rN (cx_ok _ _ _) (rO rfl (oL rfl rfl ?_))))
  refine rO rfl (Ope.newL rfl ?_)
  refine Reg.op0 (Ope.store rfl rfl hget_hd rfl rfl rfl ?_)
  refine rI (rS (rN (cx_ok _ _ _) (rO rfl (Ope.fld rfl rfl ?_))))
  refine Reg.op0 (Ope.store rfl rfl hget_hd rfl rfl rfl ?_)
  refine rI (rS (rS (rN (cx_ok _ _ _) (rO rfl (Ope.fld rfl rfl ?_)))))
  refine rO rfl (oL rfl rfl ?_)
  refine rO rfl (Ope.len (m:=li.length) rfl (by simp) ?_)
  refine rO rfl (oM rfl ?_)
  refine rI (Run.block (Run.wide (m:=1) (l':=[(0,some (.cells [.sl t1 (ru.map Rul.v),I kn,.sl .ex []]))]) (Nat.le_refl _) ⟨hget_hd,trivial⟩ ?_))
  refine Run.loop (α:=Nat×Nat×Option Nat) (fun t=>[(2,.sl tb (xs.map U16)),(3,.fp ((⟨ru,(kn:Int),li⟩:Fns).v t1 t2)),(4,.fp (.lit (.int .u8 (p:Int)))),(7,.fn (.func 36) [] [.fp (.lit (.int .u8 (p:Int))),.fp ((⟨ru,(kn:Int),li⟩:Fns).v t1 t2)]),(8,.ptr 0 0),(58,.sl t2 (li.map Ofc.v)),(59,I li.length),(60,I t.1)]) (fun t=>HE t.2.1 (ownU t.2.2++[(0,some (.cells [.sl t1 (ru.map Rul.v),I kn,.sl (tlU t.2.2) (((li.take t.1).map (trO kn p)).map Ofc.v)]))])) (fun t=>t.1≤li.length∧1≤t.2.1∧∀ j,t.2.2=some j→1≤j∧j < t.2.1∧0 < t.1) (fun t=>li.length - t.1) (0,1,none) ⟨rfl,rfl,rfl,rfl,rfl,rfl,rfl,rfl,trivial⟩ rfl ⟨Nat.zero_le _,Nat.le_refl _,fun j hj=>by cases hj⟩ (fun t ht=>?_)
  obtain ⟨i,m,o⟩:=t
  obtain ⟨hi,hm,hO⟩:=ht
  simp only at hi hm hO
  show Run _ _ _ _ [(2,.sl tb (xs.map U16)),(3,.fp ((⟨ru,(kn:Int),li⟩:Fns).v t1 t2)),(4,.fp (.lit (.int .u8 (p:Int)))),(7,.fn (.func 36) [] [.fp (.lit (.int .u8 (p:Int))),.fp ((⟨ru,(kn:Int),li⟩:Fns).v t1 t2)]),(8,.ptr 0 0),(58,.sl t2 (li.map Ofc.v)),(59,I li.length),(60,I i)] [] (HE m (ownU o++[(0,some (.cells [.sl t1 (ru.map Rul.v),I kn,.sl (tlU o) (((li.take i).map (trO kn p)).map Ofc.v)]))]))
  refine rS (rN (cx_ok _ _ _) (rO rfl (Ope.lt rfl rfl ?_)))
  refine rI (rS (rC rfl (fun hc=>?_) fun hc=>?_))
  ·refine Run.skip (rS (Run.block (rS ?_)))
   have hil:i < li.length:=by omega
   have hlvi:=(hlv li[i] (List.getElem_mem hil)).2.1
   obtain ⟨R,hR,hR6⟩:∃ R:Nat,li[i].ri=(R:Int)∧R < 64:=⟨li[i].ri.toNat,by omega,by
     have e1:(2:Int) ^ ((kn:Nat):Int).toNat=((2 ^ kn:Nat):Int):=by rw [Int.toNat_natCast];push_cast;rfl
     rw [e1] at hlvi
     omega⟩
   have hov:li[i].v=.agg [I li[i].kd,I R,I li[i].lo,I li[i].hi]:=by show PV.agg _=_;rw [← hR]
   have htv:(trO kn p li[i]).v=.agg [I li[i].kd,N (setZ kn p R kn),I li[i].lo,I li[i].hi]:=by
     unfold trO
     rw [hR,Int.toNat_natCast]
     rfl
   have hQs:((li.take (i+1)).map (trO kn p)).map Ofc.v=((li.take i).map (trO kn p)).map Ofc.v++[(trO kn p li[i]).v]:=by rw [List.take_succ_eq_append_getElem hil,List.map_append,List.map_append];rfl
   have hQl:(((li.take i).map (trO kn p)).map Ofc.v).length≤5:=by rw [List.length_map,List.length_map,List.length_take];omega
   have h0o:hget (ownU o++[(0,some (PBlk.cells [.sl t1 (ru.map Rul.v),I kn,.sl (tlU o) (((li.take i).map (trO kn p)).map Ofc.v)]))]) 0=some (.cells [.sl t1 (ru.map Rul.v),I kn,.sl (tlU o) (((li.take i).map (trO kn p)).map Ofc.v)]):=hs_own0 (fun j hj=>(hO j hj).1) 0 _ hget_hd
   have hA:∀ (c1 c2 c3:Option PBlk) j,o=some j→((li.take i).map (trO kn p)).map Ofc.v≠[]∧hget ((m,c1)::(m,c2)::(m,c3)::(ownU o++[(0,some (PBlk.cells [.sl t1 (ru.map Rul.v),I kn,.sl (tlU o) (((li.take i).map (trO kn p)).map Ofc.v)]))])) j=some .own:=fun c1 c2 c3 j hj=>⟨fun e=>by
     have h9:=congrArg List.length e
     rw [List.length_map,List.length_map,List.length_take] at h9
     have h8:min i li.length=0:=h9
     have:=(hO j hj).2.2
     omega,(hget_tl (by have:=(hO j hj).2.1;omega)).trans ((hget_tl (by have:=(hO j hj).2.1;omega)).trans ((hget_tl (by have:=(hO j hj).2.1;omega)).trans (hget_own hj _)))⟩
   refine rN (cx_ok _ _ _) (rO rfl (Ope.idxM (m:=i) (f:=Ofc.v) rfl rfl rfl hil (fun _=>rfl) ?_))
   rw [hov]
   refine rO rfl (oL rfl rfl ?_)
   refine rO rfl (Ope.newL rfl ?_)
   refine Reg.op0 (Ope.store rfl rfl hget_hd rfl rfl rfl ?_)
   refine rI (rS (rN (cx_ok _ _ _) (rO rfl (oA rfl ?_))))
   refine rI (rS (rS (rN (cx_ok _ _ _) (rO rfl (Ope.fld rfl rfl ?_)))))
   refine rO rfl (oL rfl rfl ?_)
   refine rO rfl (oM rfl ?_)
   refine rI (Run.block (Run.loop (α:=Nat) (fun k=>[(2,.sl tb (xs.map U16)),(3,.fp ((⟨ru,(kn:Int),li⟩:Fns).v t1 t2)),(4,.fp (.lit (.int .u8 (p:Int)))),(7,.fn (.func 36) [] [.fp (.lit (.int .u8 (p:Int))),.fp ((⟨ru,(kn:Int),li⟩:Fns).v t1 t2)]),(8,.ptr 0 0),(58,.sl t2 (li.map Ofc.v)),(59,I li.length),(60,I i),(10,.ptr m 0),(11,N (setZ kn p R k)),(65,I kn),(66,I k)]) (fun k=>HE (m+1) ((m,some (.cells [I li[i].kd,I R,I li[i].lo,I li[i].hi]))::(m,some (.cells [I 0,I 0,I 0,I 0]))::(ownU o++[(0,some (.cells [.sl t1 (ru.map Rul.v),I kn,.sl (tlU o) (((li.take i).map (trO kn p)).map Ofc.v)]))]))) (fun k=>k≤kn) (fun k=>kn - k) 0 ⟨rfl,rfl,rfl,rfl,rfl,rfl,rfl,rfl,rfl,rfl,rfl,rfl,trivial⟩ rfl (Nat.zero_le _) (fun k hk=>?_)))
   refine rS (rN (cx_ok _ _ _) (rO rfl (Ope.lt rfl rfl ?_)))
   refine rI (rS (rC rfl (fun hc=>?_) fun hc=>?_))
   ·refine Run.skip (rS (Run.block (rS ?_)))
    have hkk:k < kn:=by omega
    have hnk:=hnm k (by omega)
    have hbk:=hbn k
    have hz1:=hsz R k (by omega)
    have hz2:=hnz k hkk
    have hz3:=hpn k hkk
    have hsR:R >>> k≤R:=Nat.shiftRight_le _ _
    have hb9:R >>> k &&& 1≤1:=Nat.and_le_right
    have hz4:(R >>> k &&& 1) * 2 ^ numZ kn p k≤1 * 2 ^ 6:=Nat.mul_le_mul hb9 hz3
    refine rN (cx_ok _ _ _) (rO rfl (oM rfl ?_))
    refine rO rfl (oA rfl ?_)
    refine rI (Run.drawS (cx_ok _ _ _) (fun h'=>h'.get m=some (.cells [I li[i].kd,I R,I li[i].lo,I li[i].hi])) [(0,true,false),(1,true,false),(2,false,false),(3,true,false),(4,true,false),(5,true,false),(6,true,false),(7,true,false),(8,true,true),(9,true,false),(10,true,false),(11,true,false)] (by kernel_rfl) (DraS.opQ rfl rfl rfl (oM rfl ?_)))
    refine DraS.opQ rfl rfl rfl (Ope.fld rfl rfl ?_)
    refine DraS.opR rfl rfl rfl hget_hd (StabS.at rfl) (Ope.loadH rfl hget_hd rfl ?_)
    refine DraS.opQ rfl rfl rfl (oM rfl ?_)
    refine DraS.opQ rfl rfl rfl (Ope.shrN (p:=R) (m:=k) rfl rfl rfl rfl (by show k≤64;omega) ?_)
    refine DraS.opQ rfl rfl rfl (Ope.andN (p:=R >>> k) (q:=1) rfl rfl rfl rfl (by show R >>> k < 2 ^ 64;omega) (by decide) ?_)
    refine DraS.opQ rfl rfl rfl (oM rfl ?_)
    refine DraS.opQ rfl rfl rfl (oM rfl ?_)
    refine DraS.opS rfl rfl rfl (Ope.cf rfl rfl hnk hbk ?_)
    refine ⟨hget_hd,?_⟩
    refine DraS.opQ rfl rfl rfl (Ope.shlN (p:=R >>> k &&& 1) (m:=numZ kn p k) rfl rfl rfl rfl (by omega) (by omega) ?_)
    refine DraS.opQ rfl rfl rfl (Ope.orN (p:=setZ kn p R k) (q:=(R >>> k &&& 1) * 2 ^ numZ kn p k) rfl rfl rfl rfl (by show setZ kn p R k < 2 ^ 63;omega) (by show (R >>> k &&& 1) * 2 ^ numZ kn p k < 2 ^ 63;omega) ?_)
    refine DraS.opQ rfl rfl rfl (oA rfl ?_)
    refine DraS.nil (Run.bend (rN (cx_ok _ _ _) (rO rfl (Ope.add rfl rfl (by omega) ?_))))
    refine rO rfl (oM rfl ?_)
    exact rI (Run.lend ⟨k+1,by omega,by omega,⟨rfl,rfl,rfl,rfl,rfl,rfl,rfl,rfl,rfl,rfl,rfl,rfl,trivial⟩,rfl,rfl⟩)
   ·refine Run.exit (Jmp.code (Jmp.round (Jmp.here (rS ?_))))
    obtain rfl:k=kn:=by omega
    refine rN (cx_ok _ _ _) (rO rfl (oM rfl ?_))
    refine rO rfl (Ope.fld rfl rfl ?_)
    refine Reg.op0 (Ope.store rfl rfl hget_hd rfl rfl rfl ?_)
    refine rI (rN (cx_ok _ _ _) (rO rfl (Ope.fld rfl rfl ?_)))
    refine rO rfl (Ope.loadH rfl ((hget_tl (by omega)).trans ((hget_tl (by omega)).trans ((hget_tl (by omega)).trans h0o))) rfl ?_)
    refine rO rfl (Ope.loadH rfl hget_hd rfl ?_)
    rw [← htv]
    refine rO rfl (Ope.bsl rfl rfl rfl rfl ?_)
    refine rO rfl (Ope.apV (o':=o) (vs:=((li.take i).map (trO k p)).map Ofc.v) (ws:=[(trO k p li[i]).v]) rfl rfl (by simp) (hA _ _ _) (by rw [List.length_singleton];omega) (by rw [List.length_singleton];omega) (by decide) (by intro v hv;obtain ⟨_,_,rfl⟩:=List.mem_map.1 hv;rfl) (by intro v hv;simp only [List.mem_singleton] at hv;subst hv;exact ⟨rfl,rfl⟩) ?_)
    refine rO rfl (Ope.fld rfl rfl ?_)
    refine Reg.op0 (Ope.store rfl rfl ((hget_tl (by omega)).trans ((killU_at (fun j hj=>by have:=(hO j hj).1;omega)).trans ((hget_tl (by omega)).trans ((hget_tl (by omega)).trans ((hget_tl (by omega)).trans h0o))))) rfl rfl rfl ?_)
    refine rI (Run.bend (Run.wide (m:=m+1+1) (l':=[(m+1,some .own),(0,some (.cells [.sl t1 (ru.map Rul.v),I k,.sl (tlU (some (m+1))) (((li.take (i+1)).map (trO k p)).map Ofc.v)]))]) (Nat.le_refl _) ⟨(hget_tl (by omega)).trans hget_hd,hget_hd.trans (by rw [hQs];rfl),trivial⟩ ?_))
    refine rN (cx_ok _ _ _) (rO rfl (Ope.add rfl rfl (by omega) ?_))
    refine rO rfl (oM rfl ?_)
    exact rI (Run.lend ⟨(i+1,m+1+1,some (m+1)),by show li.length - (i+1) < li.length - i;omega,⟨by show i+1≤li.length;omega,by show 1≤m+1+1;omega,fun j hj=>by cases hj;exact ⟨by show 1≤m+1;omega,by show m+1 < m+1+1;omega,by show 0 < i+1;omega⟩⟩,⟨rfl,rfl,rfl,rfl,rfl,rfl,rfl,rfl,trivial⟩,rfl,rfl⟩)
  ·refine Run.exit (Jmp.code (Jmp.round (Jmp.here (rS ?_))))
   obtain rfl:i=li.length:=by omega
   rw [List.take_length,hLX]
   have h0e:hget (ownU o++[(0,some (PBlk.cells [.sl t1 (ru.map Rul.v),I kn,.sl (tlU o) (LX.map Ofc.v)]))]) 0=some (.cells [.sl t1 (ru.map Rul.v),I kn,.sl (tlU o) (LX.map Ofc.v)]):=hs_own0 (fun j hj=>(hO j hj).1) 0 _ hget_hd
   refine Run.weakC (i:=0) (cs':=[.sl t1 (ru.map Rul.v),I kn,.sl .no (LX.map Ofc.v)]) h0e (fun s xs h=>weak_c3 h) ?_
   refine Run.frz (d:=8) true rfl hget_hd rfl ?_
   refine Run.wide (m:=m) (l':=[]) (Nat.le_refl _) trivial ?_
   obtain ⟨ta,tb',hT1,hT2,hT3⟩:=hTo
   refine Run.draw (cx_ok _ _ _) [(0,true),(1,true),(2,true),(4,true),(5,true),(6,false),(3,true),(7,true),(8,true),(9,true)] (by kernel_rfl) (dO rfl rfl rfl .sure (Ope.bsl rfl rfl rfl rfl ?_))
   refine dO rfl rfl rfl .sure (Ope.fld rfl rfl ?_)
   refine dO rfl rfl rfl .sure (oL rfl rfl ?_)
   refine dO rfl rfl rfl .sure (Ope.bsl rfl rfl rfl rfl ?_)
   refine dO rfl rfl rfl .sure (Ope.fld rfl rfl ?_)
   refine dO rfl rfl rfl (.load rfl) (oL rfl rfl ?_)
   refine dO rfl rfl rfl .sure (Ope.apE (ws:=li.map Ofc.v) rfl rfl (by rw [List.length_map];omega) (by rw [List.length_map];omega) (by decide) (by intro v hv;obtain ⟨_,_,rfl⟩:=List.mem_map.1 hv;exact ⟨rfl,rfl⟩) (fun o1 n1 hn1 ho1=>?_))
   refine dO rfl rfl rfl .sure (Ope.apE (ws:=ru.map Rul.v) rfl rfl (by rw [List.length_map];omega) (by rw [List.length_map];omega) (by decide) (by intro v hv;obtain ⟨_,_,rfl⟩:=List.mem_map.1 hv;exact ⟨rfl,rfl⟩) (fun o2 n2 hn2 ho2=>?_))
   refine dO rfl rfl rfl .sure (oA rfl ?_)
   refine dO rfl rfl rfl .sure (oA rfl ?_)
   refine Dra.nil (rS (Run.weakT (d:=13) rfl ?_))
   refine Run.weakT (d:=14) rfl ?_
   refine Run.wide (m:=n2) (l':=[]) (Nat.le_refl _) trivial ?_
   refine rN (cx_ok _ _ _) (rO rfl (oL rfl rfl ?_))
   refine rO rfl (Ope.cf rfl rfl hT1 hb0 ?_)
   refine rO rfl (oM rfl ?_)
   refine rO rfl (Ope.ext rfl rfl ?_)
   refine rO rfl (Ope.ext rfl rfl ?_)
   refine rO rfl (Ope.newL rfl ?_)
   refine Reg.op0 (Ope.store rfl rfl hget_hd rfl rfl rfl ?_)
   refine rO rfl (oA rfl ?_)
   refine rI (rS (Run.frz (d:=15) true rfl hget_hd rfl ?_))
   refine rN (cx_ok _ _ _) (rO rfl (oL rfl rfl ?_))
   refine rO rfl (Ope.cf rfl rfl hT2 (hbx0 LX) ?_)
   refine rO rfl (oM rfl ?_)
   refine rO rfl (Ope.ext rfl rfl ?_)
   refine rO rfl (Ope.ext rfl rfl ?_)
   refine rO rfl (Ope.newL rfl ?_)
   refine Reg.op0 (Ope.store rfl rfl hget_hd rfl rfl rfl ?_)
   refine rO rfl (oA rfl ?_)
   refine rI (rS (rS (Run.frz (d:=17) true rfl hget_hd rfl ?_)))
   refine Run.wide (m:=n2+2) (l':=[]) (Nat.le_refl _) trivial ?_
   refine rN (cx_ok _ _ _) (rO rfl (oM rfl ?_))
   refine rO rfl (Ope.neS rfl rfl ?_)
   refine rO rfl (oM rfl ?_)
   refine Reg.on rfl rfl rfl (oM rfl ?_)
   refine Reg.on rfl rfl rfl (Ope.neS rfl rfl ?_)
   refine rO rfl (Ope.pickF rfl rfl ?_)
   refine rO rfl (oM rfl ?_)
   refine Reg.on rfl rfl rfl (oL rfl rfl ?_)
   refine Reg.on rfl rfl rfl (oL rfl rfl ?_)
   refine Reg.on rfl rfl rfl (Ope.neV rfl rfl (neSpG _ _ _ _) ?_)
   refine rO rfl (Ope.pickF rfl rfl ?_)
   refine rI (Run.condF rfl (Run.skip (rS (rS (rN (cx_ok _ _ _) (rO rfl (Ope.fld rfl rfl ?_)))))))
   refine rO rfl (oL rfl rfl ?_)
   refine rO rfl (oM rfl ?_)
   refine rI (Run.block (Run.loop (α:=Nat×Nat) (fun t=>[(2,.sl tb (xs.map U16)),(3,.fp ((⟨ru,(kn:Int),li⟩:Fns).v t1 t2)),(4,.fp (.lit (.int .u8 (p:Int)))),(7,.fn (.func 36) [] [.fp (.lit (.int .u8 (p:Int))),.fp ((⟨ru,(kn:Int),li⟩:Fns).v t1 t2)]),(8,.fp ((⟨ru,(kn:Int),LX⟩:Fns).v t1 .no)),(13,.sl .no (li.map Ofc.v)),(14,.sl .no (ru.map Rul.v)),(15,.fp (.agg [I ta,I tb'])),(120,I kn),(121,I t.1)]) (fun t=>HE t.2 []) (fun t=>t.1≤kn) (fun t=>kn - t.1) (0,n2+2) ⟨rfl,rfl,rfl,rfl,rfl,rfl,rfl,rfl,rfl,rfl,trivial⟩ rfl (Nat.zero_le _) (fun t ht=>?_)))
   obtain ⟨r,m2⟩:=t
   simp only at ht
   show Run _ _ _ _ [(2,.sl tb (xs.map U16)),(3,.fp ((⟨ru,(kn:Int),li⟩:Fns).v t1 t2)),(4,.fp (.lit (.int .u8 (p:Int)))),(7,.fn (.func 36) [] [.fp (.lit (.int .u8 (p:Int))),.fp ((⟨ru,(kn:Int),li⟩:Fns).v t1 t2)]),(8,.fp ((⟨ru,(kn:Int),LX⟩:Fns).v t1 .no)),(13,.sl .no (li.map Ofc.v)),(14,.sl .no (ru.map Rul.v)),(15,.fp (.agg [I ta,I tb'])),(120,I kn),(121,I r)] [] (HE m2 [])
   refine rS (rN (cx_ok _ _ _) (rO rfl (Ope.lt rfl rfl ?_)))
   refine rI (rS (rC rfl (fun hc=>?_) fun hc=>?_))
   ·refine Run.skip (rS (Run.block (rS ?_)))
    have hrk:r < kn:=by omega
    obtain ⟨fa,fb,pa,pb,hF1,hF2,hP1,hP2⟩:=hRi r hrk
    have hnr:=hnm r (by omega)
    have hbr:=hbn r
    refine rN (cx_ok _ _ _) (rO rfl (oM rfl ?_))
    refine rO rfl (oA rfl ?_)
    refine rI (rS (rN (cx_ok _ _ _) (rO rfl (oL rfl rfl ?_))))
    refine rO rfl (oM rfl ?_)
    refine rO rfl (Ope.cf rfl rfl hF1 (hb1 r) ?_)
    refine rO rfl (oM rfl ?_)
    refine rO rfl (Ope.ext rfl rfl ?_)
    refine rO rfl (Ope.ext rfl rfl ?_)
    refine rO rfl (Ope.newL rfl ?_)
    refine Reg.op0 (Ope.store rfl rfl hget_hd rfl rfl rfl ?_)
    refine rO rfl (oA rfl ?_)
    refine rI (rS (Run.frz (d:=20) true rfl hget_hd rfl ?_))
    refine Run.wide (m:=m2+1) (l':=[]) (Nat.le_refl _) trivial ?_
    refine Run.cut (fun e' d' h'=>∃ (mm b:Nat) (l':HL),Lsub [(2,.sl tb (xs.map U16)),(3,.fp ((⟨ru,(kn:Int),li⟩:Fns).v t1 t2)),(4,.fp (.lit (.int .u8 (p:Int)))),(7,.fn (.func 36) [] [.fp (.lit (.int .u8 (p:Int))),.fp ((⟨ru,(kn:Int),li⟩:Fns).v t1 t2)]),(8,.fp ((⟨ru,(kn:Int),LX⟩:Fns).v t1 .no)),(13,.sl .no (li.map Ofc.v)),(14,.sl .no (ru.map Rul.v)),(15,.fp (.agg [I ta,I tb'])),(120,I kn),(121,I r),(19,N r),(20,.fp (.agg [I fa,I fb])),(21,I 0),(22,.ptr b 0),(23,I 0)] e'∧(d'=[]∧h'=HE mm l')∧hget l' b=some (.cells [I fa,I fb])) ?_ ?_
    ·refine Run.drawL (cx_ok _ _ _) [[(0,false),(1,true),(2,true),(3,true),(4,true),(5,true),(6,true),(7,true),(8,true),(9,true),(10,true)],[(0,false),(1,true),(2,true),(3,true),(8,true),(4,true),(5,true),(6,true),(7,true),(9,true),(10,true)],[(0,false),(1,true),(2,true),(8,true),(3,true),(4,true),(5,true),(6,true),(7,true),(9,true),(10,true)]] (by kernel_rfl) ⟨?_,?_,?_,trivial⟩
     ·refine dO rfl rfl rfl (.load rfl) (oL rfl rfl ?_)
      refine dO rfl rfl rfl .sure (oM rfl ?_)
      refine dO rfl rfl rfl .sure (oM rfl ?_)
      refine dO rfl rfl rfl .sure (Ope.cf rfl rfl hnr hbr ?_)
      refine dO rfl rfl rfl .sure (Ope.cf rfl rfl hF2 (hbx1 LX _) ?_)
      refine dO rfl rfl rfl .sure (oM rfl ?_)
      refine dO rfl rfl rfl .sure (Ope.ext rfl rfl ?_)
      refine dO rfl rfl rfl .sure (Ope.ext rfl rfl ?_)
      refine dO rfl rfl rfl .sure (Ope.newL rfl ?_)
      refine dO rfl rfl rfl .sure (Ope.store rfl rfl hget_hd rfl rfl rfl ?_)
      refine dO rfl rfl rfl .sure (oA rfl ?_)
      exact Dra.nil (Run.lend ⟨_,_,_,⟨rfl,rfl,rfl,rfl,rfl,rfl,rfl,rfl,rfl,rfl,rfl,rfl,rfl,rfl,rfl,trivial⟩,⟨rfl,rfl⟩,hget_hd⟩)
     ·refine dO rfl rfl rfl (.load rfl) (oL rfl rfl ?_)
      refine dO rfl rfl rfl .sure (oM rfl ?_)
      refine dO rfl rfl rfl .sure (oM rfl ?_)
      refine dO rfl rfl rfl .sure (Ope.cf rfl rfl hnr hbr ?_)
      refine dO rfl rfl rfl .sure (Ope.newL rfl ?_)
      refine dO rfl rfl rfl .sure (Ope.cf rfl rfl hF2 (hbx1 LX _) ?_)
      refine dO rfl rfl rfl .sure (oM rfl ?_)
      refine dO rfl rfl rfl .sure (Ope.ext rfl rfl ?_)
      refine dO rfl rfl rfl .sure (Ope.ext rfl rfl ?_)
      refine dO rfl rfl rfl .sure (Ope.store rfl rfl hget_hd rfl rfl rfl ?_)
      refine dO rfl rfl rfl .sure (oA rfl ?_)
      exact Dra.nil (Run.lend ⟨_,_,_,⟨rfl,rfl,rfl,rfl,rfl,rfl,rfl,rfl,rfl,rfl,rfl,rfl,rfl,rfl,rfl,trivial⟩,⟨rfl,rfl⟩,hget_hd⟩)
     ·refine dO rfl rfl rfl (.load rfl) (oL rfl rfl ?_)
      refine dO rfl rfl rfl .sure (oM rfl ?_)
      refine dO rfl rfl rfl .sure (oM rfl ?_)
      refine dO rfl rfl rfl .sure (Ope.newL rfl ?_)
      refine dO rfl rfl rfl .sure (Ope.cf rfl rfl hnr hbr ?_)
      refine dO rfl rfl rfl .sure (Ope.cf rfl rfl hF2 (hbx1 LX _) ?_)
      refine dO rfl rfl rfl .sure (oM rfl ?_)
      refine dO rfl rfl rfl .sure (Ope.ext rfl rfl ?_)
      refine dO rfl rfl rfl .sure (Ope.ext rfl rfl ?_)
      refine dO rfl rfl rfl .sure (Ope.store rfl rfl hget_hd rfl rfl rfl ?_)
      refine dO rfl rfl rfl .sure (oA rfl ?_)
      exact Dra.nil (Run.lend ⟨_,_,_,⟨rfl,rfl,rfl,rfl,rfl,rfl,rfl,rfl,rfl,rfl,rfl,rfl,rfl,rfl,rfl,trivial⟩,⟨rfl,rfl⟩,hget_hd⟩)
    ·rintro e' d' h' ⟨m5,b5,l5,hs5,⟨rfl,rfl⟩,hlb5⟩;refine Run.less hs5 ?_
     refine rS (Run.frz (d:=22) true rfl hlb5 rfl ?_)
     refine Run.wide (m:=m5) (l':=[]) (Nat.le_refl _) trivial ?_
     refine rN (cx_ok _ _ _) (rO rfl (oL rfl rfl ?_))
     refine rO rfl (oM rfl ?_)
     refine rO rfl (Ope.cf rfl rfl hP1 (hb1 r) ?_)
     refine rO rfl (oM rfl ?_)
     refine rO rfl (Ope.ext rfl rfl ?_)
     refine rO rfl (Ope.ext rfl rfl ?_)
     refine rO rfl (Ope.newL rfl ?_)
     refine Reg.op0 (Ope.store rfl rfl hget_hd rfl rfl rfl ?_)
     refine rO rfl (oA rfl ?_)
     refine rI (rS (Run.frz (d:=24) true rfl hget_hd rfl ?_))
     refine Run.wide (m:=m5+1) (l':=[]) (Nat.le_refl _) trivial ?_
     refine Run.cut (fun e' d' h'=>∃ (mm b:Nat) (l':HL),Lsub [(2,.sl tb (xs.map U16)),(3,.fp ((⟨ru,(kn:Int),li⟩:Fns).v t1 t2)),(4,.fp (.lit (.int .u8 (p:Int)))),(7,.fn (.func 36) [] [.fp (.lit (.int .u8 (p:Int))),.fp ((⟨ru,(kn:Int),li⟩:Fns).v t1 t2)]),(8,.fp ((⟨ru,(kn:Int),LX⟩:Fns).v t1 .no)),(13,.sl .no (li.map Ofc.v)),(14,.sl .no (ru.map Rul.v)),(15,.fp (.agg [I ta,I tb'])),(120,I kn),(121,I r),(20,.fp (.agg [I fa,I fb])),(21,I 0),(22,.fp (.agg [I fa,I fb])),(23,I 0),(24,.fp (.agg [I pa,I pb])),(25,I 0),(26,.ptr b 0),(27,I 0)] e'∧(d'=[]∧h'=HE mm l')∧hget l' b=some (.cells [I pa,I pb])) ?_ ?_
     ·refine Run.drawL (cx_ok _ _ _) [[(0,false),(1,true),(2,true),(3,true),(4,true),(5,true),(6,true),(7,true),(8,true),(9,true),(10,true)],[(0,false),(1,true),(2,true),(3,true),(8,true),(4,true),(5,true),(6,true),(7,true),(9,true),(10,true)],[(0,false),(1,true),(2,true),(8,true),(3,true),(4,true),(5,true),(6,true),(7,true),(9,true),(10,true)]] (by kernel_rfl) ⟨?_,?_,?_,trivial⟩
      ·refine dO rfl rfl rfl (.load rfl) (oL rfl rfl ?_)
       refine dO rfl rfl rfl .sure (oM rfl ?_)
       refine dO rfl rfl rfl .sure (oM rfl ?_)
       refine dO rfl rfl rfl .sure (Ope.cf rfl rfl hnr hbr ?_)
       refine dO rfl rfl rfl .sure (Ope.cf rfl rfl hP2 (hbx1 LX _) ?_)
       refine dO rfl rfl rfl .sure (oM rfl ?_)
       refine dO rfl rfl rfl .sure (Ope.ext rfl rfl ?_)
       refine dO rfl rfl rfl .sure (Ope.ext rfl rfl ?_)
       refine dO rfl rfl rfl .sure (Ope.newL rfl ?_)
       refine dO rfl rfl rfl .sure (Ope.store rfl rfl hget_hd rfl rfl rfl ?_)
       refine dO rfl rfl rfl .sure (oA rfl ?_)
       exact Dra.nil (Run.lend ⟨_,_,_,⟨rfl,rfl,rfl,rfl,rfl,rfl,rfl,rfl,rfl,rfl,rfl,rfl,rfl,rfl,rfl,rfl,rfl,rfl,trivial⟩,⟨rfl,rfl⟩,hget_hd⟩)
      ·refine dO rfl rfl rfl (.load rfl) (oL rfl rfl ?_)
       refine dO rfl rfl rfl .sure (oM rfl ?_)
       refine dO rfl rfl rfl .sure (oM rfl ?_)
       refine dO rfl rfl rfl .sure (Ope.cf rfl rfl hnr hbr ?_)
       refine dO rfl rfl rfl .sure (Ope.newL rfl ?_)
       refine dO rfl rfl rfl .sure (Ope.cf rfl rfl hP2 (hbx1 LX _) ?_)
       refine dO rfl rfl rfl .sure (oM rfl ?_)
       refine dO rfl rfl rfl .sure (Ope.ext rfl rfl ?_)
       refine dO rfl rfl rfl .sure (Ope.ext rfl rfl ?_)
       refine dO rfl rfl rfl .sure (Ope.store rfl rfl hget_hd rfl rfl rfl ?_)
       refine dO rfl rfl rfl .sure (oA rfl ?_)
       exact Dra.nil (Run.lend ⟨_,_,_,⟨rfl,rfl,rfl,rfl,rfl,rfl,rfl,rfl,rfl,rfl,rfl,rfl,rfl,rfl,rfl,rfl,rfl,rfl,trivial⟩,⟨rfl,rfl⟩,hget_hd⟩)
      ·refine dO rfl rfl rfl (.load rfl) (oL rfl rfl ?_)
       refine dO rfl rfl rfl .sure (oM rfl ?_)
       refine dO rfl rfl rfl .sure (oM rfl ?_)
       refine dO rfl rfl rfl .sure (Ope.newL rfl ?_)
       refine dO rfl rfl rfl .sure (Ope.cf rfl rfl hnr hbr ?_)
       refine dO rfl rfl rfl .sure (Ope.cf rfl rfl hP2 (hbx1 LX _) ?_)
       refine dO rfl rfl rfl .sure (oM rfl ?_)
       refine dO rfl rfl rfl .sure (Ope.ext rfl rfl ?_)
       refine dO rfl rfl rfl .sure (Ope.ext rfl rfl ?_)
       refine dO rfl rfl rfl .sure (Ope.store rfl rfl hget_hd rfl rfl rfl ?_)
       refine dO rfl rfl rfl .sure (oA rfl ?_)
       exact Dra.nil (Run.lend ⟨_,_,_,⟨rfl,rfl,rfl,rfl,rfl,rfl,rfl,rfl,rfl,rfl,rfl,rfl,rfl,rfl,rfl,rfl,rfl,rfl,trivial⟩,⟨rfl,rfl⟩,hget_hd⟩)
     ·rintro e' d' h' ⟨m6,b6,l6,hs6,⟨rfl,rfl⟩,hlb6⟩;refine Run.less hs6 ?_
      refine rS (Run.frz (d:=26) true rfl hlb6 rfl ?_)
      refine Run.wide (m:=m6) (l':=[]) (Nat.le_refl _) trivial ?_
      refine rN (cx_ok _ _ _) (rO rfl (oM rfl ?_))
      refine rO rfl (Ope.neS rfl rfl ?_)
      refine rO rfl (oM rfl ?_)
      refine Reg.on rfl rfl rfl (oM rfl ?_)
      refine Reg.on rfl rfl rfl (Ope.neS rfl rfl ?_)
      refine rO rfl (Ope.pickF rfl rfl ?_)
      refine rO rfl (oM rfl ?_)
      refine Reg.on rfl rfl rfl (oL rfl rfl ?_)
      refine Reg.on rfl rfl rfl (oL rfl rfl ?_)
      refine Reg.on rfl rfl rfl (Ope.neV rfl rfl (neSpG _ _ _ _) ?_)
      refine rO rfl (Ope.pickF rfl rfl ?_)
      refine rO rfl (oM rfl ?_)
      refine Reg.on rfl rfl rfl (oM rfl ?_)
      refine Reg.on rfl rfl rfl (Ope.neS rfl rfl ?_)
      refine rO rfl (Ope.pickF rfl rfl ?_)
      refine rO rfl (oM rfl ?_)
      refine Reg.on rfl rfl rfl (oM rfl ?_)
      refine Reg.on rfl rfl rfl (Ope.neS rfl rfl ?_)
      refine rO rfl (Ope.pickF rfl rfl ?_)
      refine rO rfl (oM rfl ?_)
      refine Reg.on rfl rfl rfl (oL rfl rfl ?_)
      refine Reg.on rfl rfl rfl (oL rfl rfl ?_)
      refine Reg.on rfl rfl rfl (Ope.neV rfl rfl (neSpG _ _ _ _) ?_)
      refine rO rfl (Ope.pickF rfl rfl ?_)
      refine rI (Run.condF rfl (Run.skip (Run.bend (rN (cx_ok _ _ _) (rO rfl (Ope.add rfl rfl (by omega) ?_))))))
      refine rO rfl (oM rfl ?_)
      exact rI (Run.lend ⟨(r+1,m6),by show kn - (r+1) < kn - r;omega,by show r+1≤kn;omega,⟨rfl,rfl,rfl,rfl,rfl,rfl,rfl,rfl,rfl,rfl,trivial⟩,rfl,rfl⟩)
   ·refine Run.exit (Jmp.code (Jmp.round (Jmp.here (rS (rS (rN (cx_ok _ _ _) (rO rfl (Ope.fld rfl rfl ?_))))))))
    refine rO rfl (oL rfl rfl ?_)
    refine rO rfl (Ope.len (m:=li.length) rfl (by simp) ?_)
    refine rO rfl (oM rfl ?_)
    refine rI (Run.block (Run.loop (α:=Nat×Nat) (fun t=>[(2,.sl tb (xs.map U16)),(3,.fp ((⟨ru,(kn:Int),li⟩:Fns).v t1 t2)),(4,.fp (.lit (.int .u8 (p:Int)))),(8,.fp ((⟨ru,(kn:Int),LX⟩:Fns).v t1 .no)),(13,.sl .no (li.map Ofc.v)),(14,.sl .no (ru.map Rul.v)),(15,.fp (.agg [I ta,I tb'])),(178,.sl t2 (li.map Ofc.v)),(179,I li.length),(180,I t.1)]) (fun t=>HE t.2 []) (fun t=>t.1≤li.length) (fun t=>li.length - t.1) (0,m2) ⟨rfl,rfl,rfl,rfl,rfl,rfl,rfl,rfl,rfl,rfl,trivial⟩ rfl (Nat.zero_le _) (fun t ht=>?_)))
    obtain ⟨i,m4⟩:=t
    simp only at ht
    show Run _ _ _ _ [(2,.sl tb (xs.map U16)),(3,.fp ((⟨ru,(kn:Int),li⟩:Fns).v t1 t2)),(4,.fp (.lit (.int .u8 (p:Int)))),(8,.fp ((⟨ru,(kn:Int),LX⟩:Fns).v t1 .no)),(13,.sl .no (li.map Ofc.v)),(14,.sl .no (ru.map Rul.v)),(15,.fp (.agg [I ta,I tb'])),(178,.sl t2 (li.map Ofc.v)),(179,I li.length),(180,I i)] [] (HE m4 [])
    refine rS (rN (cx_ok _ _ _) (rO rfl (Ope.lt rfl rfl ?_)))
    refine rI (rS (rC rfl (fun hc=>?_) fun hc=>?_))
    ·refine Run.skip (rS (Run.block (rS ?_)))
     have hil:i < li.length:=by omega
     obtain ⟨ca,cb,hC1,hC2⟩:=hCo i hil
     refine rN (cx_ok _ _ _) (rO rfl (oM rfl ?_))
     refine rO rfl (oA rfl ?_)
     refine rI (rS (rN (cx_ok _ _ _) (rO rfl (oL rfl rfl ?_))))
     refine rO rfl (oM rfl ?_)
     refine rO rfl (Ope.cf rfl rfl hC1 (hb1 i) ?_)
     refine rO rfl (oM rfl ?_)
     refine rO rfl (Ope.ext rfl rfl ?_)
     refine rO rfl (Ope.ext rfl rfl ?_)
     refine rO rfl (Ope.newL rfl ?_)
     refine Reg.op0 (Ope.store rfl rfl hget_hd rfl rfl rfl ?_)
     refine rO rfl (oA rfl ?_)
     refine rI (rS (Run.frz (d:=29) true rfl hget_hd rfl ?_))
     refine rN (cx_ok _ _ _) (rO rfl (oL rfl rfl ?_))
     refine rO rfl (oM rfl ?_)
     refine rO rfl (Ope.cf rfl rfl hC2 (hbx1 LX i) ?_)
     refine rO rfl (oM rfl ?_)
     refine rO rfl (Ope.ext rfl rfl ?_)
     refine rO rfl (Ope.ext rfl rfl ?_)
     refine rO rfl (Ope.newL rfl ?_)
     refine Reg.op0 (Ope.store rfl rfl hget_hd rfl rfl rfl ?_)
     refine rO rfl (oA rfl ?_)
     refine rI (rS (Run.frz (d:=31) true rfl hget_hd rfl ?_))
     refine Run.wide (m:=m4+2) (l':=[]) (Nat.le_refl _) trivial ?_
     refine rN (cx_ok _ _ _) (rO rfl (oM rfl ?_))
     refine rO rfl (Ope.neS rfl rfl ?_)
     refine rO rfl (oM rfl ?_)
     refine Reg.on rfl rfl rfl (oM rfl ?_)
     refine Reg.on rfl rfl rfl (Ope.neS rfl rfl ?_)
     refine rO rfl (Ope.pickF rfl rfl ?_)
     refine rO rfl (oM rfl ?_)
     refine Reg.on rfl rfl rfl (oL rfl rfl ?_)
     refine Reg.on rfl rfl rfl (oL rfl rfl ?_)
     refine Reg.on rfl rfl rfl (Ope.neV rfl rfl (neSpG _ _ _ _) ?_)
     refine rO rfl (Ope.pickF rfl rfl ?_)
     refine rI (Run.condF rfl (Run.skip (Run.bend (rN (cx_ok _ _ _) (rO rfl (Ope.add rfl rfl (by omega) ?_))))))
     refine rO rfl (oM rfl ?_)
     exact rI (Run.lend ⟨(i+1,m4+2),by show li.length - (i+1) < li.length - i;omega,by show i+1≤li.length;omega,⟨rfl,rfl,rfl,rfl,rfl,rfl,rfl,rfl,rfl,rfl,trivial⟩,rfl,rfl⟩)
    ·refine Run.exit (Jmp.code (Jmp.round (Jmp.here (rS (rS (rN (cx_ok _ _ _) (rO rfl (Ope.fld rfl rfl ?_))))))))
     refine rO rfl (oL rfl rfl ?_)
     refine rO rfl (Ope.len (m:=ru.length) rfl (by simp) ?_)
     refine rO rfl (Ope.lt rfl rfl ?_)
     refine rI (Run.cut (fun e' d' h'=>∃ (m9:Nat) (l9:HL),Lsub [(2,.sl tb (xs.map U16)),(3,.fp ((⟨ru,(kn:Int),li⟩:Fns).v t1 t2)),(4,.fp (.lit (.int .u8 (p:Int)))),(13,.sl .no (li.map Ofc.v)),(14,.sl .no (ru.map Rul.v))] e'∧d'=[]∧h'=HE m9 l9) ?_ ?_)
     ·refine rC rfl (fun hc=>?_) fun hc=>?_
      ·refine rS ?_
       have hlt4:ru.length < 4:=by omega
       refine rN (cx_ok _ _ _) (rO rfl (oL rfl rfl ?_))
       refine rO rfl (Ope.newL rfl ?_)
       refine Reg.op0 (Ope.store rfl rfl hget_hd rfl rfl rfl ?_)
       refine rI (rS (Run.draw (cx_ok _ _ _) [(0,true),(1,true),(2,true),(4,false),(5,true),(6,true),(7,true),(3,true),(8,true),(9,true),(10,true)] (by kernel_rfl) (dO rfl rfl rfl .sure (Ope.bsl rfl rfl rfl rfl ?_))))
       refine dO rfl rfl rfl .sure (Ope.fld rfl rfl ?_)
       refine dO rfl rfl rfl .sure (oL rfl rfl ?_)
       refine dO rfl rfl rfl (.load rfl) (oL rfl rfl ?_)
       first | refine dO rfl rfl rfl .sure (Ope.conv rfl (wrap_in _ (by omega) (by omega)) ?_) | refine dO rfl rfl rfl .sure (Ope.conv rfl rfl ?_)
       refine dO rfl rfl rfl .sure (Ope.bld rfl rfl ?_)
       refine dO rfl rfl rfl .sure (Ope.bsl rfl rfl rfl rfl ?_)
       refine dO rfl rfl rfl .sure (Ope.apE (ws:=ru.map Rul.v) rfl rfl (by rw [List.length_map];omega) (by rw [List.length_map];omega) (by decide) (by intro v hv;obtain ⟨_,_,rfl⟩:=List.mem_map.1 hv;exact ⟨rfl,rfl⟩) (fun o3 n3 hn3 ho3=>?_))
       refine dO rfl rfl rfl .sure (Ope.apU (o':=o3) (vs:=ru.map Rul.v) (ws:=[(⟨p,0,1000,0⟩:Rul).v]) rfl rfl (by simp) (fun j hj=>⟨(ho3 j hj).1,(hget_tl (by have:=(ho3 j hj).2.1;omega)).trans ((hget_tl (by have:=(ho3 j hj).2.1;omega)).trans rfl)⟩) (by simp only [List.length_map,List.length_singleton];omega) (by simp only [List.length_map,List.length_singleton];omega) (by decide) (by intro v hv;obtain ⟨_,_,rfl⟩:=List.mem_map.1 hv;rfl) (by intro v hv;simp only [List.mem_singleton] at hv;subst hv;exact ⟨rfl,rfl⟩) ?_)
       refine dO rfl rfl rfl .sure (Ope.fld rfl rfl ?_)
       refine dO rfl rfl rfl .sure (Ope.store rfl rfl ((hget_tl (by omega)).trans hget_hd) rfl rfl rfl ?_)
       refine Dra.nil (rS (Run.weakC (cs':=[.sl .no ((ru++[(⟨p,0,1000,0⟩:Rul)]).map Rul.v),I kn,.sl t2 (li.map Ofc.v)]) hget_hd (fun s xs h=>by rw [List.map_append];exact weak_r1 h) ?_))
       refine Run.frz (d:=33) true rfl hget_hd rfl ?_
       refine Run.wide (m:=n3+1) (l':=[]) (Nat.le_refl _) trivial ?_
       refine rN (cx_ok _ _ _) (rO rfl (oL rfl rfl ?_))
       refine rO rfl (Ope.cf rfl rfl (hT3 hlt4) hbw ?_)
       refine rO rfl (oM rfl ?_)
       refine rO rfl (Ope.ext rfl rfl ?_)
       refine rO rfl (Ope.ext rfl rfl ?_)
       refine rO rfl (Ope.newL rfl ?_)
       refine Reg.op0 (Ope.store rfl rfl hget_hd rfl rfl rfl ?_)
       refine rO rfl (oA rfl ?_)
       refine rI (rS (Run.frz (d:=34) true rfl hget_hd rfl ?_))
       refine rN (cx_ok _ _ _) (rO rfl (oM rfl ?_))
       refine rO rfl (Ope.neS rfl rfl ?_)
       refine rO rfl (oM rfl ?_)
       refine Reg.on rfl rfl rfl (oL rfl rfl ?_)
       refine Reg.on rfl rfl rfl (oL rfl rfl ?_)
       refine Reg.on rfl rfl rfl (Ope.neV rfl rfl (neSpG _ _ _ _) ?_)
       refine rO rfl (Ope.pickF rfl rfl ?_)
       exact rI (Run.condF rfl (Run.skip (Run.lend ⟨_,_,⟨rfl,rfl,rfl,rfl,rfl,trivial⟩,rfl,rfl⟩)))
      ·exact Run.skip (Run.lend ⟨_,_,⟨rfl,rfl,rfl,rfl,rfl,trivial⟩,rfl,rfl⟩)
     ·rintro e' d' h' ⟨m9,l9,hs9,rfl,rfl⟩;refine Run.less hs9 ?_
      refine rS (Run.wide (m:=m9) (l':=[]) (Nat.le_refl _) trivial ?_)
      refine Run.draw (cx_ok _ _ _) [(0,false),(1,true),(2,true),(3,true),(4,true),(5,true),(6,true),(7,true),(8,true)] (by kernel_rfl) (dO rfl rfl rfl (.load rfl) (oL rfl rfl ?_))
      refine dO rfl rfl rfl .sure (oM rfl ?_)
      refine dO rfl rfl rfl .sure (Ope.call rfl rfl rfl ((hdr _ _).mono (fun v h' q=>?_) fun _ _ q=>q.elim))
      obtain ⟨rfl,rfl⟩:=q
      refine dO rfl rfl rfl .sure (Ope.call rfl rfl rfl ((htr m9 (m9+1) (Nat.lt_succ_self _)).mono (fun v h' q=>?_) fun _ _ q=>q.elim))
      obtain ⟨T,hT,rfl,n7,rfl⟩:=q
      obtain ⟨RI,HO,X,t3,e1,e2,hXl,ht3,hex,hli⟩:=hall T hT
      rw [e1,e2]
      clear e1 e2
      refine dO rfl rfl rfl .sure (oM rfl ?_)
      refine dO rfl rfl rfl .sure (Ope.ext rfl rfl ?_)
      refine dO rfl rfl rfl .sure (Ope.ext rfl rfl ?_)
      refine dO rfl rfl rfl .sure (oA rfl ?_)
      refine dO rfl rfl rfl .sure (oA rfl ?_)
      refine Dra.nil (rS (rN (cx_ok _ _ _) (rO rfl (oL rfl rfl ?_))))
      refine rO rfl (oM rfl ?_)
      refine rO rfl (oM rfl ?_)
      refine rO rfl (Ope.callW (l':=[]) rfl rfl (fun s xs h=>h) (Nat.le_refl _) (fun i b h=>by cases h) (hli _) (fun v h' hq=>?_))
      obtain ⟨tq,n5,post,st,hst,rfl,rfl⟩:=hq
      refine rO rfl (oM rfl ?_)
      refine rO rfl (Ope.ext rfl rfl ?_)
      refine rO rfl (Ope.ext rfl rfl ?_)
      refine rO rfl (oA rfl ?_)
      refine rO rfl (oA rfl ?_)
      refine rI (rS (rS (rN (cx_ok _ _ _) (rO rfl (oM rfl ?_)))))
      refine rO rfl (Ope.neS rfl rfl ?_)
      refine rO rfl (oM rfl ?_)
      refine Reg.on rfl rfl rfl (oM rfl ?_)
      refine Reg.on rfl rfl rfl (Ope.lenLs hst rfl ?_)
      rw [hXl]
      refine Reg.on rfl rfl rfl (Ope.fld rfl rfl ?_)
      refine Reg.on rfl rfl rfl (oL rfl rfl ?_)
      refine Reg.on rfl rfl rfl (Ope.len (m:=li.length) rfl (by simp) ?_)
      refine Reg.on rfl rfl rfl (Ope.neS rfl rfl ?_)
      refine rO rfl (Ope.pickF rfl rfl ?_)
      refine rI (Run.condF rfl (Run.skip (rS (Run.toRawS ?_))))
      refine rN (cx_ok _ _ _) (rO rfl (Ope.bsl rfl rfl rfl rfl ?_))
      refine rO rfl (oM rfl ?_)
      refine rO rfl (Ope.apLs hst rfl rfl (by omega) (by omega) (fun te n6 hte=>?_))
      refine rO rfl (oA rfl ?_)
      refine rI (rS (rS ?_))
      have hi1:=hin t3 te X (by omega)
      have hi2:=hbi t3 te ht3 hte X
      refine Run.forgetS ?_
      refine rN (cx_ok _ _ _) (rO rfl (oM rfl ?_))
      refine rO rfl (Ope.lenLs hst rfl ?_)
      rw [hXl]
      refine rO rfl (oM rfl ?_)
      refine rI (Run.block (Run.loop (α:=Nat) (fun i=>[(3,.fp ((⟨ru,(kn:Int),li⟩:Fns).v t1 t2)),(13,.sl .no (li.map Ofc.v)),(14,.sl .no (ru.map Rul.v)),(36,.sl .no (RI.map I)),(37,.sl .no (HO.map I)),(38,lvI tq X st),(40,.sl te (X.map I)),(262,I li.length),(263,I i)]) (fun i=>HE n6 (lhR X [] st)) (fun i=>i≤li.length) (fun i=>li.length - i) 0 ⟨rfl,rfl,rfl,rfl,rfl,rfl,rfl,rfl,rfl,trivial⟩ rfl (Nat.zero_le _) (fun i hi=>?_)))
      refine rS (rN (cx_ok _ _ _) (rO rfl (Ope.lt rfl rfl ?_)))
      refine rI (rS (rC rfl (fun hc=>?_) fun hc=>?_))
      ·refine Run.skip (rS (Run.block (rS ?_)))
       have hil:i < X.length:=by omega
       rcases st with _ | ⟨m8,c8,ez8⟩
       · exfalso
         have h9:X=[]:=hst.1 rfl
         subst h9
         exact absurd hil (Nat.not_lt_zero _)
       refine rN (cx_ok _ _ _) (rO rfl (oM rfl ?_))
       refine rO rfl (oA rfl ?_)
       refine rI (rN (cx_ok _ _ _) (rO rfl (oM rfl ?_)))
       refine rO rfl (oM rfl ?_)
       refine rO rfl (Ope.idxL (m:=i) rfl rfl rfl hil ?_)
       refine Reg.op0 (Ope.storeR rfl rfl hget_hd rfl (by show 0+i * 1 < X.length;omega) rfl ?_)
       refine rI (Run.bend (rN (cx_ok _ _ _) (rO rfl (Ope.add rfl rfl (by omega) ?_))))
       refine rO rfl (oM rfl ?_)
       exact rI (Run.lend ⟨i+1,by omega,by omega,⟨rfl,rfl,rfl,rfl,rfl,rfl,rfl,rfl,rfl,trivial⟩,rfl,rfl⟩)
      ·refine Run.exit (Jmp.code (Jmp.round (Jmp.here (rS ?_))))
       obtain ⟨n8,hn8⟩:∃ n,n6=n:=⟨_,rfl⟩
       rw [hn8]
       refine Run.wide (m:=n8) (l':=[]) (Nat.le_refl _) trivial ?_
       refine rN (cx_ok _ _ _) (rO rfl (oL rfl rfl ?_))
       refine rO rfl (oM rfl ?_)
       refine rO rfl (oM rfl ?_)
       refine rO rfl (Ope.cf rfl rfl hex (hb2 _ _) ?_)
       refine rO rfl (oM rfl ?_)
       refine rO rfl (Ope.ext rfl rfl ?_)
       refine rO rfl (Ope.ext rfl rfl ?_)
       refine rO rfl (oA rfl ?_)
       refine rO rfl (oA rfl ?_)
       refine rI (rS (rS (rN (cx_ok _ _ _) (rO rfl (oM rfl ?_)))))
       refine rO rfl (Ope.neS rfl rfl ?_)
       refine rO rfl (oM rfl ?_)
       refine Reg.on rfl rfl rfl (oM rfl ?_)
       refine Reg.on rfl rfl rfl (oM rfl ?_)
       refine Reg.on rfl rfl rfl (Ope.cf rfl rfl hi1 hi2 ?_)
       refine Reg.on rfl rfl rfl (Ope.not rfl ?_)
       refine rO rfl (Ope.pickF rfl rfl ?_)
       refine rI (Run.condF rfl (Run.skip (rS (rS (rN (cx_ok _ _ _) (rO rfl (oM rfl ?_)))))))
       refine rO rfl (Ope.len (m:=li.length) rfl (by simp) ?_)
       refine rO rfl (oM rfl ?_)
       refine rI (Run.block (Run.wide (m:=n8) (l':=[]) (Nat.le_refl _) trivial ?_))
       refine Run.loop (α:=Nat) (fun i=>[(3,.fp ((⟨ru,(kn:Int),li⟩:Fns).v t1 t2)),(13,.sl .no (li.map Ofc.v)),(14,.sl .no (ru.map Rul.v)),(285,.sl .no (li.map Ofc.v)),(286,I li.length),(287,I i)]) (fun i=>HE n8 []) (fun i=>i≤li.length) (fun i=>li.length - i) 0 ⟨rfl,rfl,rfl,rfl,rfl,rfl,trivial⟩ rfl (Nat.zero_le _) (fun i hi=>?_)
       refine rS (rN (cx_ok _ _ _) (rO rfl (Ope.lt rfl rfl ?_)))
       refine rI (rS (rC rfl (fun hc=>?_) fun hc=>?_))
       ·refine Run.skip (rS (Run.block (rS ?_)))
        have hil:i < li.length:=by omega
        refine rN (cx_ok _ _ _) (rO rfl (oM rfl ?_))
        refine rO rfl (oA rfl ?_)
        refine rI (rS (Run.draw (cx_ok _ _ _) [(0,true),(1,true),(2,true),(3,true),(4,true),(5,true),(6,true),(7,true),(8,true),(9,true)] (by kernel_rfl) (dO rfl rfl rfl .sure (oM rfl ?_))))
        refine dO rfl rfl rfl .sure (oM rfl ?_)
        refine dO rfl rfl rfl .sure (Ope.idxM (m:=i) (f:=Ofc.v) rfl rfl rfl hil (fun _=>rfl) ?_)
        refine dO rfl rfl rfl .sure (oL rfl rfl ?_)
        refine dO rfl rfl rfl .sure (Ope.fld rfl rfl ?_)
        refine dO rfl rfl rfl .sure (oL rfl rfl ?_)
        refine dO rfl rfl rfl .sure (oM rfl ?_)
        refine dO rfl rfl rfl .sure (Ope.idxM (m:=i) (f:=Ofc.v) rfl rfl rfl hil (fun _=>rfl) ?_)
        refine dO rfl rfl rfl .sure (oL rfl rfl ?_)
        refine dO rfl rfl rfl .sure (Ope.neV rfl rfl (neOf _ _ _) ?_)
        refine Dra.nil (Run.condF rfl (Run.skip (Run.bend (rN (cx_ok _ _ _) (rO rfl (Ope.add rfl rfl (by omega) ?_))))))
        refine rO rfl (oM rfl ?_)
        exact rI (Run.lend ⟨i+1,by omega,by omega,⟨rfl,rfl,rfl,rfl,rfl,rfl,trivial⟩,rfl,rfl⟩)
       ·refine Run.exit (Jmp.code (Jmp.round (Jmp.here (rS (rS (rN (cx_ok _ _ _) (rO rfl (oM rfl ?_))))))))
        refine rO rfl (Ope.len (m:=ru.length) rfl (by simp) ?_)
        refine rO rfl (oM rfl ?_)
        refine rI (Run.block (Run.loop (α:=Nat) (fun i=>[(3,.fp ((⟨ru,(kn:Int),li⟩:Fns).v t1 t2)),(13,.sl .no (li.map Ofc.v)),(14,.sl .no (ru.map Rul.v)),(301,.sl .no (ru.map Rul.v)),(302,I ru.length),(303,I i)]) (fun i=>HE n8 []) (fun i=>i≤ru.length) (fun i=>ru.length - i) 0 ⟨rfl,rfl,rfl,rfl,rfl,rfl,trivial⟩ rfl (Nat.zero_le _) (fun i hi=>?_)))
        refine rS (rN (cx_ok _ _ _) (rO rfl (Ope.lt rfl rfl ?_)))
        refine rI (rS (rC rfl (fun hc=>?_) fun hc=>?_))
        ·refine Run.skip (rS (Run.block (rS ?_)))
         have hil:i < ru.length:=by omega
         refine rN (cx_ok _ _ _) (rO rfl (oM rfl ?_))
         refine rO rfl (oA rfl ?_)
         refine rI (rS (Run.draw (cx_ok _ _ _) [(0,true),(1,true),(2,true),(3,true),(4,true),(5,true),(6,true),(7,true),(8,true),(9,true)] (by kernel_rfl) (dO rfl rfl rfl .sure (oM rfl ?_))))
         refine dO rfl rfl rfl .sure (oM rfl ?_)
         refine dO rfl rfl rfl .sure (Ope.idxM (m:=i) (f:=Rul.v) rfl rfl rfl hil (fun _=>rfl) ?_)
         refine dO rfl rfl rfl .sure (oL rfl rfl ?_)
         refine dO rfl rfl rfl .sure (Ope.fld rfl rfl ?_)
         refine dO rfl rfl rfl .sure (oL rfl rfl ?_)
         refine dO rfl rfl rfl .sure (oM rfl ?_)
         refine dO rfl rfl rfl .sure (Ope.idxM (m:=i) (f:=Rul.v) rfl rfl rfl hil (fun _=>rfl) ?_)
         refine dO rfl rfl rfl .sure (oL rfl rfl ?_)
         refine dO rfl rfl rfl .sure (Ope.neV rfl rfl (neRu _ _ _) ?_)
         refine Dra.nil (Run.condF rfl (Run.skip (Run.bend (rN (cx_ok _ _ _) (rO rfl (Ope.add rfl rfl (by omega) ?_))))))
         refine rO rfl (oM rfl ?_)
         exact rI (Run.lend ⟨i+1,by omega,by omega,⟨rfl,rfl,rfl,rfl,rfl,rfl,trivial⟩,rfl,rfl⟩)
        ·refine Run.exit (Jmp.code (Jmp.round (Jmp.here (rS (rN (cx_ok _ _ _) (rO rfl (Ope.cf rfl rfl (aliveF) rfl ?_)))))))
         refine rO rfl (oA rfl ?_)
         exact rI (Run.ret (fin_ret (.tmp rfl .nil) rfl rfl))
end
end Go.Pv
namespace Go.Pv
open Go.Proofs Go.Am
set_option maxRecDepth 10000
theorem f10 (s:Fns) (hi:s.hnd) (p:Nat) (hp:p < 256) (xs:List Nat) (hx:∀ x∈xs,x < 65536):Fn P0 10 [s.v .no .no,.lit (.int .u8 (p:Int)),.sl .no (xs.map U16)] (B true):=by
  by_cases hv:s.lng=true∨s.B=false
  · have hh := f11n s (t1 := .no) (t2 := .no) rfl rfl hi.ru hi.li 4000 hv
    exact f10a s rfl rfl hi.ru hi.li _ _ s.lng hh hv
  · have hB : s.B = true := by
      cases hb:s.B with
      | true=>rfl
      | false=>exact absurd (.inr hb) hv
    have hf:=fns_ok s hB
    have hh:=f11v s (t1:=.no) (t2:=.no) rfl rfl hf 4000
    cases hd:decide ((4000:Int) < (prdN s s.li.length:Nat)) with
    | true =>
      rw [hd] at hh
      exact f10a s rfl rfl hi.ru hi.li _ _ true hh (.inl rfl)
    | false =>
      rw [hd] at hh
      exact f10v s rfl rfl hf hh trivial p hp .no xs hx
end Go.Pv
