/- Parts of the proof: R122, R123, R125, R126, R99, R101 -/
import Derived.Test.YtejnfigkngkhjaaP24
import Derived.Test.YtejnfigkngkhjaaP22
set_option linter.unusedVariables false
set_option linter.unusedSimpArgs false
set_option linter.unusedSectionVars false
namespace Go.Pv
open Go.Proofs Go.Am
set_option maxRecDepth 10000
set_option maxHeartbeats 4000000
section
variable {C:Cx} {X:EX} {e:EL} {ds:List Nat} {K:PV→PH→Prop} {h:PH}
variable {d:Option Tmp} {type:TypeId} {pos:String} {after:Array Edge} {guard:Option (Nat×Bool)}
theorem Ope.eqR {t t':TypeId} {x y:Operand} {kk:IntKind} {a:Int} (hx:pev (lget e) x=some (.lit (.int kk a))) (hy:pev (lget e) y=some (.lit (.int kk a))) (hK:K (B true) h) :
    Ope C X { dst:=d,op:=.binOp .eql t x y t',type,pos,after,guard } e ds h K :=
  Ope.eq hx hy (by rw [decide_eq_true rfl];exact hK)
end
section
variable {rest:Int} {tl:Tail} (htl:tl.isOwn=false) {S:List Sti}
theorem bd_opn (c:Bool):PV.bds 0 [relV rest tl S,B c]=true↔PV.bds 0 [relV rest tl S]=true:=by
  simp only [PV.bds,PV.bd,Bool.and_true]
include htl in
theorem bd_relc (c:Bool):PV.bds 0 [relV rest tl S,B c]=true:=(bd_opn c).2 (bd_rels rest tl htl S)
end
end Go.Pv
namespace Go.Pv
open Go.Proofs Go.Am
set_option maxRecDepth 10000
set_option maxHeartbeats 4000000
section
variable {rest:Int} {tl:Tail} (htl:tl.isOwn=false) {S:List Sti}
end
end Go.Pv
namespace Go.Pv
open Go.Proofs Go.Am
set_option maxRecDepth 10000
set_option maxHeartbeats 4000000
section
variable {rest:Int} {tl:Tail} (htl:tl.isOwn=false) {S:List Sti} (hr:relOk rest S=true) (ho:okT (tabA S rest)=true)
include htl hr ho
def bLo (S:List Sti) (i:Nat) (t:Int):Nat→Int:=upI (fLo S (allE S)) (2 * i+1) (max (fLo S (allE S) (2 * i+1)) (t+1))
def bHi (S:List Sti) (i:Nat) (t:Int):Nat→Int:=upI (fHi S (allE S)) (2 * i) (min (fHi S (allE S) (2 * i)) t)
omit htl ho in
theorem b_iff {i:Nat} (hi:i < S.length) (t:Int):(∃ v,Sat (2 * S.length) (bLo S i t) (bHi S i t) (rulsR S rest S.length) v)↔∃ v,Sat0 S rest (allE S) v∧v (2 * i)≤t∧t+1≤v (2 * i+1):=by
  constructor
  · rintro ⟨v, hv⟩
    have h1:=(hv.sp (2 * i) (by omega)).2
    have h2:=(hv.sp (2 * i+1) (by omega)).1
    simp only [bLo,bHi,upI,if_pos] at h1 h2
    refine ⟨v,⟨fun m hm=>?_,hv.ru⟩,by omega,by omega⟩
    have h3:=hv.sp m hm
    simp only [bLo,bHi,upI] at h3
    constructor
    · have h4 := h3.1
      split at h4
      · next e=>subst e;omega
      · exact h4
    · have h4 := h3.2
      split at h4
      · next e=>subst e;omega
      · exact h4
  · rintro ⟨v, hv, h1, h2⟩
    refine ⟨v,⟨fun m hm=>?_,hv.ru⟩⟩
    have h3:=hv.sp m hm
    simp only [bLo,bHi,upI]
    constructor
    · split
      · next e=>subst e;omega
      · exact h3.1
    · split
      · next e=>subst e;omega
      · exact h3.2
theorem f64 (t:Int) (ht:0≤t∧t≤600):Fn P0 64 [relV rest tl S,I t] (B (!(tabA S rest).empty S.length t)):=by
  obtain ⟨h1,h2,h3⟩:=relOk_of hr
  have hp:=pow20 (show 4 * S.length≤20 by omega)
  have hev:=f36 rest tl S h2
  have hfi:=fun h0 n=>f89L rest tl S h2 (2 ^ (4 * S.length) - 1) (by omega) h0 n
  have hru:=f90t rest h1 tl S h2
  have hb1:=bd_is rest tl htl S ((2 ^ (4 * S.length) - 1:Nat):Int)
  have hb2:=bd_rels rest tl htl S
  have hna:=fun i=>narF (n:=2 * S.length) (lo:=bLo S i t) (hi:=bHi S i t) (by omega) (fun m _=>by
    have h4:=fs_bnd hr (allE S) m
    have h5:=fs_bnd hr (allE S) (2 * i+1)
    have h6:=fs_bnd hr (allE S) (2 * i)
    simp only [bLo,bHi,upI]
    refine ⟨?_,?_⟩<;>split<;>omega) (ruls_ok hr) .no .no
  have hwi:=fun i (hi:i < S.length) q (hq:NarQ (2 * S.length) (bLo S i t) (bHi S i t) (rulsR S rest S.length) q)=>hq.some_iff.trans ((b_iff hr hi t).trans (busy_iff hr ho hi t))
  have hb3:∀ i,PV.bds 0 [.sl .no ((sps (2 * S.length) (bLo S i t) (bHi S i t)).map spV),.sl .no ((rulsR S rest S.length).map rulR)]=true:=fun i=>bds_cons (bd_sl (f:=spV) (tl:=.no) rfl (fun _=>rfl) _) (bds_cons (bd_sl (f:=rulR) (tl:=.no) rfl (fun _=>rfl) _) rfl)
  have hyes:∀ i,i < S.length→(tabA S rest).rides t i=true→(tabA S rest).empty S.length t=false:=fun i hi h=>empty_no hi h
  have hno:(∀ i,i < S.length→(tabA S rest).rides t i=false)→(tabA S rest).empty S.length t=true:=fun h=>empty_yes h
  generalize (tabA S rest).empty S.length t=em at *
  generalize (tabA S rest).rides t=rd at *
  refine PFun.of (C:=c64) (cx_ok _ _ _) rfl (fn:=Try.f64) (by kernel_rfl) (c:=_) rfl rfl rfl ?_
  refine Run.seq (Run.region (cx_ok _ _ _) (Reg.op rfl (Ope.boxF rfl rfl ?_)))
  refine Reg.op rfl (Ope.asg rfl ?_)
  refine Reg.nil (Run.seq (Run.seq (Run.region (cx_ok _ _ _) (Reg.op rfl (Ope.asg rfl ?_)))))
  refine Reg.nil (Run.block (Run.loop (α:=Nat×Nat) (fun s=>[(1,I t),(2,.fp (relV rest tl S)),(5,I s.1)]) (fun s=>HE s.2 []) (fun s=>s.1≤S.length∧∀ j,j < s.1→rd j=false) (fun s=>S.length - s.1) (0,0) ⟨rfl,rfl,rfl,trivial⟩ rfl ⟨Nat.zero_le _,fun j hj=>absurd hj (Nat.not_lt_zero _)⟩ (fun s hs=>?_)))
  obtain ⟨i,q0⟩:=s
  obtain ⟨hi,hall⟩:=hs
  simp only at hi hall
  refine Run.seq (Run.seq (Run.region (cx_ok _ _ _) (Reg.op rfl (Ope.mov rfl ?_))))
  refine Reg.op rfl (Ope.fld rfl rfl ?_)
  refine Reg.op rfl (Ope.load rfl rfl ?_)
  refine Reg.op rfl (Ope.len (m:=S.length) rfl (by simp) ?_)
  refine Reg.op rfl (Ope.lt rfl rfl ?_)
  refine Reg.nil (Run.condX rfl (fun hc=>?_) fun hc=>?_)
  ·refine Run.skip (Run.seq (Run.block (Run.seq ?_)))
   have hlt:i < S.length:=by omega
   have hm1:(2:Int) * (i:Int)=((2 * i:Nat):Int):=by omega
   have hm2:((2 * i:Nat):Int)+1=((2 * i+1:Nat):Int):=by omega
   refine Run.draw (cx_ok _ _ _) [(0,false),(1,true),(2,true),(3,true),(4,true)] (by kernel_rfl) (Dra.op' rfl rfl rfl (.load rfl) (Ope.load rfl rfl ?_))
   refine Dra.op' rfl rfl rfl .sure (Ope.load rfl rfl ?_)
   refine Dra.op' rfl rfl rfl .sure (Ope.cf rfl rfl hev hb2 ?_)
   refine Dra.op' rfl rfl rfl .sure (Ope.call rfl rfl rfl ((hfi (by omega) q0).mono (fun v h' q=>?_) fun _ _ q=>q.elim))
   obtain ⟨j0,q1,c0,post,ez,hjq,hpc,rfl,rfl⟩:=q
   refine Dra.op' rfl rfl rfl .sure (Ope.asg rfl ?_)
   refine Dra.nil (Run.seq ?_)
   have hlen:∀ a b,(flat ((sps (2 * S.length) a b).map spV)++post).length=2 * (2 * S.length)+post.length:=fun a b=>by rw [List.length_append,flat_sps_len]
   show Run _ _ _ _ _ _ (HE q1 [(j0,some (.cells (flat ((sps (2 * S.length) (fLo S (allE S)) (fHi S (allE S))).map spV)++post)))])
   refine Run.region (cx_ok _ _ _) (Reg.op rfl (Ope.mov rfl ?_))
   refine Reg.op rfl (Ope.mov rfl ?_)
   refine Reg.op rfl (Ope.mul rfl rfl (by omega) ?_)
   rw [hm1]
   refine Reg.op rfl (Ope.mov rfl ?_)
   refine Reg.op rfl (Ope.mov rfl ?_)
   refine Reg.op rfl (Ope.mul rfl rfl (by omega) ?_)
   rw [hm1]
   refine Reg.op rfl (Ope.idxL (m:=2 * i) rfl rfl rfl (by omega) ?_)
   refine Reg.op rfl (Ope.fld rfl rfl ?_)
   refine Reg.op rfl (Ope.loadL rfl hget_hd (sps_hi (by omega)) ?_)
   refine Reg.op rfl (Ope.mov rfl ?_)
   refine Reg.op rfl (Ope.minI rfl rfl ?_)
   refine Reg.op rfl (Ope.idxL (m:=2 * i) rfl rfl rfl (by omega) ?_)
   refine Reg.op rfl (Ope.fld rfl rfl ?_)
   refine Reg.op0 (Ope.storeL rfl rfl hget_hd rfl rfl (by rw [hlen];show 0+2 * i * 2+1 < _;omega) ?_)
   refine Reg.nil (Run.seq (Run.wide (m:=q1) (l':=[(j0,some (.cells (flat ((sps (2 * S.length) (fLo S (allE S)) (bHi S i t)).map spV)++post)))]) (Nat.le_refl _) ⟨by unfold bHi;rw [← sps_setHi (by omega)];exact hget_hd,trivial⟩ ?_))
   refine Run.region (cx_ok _ _ _) (Reg.op rfl (Ope.mov rfl ?_))
   refine Reg.op rfl (Ope.mov rfl ?_)
   refine Reg.op rfl (Ope.mul rfl rfl (by omega) ?_)
   rw [hm1]
   refine Reg.op rfl (Ope.add rfl rfl (by omega) ?_)
   rw [hm2]
   refine Reg.op rfl (Ope.mov rfl ?_)
   refine Reg.op rfl (Ope.mov rfl ?_)
   refine Reg.op rfl (Ope.mul rfl rfl (by omega) ?_)
   rw [hm1]
   refine Reg.op rfl (Ope.add rfl rfl (by omega) ?_)
   rw [hm2]
   refine Reg.op rfl (Ope.idxL (m:=2 * i+1) rfl rfl rfl (by omega) ?_)
   refine Reg.op rfl (Ope.fld rfl rfl ?_)
   refine Reg.op rfl (Ope.loadL rfl hget_hd (sps_lo (by omega)) ?_)
   refine Reg.op rfl (Ope.mov rfl ?_)
   refine Reg.op rfl (Ope.add rfl rfl (by omega) ?_)
   refine Reg.op rfl (Ope.maxI rfl rfl ?_)
   refine Reg.op rfl (Ope.idxL (m:=2 * i+1) rfl rfl rfl (by omega) ?_)
   refine Reg.op rfl (Ope.fld rfl rfl ?_)
   refine Reg.op0 (Ope.storeL rfl rfl hget_hd rfl rfl (by rw [hlen];show 0+(2 * i+1) * 2 < _;omega) ?_)
   refine Reg.nil (Run.seq (Run.wide (m:=q1) (l':=[(j0,some (.cells (flat ((sps (2 * S.length) (bLo S i t) (bHi S i t)).map spV)++post)))]) (Nat.le_refl _) ⟨by rw [show bLo S i t=upI (fLo S (allE S)) (2 * i+1) (max (fLo S (allE S) (2 * i+1)) (t+1)) from rfl,← sps_setLo (by omega)];exact hget_hd,trivial⟩ ?_))
   refine Run.frzS (d:=6) (vs:=(sps (2 * S.length) (bLo S i t) (bHi S i t)).map spV) (post:=post) (sz:=2) rfl hget_hd (by rw [List.length_map,sps_len]) hpc (spV_nc _) ?_
   refine Run.wide (m:=q1) (l':=[]) (Nat.le_refl _) trivial ?_
   refine Run.region (cx_ok _ _ _) (Reg.op rfl (Ope.mov rfl ?_))
   refine Reg.op rfl (Ope.load rfl rfl ?_)
   refine Reg.op rfl (Ope.cf rfl rfl hru hb2 ?_)
   refine Reg.op rfl (Ope.call rfl rfl rfl (PFun.call (hna i) (hb3 i) (fun v q=>?_) (fun v q=>q.elim)))
   obtain ⟨q,hq,rfl⟩:=q
   have hs:q.isSome=rd i:=by
     rw [Bool.eq_iff_iff]
     exact hwi i hlt q hq
   rw [hs]
   refine Reg.op rfl (Ope.mov rfl ?_)
   refine Reg.op rfl (Ope.ext rfl rfl ?_)
   refine Reg.op rfl (Ope.ext rfl rfl ?_)
   refine Reg.op rfl (Ope.asg rfl ?_)
   refine Reg.op rfl (Ope.asg rfl ?_)
   refine Reg.nil (Run.seq (Run.region (cx_ok _ _ _) (Reg.op rfl (Ope.mov rfl ?_))))
   refine Reg.nil (Run.condX rfl (fun hc=>?_) fun hc=>?_)
   ·refine Run.seq (Run.region (cx_ok _ _ _) (Reg.op rfl (Ope.asg rfl ?_)))
    refine Reg.nil (Run.ret (Jmp.retB (Jmp.code (Jmp.round (Jmp.retB (Jmp.code (fin_ret (.tmp rfl .nil) rfl ?_)))))))
    first
    | (rw [hyes i hlt hc];rfl)
    | (rw [hno (fun j hj=>hall j (by omega))];rfl)
   ·refine Run.skip (Run.bend (Run.region (cx_ok _ _ _) (Reg.op rfl (Ope.mov rfl ?_))))
    refine Reg.op rfl (Ope.add rfl rfl (by omega) ?_)
    refine Reg.op rfl (Ope.asg rfl ?_)
    refine Reg.nil ?_
    exact Run.lend ⟨(i+1,q1),by show S.length - (i+1) < S.length - i;omega,⟨by show i+1≤S.length;omega,fun j hj=>by
      by_cases hji:j=i
      · subst hji;exact hc
      · exact hall j (by simp only at hj;omega)⟩,⟨rfl,rfl,rfl,trivial⟩,rfl,rfl⟩
  ·refine Run.exit (Jmp.code (Jmp.round (Jmp.here (Run.seq (Run.region (cx_ok _ _ _) (Reg.op rfl (Ope.asg rfl ?_)))))))
   refine Reg.nil (Run.ret (fin_ret (.tmp rfl .nil) rfl ?_))
   first
   | (rw [hyes i hlt hc];rfl)
   | (rw [hno (fun j hj=>hall j (by omega))];rfl)
end
end Go.Pv
namespace Go.Pv
open Go.Proofs Go.Am
set_option maxRecDepth 10000
set_option maxHeartbeats 4000000
def gS (S:List Sti) (k:Nat) (t:Int):Nat→(Nat→Int)×(Nat→Int)
  | 0=>(fLo S (allE S),fHi S (allE S))
  | i+1=>if i < k then ((gS S k t i).1,upI (gS S k t i).2 (2 * i+1) (min ((gS S k t i).2 (2 * i+1)) t)) else (upI (gS S k t i).1 (2 * i) (max ((gS S k t i).1 (2 * i)) (t+1)),(gS S k t i).2)
def InS (n:Nat) (p:(Nat→Int)×(Nat→Int)) (v:Nat→Int):Prop:=∀ m,m < n→p.1 m≤v m∧v m≤p.2 m
theorem ins_hi {n:Nat} {lo hi v:Nat→Int} {a:Nat} (ha:a < n) {x:Int}:InS n (lo,upI hi a (min (hi a) x)) v↔InS n (lo,hi) v∧v a≤x:=by
  constructor
  · intro h
    have h1:=(h a ha).2
    simp only [upI,if_pos] at h1
    refine ⟨fun m hm=>?_,by omega⟩
    have h2:=h m hm
    simp only [upI] at h2
    refine ⟨h2.1,?_⟩
    have h3:=h2.2
    split at h3
    · next e=>subst e;show v m≤hi m;omega
    · exact h3
  · rintro ⟨h, hx⟩ m hm
    have h2:=h m hm
    refine ⟨h2.1,?_⟩
    show v m≤upI hi a (min (hi a) x) m
    simp only [upI]
    split
    · next e=>subst e;have h3:v m≤hi m:=h2.2;omega
    · exact h2.2
theorem ins_lo {n:Nat} {lo hi v:Nat→Int} {a:Nat} (ha:a < n) {x:Int}:InS n (upI lo a (max (lo a) x),hi) v↔InS n (lo,hi) v∧x≤v a:=by
  constructor
  · intro h
    have h1:=(h a ha).1
    simp only [upI,if_pos] at h1
    refine ⟨fun m hm=>?_,by omega⟩
    have h2:=h m hm
    simp only [upI] at h2
    refine ⟨?_,h2.2⟩
    have h3:=h2.1
    split at h3
    · next e=>subst e;show lo m≤v m;omega
    · exact h3
  · rintro ⟨h, hx⟩ m hm
    have h2:=h m hm
    refine ⟨?_,h2.2⟩
    show upI lo a (max (lo a) x) m≤v m
    simp only [upI]
    split
    · next e=>subst e;have h3:lo m≤v m:=h2.1;omega
    · exact h2.1
theorem gS_in {S : List Sti} {k : Nat} {t : Int} {v : Nat → Int} : ∀ i, i ≤ S.length → (InS (2 * S.length) (gS S k t i) v ↔ InS (2 * S.length) (fLo S (allE S), fHi S (allE S)) v ∧ ∀ j, j < i → (j < k → v (2 * j + 1) ≤ t) ∧ (k ≤ j → t + 1 ≤ v (2 * j)))
  | 0,_=>⟨fun h=>⟨h,fun j hj=>absurd hj (Nat.not_lt_zero _)⟩,fun h=>h.1⟩
  | i + 1, hi => by
    have ih:=gS_in (S:=S) (k:=k) (t:=t) (v:=v) i (by omega)
    simp only [gS]
    split
    · next hik =>
      rw [ins_hi (n:=2 * S.length) (by omega),show InS (2 * S.length) ((gS S k t i).1,(gS S k t i).2) v↔InS (2 * S.length) (gS S k t i) v from Iff.rfl,ih]
      constructor
      · rintro ⟨⟨h1, h2⟩, h3⟩
        refine ⟨h1,fun j hj=>?_⟩
        by_cases hji:j=i
        · subst hji;exact ⟨fun _=>h3,fun h=>by omega⟩
        · exact h2 j (by omega)
      · rintro ⟨h1, h2⟩
        exact ⟨⟨h1,fun j hj=>h2 j (by omega)⟩,(h2 i (by omega)).1 hik⟩
    · next hik =>
      rw [ins_lo (n:=2 * S.length) (by omega),show InS (2 * S.length) ((gS S k t i).1,(gS S k t i).2) v↔InS (2 * S.length) (gS S k t i) v from Iff.rfl,ih]
      constructor
      · rintro ⟨⟨h1, h2⟩, h3⟩
        refine ⟨h1,fun j hj=>?_⟩
        by_cases hji:j=i
        · subst hji;exact ⟨fun h=>by omega,fun _=>h3⟩
        · exact h2 j (by omega)
      · rintro ⟨h1, h2⟩
        exact ⟨⟨h1,fun j hj=>h2 j (by omega)⟩,(h2 i (by omega)).2 (by omega)⟩
theorem gS_bnd {S:List Sti} {rest:Int} (hr:relOk rest S=true) {k:Nat} {t:Int} (ht:0≤t∧t≤600):∀ i m,(-1000≤(gS S k t i).1 m∧(gS S k t i).1 m≤2000)∧(-1000≤(gS S k t i).2 m∧(gS S k t i).2 m≤2000)
  | 0,m=>fs_bnd hr (allE S) m
  | i + 1, m => by
    have ih:=gS_bnd hr (k:=k) ht i
    have h1:=ih m
    have h2:=ih (2 * i)
    have h3:=ih (2 * i+1)
    simp only [gS]
    split
    · simp only [upI]
      refine ⟨h1.1,?_⟩
      split<;>omega
    · simp only [upI]
      refine ⟨?_,h1.2⟩
      split<;>omega
noncomputable def atB (S:List Sti) (rest t:Int) (k:Nat):Bool:=@decide (∃ v,Sat0 S rest (allE S) v∧FreeV S t k v) (Classical.propDecidable _)
theorem atB_iff {S:List Sti} {rest t:Int} {k:Nat}:atB S rest t k=true↔∃ v,Sat0 S rest (allE S) v∧FreeV S t k v:=by
  unfold atB
  exact @decide_eq_true_iff _ (Classical.propDecidable _)
theorem g_iff {S:List Sti} {rest t:Int} {k:Nat}:(∃ v,Sat (2 * S.length) (gS S k t S.length).1 (gS S k t S.length).2 (rulsR S rest S.length) v)↔atB S rest t k=true:=by
  rw [atB_iff]
  constructor
  · rintro ⟨v, hv⟩
    obtain ⟨h1,h2⟩:=(gS_in S.length (Nat.le_refl _)).1 hv.sp
    exact ⟨v,⟨h1,hv.ru⟩,fun i hi h=>(h2 i hi).1 h,fun i hi h=>(h2 i hi).2 h⟩
  · rintro ⟨v, hv, h1, h2⟩
    exact ⟨v,⟨(gS_in S.length (Nat.le_refl _)).2 ⟨hv.sp,fun j hj=>⟨h1 j hj,h2 j hj⟩⟩,hv.ru⟩⟩
section
variable {rest:Int} {tl:Tail} (htl:tl.isOwn=false) {S:List Sti} (hr:relOk rest S=true)
include htl hr
theorem f93n (h0:0 < S.length) (t:Int) (ht:0≤t∧t≤600) (k:Nat):Fn P0 93 [relV rest tl S,I t,I k] (B (atB S rest t k)):=by
  obtain ⟨h1,h2,h3⟩:=relOk_of hr
  have hp:=pow20 (show 4 * S.length≤20 by omega)
  have hev:=f36 rest tl S h2
  have hfi:=f89L rest tl S h2 (2 ^ (4 * S.length) - 1) (by omega) h0 0
  have hru:=f90t rest h1 tl S h2
  have hb1:=bd_is rest tl htl S ((2 ^ (4 * S.length) - 1:Nat):Int)
  have hb2:=bd_rels rest tl htl S
  have hbn:=gS_bnd hr (k:=k) ht
  have hna:=narF (n:=2 * S.length) (by omega) (fun m _=>hbn S.length m) (ruls_ok hr) .no .no
  have hwi:=fun q (hq:NarQ (2 * S.length) (gS S k t S.length).1 (gS S k t S.length).2 (rulsR S rest S.length) q)=>hq.some_iff.trans g_iff
  have hb3:PV.bds 0 [.sl .no ((sps (2 * S.length) (gS S k t S.length).1 (gS S k t S.length).2).map spV),.sl .no ((rulsR S rest S.length).map rulR)]=true:=bds_cons (bd_sl (f:=spV) (tl:=.no) rfl (fun _=>rfl) _) (bds_cons (bd_sl (f:=rulR) (tl:=.no) rfl (fun _=>rfl) _) rfl)
  have hg0:gS S k t 0=(fLo S (allE S),fHi S (allE S)):=rfl
  have hgT:∀ i,i < k→gS S k t (i+1)=((gS S k t i).1,upI (gS S k t i).2 (2 * i+1) (min ((gS S k t i).2 (2 * i+1)) t)):=fun i h=>by rw [gS,if_pos h]
  have hgF:∀ i,¬ i < k→gS S k t (i+1)=(upI (gS S k t i).1 (2 * i) (max ((gS S k t i).1 (2 * i)) (t+1)),(gS S k t i).2):=fun i h=>by rw [gS,if_neg h]
  generalize gS S k t=G at *
  refine PFun.of (C:=c93) (cx_ok _ _ _) rfl (fn:=Try.f93) (by kernel_rfl) (c:=_) rfl rfl rfl ?_
  refine Run.seq (Run.region (cx_ok _ _ _) (Reg.op rfl (Ope.boxF rfl rfl ?_)))
  refine Reg.op rfl (Ope.asg rfl ?_)
  refine Reg.nil (Run.seq (Run.draw (cx_ok _ _ _) [(0,false),(1,true),(2,true),(3,true),(4,true)] (by kernel_rfl) (Dra.op' rfl rfl rfl (.load rfl) (Ope.load rfl rfl ?_))))
  refine Dra.op' rfl rfl rfl .sure (Ope.load rfl rfl ?_)
  refine Dra.op' rfl rfl rfl .sure (Ope.cf rfl rfl hev hb2 ?_)
  refine Dra.op' rfl rfl rfl .sure (Ope.call rfl rfl rfl (hfi.mono (fun v h' q=>?_) fun _ _ q=>q.elim))
  obtain ⟨j0,q1,c0,post,ez,hjq,hpc,rfl,rfl⟩:=q
  refine Dra.op' rfl rfl rfl .sure (Ope.asg rfl ?_)
  refine Dra.nil (Run.seq (Run.seq (Run.region (cx_ok _ _ _) (Reg.op rfl (Ope.asg rfl ?_)))))
  refine Reg.nil (Run.block ?_)
  have hlen:∀ a b,(flat ((sps (2 * S.length) a b).map spV)++post).length=2 * (2 * S.length)+post.length:=fun a b=>by rw [List.length_append,flat_sps_len]
  refine Run.wide (m:=q1) (l':=[(j0,some (.cells (flat ((sps (2 * S.length) (G 0).1 (G 0).2).map spV)++post)))]) (Nat.le_refl _) ⟨by rw [hg0];exact hget_hd,trivial⟩ ?_
  refine Run.loop (α:=Nat) (fun i=>[(1,I t),(2,I k),(3,.fp (relV rest tl S)),(7,.ms j0 0 (2 * S.length) c0 ez),(8,I i)]) (fun i=>HE q1 [(j0,some (.cells (flat ((sps (2 * S.length) (G i).1 (G i).2).map spV)++post)))]) (fun i=>i≤S.length) (fun i=>S.length - i) 0 ⟨rfl,rfl,rfl,rfl,rfl,trivial⟩ rfl (Nat.zero_le _) (fun i hi=>?_)
  refine Run.seq (Run.seq (Run.region (cx_ok _ _ _) (Reg.op rfl (Ope.mov rfl ?_))))
  refine Reg.op rfl (Ope.fld rfl rfl ?_)
  refine Reg.op rfl (Ope.load rfl rfl ?_)
  refine Reg.op rfl (Ope.len (m:=S.length) rfl (by simp) ?_)
  refine Reg.op rfl (Ope.lt rfl rfl ?_)
  refine Reg.nil (Run.condX rfl (fun hc=>?_) fun hc=>?_)
  ·refine Run.skip (Run.seq (Run.block (Run.seq ?_)))
   have hlt:i < S.length:=by omega
   have hm1:(2:Int) * (i:Int)=((2 * i:Nat):Int):=by omega
   have hm2:((2 * i:Nat):Int)+1=((2 * i+1:Nat):Int):=by omega
   have hbi:=hbn i
   refine Run.region (cx_ok _ _ _) (Reg.op rfl (Ope.mov rfl ?_))
   refine Reg.op rfl (Ope.mov rfl ?_)
   refine Reg.op rfl (Ope.lt rfl rfl ?_)
   refine Reg.nil (Run.condX rfl (fun hc=>?_) fun hc=>?_)
   ·refine Run.region (cx_ok _ _ _) (Reg.op rfl (Ope.mov rfl ?_))
    refine Reg.op rfl (Ope.mov rfl ?_)
    refine Reg.op rfl (Ope.mul rfl rfl (by omega) ?_)
    rw [hm1]
    refine Reg.op rfl (Ope.add rfl rfl (by omega) ?_)
    rw [hm2]
    refine Reg.op rfl (Ope.mov rfl ?_)
    refine Reg.op rfl (Ope.mov rfl ?_)
    refine Reg.op rfl (Ope.mul rfl rfl (by omega) ?_)
    rw [hm1]
    refine Reg.op rfl (Ope.add rfl rfl (by omega) ?_)
    rw [hm2]
    refine Reg.op rfl (Ope.idxL (m:=2 * i+1) rfl rfl rfl (by omega) ?_)
    refine Reg.op rfl (Ope.fld rfl rfl ?_)
    refine Reg.op rfl (Ope.loadL rfl hget_hd (sps_hi (by omega)) ?_)
    refine Reg.op rfl (Ope.mov rfl ?_)
    refine Reg.op rfl (Ope.minI rfl rfl ?_)
    refine Reg.op rfl (Ope.idxL (m:=2 * i+1) rfl rfl rfl (by omega) ?_)
    refine Reg.op rfl (Ope.fld rfl rfl ?_)
    refine Reg.op0 (Ope.storeL rfl rfl hget_hd rfl rfl (by rw [hlen];show 0+(2 * i+1) * 2+1 < _;omega) ?_)
    refine Reg.nil (Run.bend ?_)
    first
    | (have hG := hgT i (by omega)
       refine Run.wide (m:=q1) (l':=[(j0,some (.cells (flat ((sps (2 * S.length) (G (i+1)).1 (G (i+1)).2).map spV)++post)))]) (Nat.le_refl _) ⟨by rw [hG];dsimp only;rw [← sps_setHi (by omega)];exact hget_hd,trivial⟩ ?_)
    | (have hG := hgF i (by omega)
       refine Run.wide (m:=q1) (l':=[(j0,some (.cells (flat ((sps (2 * S.length) (G (i+1)).1 (G (i+1)).2).map spV)++post)))]) (Nat.le_refl _) ⟨by rw [hG];dsimp only;rw [← sps_setLo (by omega)];exact hget_hd,trivial⟩ ?_)
    refine Run.region (cx_ok _ _ _) (Reg.op rfl (Ope.mov rfl ?_))
    refine Reg.op rfl (Ope.add rfl rfl (by omega) ?_)
    refine Reg.op rfl (Ope.asg rfl ?_)
    exact Reg.nil (Run.lend ⟨i+1,by omega,by omega,⟨rfl,rfl,rfl,rfl,rfl,trivial⟩,rfl,rfl⟩)
   ·refine Run.region (cx_ok _ _ _) (Reg.op rfl (Ope.mov rfl ?_))
    refine Reg.op rfl (Ope.mov rfl ?_)
    refine Reg.op rfl (Ope.mul rfl rfl (by omega) ?_)
    rw [hm1]
    refine Reg.op rfl (Ope.mov rfl ?_)
    refine Reg.op rfl (Ope.mov rfl ?_)
    refine Reg.op rfl (Ope.mul rfl rfl (by omega) ?_)
    rw [hm1]
    refine Reg.op rfl (Ope.idxL (m:=2 * i) rfl rfl rfl (by omega) ?_)
    refine Reg.op rfl (Ope.fld rfl rfl ?_)
    refine Reg.op rfl (Ope.loadL rfl hget_hd (sps_lo (by omega)) ?_)
    refine Reg.op rfl (Ope.mov rfl ?_)
    refine Reg.op rfl (Ope.add rfl rfl (by omega) ?_)
    refine Reg.op rfl (Ope.maxI rfl rfl ?_)
    refine Reg.op rfl (Ope.idxL (m:=2 * i) rfl rfl rfl (by omega) ?_)
    refine Reg.op rfl (Ope.fld rfl rfl ?_)
    refine Reg.op0 (Ope.storeL rfl rfl hget_hd rfl rfl (by rw [hlen];show 0+2 * i * 2 < _;omega) ?_)
    refine Reg.nil (Run.bend ?_)
    first
    | (have hG := hgT i (by omega)
       refine Run.wide (m:=q1) (l':=[(j0,some (.cells (flat ((sps (2 * S.length) (G (i+1)).1 (G (i+1)).2).map spV)++post)))]) (Nat.le_refl _) ⟨by rw [hG];dsimp only;rw [← sps_setHi (by omega)];exact hget_hd,trivial⟩ ?_)
    | (have hG := hgF i (by omega)
       refine Run.wide (m:=q1) (l':=[(j0,some (.cells (flat ((sps (2 * S.length) (G (i+1)).1 (G (i+1)).2).map spV)++post)))]) (Nat.le_refl _) ⟨by rw [hG];dsimp only;rw [← sps_setLo (by omega)];exact hget_hd,trivial⟩ ?_)
    refine Run.region (cx_ok _ _ _) (Reg.op rfl (Ope.mov rfl ?_))
    refine Reg.op rfl (Ope.add rfl rfl (by omega) ?_)
    refine Reg.op rfl (Ope.asg rfl ?_)
    exact Reg.nil (Run.lend ⟨i+1,by omega,by omega,⟨rfl,rfl,rfl,rfl,rfl,trivial⟩,rfl,rfl⟩)
  ·refine Run.exit (Jmp.code (Jmp.round (Jmp.here (Run.seq ?_))))
   obtain rfl:i=S.length:=by omega
   refine Run.frzS (d:=7) (vs:=(sps (2 * S.length) (G S.length).1 (G S.length).2).map spV) (post:=post) (sz:=2) rfl hget_hd (by rw [List.length_map,sps_len]) hpc (spV_nc _) ?_
   refine Run.wide (m:=q1) (l':=[]) (Nat.le_refl _) trivial ?_
   refine Run.region (cx_ok _ _ _) (Reg.op rfl (Ope.mov rfl ?_))
   refine Reg.op rfl (Ope.load rfl rfl ?_)
   refine Reg.op rfl (Ope.cf rfl rfl hru hb2 ?_)
   refine Reg.op rfl (Ope.call rfl rfl rfl (PFun.call hna hb3 (fun v q=>?_) (fun v q=>q.elim)))
   obtain ⟨q,hq,rfl⟩:=q
   have hs:q.isSome=atB S rest t k:=by
     rw [Bool.eq_iff_iff]
     exact hwi q hq
   rw [hs]
   refine Reg.op rfl (Ope.mov rfl ?_)
   refine Reg.op rfl (Ope.ext rfl rfl ?_)
   refine Reg.op rfl (Ope.ext rfl rfl ?_)
   refine Reg.op rfl (Ope.asg rfl ?_)
   refine Reg.op rfl (Ope.asg rfl ?_)
   refine Reg.nil (Run.seq (Run.region (cx_ok _ _ _) (Reg.op rfl (Ope.mov rfl ?_))))
   refine Reg.op rfl (Ope.asg rfl ?_)
   exact Reg.nil (Run.ret (fin_ret (.tmp rfl .nil) rfl rfl))
end
end Go.Pv
namespace Go.Pv
open Go.Proofs Go.Am
set_option maxRecDepth 10000
theorem f12l (rest:Int) (tl:Tail) (S:List Sti) (hl:40 < S.length) (n:Nat):Fn P0 12 [relV rest tl S,I n] (B true):=by
  refine PFun.of (C:=c12) (cx_ok _ _ _) rfl (fn:=Try.f12) (by kernel_rfl) (c:=_) rfl rfl rfl ?_
  refine Run.seq (Run.region (cx_ok _ _ _) (Reg.op rfl (Ope.boxF rfl rfl ?_)))
  refine Reg.op rfl (Ope.asg rfl ?_)
  refine Reg.nil (Run.seq (Run.region (cx_ok _ _ _) (Reg.op rfl (Ope.fld rfl rfl ?_))))
  refine Reg.op rfl (Ope.load rfl rfl ?_)
  refine Reg.op rfl (Ope.len (m:=S.length) rfl (by simp) ?_)
  refine Reg.op rfl (Ope.gt rfl rfl ?_)
  refine Reg.op rfl (Ope.mov rfl ?_)
  refine Reg.splitX rfl rfl (fun hg=>?_) fun hg=>?_
  ·refine Reg.off rfl rfl rfl (Reg.off rfl rfl rfl (Reg.off rfl rfl rfl (Reg.off rfl rfl rfl (Reg.off rfl rfl rfl (Reg.off rfl rfl rfl (Reg.past rfl rfl rfl (Reg.past rfl rfl rfl (Reg.off rfl rfl rfl (Reg.op rfl (Ope.pickT rfl rfl ?_))))))))))
   refine Reg.op rfl (Ope.asg rfl ?_)
   exact Reg.nil (Run.ret (fin_ret (.tmp rfl .nil) rfl rfl))
  ·(first | (exfalso;omega))
end Go.Pv
namespace Go.Pv
open Go.Proofs Go.Am
set_option maxRecDepth 10000
def atF (o:Nat):Nat:=if o=1 then 16 else 14
structure EndH (rest:Int) (tl:Tail) (S:List Sti) (en:Nat) (sl sh cl ch e g:Int):Prop where
  at':Fn P0 (atF (en / 2 % 2)) [relV rest tl S,I ((en / 4:Nat):Int)] (.tup [.agg [I sl,I sh],I e])
  ln:Fn P0 18 [relV rest tl S,I ((en / 4:Nat):Int)] (.tup [.agg [I cl,I ch],I e])
  clF:∃ c,Fn P0 26 [relV rest tl S] (.tup [I c,I g])
  isF:(e=10∧g=0∧sl=0∧sh=0∧cl=0∧ch=0)∨(e=0∧g=4∧0≤sl∧sl≤sh∧sh≤600∧1≤cl∧cl≤ch∧ch≤600)
  ex:e=0→∀ n,0≤n→n≤600→∃ t u h,Fn P0 (atF (en / 2 % 2)) [relV rest .no (entS S en n n),I ((en / 4:Nat):Int)] (.tup [.agg [I t,I u],I h]) ∧
    ((h=0∧t=n∧u=n)∨(h=10∧¬ (sl≤n∧n≤sh)))∧(h=0→(wrt S en).1≤n→n≤(wrt S en).2→sl≤n∧n≤sh)
  onf : e = 0 → ∃ al ah bl bh, Fn P0 14 [relV rest tl S, I ((en / 4 : Nat) : Int)] (.tup [.agg [I al, I ah], I 0]) ∧ Fn P0 16 [relV rest tl S, I ((en / 4 : Nat) : Int)] (.tup [.agg [I bl, I bh], I 0]) ∧
    (bl - ah≤cl∧ch≤bh - al∧(0≤al∧al≤ah∧ah≤600)∧0≤bl∧bl≤bh∧bh≤600)∧∀ n,n=al∨n=ah→∃ ul uh,Fn P0 16 [relV rest .no (entS S (4 * (en / 4)) n n),I ((en / 4:Nat):Int)] (.tup [.agg [I ul,I uh],I 0]) ∧
      Fn P0 18 [relV rest .no (entS S (4 * (en / 4)) n n),I ((en / 4:Nat):Int)] (.tup [.agg [I (ul - n),I (uh - n)],I 0])∧cl≤ul - n∧uh - n≤ch∧(0≤ul∧ul≤600)∧0≤uh∧uh≤600
section
variable {rest:Int} {tl:Tail} (htl:tl.isOwn=false) {S:List Sti} (hS:S.length≤1000000) (hr:relOk rest S=true)
include hr in
end
end Go.Pv
