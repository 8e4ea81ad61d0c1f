/- Parts of the proof: M38, M40, M41, M30 -/
import Derived.Test.YtgpcfkpenkaipaaP21
import Derived.Test.YtgpcfkpenkaipaaP20
import Derived.Test.YtgpcfkpenkaipaaP12
set_option linter.unusedVariables false
set_option linter.unusedSimpArgs false
set_option linter.unusedSectionVars false
namespace Go.Pv
open Go.Proofs Go.Am
set_option maxRecDepth 10000
theorem range_up (n:Nat):(List.range n).Pairwise (· < ·):=List.pairwise_lt_range
theorem leastBy_first {α:Type} {R:α→α→Prop} (f:α→Int):∀ (l:List α) (a:α),(a::l).Pairwise R→∀ x∈a::l,f x≤f (leastBy f a l)→x=leastBy f a l∨R (leastBy f a l) x
  | [], a, _, x, hx, _ => by
    simp only [List.mem_singleton] at hx
    exact .inl hx
  | b :: l, a, hp, x, hx, hf => by
    obtain ⟨h1,h2⟩:=List.pairwise_cons.1 hp
    rw [leastBy_cons] at hf ⊢
    split at hf
    · next h =>
      rw [if_pos h]
      rcases List.mem_cons.1 hx with rfl | hx
      · omega
      · exact leastBy_first f l b h2 x hx hf
    · next h =>
      rw [if_neg h]
      rcases List.mem_cons.1 hx with rfl | hx
      · exact .inl rfl
      · exact .inr (h1 x hx)
end Go.Pv
namespace Go.Pv
open Go.Proofs Go.Am
set_option maxRecDepth 10000
theorem lo_all {s:Shp}:s.lo (allN s.jo.length)=true:=by
  unfold Shp.lo
  have h:lft s.jo.length (allN s.jo.length)=0:=(lft_all (by have:=Nat.two_pow_pos s.jo.length;unfold allN;omega)).2 rfl
  rw [h]
  rfl
theorem loL_iff {s:Shp} {q x:Nat}:x∈s.loL q↔x < q∧s.lo x=true:=by
  unfold Shp.loL
  rw [List.mem_filter,List.mem_range]
theorem drp_spec (s:Shp):s.drp < 2 ^ s.jo.length∧s.lo s.drp=true∧∀ y,y < 2 ^ s.jo.length→s.lo y=true→cn s.drp < cn y∨(cn s.drp=cn y∧s.drp≤y):=by
  have hall:allN s.jo.length∈s.loL (2 ^ s.jo.length):=loL_iff.2 ⟨by have:=Nat.two_pow_pos s.jo.length;unfold allN;omega,lo_all⟩
  have hup:(s.loL (2 ^ s.jo.length)).Pairwise (· < ·):=(range_up _).filter _
  have hm:∀ x,x∈s.loL (2 ^ s.jo.length)↔x < 2 ^ s.jo.length∧s.lo x=true:=fun x=>loL_iff
  unfold Shp.drp
  cases hq:s.loL (2 ^ s.jo.length) with
  | nil=>rw [hq] at hall;cases hall
  | cons a L =>
    rw [hq] at hup hm
    have h1:=(hm _).1 (leastBy_mem (fun x=>(cn x:Int)) L a)
    refine ⟨h1.1,h1.2,fun y hy hl=>?_⟩
    have h2:=leastBy_le (fun x=>(cn x:Int)) L a y ((hm y).2 ⟨hy,hl⟩)
    show cn (leastBy (fun x=>(cn x:Int)) a L) < _∨_
    by_cases he:cn (leastBy (fun x=>(cn x:Int)) a L)=cn y
    · refine .inr ⟨he, ?_⟩
      rcases leastBy_first (fun x=>(cn x:Int)) L a hup y ((hm y).2 ⟨hy,hl⟩) (by show (cn y:Int)≤_;omega) with h | h
      · exact Nat.le_of_eq h.symm
      · exact Nat.le_of_lt h
    · exact .inl (by omega)
theorem lax_lo {s x:Shp} (hL:Lax s x) {y:Nat} (h:s.lo y=true):x.lo y=true:=by
  unfold Shp.lo at h ⊢
  rw [decide_eq_true_eq] at h ⊢
  rw [hL.n]
  have h1:(s.out (lft s.jo.length y) ⟨y,-1,0,0⟩).n=(s.sqs (lft s.jo.length y) ⟨y,-1,0,0⟩).length:=olk_n _
  have h2:(x.out (lft s.jo.length y) ⟨y,-1,0,0⟩).n=(x.sqs (lft s.jo.length y) ⟨y,-1,0,0⟩).length:=olk_n _
  have h3:=lax_len hL (lft s.jo.length y) ⟨y,-1,0,0⟩ ⟨y,-1,0,0⟩ ⟨rfl,rfl,Int.le_refl _⟩
  omega
theorem lax_drp {s x:Shp} (hL:Lax s x):cn x.drp≤cn s.drp:=by
  obtain ⟨h1,h2,_⟩:=drp_spec s
  have:=(drp_spec x).2.2 s.drp (by rw [hL.n];exact h1) (lax_lo hL h2)
  omega
theorem lax_told {s x:Shp} (hL:Lax s x):bE s.all=0→bE x.all=0∧bC x.all≤bC s.all∧bU x.all≤bU s.all:=fun h=>by
  have hn:0 < s.all.n:=by
    unfold bE at h
    split at h
    · omega
    · omega
  have hx:0 < x.all.n:=Nat.lt_of_lt_of_le hn (lax_all hL)
  have hb:=lax_best hL hn
  unfold bE bC bU
  rw [if_neg (by omega),if_neg (by omega),if_neg (by omega),if_neg (by omega),if_neg (by omega)]
  exact ⟨rfl,hb⟩
theorem set_lax {s:Shp} (hs:s.ok 30) {w:Nat} (hw:w < s.jo.length) {k:Job} (hk:LaxJ (s.job w) k):Lax s ⟨s.su,s.jo.set w k⟩:=by
  refine ⟨rfl,by simp,fun i hi=>?_⟩
  have hi':i < (s.jo.set w k).length:=by simpa using hi
  rw [Shp.job_at (s:=⟨s.su,s.jo.set w k⟩) hi']
  show LaxJ _ ((s.jo.set w k)[i])
  rw [List.getElem_set]
  split
  · next h=>subst h;exact hk
  · rw [← Shp.job_at hi]
    have hj:=hs.job hi
    exact ⟨rfl,Int.le_refl _,Int.le_refl _,Int.le_refl _,Int.le_refl _,Int.le_refl _,hj.co.1,fun q h=>h⟩
theorem set_ok {s:Shp} (hs:s.ok 30) {w:Nat} (hw:w < s.jo.length) {k:Job} (hk:JobOk s.su.length s.jo.length w 30 k):Shp.ok ⟨s.su,s.jo.set w k⟩ 30:=by
  refine ⟨hs.su,by simpa using hs.jo,hs.hH,hs.sv,fun i hi=>?_⟩
  have hi2:i < s.jo.length:=by simpa using hi
  show JobOk s.su.length (s.jo.set w k).length i 30 ((s.jo.set w k)[i])
  rw [List.length_set,List.getElem_set]
  split
  · next h=>subst h;exact hk
  · exact hs.jv i hi2
theorem low_bit {a:Nat} (q:Nat) (h:(a &&& (a - 1)).testBit q=true):a.testBit q=true:=by
  rw [Nat.testBit_and] at h
  simp only [Bool.and_eq_true] at h
  exact h.1
end Go.Pv
namespace Go.Pv
open Go.Proofs Go.Am
set_option maxRecDepth 10000
section
variable {C:Cx} {F:EQ} {X:EX} {k:List KI} {e:EL} {ds:List Nat} {h:PH} {K:PV→PH→Prop} {n:Nat} {l:HL}
variable {d:Option Tmp} {type:TypeId} {pos:String} {after:Array Edge} {guard:Option (Nat×Bool)}
theorem Ope.andLow {t t':TypeId} {x y:Operand} {a b:Int} {p:Nat} (hx:pev (lget e) x=some (I a)) (hy:pev (lget e) y=some (I b)) (ha:a=(p:Int)) (hb:b=(p:Int) - 1) (hp:p < 64) (hK:K (I ((p &&& (p - 1):Nat):Int)) h) :
    Ope C X { dst:=d,op:=.binOp .and t x y t',type,pos,after,guard } e ds h K:=by
  subst ha hb
  rcases Nat.eq_zero_or_pos p with rfl | h0
  · exact Ope.bin hx hy (v:=I 0) rfl hK
  · exact Ope.andN (p:=p) (q:=p - 1) hx hy rfl (by omega) (by show _ < 2 ^ 64;omega) (by show _ < 2 ^ 63;omega) hK
end
section
variable (s:Shp) {t1 t2:Tail} (h1:t1.isOwn=false) (h2:t2.isOwn=false)
include h1 h2
theorem f10n (hi:s.i64) (a b c:PV) (hv:s.val=false∨s.jo.length=0):Fn P0 10 [s.v t1 t2,a,b,c] (B true):=by
  have hfi:=f33 s h1 h2 hi
  have hbs:PV.bds 0 [s.v t1 t2]=true:=bd_shpV s h1 h2 rfl
  have hv':s.val=true→s.jo.length=0:=fun h=>by
    rcases hv with h' | h'
    · rw [h] at h';cases h'
    · exact h'
  generalize s.val=vv at *
  refine PFun.of (C:=c10) (cx_ok _ _ _) rfl (fn:=Try.f10) (by kernel_rfl) (c:=_) rfl rfl rfl ?_
  refine Run.seq (Run.region (cx_ok _ _ _) (Reg.op rfl (Ope.boxF rfl rfl ?_)))
  refine Reg.op rfl (Ope.asg rfl ?_)
  refine Reg.nil (Run.seq (Run.seq (Run.region (cx_ok _ _ _) (Reg.op rfl (Ope.load rfl rfl ?_)))))
  refine Reg.op rfl (Ope.cf rfl rfl hfi hbs ?_)
  refine Reg.op rfl (Ope.not rfl ?_)
  refine Reg.op rfl (Ope.mov rfl ?_)
  refine Reg.splitX rfl rfl (fun hg=>?_) fun hg=>?_
  ·refine Reg.off rfl rfl rfl (Reg.off rfl rfl rfl (Reg.off rfl rfl rfl (Reg.off rfl rfl rfl (Reg.op rfl (Ope.pickT rfl rfl ?_)))))
   refine Reg.nil (Run.condT rfl (Run.seq (Run.region (cx_ok _ _ _) (Reg.op rfl (Ope.cf rfl rfl (awakeF) rfl ?_)))))
   refine Reg.op rfl (Ope.asg rfl ?_)
   exact Reg.nil (Run.ret (Jmp.code (fin_ret (.tmp rfl .nil) rfl rfl)))
  ·refine Reg.on rfl rfl rfl (Ope.fld rfl rfl ?_)
   refine Reg.on rfl rfl rfl (Ope.load rfl rfl ?_)
   refine Reg.on rfl rfl rfl (Ope.len (m:=s.jo.length) rfl (by simp) ?_)
   refine Reg.on rfl rfl rfl (Ope.eq rfl rfl ?_)
   refine Reg.op rfl (Ope.pickF rfl rfl ?_)
   refine Reg.nil (Run.condX rfl (fun hc=>?_) fun hc=>?_)
   ·refine Run.seq (Run.region (cx_ok _ _ _) (Reg.op rfl (Ope.cf rfl rfl (awakeF) rfl ?_)))
    refine Reg.op rfl (Ope.asg rfl ?_)
    exact Reg.nil (Run.ret (Jmp.code (fin_ret (.tmp rfl .nil) rfl rfl)))
   ·(exfalso;have:=hv' (by simpa using hg);omega)
theorem f10y (hi : s.i64) (hv : s.val = true) (hpos : 0 < s.jo.length) (tb : Tail) (htb : tb.isOwn = false) (by' : List Nat) (hb8 : ∀ x ∈ by', x < 256) (wh wt : Nat) (hwh : wh < 256) (hwt : wt < 256) :
    Fn P0 10 [s.v t1 t2,.sl tb (by'.map U8),U8 wh,U8 wt] (B true):=by
  have hfi:=f33 s h1 h2 hi
  rw [hv] at hfi
  have hs:=val_ok hi hv
  have hl6:=hs.jo
  have hbs:PV.bds 0 [s.v t1 t2]=true:=bd_shpV s h1 h2 rfl
  have hbm:PV.bds 0 [s.v t1 t2,.sl tb (by'.map U8)]=true:=bd_shpV s h1 h2 (bds_cons (bd_sl (f:=U8) htb (fun _=>rfl) _) rfl)
  obtain ⟨om,tm,htm,hom,hma⟩:=f34 s h1 h2 (by omega) tb by' hb8
  have hbo:PV.bds 0 [s.v t1 t2,.sl tm (om.map N)]=true:=bd_ord s h1 h2 tm htm om
  have hne':s.jo.map Job.v≠[]:=fun h=>by
    have:=List.map_eq_nil_iff.1 h
    rw [this] at hpos
    exact absurd hpos (by decide)
  have hln:([]:List PV).length+(s.jo.map Job.v).length=s.jo.length:=by simp
  obtain ⟨w,hw⟩:∃ w,w=wh % s.jo.length:=⟨_,rfl⟩
  have hwl:w < s.jo.length:=by rw [hw];exact Nat.mod_lt _ hpos
  have hjob:=hs.job hwl
  have hjw:=Shp.job_at hwl
  rw [hjw] at hjob
  have hmi:=hjob.mi
  have hfr:=hjob.fr
  have hso:=hjob.so
  have hbt:=hjob.bt
  have hco:=hjob.co
  have haf:=hjob.af
  obtain ⟨d,hd⟩:∃ d:Nat,d=1+wt / 6 % 5:=⟨_,rfl⟩
  have hd5:d≤5:=by omega
  -- whichever job is in its place
  have hself:s.jo.set w s.jo[w]=s.jo:=List.set_getElem_self hwl
  have hgf:∀ post:List PV,∀ c,c < 8→∀ q,q=8 * w+c→(flat (s.jo.map Job.v)++post)[q]?=s.jo[w].v.cells[c]?:=fun post c hc q hq=>by
    subst hq;exact get_job post hc s.jo w hwl
  have hst:∀ (post:List PV) (c:Nat),c < 8→∀ (x:PV) (g:Job→Job),(∀ j:Job,(g j).v.cells=j.v.cells.set c x)→∀ q,q=8 * w+c→(flat (s.jo.map Job.v)++post).set q x=flat ((s.jo.set w (g s.jo[w])).map Job.v)++post:=fun post c hc x g hgc q hq=>by
    subst hq;exact set_job post hc hgc s.jo w hwl
  have hcl:∀ post:List PV,(flat (s.jo.map Job.v)++post).length=8 * s.jo.length+post.length:=fun post=>jobs_len s.jo post
  obtain ⟨a,ha⟩:∃ a:Nat,s.jo[w].af=(a:Int):=⟨s.jo[w].af.toNat,by omega⟩
  have ha2:s.jo[w].af.toNat=a:=by omega
  have ha3:a < 2 ^ s.jo.length∧a.testBit w=false:=by have:=haf.2;rw [ha2] at this;exact this
  have ha64:a < 64:=Nat.lt_of_lt_of_le ha3.1 (Nat.pow_le_pow_right (n:=2) (by decide) hl6)
  have haL:(a &&& (a - 1)) < 2 ^ s.jo.length∧(a &&& (a - 1)).testBit w=false:=⟨Nat.lt_of_le_of_lt Nat.and_le_left ha3.1,by
    cases hb:(a &&& (a - 1)).testBit w with
    | false=>rfl
    | true=>rw [low_bit w hb] at ha3;exact absurd ha3.2 (by decide)⟩
  have hTN:(((a &&& (a - 1):Nat):Int)).toNat=a &&& (a - 1):=by omega
  have hLx:∀ jb:Job,LaxJ s.jo[w] jb→LaxJ (s.job w) jb:=fun jb h=>by rw [hjw];exact h
  refine PFun.of (C:=c10) (cx_ok _ _ _) rfl (fn:=Try.f10) (by kernel_rfl) (c:=_) rfl rfl rfl ?_
  refine Run.seq (Run.region (cx_ok _ _ _) (Reg.op rfl (Ope.boxF rfl rfl ?_)))
  refine Reg.op rfl (Ope.asg rfl ?_)
  refine Reg.nil (Run.seq (Run.seq (Run.region (cx_ok _ _ _) (Reg.op rfl (Ope.load rfl rfl ?_)))))
  refine Reg.op rfl (Ope.cf rfl rfl hfi hbs ?_)
  refine Reg.op rfl (Ope.not rfl ?_)
  refine Reg.op rfl (Ope.mov rfl ?_)
  refine Reg.splitX rfl rfl (fun hg=>?_) fun hg=>?_
  ·first
   |(first | (exfalso;omega) | (exfalso;simp at hg;done))
   |refine Reg.off rfl rfl rfl (Reg.off rfl rfl rfl (Reg.off rfl rfl rfl (Reg.off rfl rfl rfl (Reg.op rfl (Ope.pickT rfl rfl ?_)))))
    refine Reg.nil (Run.condT rfl (Run.seq (Run.region (cx_ok _ _ _) (Reg.op rfl (Ope.cf rfl rfl (?_) rfl ?_)))))
    refine Reg.op rfl (Ope.asg rfl ?_)
    exact Reg.nil (Run.ret (Jmp.code (fin_ret (.tmp rfl .nil) rfl rfl)))
  ·first
   |(first | (exfalso;omega) | (exfalso;simp at hg;done))
   |refine Reg.on rfl rfl rfl (Ope.fld rfl rfl ?_)
    refine Reg.on rfl rfl rfl (Ope.load rfl rfl ?_)
    refine Reg.on rfl rfl rfl (Ope.len (m:=s.jo.length) rfl (by simp) ?_)
    refine Reg.on rfl rfl rfl (Ope.eq rfl rfl ?_)
    refine Reg.op rfl (Ope.pickF rfl rfl ?_)
    refine Reg.nil (Run.condX rfl (fun hc=>?_) fun hc=>?_)
    ·(exfalso;omega)
    ·refine Run.skip (Run.seq (Run.region (cx_ok _ _ _) (Reg.op rfl (Ope.load rfl rfl ?_))))
     refine Reg.op rfl (Ope.newL rfl ?_)
     refine Reg.op0 (Ope.store rfl rfl hget_hd rfl rfl rfl ?_)
     refine Reg.nil (Run.seq (Run.region (cx_ok _ _ _) (Reg.op rfl (Ope.bsl rfl rfl rfl rfl ?_))))
     refine Reg.op rfl (Ope.fld rfl rfl ?_)
     refine Reg.op rfl (Ope.load rfl rfl ?_)
     refine Reg.op rfl (Ope.apLa rfl rfl hne' (by rw [hln];omega) (by rw [hln];omega) (by decide) (by simp) (by intro v hv;obtain ⟨_,_,rfl⟩:=List.mem_map.1 hv;exact ⟨rfl,rfl⟩) (fun cp post ez hcp=>?_))
     have hcp':s.jo.length≤cp:=by simpa using hcp
     rw [hln]
     refine Reg.op rfl (Ope.fld rfl rfl ?_)
     refine Reg.op0 (Ope.store rfl rfl ((hget_tl (by omega)).trans hget_hd) rfl rfl rfl ?_)
     refine Reg.nil (Run.seq (Run.draw (cx_ok _ _ _) [(0,true),(1,true),(2,true),(3,true),(4,true),(5,true),(6,true),(7,true),(8,true),(9,true)] (by kernel_rfl) (Dra.op' rfl rfl rfl .sure (Ope.fld rfl rfl ?_))))
     refine Dra.op' rfl rfl rfl .sure (Ope.loadH rfl hget_hd rfl ?_)
     refine Dra.op' rfl rfl rfl .sure (Ope.mov rfl ?_)
     refine Dra.op' rfl rfl rfl .sure (Ope.conv (b:=((wh:Nat):Int)) rfl (wrap_in _ (by omega) (by omega)) ?_)
     refine Dra.op' rfl rfl rfl .sure (Ope.fld rfl rfl ?_)
     refine Dra.op' rfl rfl rfl .sure (Ope.loadH rfl hget_hd rfl ?_)
     refine Dra.op' rfl rfl rfl .sure (Ope.lenL rfl ?_)
     refine Dra.op' rfl rfl rfl .sure (Ope.remN (p:=wh) (q:=s.jo.length) rfl rfl rfl rfl hpos ?_)
     refine Dra.op' rfl rfl rfl .sure (Ope.idxL (m:=w) rfl rfl (by rw [hw];rfl) hwl ?_)
     refine Dra.op' rfl rfl rfl .sure (Ope.asg rfl ?_)
     refine Dra.nil (Run.seq (Run.wide (m:=2) (l':=[(1,some (.cells (flat (s.jo.map Job.v)++post))),(0,some (.cells [.sl t1 (s.su.map I),.ms 1 0 s.jo.length cp ez]))]) (Nat.le_refl _) ⟨rfl,rfl,trivial⟩ ?_))
     refine Run.less (show Lsub [(1,(.sl tb (by'.map U8):PV)),(3,U8 wt),(4,.fp (s.v t1 t2)),(9,.ptr 0 0),(10,.ptr 1 (0+w * 8))] _ from ⟨rfl,rfl,rfl,rfl,rfl,trivial⟩) ?_
     refine Run.region (cx_ok _ _ _) (Reg.op rfl (Ope.mov rfl ?_))
     refine Reg.op rfl (Ope.conv (b:=((wt:Nat):Int)) rfl (wrap_in _ (by omega) (by omega)) ?_)
     refine Reg.op rfl (Ope.quoN (p:=wt) (q:=6) rfl rfl rfl rfl (by decide) (by show _ < 2 ^ 63;omega) ?_)
     refine Reg.op rfl (Ope.remN (p:=wt / 6) (q:=5) rfl rfl rfl rfl (by decide) ?_)
     refine Reg.op rfl (Ope.add rfl rfl (by omega) ?_)
     refine Reg.op rfl (Ope.asg rfl ?_)
     refine Reg.nil (Run.seq (Run.seq (Run.region (cx_ok _ _ _) (Reg.op rfl (Ope.mov rfl ?_)))))
     refine Reg.op rfl (Ope.remN (p:=wt) (q:=6) rfl rfl rfl rfl (by decide) ?_)
     refine Reg.nil (Run.cut (fun e' d' h'=>∃ jb:Job,Lsub [(1,(.sl tb (by'.map U8):PV)),(4,.fp (s.v t1 t2)),(9,.ptr 0 0)] e'∧d'=[]∧(∃ l',h'=HE 2 l'∧hget l' 1=some (.cells (flat ((s.jo.set w jb).map Job.v)++post))∧hget l' 0=some (.cells [.sl t1 (s.su.map I),.ms 1 0 s.jo.length cp ez]))∧JobOk s.su.length s.jo.length w 30 jb∧LaxJ (s.job w) jb) ?_ ?_)
     ·refine Run.block (Run.seq (Run.region (cx_ok _ _ _) (Reg.op rfl (Ope.eq rfl rfl ?_))))
      refine Reg.op rfl (Ope.asg rfl ?_)
      refine Reg.nil (Run.condX rfl (fun hc=>?_) fun hc=>?_)
      ·refine Run.draw (cx_ok _ _ _) [(0,true),(1,true),(2,true),(3,true),(4,true),(5,true),(6,true),(7,true),(8,true),(9,true),(10,true),(11,true),(12,true),(13,true),(14,true),(15,true),(16,true),(17,true)] (by kernel_rfl) (Dra.op' rfl rfl rfl .sure (Ope.mov rfl ?_))
       refine Dra.op' rfl rfl rfl .sure (Ope.mov rfl ?_)
       refine Dra.op' rfl rfl rfl .sure (Ope.nilc rfl rfl ?_)
       refine Dra.op' rfl rfl rfl .sure (Ope.fld rfl rfl ?_)
       refine Dra.op' rfl rfl rfl .sure (Ope.fld rfl rfl ?_)
       refine Dra.op' rfl rfl rfl .sure (Ope.loadL rfl hget_hd (hgf post 1 (by decide) _ (by show 0+w * 8+1+0=_;omega)) ?_)
       refine Dra.op' rfl rfl rfl .sure (Ope.mov rfl ?_)
       refine Dra.op' rfl rfl rfl .sure (Ope.nilc rfl rfl ?_)
       refine Dra.op' rfl rfl rfl .sure (Ope.fld rfl rfl ?_)
       refine Dra.op' rfl rfl rfl .sure (Ope.fld rfl rfl ?_)
       refine Dra.op' rfl rfl rfl .sure (Ope.loadL rfl hget_hd (hgf post 2 (by decide) _ (by show 0+w * 8+1+1=_;omega)) ?_)
       refine Dra.op' rfl rfl rfl .sure (Ope.mov rfl ?_)
       refine Dra.op' rfl rfl rfl .sure (Ope.sub rfl rfl (by omega) ?_)
       refine Dra.op' rfl rfl rfl .sure (Ope.maxI rfl rfl ?_)
       refine Dra.op' rfl rfl rfl .sure (Ope.nilc rfl rfl ?_)
       refine Dra.op' rfl rfl rfl .sure (Ope.fld rfl rfl ?_)
       refine Dra.op' rfl rfl rfl .sure (Ope.fld rfl rfl ?_)
       refine Dra.op' rfl rfl rfl .sure (Ope.storeL rfl rfl hget_hd rfl rfl (by rw [hcl];first | (show 0+w * 8+1+1 < _;omega) | (show 0+w * 8+3 < _;omega) | (show 0+w * 8+4 < _;omega) | (show 0+w * 8+5 < _;omega) | (show 0+w * 8+6 < _;omega) | (show 0+w * 8+7 < _;omega)) ?_)
       refine Dra.nil (Run.bend ?_)
       first
       | exact Run.lend ⟨{ s.jo[w] with hi:=max s.jo[w].lo (s.jo[w].hi - (1+((wt / 6 % 5:Nat):Int))) },⟨rfl,rfl,rfl,trivial⟩,rfl,⟨_,rfl,hget_hd.trans (congrArg (fun l=>some (PBlk.cells l)) (hst post 2 (by decide) _ (fun j=>{ j with hi:=max s.jo[w].lo (s.jo[w].hi - (1+((wt / 6 % 5:Nat):Int))) }) (fun j=>rfl) _ (by show 0+w * 8+1+1=_;omega))),(hget_tl (by decide)).trans rfl⟩,⟨hjob.kd,⟨hmi.1,(by show s.jo[w].lo≤max s.jo[w].lo (s.jo[w].hi - (1+((wt / 6 % 5:Nat):Int)));omega),(by show max s.jo[w].lo (s.jo[w].hi - (1+((wt / 6 % 5:Nat):Int)))≤30;omega)⟩,hfr,hso,hbt,hco,haf⟩,hLx _ ⟨rfl,(by show max s.jo[w].lo (s.jo[w].hi - (1+((wt / 6 % 5:Nat):Int)))≤s.jo[w].hi;omega),Int.le_refl _,Int.le_refl _,Int.le_refl _,Int.le_refl _,hco.1,fun q h=>h⟩⟩
       | exact Run.lend ⟨{ s.jo[w] with fr:=max 0 (s.jo[w].fr - (1+((wt / 6 % 5:Nat):Int))) },⟨rfl,rfl,rfl,trivial⟩,rfl,⟨_,rfl,hget_hd.trans (congrArg (fun l=>some (PBlk.cells l)) (hst post 3 (by decide) _ (fun j=>{ j with fr:=max 0 (s.jo[w].fr - (1+((wt / 6 % 5:Nat):Int))) }) (fun j=>rfl) _ (by show 0+w * 8+3=_;omega))),(hget_tl (by decide)).trans rfl⟩,⟨hjob.kd,hmi,(by show 0≤max 0 (s.jo[w].fr - (1+((wt / 6 % 5:Nat):Int)))∧max 0 (s.jo[w].fr - (1+((wt / 6 % 5:Nat):Int)))≤300;omega),hso,hbt,hco,haf⟩,hLx _ ⟨rfl,Int.le_refl _,(by show max 0 (s.jo[w].fr - (1+((wt / 6 % 5:Nat):Int)))≤s.jo[w].fr;omega),Int.le_refl _,Int.le_refl _,Int.le_refl _,hco.1,fun q h=>h⟩⟩
       | exact Run.lend ⟨{ s.jo[w] with bt:=min 300 (s.jo[w].bt+(1+((wt / 6 % 5:Nat):Int))) },⟨rfl,rfl,rfl,trivial⟩,rfl,⟨_,rfl,hget_hd.trans (congrArg (fun l=>some (PBlk.cells l)) (hst post 5 (by decide) _ (fun j=>{ j with bt:=min 300 (s.jo[w].bt+(1+((wt / 6 % 5:Nat):Int))) }) (fun j=>rfl) _ (by show 0+w * 8+5=_;omega))),(hget_tl (by decide)).trans rfl⟩,⟨hjob.kd,hmi,hfr,hso,(by show 0≤min 300 (s.jo[w].bt+(1+((wt / 6 % 5:Nat):Int)))∧min 300 (s.jo[w].bt+(1+((wt / 6 % 5:Nat):Int)))≤300;omega),hco,haf⟩,hLx _ ⟨rfl,Int.le_refl _,Int.le_refl _,Int.le_refl _,(by show s.jo[w].bt≤min 300 (s.jo[w].bt+(1+((wt / 6 % 5:Nat):Int)));omega),Int.le_refl _,hco.1,fun q h=>h⟩⟩
       | exact Run.lend ⟨{ s.jo[w] with so:=min 300 (s.jo[w].so+(1+((wt / 6 % 5:Nat):Int))) },⟨rfl,rfl,rfl,trivial⟩,rfl,⟨_,rfl,hget_hd.trans (congrArg (fun l=>some (PBlk.cells l)) (hst post 4 (by decide) _ (fun j=>{ j with so:=min 300 (s.jo[w].so+(1+((wt / 6 % 5:Nat):Int))) }) (fun j=>rfl) _ (by show 0+w * 8+4=_;omega))),(hget_tl (by decide)).trans rfl⟩,⟨hjob.kd,hmi,hfr,(by show 0≤min 300 (s.jo[w].so+(1+((wt / 6 % 5:Nat):Int)))∧min 300 (s.jo[w].so+(1+((wt / 6 % 5:Nat):Int)))≤300;omega),hbt,hco,haf⟩,hLx _ ⟨rfl,Int.le_refl _,Int.le_refl _,(by show s.jo[w].so≤min 300 (s.jo[w].so+(1+((wt / 6 % 5:Nat):Int)));omega),Int.le_refl _,Int.le_refl _,hco.1,fun q h=>h⟩⟩
       | exact Run.lend ⟨{ s.jo[w] with co:=max 0 (s.jo[w].co - (1+((wt / 6 % 5:Nat):Int))) },⟨rfl,rfl,rfl,trivial⟩,rfl,⟨_,rfl,hget_hd.trans (congrArg (fun l=>some (PBlk.cells l)) (hst post 6 (by decide) _ (fun j=>{ j with co:=max 0 (s.jo[w].co - (1+((wt / 6 % 5:Nat):Int))) }) (fun j=>rfl) _ (by show 0+w * 8+6=_;omega))),(hget_tl (by decide)).trans rfl⟩,⟨hjob.kd,hmi,hfr,hso,hbt,(by show 0≤max 0 (s.jo[w].co - (1+((wt / 6 % 5:Nat):Int)))∧max 0 (s.jo[w].co - (1+((wt / 6 % 5:Nat):Int)))≤50;omega),haf⟩,hLx _ ⟨rfl,Int.le_refl _,Int.le_refl _,Int.le_refl _,Int.le_refl _,(by show max 0 (s.jo[w].co - (1+((wt / 6 % 5:Nat):Int)))≤s.jo[w].co;omega),(by show 0≤max 0 (s.jo[w].co - (1+((wt / 6 % 5:Nat):Int)));omega),fun q h=>h⟩⟩
       | exact Run.lend ⟨{ s.jo[w] with af:=((a &&& (a - 1):Nat):Int) },⟨rfl,rfl,rfl,trivial⟩,rfl,⟨_,rfl,hget_hd.trans (congrArg (fun l=>some (PBlk.cells l)) (hst post 7 (by decide) _ (fun j=>{ j with af:=((a &&& (a - 1):Nat):Int) }) (fun j=>rfl) _ (by show 0+w * 8+7=_;omega))),(hget_tl (by decide)).trans rfl⟩,⟨hjob.kd,hmi,hfr,hso,hbt,hco,⟨Int.natCast_nonneg _,(by show (((a &&& (a - 1):Nat):Int)).toNat < _∧(((a &&& (a - 1):Nat):Int)).toNat.testBit w=false;rw [hTN];exact haL)⟩⟩,hLx _ ⟨rfl,Int.le_refl _,Int.le_refl _,Int.le_refl _,Int.le_refl _,Int.le_refl _,hco.1,(fun q h=>(by change (((a &&& (a - 1):Nat):Int)).toNat.testBit q=true at h;rw [hTN] at h;rw [ha2];exact low_bit q h))⟩⟩
      ·refine Run.seq (Run.region (cx_ok _ _ _) (Reg.op rfl (Ope.eq rfl rfl ?_)))
       refine Reg.op rfl (Ope.asg rfl ?_)
       refine Reg.nil (Run.condX rfl (fun hc=>?_) fun hc=>?_)
       ·refine Run.region (cx_ok _ _ _) (Reg.op rfl (Ope.mov rfl ?_))
        refine Reg.op rfl (Ope.mov rfl ?_)
        refine Reg.op rfl (Ope.nilc rfl rfl ?_)
        refine Reg.op rfl (Ope.fld rfl rfl ?_)
        refine Reg.op rfl (Ope.loadL rfl hget_hd (hgf post 3 (by decide) _ (by show 0+w * 8+3=_;omega)) ?_)
        refine Reg.op rfl (Ope.mov rfl ?_)
        refine Reg.op rfl (Ope.sub rfl rfl (by omega) ?_)
        refine Reg.op rfl (Ope.maxI rfl rfl ?_)
        refine Reg.op rfl (Ope.nilc rfl rfl ?_)
        refine Reg.op rfl (Ope.fld rfl rfl ?_)
        refine Reg.op0 (Ope.storeL rfl rfl hget_hd rfl rfl (by rw [hcl];first | (show 0+w * 8+1+1 < _;omega) | (show 0+w * 8+3 < _;omega) | (show 0+w * 8+4 < _;omega) | (show 0+w * 8+5 < _;omega) | (show 0+w * 8+6 < _;omega) | (show 0+w * 8+7 < _;omega)) ?_)
        refine Reg.nil (Run.bend ?_)
        first
        | exact Run.lend ⟨{ s.jo[w] with hi:=max s.jo[w].lo (s.jo[w].hi - (1+((wt / 6 % 5:Nat):Int))) },⟨rfl,rfl,rfl,trivial⟩,rfl,⟨_,rfl,hget_hd.trans (congrArg (fun l=>some (PBlk.cells l)) (hst post 2 (by decide) _ (fun j=>{ j with hi:=max s.jo[w].lo (s.jo[w].hi - (1+((wt / 6 % 5:Nat):Int))) }) (fun j=>rfl) _ (by show 0+w * 8+1+1=_;omega))),(hget_tl (by decide)).trans rfl⟩,⟨hjob.kd,⟨hmi.1,(by show s.jo[w].lo≤max s.jo[w].lo (s.jo[w].hi - (1+((wt / 6 % 5:Nat):Int)));omega),(by show max s.jo[w].lo (s.jo[w].hi - (1+((wt / 6 % 5:Nat):Int)))≤30;omega)⟩,hfr,hso,hbt,hco,haf⟩,hLx _ ⟨rfl,(by show max s.jo[w].lo (s.jo[w].hi - (1+((wt / 6 % 5:Nat):Int)))≤s.jo[w].hi;omega),Int.le_refl _,Int.le_refl _,Int.le_refl _,Int.le_refl _,hco.1,fun q h=>h⟩⟩
        | exact Run.lend ⟨{ s.jo[w] with fr:=max 0 (s.jo[w].fr - (1+((wt / 6 % 5:Nat):Int))) },⟨rfl,rfl,rfl,trivial⟩,rfl,⟨_,rfl,hget_hd.trans (congrArg (fun l=>some (PBlk.cells l)) (hst post 3 (by decide) _ (fun j=>{ j with fr:=max 0 (s.jo[w].fr - (1+((wt / 6 % 5:Nat):Int))) }) (fun j=>rfl) _ (by show 0+w * 8+3=_;omega))),(hget_tl (by decide)).trans rfl⟩,⟨hjob.kd,hmi,(by show 0≤max 0 (s.jo[w].fr - (1+((wt / 6 % 5:Nat):Int)))∧max 0 (s.jo[w].fr - (1+((wt / 6 % 5:Nat):Int)))≤300;omega),hso,hbt,hco,haf⟩,hLx _ ⟨rfl,Int.le_refl _,(by show max 0 (s.jo[w].fr - (1+((wt / 6 % 5:Nat):Int)))≤s.jo[w].fr;omega),Int.le_refl _,Int.le_refl _,Int.le_refl _,hco.1,fun q h=>h⟩⟩
        | exact Run.lend ⟨{ s.jo[w] with bt:=min 300 (s.jo[w].bt+(1+((wt / 6 % 5:Nat):Int))) },⟨rfl,rfl,rfl,trivial⟩,rfl,⟨_,rfl,hget_hd.trans (congrArg (fun l=>some (PBlk.cells l)) (hst post 5 (by decide) _ (fun j=>{ j with bt:=min 300 (s.jo[w].bt+(1+((wt / 6 % 5:Nat):Int))) }) (fun j=>rfl) _ (by show 0+w * 8+5=_;omega))),(hget_tl (by decide)).trans rfl⟩,⟨hjob.kd,hmi,hfr,hso,(by show 0≤min 300 (s.jo[w].bt+(1+((wt / 6 % 5:Nat):Int)))∧min 300 (s.jo[w].bt+(1+((wt / 6 % 5:Nat):Int)))≤300;omega),hco,haf⟩,hLx _ ⟨rfl,Int.le_refl _,Int.le_refl _,Int.le_refl _,(by show s.jo[w].bt≤min 300 (s.jo[w].bt+(1+((wt / 6 % 5:Nat):Int)));omega),Int.le_refl _,hco.1,fun q h=>h⟩⟩
        | exact Run.lend ⟨{ s.jo[w] with so:=min 300 (s.jo[w].so+(1+((wt / 6 % 5:Nat):Int))) },⟨rfl,rfl,rfl,trivial⟩,rfl,⟨_,rfl,hget_hd.trans (congrArg (fun l=>some (PBlk.cells l)) (hst post 4 (by decide) _ (fun j=>{ j with so:=min 300 (s.jo[w].so+(1+((wt / 6 % 5:Nat):Int))) }) (fun j=>rfl) _ (by show 0+w * 8+4=_;omega))),(hget_tl (by decide)).trans rfl⟩,⟨hjob.kd,hmi,hfr,(by show 0≤min 300 (s.jo[w].so+(1+((wt / 6 % 5:Nat):Int)))∧min 300 (s.jo[w].so+(1+((wt / 6 % 5:Nat):Int)))≤300;omega),hbt,hco,haf⟩,hLx _ ⟨rfl,Int.le_refl _,Int.le_refl _,(by show s.jo[w].so≤min 300 (s.jo[w].so+(1+((wt / 6 % 5:Nat):Int)));omega),Int.le_refl _,Int.le_refl _,hco.1,fun q h=>h⟩⟩
        | exact Run.lend ⟨{ s.jo[w] with co:=max 0 (s.jo[w].co - (1+((wt / 6 % 5:Nat):Int))) },⟨rfl,rfl,rfl,trivial⟩,rfl,⟨_,rfl,hget_hd.trans (congrArg (fun l=>some (PBlk.cells l)) (hst post 6 (by decide) _ (fun j=>{ j with co:=max 0 (s.jo[w].co - (1+((wt / 6 % 5:Nat):Int))) }) (fun j=>rfl) _ (by show 0+w * 8+6=_;omega))),(hget_tl (by decide)).trans rfl⟩,⟨hjob.kd,hmi,hfr,hso,hbt,(by show 0≤max 0 (s.jo[w].co - (1+((wt / 6 % 5:Nat):Int)))∧max 0 (s.jo[w].co - (1+((wt / 6 % 5:Nat):Int)))≤50;omega),haf⟩,hLx _ ⟨rfl,Int.le_refl _,Int.le_refl _,Int.le_refl _,Int.le_refl _,(by show max 0 (s.jo[w].co - (1+((wt / 6 % 5:Nat):Int)))≤s.jo[w].co;omega),(by show 0≤max 0 (s.jo[w].co - (1+((wt / 6 % 5:Nat):Int)));omega),fun q h=>h⟩⟩
        | exact Run.lend ⟨{ s.jo[w] with af:=((a &&& (a - 1):Nat):Int) },⟨rfl,rfl,rfl,trivial⟩,rfl,⟨_,rfl,hget_hd.trans (congrArg (fun l=>some (PBlk.cells l)) (hst post 7 (by decide) _ (fun j=>{ j with af:=((a &&& (a - 1):Nat):Int) }) (fun j=>rfl) _ (by show 0+w * 8+7=_;omega))),(hget_tl (by decide)).trans rfl⟩,⟨hjob.kd,hmi,hfr,hso,hbt,hco,⟨Int.natCast_nonneg _,(by show (((a &&& (a - 1):Nat):Int)).toNat < _∧(((a &&& (a - 1):Nat):Int)).toNat.testBit w=false;rw [hTN];exact haL)⟩⟩,hLx _ ⟨rfl,Int.le_refl _,Int.le_refl _,Int.le_refl _,Int.le_refl _,Int.le_refl _,hco.1,(fun q h=>(by change (((a &&& (a - 1):Nat):Int)).toNat.testBit q=true at h;rw [hTN] at h;rw [ha2];exact low_bit q h))⟩⟩
       ·refine Run.seq (Run.region (cx_ok _ _ _) (Reg.op rfl (Ope.eq rfl rfl ?_)))
        refine Reg.op rfl (Ope.asg rfl ?_)
        refine Reg.nil (Run.condX rfl (fun hc=>?_) fun hc=>?_)
        ·refine Run.region (cx_ok _ _ _) (Reg.op rfl (Ope.mov rfl ?_))
         refine Reg.op rfl (Ope.mov rfl ?_)
         refine Reg.op rfl (Ope.nilc rfl rfl ?_)
         refine Reg.op rfl (Ope.fld rfl rfl ?_)
         refine Reg.op rfl (Ope.loadL rfl hget_hd (hgf post 5 (by decide) _ (by show 0+w * 8+5=_;omega)) ?_)
         refine Reg.op rfl (Ope.mov rfl ?_)
         refine Reg.op rfl (Ope.add rfl rfl (by omega) ?_)
         refine Reg.op rfl (Ope.minI rfl rfl ?_)
         refine Reg.op rfl (Ope.nilc rfl rfl ?_)
         refine Reg.op rfl (Ope.fld rfl rfl ?_)
         refine Reg.op0 (Ope.storeL rfl rfl hget_hd rfl rfl (by rw [hcl];first | (show 0+w * 8+1+1 < _;omega) | (show 0+w * 8+3 < _;omega) | (show 0+w * 8+4 < _;omega) | (show 0+w * 8+5 < _;omega) | (show 0+w * 8+6 < _;omega) | (show 0+w * 8+7 < _;omega)) ?_)
         refine Reg.nil (Run.bend ?_)
         first
         | exact Run.lend ⟨{ s.jo[w] with hi:=max s.jo[w].lo (s.jo[w].hi - (1+((wt / 6 % 5:Nat):Int))) },⟨rfl,rfl,rfl,trivial⟩,rfl,⟨_,rfl,hget_hd.trans (congrArg (fun l=>some (PBlk.cells l)) (hst post 2 (by decide) _ (fun j=>{ j with hi:=max s.jo[w].lo (s.jo[w].hi - (1+((wt / 6 % 5:Nat):Int))) }) (fun j=>rfl) _ (by show 0+w * 8+1+1=_;omega))),(hget_tl (by decide)).trans rfl⟩,⟨hjob.kd,⟨hmi.1,(by show s.jo[w].lo≤max s.jo[w].lo (s.jo[w].hi - (1+((wt / 6 % 5:Nat):Int)));omega),(by show max s.jo[w].lo (s.jo[w].hi - (1+((wt / 6 % 5:Nat):Int)))≤30;omega)⟩,hfr,hso,hbt,hco,haf⟩,hLx _ ⟨rfl,(by show max s.jo[w].lo (s.jo[w].hi - (1+((wt / 6 % 5:Nat):Int)))≤s.jo[w].hi;omega),Int.le_refl _,Int.le_refl _,Int.le_refl _,Int.le_refl _,hco.1,fun q h=>h⟩⟩
         | exact Run.lend ⟨{ s.jo[w] with fr:=max 0 (s.jo[w].fr - (1+((wt / 6 % 5:Nat):Int))) },⟨rfl,rfl,rfl,trivial⟩,rfl,⟨_,rfl,hget_hd.trans (congrArg (fun l=>some (PBlk.cells l)) (hst post 3 (by decide) _ (fun j=>{ j with fr:=max 0 (s.jo[w].fr - (1+((wt / 6 % 5:Nat):Int))) }) (fun j=>rfl) _ (by show 0+w * 8+3=_;omega))),(hget_tl (by decide)).trans rfl⟩,⟨hjob.kd,hmi,(by show 0≤max 0 (s.jo[w].fr - (1+((wt / 6 % 5:Nat):Int)))∧max 0 (s.jo[w].fr - (1+((wt / 6 % 5:Nat):Int)))≤300;omega),hso,hbt,hco,haf⟩,hLx _ ⟨rfl,Int.le_refl _,(by show max 0 (s.jo[w].fr - (1+((wt / 6 % 5:Nat):Int)))≤s.jo[w].fr;omega),Int.le_refl _,Int.le_refl _,Int.le_refl _,hco.1,fun q h=>h⟩⟩
         | exact Run.lend ⟨{ s.jo[w] with bt:=min 300 (s.jo[w].bt+(1+((wt / 6 % 5:Nat):Int))) },⟨rfl,rfl,rfl,trivial⟩,rfl,⟨_,rfl,hget_hd.trans (congrArg (fun l=>some (PBlk.cells l)) (hst post 5 (by decide) _ (fun j=>{ j with bt:=min 300 (s.jo[w].bt+(1+((wt / 6 % 5:Nat):Int))) }) (fun j=>rfl) _ (by show 0+w * 8+5=_;omega))),(hget_tl (by decide)).trans rfl⟩,⟨hjob.kd,hmi,hfr,hso,(by show 0≤min 300 (s.jo[w].bt+(1+((wt / 6 % 5:Nat):Int)))∧min 300 (s.jo[w].bt+(1+((wt / 6 % 5:Nat):Int)))≤300;omega),hco,haf⟩,hLx _ ⟨rfl,Int.le_refl _,Int.le_refl _,Int.le_refl _,(by show s.jo[w].bt≤min 300 (s.jo[w].bt+(1+((wt / 6 % 5:Nat):Int)));omega),Int.le_refl _,hco.1,fun q h=>h⟩⟩
         | exact Run.lend ⟨{ s.jo[w] with so:=min 300 (s.jo[w].so+(1+((wt / 6 % 5:Nat):Int))) },⟨rfl,rfl,rfl,trivial⟩,rfl,⟨_,rfl,hget_hd.trans (congrArg (fun l=>some (PBlk.cells l)) (hst post 4 (by decide) _ (fun j=>{ j with so:=min 300 (s.jo[w].so+(1+((wt / 6 % 5:Nat):Int))) }) (fun j=>rfl) _ (by show 0+w * 8+4=_;omega))),(hget_tl (by decide)).trans rfl⟩,⟨hjob.kd,hmi,hfr,(by show 0≤min 300 (s.jo[w].so+(1+((wt / 6 % 5:Nat):Int)))∧min 300 (s.jo[w].so+(1+((wt / 6 % 5:Nat):Int)))≤300;omega),hbt,hco,haf⟩,hLx _ ⟨rfl,Int.le_refl _,Int.le_refl _,(by show s.jo[w].so≤min 300 (s.jo[w].so+(1+((wt / 6 % 5:Nat):Int)));omega),Int.le_refl _,Int.le_refl _,hco.1,fun q h=>h⟩⟩
         | exact Run.lend ⟨{ s.jo[w] with co:=max 0 (s.jo[w].co - (1+((wt / 6 % 5:Nat):Int))) },⟨rfl,rfl,rfl,trivial⟩,rfl,⟨_,rfl,hget_hd.trans (congrArg (fun l=>some (PBlk.cells l)) (hst post 6 (by decide) _ (fun j=>{ j with co:=max 0 (s.jo[w].co - (1+((wt / 6 % 5:Nat):Int))) }) (fun j=>rfl) _ (by show 0+w * 8+6=_;omega))),(hget_tl (by decide)).trans rfl⟩,⟨hjob.kd,hmi,hfr,hso,hbt,(by show 0≤max 0 (s.jo[w].co - (1+((wt / 6 % 5:Nat):Int)))∧max 0 (s.jo[w].co - (1+((wt / 6 % 5:Nat):Int)))≤50;omega),haf⟩,hLx _ ⟨rfl,Int.le_refl _,Int.le_refl _,Int.le_refl _,Int.le_refl _,(by show max 0 (s.jo[w].co - (1+((wt / 6 % 5:Nat):Int)))≤s.jo[w].co;omega),(by show 0≤max 0 (s.jo[w].co - (1+((wt / 6 % 5:Nat):Int)));omega),fun q h=>h⟩⟩
         | exact Run.lend ⟨{ s.jo[w] with af:=((a &&& (a - 1):Nat):Int) },⟨rfl,rfl,rfl,trivial⟩,rfl,⟨_,rfl,hget_hd.trans (congrArg (fun l=>some (PBlk.cells l)) (hst post 7 (by decide) _ (fun j=>{ j with af:=((a &&& (a - 1):Nat):Int) }) (fun j=>rfl) _ (by show 0+w * 8+7=_;omega))),(hget_tl (by decide)).trans rfl⟩,⟨hjob.kd,hmi,hfr,hso,hbt,hco,⟨Int.natCast_nonneg _,(by show (((a &&& (a - 1):Nat):Int)).toNat < _∧(((a &&& (a - 1):Nat):Int)).toNat.testBit w=false;rw [hTN];exact haL)⟩⟩,hLx _ ⟨rfl,Int.le_refl _,Int.le_refl _,Int.le_refl _,Int.le_refl _,Int.le_refl _,hco.1,(fun q h=>(by change (((a &&& (a - 1):Nat):Int)).toNat.testBit q=true at h;rw [hTN] at h;rw [ha2];exact low_bit q h))⟩⟩
        ·refine Run.seq (Run.region (cx_ok _ _ _) (Reg.op rfl (Ope.eq rfl rfl ?_)))
         refine Reg.op rfl (Ope.asg rfl ?_)
         refine Reg.nil (Run.condX rfl (fun hc=>?_) fun hc=>?_)
         ·refine Run.region (cx_ok _ _ _) (Reg.op rfl (Ope.mov rfl ?_))
          refine Reg.op rfl (Ope.mov rfl ?_)
          refine Reg.op rfl (Ope.nilc rfl rfl ?_)
          refine Reg.op rfl (Ope.fld rfl rfl ?_)
          refine Reg.op rfl (Ope.loadL rfl hget_hd (hgf post 4 (by decide) _ (by show 0+w * 8+4=_;omega)) ?_)
          refine Reg.op rfl (Ope.mov rfl ?_)
          refine Reg.op rfl (Ope.add rfl rfl (by omega) ?_)
          refine Reg.op rfl (Ope.minI rfl rfl ?_)
          refine Reg.op rfl (Ope.nilc rfl rfl ?_)
          refine Reg.op rfl (Ope.fld rfl rfl ?_)
          refine Reg.op0 (Ope.storeL rfl rfl hget_hd rfl rfl (by rw [hcl];first | (show 0+w * 8+1+1 < _;omega) | (show 0+w * 8+3 < _;omega) | (show 0+w * 8+4 < _;omega) | (show 0+w * 8+5 < _;omega) | (show 0+w * 8+6 < _;omega) | (show 0+w * 8+7 < _;omega)) ?_)
          refine Reg.nil (Run.bend ?_)
          first
          | exact Run.lend ⟨{ s.jo[w] with hi:=max s.jo[w].lo (s.jo[w].hi - (1+((wt / 6 % 5:Nat):Int))) },⟨rfl,rfl,rfl,trivial⟩,rfl,⟨_,rfl,hget_hd.trans (congrArg (fun l=>some (PBlk.cells l)) (hst post 2 (by decide) _ (fun j=>{ j with hi:=max s.jo[w].lo (s.jo[w].hi - (1+((wt / 6 % 5:Nat):Int))) }) (fun j=>rfl) _ (by show 0+w * 8+1+1=_;omega))),(hget_tl (by decide)).trans rfl⟩,⟨hjob.kd,⟨hmi.1,(by show s.jo[w].lo≤max s.jo[w].lo (s.jo[w].hi - (1+((wt / 6 % 5:Nat):Int)));omega),(by show max s.jo[w].lo (s.jo[w].hi - (1+((wt / 6 % 5:Nat):Int)))≤30;omega)⟩,hfr,hso,hbt,hco,haf⟩,hLx _ ⟨rfl,(by show max s.jo[w].lo (s.jo[w].hi - (1+((wt / 6 % 5:Nat):Int)))≤s.jo[w].hi;omega),Int.le_refl _,Int.le_refl _,Int.le_refl _,Int.le_refl _,hco.1,fun q h=>h⟩⟩
          | exact Run.lend ⟨{ s.jo[w] with fr:=max 0 (s.jo[w].fr - (1+((wt / 6 % 5:Nat):Int))) },⟨rfl,rfl,rfl,trivial⟩,rfl,⟨_,rfl,hget_hd.trans (congrArg (fun l=>some (PBlk.cells l)) (hst post 3 (by decide) _ (fun j=>{ j with fr:=max 0 (s.jo[w].fr - (1+((wt / 6 % 5:Nat):Int))) }) (fun j=>rfl) _ (by show 0+w * 8+3=_;omega))),(hget_tl (by decide)).trans rfl⟩,⟨hjob.kd,hmi,(by show 0≤max 0 (s.jo[w].fr - (1+((wt / 6 % 5:Nat):Int)))∧max 0 (s.jo[w].fr - (1+((wt / 6 % 5:Nat):Int)))≤300;omega),hso,hbt,hco,haf⟩,hLx _ ⟨rfl,Int.le_refl _,(by show max 0 (s.jo[w].fr - (1+((wt / 6 % 5:Nat):Int)))≤s.jo[w].fr;omega),Int.le_refl _,Int.le_refl _,Int.le_refl _,hco.1,fun q h=>h⟩⟩
          | exact Run.lend ⟨{ s.jo[w] with bt:=min 300 (s.jo[w].bt+(1+((wt / 6 % 5:Nat):Int))) },⟨rfl,rfl,rfl,trivial⟩,rfl,⟨_,rfl,hget_hd.trans (congrArg (fun l=>some (PBlk.cells l)) (hst post 5 (by decide) _ (fun j=>{ j with bt:=min 300 (s.jo[w].bt+(1+((wt / 6 % 5:Nat):Int))) }) (fun j=>rfl) _ (by show 0+w * 8+5=_;omega))),(hget_tl (by decide)).trans rfl⟩,⟨hjob.kd,hmi,hfr,hso,(by show 0≤min 300 (s.jo[w].bt+(1+((wt / 6 % 5:Nat):Int)))∧min 300 (s.jo[w].bt+(1+((wt / 6 % 5:Nat):Int)))≤300;omega),hco,haf⟩,hLx _ ⟨rfl,Int.le_refl _,Int.le_refl _,Int.le_refl _,(by show s.jo[w].bt≤min 300 (s.jo[w].bt+(1+((wt / 6 % 5:Nat):Int)));omega),Int.le_refl _,hco.1,fun q h=>h⟩⟩
          | exact Run.lend ⟨{ s.jo[w] with so:=min 300 (s.jo[w].so+(1+((wt / 6 % 5:Nat):Int))) },⟨rfl,rfl,rfl,trivial⟩,rfl,⟨_,rfl,hget_hd.trans (congrArg (fun l=>some (PBlk.cells l)) (hst post 4 (by decide) _ (fun j=>{ j with so:=min 300 (s.jo[w].so+(1+((wt / 6 % 5:Nat):Int))) }) (fun j=>rfl) _ (by show 0+w * 8+4=_;omega))),(hget_tl (by decide)).trans rfl⟩,⟨hjob.kd,hmi,hfr,(by show 0≤min 300 (s.jo[w].so+(1+((wt / 6 % 5:Nat):Int)))∧min 300 (s.jo[w].so+(1+((wt / 6 % 5:Nat):Int)))≤300;omega),hbt,hco,haf⟩,hLx _ ⟨rfl,Int.le_refl _,Int.le_refl _,(by show s.jo[w].so≤min 300 (s.jo[w].so+(1+((wt / 6 % 5:Nat):Int)));omega),Int.le_refl _,Int.le_refl _,hco.1,fun q h=>h⟩⟩
          | exact Run.lend ⟨{ s.jo[w] with co:=max 0 (s.jo[w].co - (1+((wt / 6 % 5:Nat):Int))) },⟨rfl,rfl,rfl,trivial⟩,rfl,⟨_,rfl,hget_hd.trans (congrArg (fun l=>some (PBlk.cells l)) (hst post 6 (by decide) _ (fun j=>{ j with co:=max 0 (s.jo[w].co - (1+((wt / 6 % 5:Nat):Int))) }) (fun j=>rfl) _ (by show 0+w * 8+6=_;omega))),(hget_tl (by decide)).trans rfl⟩,⟨hjob.kd,hmi,hfr,hso,hbt,(by show 0≤max 0 (s.jo[w].co - (1+((wt / 6 % 5:Nat):Int)))∧max 0 (s.jo[w].co - (1+((wt / 6 % 5:Nat):Int)))≤50;omega),haf⟩,hLx _ ⟨rfl,Int.le_refl _,Int.le_refl _,Int.le_refl _,Int.le_refl _,(by show max 0 (s.jo[w].co - (1+((wt / 6 % 5:Nat):Int)))≤s.jo[w].co;omega),(by show 0≤max 0 (s.jo[w].co - (1+((wt / 6 % 5:Nat):Int)));omega),fun q h=>h⟩⟩
          | exact Run.lend ⟨{ s.jo[w] with af:=((a &&& (a - 1):Nat):Int) },⟨rfl,rfl,rfl,trivial⟩,rfl,⟨_,rfl,hget_hd.trans (congrArg (fun l=>some (PBlk.cells l)) (hst post 7 (by decide) _ (fun j=>{ j with af:=((a &&& (a - 1):Nat):Int) }) (fun j=>rfl) _ (by show 0+w * 8+7=_;omega))),(hget_tl (by decide)).trans rfl⟩,⟨hjob.kd,hmi,hfr,hso,hbt,hco,⟨Int.natCast_nonneg _,(by show (((a &&& (a - 1):Nat):Int)).toNat < _∧(((a &&& (a - 1):Nat):Int)).toNat.testBit w=false;rw [hTN];exact haL)⟩⟩,hLx _ ⟨rfl,Int.le_refl _,Int.le_refl _,Int.le_refl _,Int.le_refl _,Int.le_refl _,hco.1,(fun q h=>(by change (((a &&& (a - 1):Nat):Int)).toNat.testBit q=true at h;rw [hTN] at h;rw [ha2];exact low_bit q h))⟩⟩
         ·refine Run.seq (Run.region (cx_ok _ _ _) (Reg.op rfl (Ope.eq rfl rfl ?_)))
          refine Reg.op rfl (Ope.asg rfl ?_)
          refine Reg.nil (Run.condX rfl (fun hc=>?_) fun hc=>?_)
          ·refine Run.region (cx_ok _ _ _) (Reg.op rfl (Ope.mov rfl ?_))
           refine Reg.op rfl (Ope.mov rfl ?_)
           refine Reg.op rfl (Ope.nilc rfl rfl ?_)
           refine Reg.op rfl (Ope.fld rfl rfl ?_)
           refine Reg.op rfl (Ope.loadL rfl hget_hd (hgf post 6 (by decide) _ (by show 0+w * 8+6=_;omega)) ?_)
           refine Reg.op rfl (Ope.mov rfl ?_)
           refine Reg.op rfl (Ope.sub rfl rfl (by omega) ?_)
           refine Reg.op rfl (Ope.maxI rfl rfl ?_)
           refine Reg.op rfl (Ope.nilc rfl rfl ?_)
           refine Reg.op rfl (Ope.fld rfl rfl ?_)
           refine Reg.op0 (Ope.storeL rfl rfl hget_hd rfl rfl (by rw [hcl];first | (show 0+w * 8+1+1 < _;omega) | (show 0+w * 8+3 < _;omega) | (show 0+w * 8+4 < _;omega) | (show 0+w * 8+5 < _;omega) | (show 0+w * 8+6 < _;omega) | (show 0+w * 8+7 < _;omega)) ?_)
           refine Reg.nil (Run.bend ?_)
           first
           | exact Run.lend ⟨{ s.jo[w] with hi:=max s.jo[w].lo (s.jo[w].hi - (1+((wt / 6 % 5:Nat):Int))) },⟨rfl,rfl,rfl,trivial⟩,rfl,⟨_,rfl,hget_hd.trans (congrArg (fun l=>some (PBlk.cells l)) (hst post 2 (by decide) _ (fun j=>{ j with hi:=max s.jo[w].lo (s.jo[w].hi - (1+((wt / 6 % 5:Nat):Int))) }) (fun j=>rfl) _ (by show 0+w * 8+1+1=_;omega))),(hget_tl (by decide)).trans rfl⟩,⟨hjob.kd,⟨hmi.1,(by show s.jo[w].lo≤max s.jo[w].lo (s.jo[w].hi - (1+((wt / 6 % 5:Nat):Int)));omega),(by show max s.jo[w].lo (s.jo[w].hi - (1+((wt / 6 % 5:Nat):Int)))≤30;omega)⟩,hfr,hso,hbt,hco,haf⟩,hLx _ ⟨rfl,(by show max s.jo[w].lo (s.jo[w].hi - (1+((wt / 6 % 5:Nat):Int)))≤s.jo[w].hi;omega),Int.le_refl _,Int.le_refl _,Int.le_refl _,Int.le_refl _,hco.1,fun q h=>h⟩⟩
           | exact Run.lend ⟨{ s.jo[w] with fr:=max 0 (s.jo[w].fr - (1+((wt / 6 % 5:Nat):Int))) },⟨rfl,rfl,rfl,trivial⟩,rfl,⟨_,rfl,hget_hd.trans (congrArg (fun l=>some (PBlk.cells l)) (hst post 3 (by decide) _ (fun j=>{ j with fr:=max 0 (s.jo[w].fr - (1+((wt / 6 % 5:Nat):Int))) }) (fun j=>rfl) _ (by show 0+w * 8+3=_;omega))),(hget_tl (by decide)).trans rfl⟩,⟨hjob.kd,hmi,(by show 0≤max 0 (s.jo[w].fr - (1+((wt / 6 % 5:Nat):Int)))∧max 0 (s.jo[w].fr - (1+((wt / 6 % 5:Nat):Int)))≤300;omega),hso,hbt,hco,haf⟩,hLx _ ⟨rfl,Int.le_refl _,(by show max 0 (s.jo[w].fr - (1+((wt / 6 % 5:Nat):Int)))≤s.jo[w].fr;omega),Int.le_refl _,Int.le_refl _,Int.le_refl _,hco.1,fun q h=>h⟩⟩
           | exact Run.lend ⟨{ s.jo[w] with bt:=min 300 (s.jo[w].bt+(1+((wt / 6 % 5:Nat):Int))) },⟨rfl,rfl,rfl,trivial⟩,rfl,⟨_,rfl,hget_hd.trans (congrArg (fun l=>some (PBlk.cells l)) (hst post 5 (by decide) _ (fun j=>{ j with bt:=min 300 (s.jo[w].bt+(1+((wt / 6 % 5:Nat):Int))) }) (fun j=>rfl) _ (by show 0+w * 8+5=_;omega))),(hget_tl (by decide)).trans rfl⟩,⟨hjob.kd,hmi,hfr,hso,(by show 0≤min 300 (s.jo[w].bt+(1+((wt / 6 % 5:Nat):Int)))∧min 300 (s.jo[w].bt+(1+((wt / 6 % 5:Nat):Int)))≤300;omega),hco,haf⟩,hLx _ ⟨rfl,Int.le_refl _,Int.le_refl _,Int.le_refl _,(by show s.jo[w].bt≤min 300 (s.jo[w].bt+(1+((wt / 6 % 5:Nat):Int)));omega),Int.le_refl _,hco.1,fun q h=>h⟩⟩
           | exact Run.lend ⟨{ s.jo[w] with so:=min 300 (s.jo[w].so+(1+((wt / 6 % 5:Nat):Int))) },⟨rfl,rfl,rfl,trivial⟩,rfl,⟨_,rfl,hget_hd.trans (congrArg (fun l=>some (PBlk.cells l)) (hst post 4 (by decide) _ (fun j=>{ j with so:=min 300 (s.jo[w].so+(1+((wt / 6 % 5:Nat):Int))) }) (fun j=>rfl) _ (by show 0+w * 8+4=_;omega))),(hget_tl (by decide)).trans rfl⟩,⟨hjob.kd,hmi,hfr,(by show 0≤min 300 (s.jo[w].so+(1+((wt / 6 % 5:Nat):Int)))∧min 300 (s.jo[w].so+(1+((wt / 6 % 5:Nat):Int)))≤300;omega),hbt,hco,haf⟩,hLx _ ⟨rfl,Int.le_refl _,Int.le_refl _,(by show s.jo[w].so≤min 300 (s.jo[w].so+(1+((wt / 6 % 5:Nat):Int)));omega),Int.le_refl _,Int.le_refl _,hco.1,fun q h=>h⟩⟩
           | exact Run.lend ⟨{ s.jo[w] with co:=max 0 (s.jo[w].co - (1+((wt / 6 % 5:Nat):Int))) },⟨rfl,rfl,rfl,trivial⟩,rfl,⟨_,rfl,hget_hd.trans (congrArg (fun l=>some (PBlk.cells l)) (hst post 6 (by decide) _ (fun j=>{ j with co:=max 0 (s.jo[w].co - (1+((wt / 6 % 5:Nat):Int))) }) (fun j=>rfl) _ (by show 0+w * 8+6=_;omega))),(hget_tl (by decide)).trans rfl⟩,⟨hjob.kd,hmi,hfr,hso,hbt,(by show 0≤max 0 (s.jo[w].co - (1+((wt / 6 % 5:Nat):Int)))∧max 0 (s.jo[w].co - (1+((wt / 6 % 5:Nat):Int)))≤50;omega),haf⟩,hLx _ ⟨rfl,Int.le_refl _,Int.le_refl _,Int.le_refl _,Int.le_refl _,(by show max 0 (s.jo[w].co - (1+((wt / 6 % 5:Nat):Int)))≤s.jo[w].co;omega),(by show 0≤max 0 (s.jo[w].co - (1+((wt / 6 % 5:Nat):Int)));omega),fun q h=>h⟩⟩
           | exact Run.lend ⟨{ s.jo[w] with af:=((a &&& (a - 1):Nat):Int) },⟨rfl,rfl,rfl,trivial⟩,rfl,⟨_,rfl,hget_hd.trans (congrArg (fun l=>some (PBlk.cells l)) (hst post 7 (by decide) _ (fun j=>{ j with af:=((a &&& (a - 1):Nat):Int) }) (fun j=>rfl) _ (by show 0+w * 8+7=_;omega))),(hget_tl (by decide)).trans rfl⟩,⟨hjob.kd,hmi,hfr,hso,hbt,hco,⟨Int.natCast_nonneg _,(by show (((a &&& (a - 1):Nat):Int)).toNat < _∧(((a &&& (a - 1):Nat):Int)).toNat.testBit w=false;rw [hTN];exact haL)⟩⟩,hLx _ ⟨rfl,Int.le_refl _,Int.le_refl _,Int.le_refl _,Int.le_refl _,Int.le_refl _,hco.1,(fun q h=>(by change (((a &&& (a - 1):Nat):Int)).toNat.testBit q=true at h;rw [hTN] at h;rw [ha2];exact low_bit q h))⟩⟩
          ·refine Run.draw (cx_ok _ _ _) [(0,true),(1,true),(2,true),(3,true),(4,true),(5,true),(6,true),(7,true),(8,true),(9,true),(10,true),(11,true),(12,true)] (by kernel_rfl) (Dra.op' rfl rfl rfl .sure (Ope.mov rfl ?_))
           refine Dra.op' rfl rfl rfl .sure (Ope.nilc rfl rfl ?_)
           refine Dra.op' rfl rfl rfl .sure (Ope.fld rfl rfl ?_)
           refine Dra.op' rfl rfl rfl .sure (Ope.loadL rfl hget_hd (hgf post 7 (by decide) _ (by show 0+w * 8+7=_;omega)) ?_)
           refine Dra.op' rfl rfl rfl .sure (Ope.mov rfl ?_)
           refine Dra.op' rfl rfl rfl .sure (Ope.nilc rfl rfl ?_)
           refine Dra.op' rfl rfl rfl .sure (Ope.fld rfl rfl ?_)
           refine Dra.op' rfl rfl rfl .sure (Ope.loadL rfl hget_hd (hgf post 7 (by decide) _ (by show 0+w * 8+7=_;omega)) ?_)
           refine Dra.op' rfl rfl rfl .sure (Ope.sub rfl rfl (by omega) ?_)
           refine Dra.op' rfl rfl rfl .sure (Ope.andLow (p:=a) rfl rfl ha (by rw [ha]) ha64 ?_)
           refine Dra.op' rfl rfl rfl .sure (Ope.nilc rfl rfl ?_)
           refine Dra.op' rfl rfl rfl .sure (Ope.fld rfl rfl ?_)
           refine Dra.op' rfl rfl rfl .sure (Ope.storeL rfl rfl hget_hd rfl rfl (by rw [hcl];first | (show 0+w * 8+1+1 < _;omega) | (show 0+w * 8+3 < _;omega) | (show 0+w * 8+4 < _;omega) | (show 0+w * 8+5 < _;omega) | (show 0+w * 8+6 < _;omega) | (show 0+w * 8+7 < _;omega)) ?_)
           refine Dra.nil (Run.bend ?_)
           first
           | exact Run.lend ⟨{ s.jo[w] with hi:=max s.jo[w].lo (s.jo[w].hi - (1+((wt / 6 % 5:Nat):Int))) },⟨rfl,rfl,rfl,trivial⟩,rfl,⟨_,rfl,hget_hd.trans (congrArg (fun l=>some (PBlk.cells l)) (hst post 2 (by decide) _ (fun j=>{ j with hi:=max s.jo[w].lo (s.jo[w].hi - (1+((wt / 6 % 5:Nat):Int))) }) (fun j=>rfl) _ (by show 0+w * 8+1+1=_;omega))),(hget_tl (by decide)).trans rfl⟩,⟨hjob.kd,⟨hmi.1,(by show s.jo[w].lo≤max s.jo[w].lo (s.jo[w].hi - (1+((wt / 6 % 5:Nat):Int)));omega),(by show max s.jo[w].lo (s.jo[w].hi - (1+((wt / 6 % 5:Nat):Int)))≤30;omega)⟩,hfr,hso,hbt,hco,haf⟩,hLx _ ⟨rfl,(by show max s.jo[w].lo (s.jo[w].hi - (1+((wt / 6 % 5:Nat):Int)))≤s.jo[w].hi;omega),Int.le_refl _,Int.le_refl _,Int.le_refl _,Int.le_refl _,hco.1,fun q h=>h⟩⟩
           | exact Run.lend ⟨{ s.jo[w] with fr:=max 0 (s.jo[w].fr - (1+((wt / 6 % 5:Nat):Int))) },⟨rfl,rfl,rfl,trivial⟩,rfl,⟨_,rfl,hget_hd.trans (congrArg (fun l=>some (PBlk.cells l)) (hst post 3 (by decide) _ (fun j=>{ j with fr:=max 0 (s.jo[w].fr - (1+((wt / 6 % 5:Nat):Int))) }) (fun j=>rfl) _ (by show 0+w * 8+3=_;omega))),(hget_tl (by decide)).trans rfl⟩,⟨hjob.kd,hmi,(by show 0≤max 0 (s.jo[w].fr - (1+((wt / 6 % 5:Nat):Int)))∧max 0 (s.jo[w].fr - (1+((wt / 6 % 5:Nat):Int)))≤300;omega),hso,hbt,hco,haf⟩,hLx _ ⟨rfl,Int.le_refl _,(by show max 0 (s.jo[w].fr - (1+((wt / 6 % 5:Nat):Int)))≤s.jo[w].fr;omega),Int.le_refl _,Int.le_refl _,Int.le_refl _,hco.1,fun q h=>h⟩⟩
           | exact Run.lend ⟨{ s.jo[w] with bt:=min 300 (s.jo[w].bt+(1+((wt / 6 % 5:Nat):Int))) },⟨rfl,rfl,rfl,trivial⟩,rfl,⟨_,rfl,hget_hd.trans (congrArg (fun l=>some (PBlk.cells l)) (hst post 5 (by decide) _ (fun j=>{ j with bt:=min 300 (s.jo[w].bt+(1+((wt / 6 % 5:Nat):Int))) }) (fun j=>rfl) _ (by show 0+w * 8+5=_;omega))),(hget_tl (by decide)).trans rfl⟩,⟨hjob.kd,hmi,hfr,hso,(by show 0≤min 300 (s.jo[w].bt+(1+((wt / 6 % 5:Nat):Int)))∧min 300 (s.jo[w].bt+(1+((wt / 6 % 5:Nat):Int)))≤300;omega),hco,haf⟩,hLx _ ⟨rfl,Int.le_refl _,Int.le_refl _,Int.le_refl _,(by show s.jo[w].bt≤min 300 (s.jo[w].bt+(1+((wt / 6 % 5:Nat):Int)));omega),Int.le_refl _,hco.1,fun q h=>h⟩⟩
           | exact Run.lend ⟨{ s.jo[w] with so:=min 300 (s.jo[w].so+(1+((wt / 6 % 5:Nat):Int))) },⟨rfl,rfl,rfl,trivial⟩,rfl,⟨_,rfl,hget_hd.trans (congrArg (fun l=>some (PBlk.cells l)) (hst post 4 (by decide) _ (fun j=>{ j with so:=min 300 (s.jo[w].so+(1+((wt / 6 % 5:Nat):Int))) }) (fun j=>rfl) _ (by show 0+w * 8+4=_;omega))),(hget_tl (by decide)).trans rfl⟩,⟨hjob.kd,hmi,hfr,(by show 0≤min 300 (s.jo[w].so+(1+((wt / 6 % 5:Nat):Int)))∧min 300 (s.jo[w].so+(1+((wt / 6 % 5:Nat):Int)))≤300;omega),hbt,hco,haf⟩,hLx _ ⟨rfl,Int.le_refl _,Int.le_refl _,(by show s.jo[w].so≤min 300 (s.jo[w].so+(1+((wt / 6 % 5:Nat):Int)));omega),Int.le_refl _,Int.le_refl _,hco.1,fun q h=>h⟩⟩
           | exact Run.lend ⟨{ s.jo[w] with co:=max 0 (s.jo[w].co - (1+((wt / 6 % 5:Nat):Int))) },⟨rfl,rfl,rfl,trivial⟩,rfl,⟨_,rfl,hget_hd.trans (congrArg (fun l=>some (PBlk.cells l)) (hst post 6 (by decide) _ (fun j=>{ j with co:=max 0 (s.jo[w].co - (1+((wt / 6 % 5:Nat):Int))) }) (fun j=>rfl) _ (by show 0+w * 8+6=_;omega))),(hget_tl (by decide)).trans rfl⟩,⟨hjob.kd,hmi,hfr,hso,hbt,(by show 0≤max 0 (s.jo[w].co - (1+((wt / 6 % 5:Nat):Int)))∧max 0 (s.jo[w].co - (1+((wt / 6 % 5:Nat):Int)))≤50;omega),haf⟩,hLx _ ⟨rfl,Int.le_refl _,Int.le_refl _,Int.le_refl _,Int.le_refl _,(by show max 0 (s.jo[w].co - (1+((wt / 6 % 5:Nat):Int)))≤s.jo[w].co;omega),(by show 0≤max 0 (s.jo[w].co - (1+((wt / 6 % 5:Nat):Int)));omega),fun q h=>h⟩⟩
           | exact Run.lend ⟨{ s.jo[w] with af:=((a &&& (a - 1):Nat):Int) },⟨rfl,rfl,rfl,trivial⟩,rfl,⟨_,rfl,hget_hd.trans (congrArg (fun l=>some (PBlk.cells l)) (hst post 7 (by decide) _ (fun j=>{ j with af:=((a &&& (a - 1):Nat):Int) }) (fun j=>rfl) _ (by show 0+w * 8+7=_;omega))),(hget_tl (by decide)).trans rfl⟩,⟨hjob.kd,hmi,hfr,hso,hbt,hco,⟨Int.natCast_nonneg _,(by show (((a &&& (a - 1):Nat):Int)).toNat < _∧(((a &&& (a - 1):Nat):Int)).toNat.testBit w=false;rw [hTN];exact haL)⟩⟩,hLx _ ⟨rfl,Int.le_refl _,Int.le_refl _,Int.le_refl _,Int.le_refl _,Int.le_refl _,hco.1,(fun q h=>(by change (((a &&& (a - 1):Nat):Int)).toNat.testBit q=true at h;rw [hTN] at h;rw [ha2];exact low_bit q h))⟩⟩
     ·rintro e' d' h' ⟨jb, hsb, rfl, ⟨l', rfl, hl1, hl0⟩, hjo2, hjl2⟩
      refine Run.less hsb ?_
      refine Run.frzB (x:=0) (i:=1) (pre:=[.sl t1 (s.su.map I)]) (suf:=[]) (vs:=(s.jo.set w jb).map Job.v) (post:=post) (sz:=8) hl0 hl1 (by decide) (by simp) hcp' (by intro v hv;obtain ⟨_,_,rfl⟩:=List.mem_map.1 hv;rfl) ?_
      refine Run.frz (d:=9) true rfl hget_hd rfl ?_
      refine Run.wide (m:=2) (l':=[]) (Nat.le_refl _) trivial ?_
      have hL:=set_lax hs hwl hjl2
      have hx:=set_ok hs hwl hjo2
      obtain ⟨x,hxe⟩:∃ x:Shp,x=⟨s.su,s.jo.set w jb⟩:=⟨_,rfl⟩
      rw [← hxe] at hL hx
      refine Run.less (show Lsub [(1,(.sl tb (by'.map U8):PV)),(4,.fp (s.v t1 t2)),(9,.fp (x.v t1 .no))] _ from ⟨rfl,rfl,(by rw [hxe];rfl),trivial⟩) ?_
      clear hxe hsb hl1 hl0
      have hvx:=ok_val hx
      have hxn:=hL.n
      have homx:Ordr x.jo.length om:=by rw [hxn];exact hom
      have hrg:=f37 s h1 h2 hv hs tm htm om hom
      have hrx:=f37 x h1 (t2:=.no) rfl hvx hx tm htm om homx
      have hrr:s.rgt om=true→x.rgt om=true:=fun h=>lax_rgt hL hom.lt h
      have hcn:=f39 s h1 h2 hv hs tm htm om hom
      have hcx:=f39 x h1 (t2:=.no) rfl hvx hx tm htm om homx
      have hcc:x.cst Shp.p0 om≤s.cst Shp.p0 om:=lax_cst hL om _ _ (plax_0 hL) hom.lt
      have hco:=f20ok s h1 h2 hv hs
      have hcox:=f20ok x h1 (t2:=.no) rfl hvx hx
      have hnn:s.all.n≤x.all.n:=lax_all hL
      have hdr:=f30ok s h1 h2 hv hs
      have hdrx:=f30ok x h1 (t2:=.no) rfl hvx hx
      have hdd:=lax_drp hL
      have h64:2 ^ s.jo.length≤2 ^ 6:=Nat.pow_le_pow_right (by decide) hl6
      have hsz:=f44 s.drp (Nat.lt_of_lt_of_le (drp_spec s).1 h64)
      have hszx:=f44 x.drp (by have:=(drp_spec x).1;rw [hxn] at this;omega)
      have hbe:=bestF h1 h2 hs
      have hbex:=bestF h1 (t2:=.no) rfl hx
      have hun:=untilF h1 h2 hs
      have hunx:=untilF h1 (t2:=.no) rfl hx
      have htd:=lax_told hL
      have hbox:PV.bds 0 [x.v t1 .no,.sl tm (om.map N)]=true:=bd_ord x h1 rfl tm htm om
      have hbsx:PV.bds 0 [x.v t1 .no]=true:=bd_shpV x h1 rfl rfl
      generalize s.rgt om=r at *
      generalize x.rgt om=rx at *
      generalize s.cst Shp.p0 om=k0 at *
      generalize x.cst Shp.p0 om=kx at *
      generalize s.all.n=na at *
      generalize x.all.n=nx at *
      generalize cn s.drp=ds at *
      generalize cn x.drp=dx at *
      generalize s.drp=dr at *
      generalize x.drp=drx at *
      generalize bC s.all=bc at *
      generalize bC x.all=bcx at *
      generalize bE s.all=be at *
      generalize bE x.all=bex at *
      generalize bU s.all=bu at *
      generalize bU x.all=bux at *
      generalize bO s.all=bo at *
      generalize bO x.all=box at *
      generalize bT s.all=bt at *
      generalize bT x.all=btx at *
      refine Run.seq (Run.seq (Run.region (cx_ok _ _ _) (Reg.op rfl (Ope.load rfl rfl ?_))))
      refine Reg.op rfl (Ope.mov rfl ?_)
      refine Reg.op rfl (Ope.cf rfl rfl hma hbm ?_)
      refine Reg.op rfl (Ope.asg rfl ?_)
      refine Reg.nil (Run.seq (Run.cut (fun e' d' h'=>Lsub [(4,.fp (s.v t1 t2)),(9,.fp (x.v t1 .no)),(12,.sl tm (om.map N)),(163,B false)] e'∧d'=[]∧h'=HE 2 []) ?_ ?_))
      ·refine Run.draw (cx_ok _ _ _) [(0,true),(1,true),(2,true),(3,true),(4,true),(5,true),(6,true),(7,true),(8,true),(9,true),(10,true),(12,false),(13,true),(11,true),(14,true),(15,true),(16,true),(17,true)] (by kernel_rfl) (Dra.op' rfl rfl rfl .sure (Ope.load rfl rfl ?_))
       refine Dra.op' rfl rfl rfl .sure (Ope.mov rfl ?_)
       refine Dra.op' rfl rfl rfl .sure (Ope.cf rfl rfl hrg hbo ?_)
       refine Dra.op' rfl rfl rfl .sure (Ope.mov rfl ?_)
       refine Dra.splitX rfl rfl rfl rfl (fun hg=>?_) fun hg=>?_
       ·first
        |(first | (exfalso;omega) | (exfalso;simp at hg;done))
        |refine Dra.on' rfl rfl rfl rfl rfl .sure (Ope.load rfl rfl ?_)
         refine Dra.on' rfl rfl rfl rfl rfl .sure (Ope.mov rfl ?_)
         refine Dra.on' rfl rfl rfl rfl rfl .sure (Ope.cf rfl rfl hrx hbox ?_)
         refine Dra.on' rfl rfl rfl rfl rfl .sure (Ope.not rfl ?_)
         refine Dra.on' rfl rfl rfl rfl rfl .sure (Ope.mov rfl ?_)
         refine Dra.splitX rfl rfl rfl rfl (fun hg=>?_) fun hg=>?_
         ·first
          |(first | (exfalso;omega) | (exfalso;simp at hg;done))
          |refine Dra.off' rfl rfl rfl (.inl rfl) rfl (Dra.off' rfl rfl rfl (.inl rfl) rfl (Dra.off' rfl rfl rfl (.inl rfl) rfl (Dra.off' rfl rfl rfl (.inl rfl) rfl (Dra.off' rfl rfl rfl (.inl rfl) rfl (Dra.off' rfl rfl rfl (.inl rfl) rfl (Dra.off' rfl rfl rfl (.inl rfl) rfl (Dra.on' rfl rfl rfl rfl rfl .sure (Ope.pickT rfl rfl ?_))))))))
           refine Dra.op' rfl rfl rfl .sure (Ope.pickT rfl rfl ?_)
           refine Dra.nil ?_
           first | exact Run.lend ⟨⟨rfl,rfl,rfl,rfl,trivial⟩,rfl,rfl⟩ | exact Run.lend ⟨⟨rfl,rfl,rfl,congrArg (fun b=>some (B b)) (decide_eq_false (by omega)),trivial⟩,rfl,rfl⟩ | (exfalso;omega) | (exfalso;simp_all;done)
         ·first
          |(first | (exfalso;omega) | (exfalso;simp at hg;done))
          |refine Dra.on' rfl rfl rfl rfl rfl .sure (Ope.load rfl rfl ?_)
           refine Dra.on' rfl rfl rfl rfl rfl .sure (Ope.mov rfl ?_)
           refine Dra.on' rfl rfl rfl rfl rfl (.load rfl) (Ope.load rfl rfl ?_)
           refine Dra.on' rfl rfl rfl rfl rfl .sure (Ope.mov rfl ?_)
           refine Dra.on' rfl rfl rfl rfl rfl .sure (Ope.cf rfl rfl hcx hbox ?_)
           refine Dra.on' rfl rfl rfl rfl rfl .sure (Ope.cf rfl rfl hcn hbo ?_)
           refine Dra.on' rfl rfl rfl rfl rfl .sure (Ope.gt rfl rfl ?_)
           refine Dra.on' rfl rfl rfl rfl rfl .sure (Ope.pickF rfl rfl ?_)
           refine Dra.op' rfl rfl rfl .sure (Ope.pickT rfl rfl ?_)
           refine Dra.nil ?_
           first | exact Run.lend ⟨⟨rfl,rfl,rfl,rfl,trivial⟩,rfl,rfl⟩ | exact Run.lend ⟨⟨rfl,rfl,rfl,congrArg (fun b=>some (B b)) (decide_eq_false (by omega)),trivial⟩,rfl,rfl⟩ | (exfalso;omega) | (exfalso;simp_all;done)
       ·first
        |(first | (exfalso;omega) | (exfalso;simp at hg;done))
        |refine Dra.off' rfl rfl rfl (.inl rfl) rfl (Dra.off' rfl rfl rfl (.inl rfl) rfl (Dra.off' rfl rfl rfl (.inl rfl) rfl (Dra.off' rfl rfl rfl (.inl rfl) rfl (Dra.off' rfl rfl rfl (.inl rfl) rfl (Dra.off' rfl rfl rfl (.inr rfl) rfl (Dra.off' rfl rfl rfl (.inr rfl) rfl (Dra.off' rfl rfl rfl (.inr rfl) rfl (Dra.off' rfl rfl rfl (.inr rfl) rfl (Dra.off' rfl rfl rfl (.inr rfl) rfl (Dra.off' rfl rfl rfl (.inr rfl) rfl (Dra.off' rfl rfl rfl (.inr rfl) rfl (Dra.off' rfl rfl rfl (.inl rfl) rfl (Dra.op' rfl rfl rfl .sure (Ope.pickF rfl rfl ?_))))))))))))))
         refine Dra.nil ?_
         first | exact Run.lend ⟨⟨rfl,rfl,rfl,rfl,trivial⟩,rfl,rfl⟩ | exact Run.lend ⟨⟨rfl,rfl,rfl,congrArg (fun b=>some (B b)) (decide_eq_false (by omega)),trivial⟩,rfl,rfl⟩ | (exfalso;omega) | (exfalso;simp_all;done)
      ·rintro e' d' h' ⟨hsb2, rfl, rfl⟩; refine Run.less hsb2 ?_
       refine Run.condX rfl (fun hc=>?_) fun hc=>?_
       ·cases hc
       ·refine Run.skip (Run.seq (Run.region (cx_ok _ _ _) (Reg.op rfl (Ope.load rfl rfl ?_))))
        refine Reg.op rfl (Ope.cf rfl rfl hco hbs ?_)
        refine Reg.op rfl (Ope.mov rfl ?_)
        refine Reg.op rfl (Ope.ext rfl rfl ?_)
        refine Reg.op rfl (Ope.ext rfl rfl ?_)
        refine Reg.op rfl (Ope.asg rfl ?_)
        refine Reg.op rfl (Ope.asg rfl ?_)
        refine Reg.nil (Run.seq (Run.region (cx_ok _ _ _) (Reg.op rfl (Ope.load rfl rfl ?_))))
        refine Reg.op rfl (Ope.cf rfl rfl hcox hbsx ?_)
        refine Reg.op rfl (Ope.mov rfl ?_)
        refine Reg.op rfl (Ope.ext rfl rfl ?_)
        refine Reg.op rfl (Ope.ext rfl rfl ?_)
        refine Reg.op rfl (Ope.asg rfl ?_)
        refine Reg.op rfl (Ope.asg rfl ?_)
        refine Reg.nil (Run.seq (Run.region (cx_ok _ _ _) (Reg.op rfl (Ope.load rfl rfl ?_))))
        refine Reg.op rfl (Ope.cf rfl rfl hdr hbs ?_)
        refine Reg.op rfl (Ope.mov rfl ?_)
        refine Reg.op rfl (Ope.ext rfl rfl ?_)
        refine Reg.op rfl (Ope.ext rfl rfl ?_)
        refine Reg.op rfl (Ope.asg rfl ?_)
        refine Reg.op rfl (Ope.asg rfl ?_)
        refine Reg.nil (Run.seq (Run.region (cx_ok _ _ _) (Reg.op rfl (Ope.load rfl rfl ?_))))
        refine Reg.op rfl (Ope.cf rfl rfl hdrx hbsx ?_)
        refine Reg.op rfl (Ope.mov rfl ?_)
        refine Reg.op rfl (Ope.ext rfl rfl ?_)
        refine Reg.op rfl (Ope.ext rfl rfl ?_)
        refine Reg.op rfl (Ope.asg rfl ?_)
        refine Reg.op rfl (Ope.asg rfl ?_)
        refine Reg.nil (Run.seq (Run.region (cx_ok _ _ _) (Reg.op rfl (Ope.asg rfl ?_))))
        refine Reg.nil (Run.seq (Run.seq (Run.cut (fun e' d' h'=>Lsub [(4,.fp (s.v t1 t2)),(9,.fp (x.v t1 .no)),(219,B false)] e'∧d'=[]∧h'=HE 2 []) ?_ ?_)))
        ·refine Run.region (cx_ok _ _ _) (Reg.op rfl (Ope.mov rfl ?_))
         refine Reg.op rfl (Ope.ne rfl rfl ?_)
         refine Reg.op rfl (Ope.mov rfl ?_)
         refine Reg.splitX rfl rfl (fun hg=>?_) fun hg=>?_
         ·first
          |(first | (exfalso;omega) | (exfalso;simp at hg;done))
          |refine Reg.off rfl rfl rfl (Reg.off rfl rfl rfl (Reg.op rfl (Ope.pickT rfl rfl ?_)))
           refine Reg.op rfl (Ope.mov rfl ?_)
           refine Reg.off rfl rfl rfl (Reg.off rfl rfl rfl (Reg.off rfl rfl rfl (Reg.op rfl (Ope.pickT rfl rfl ?_))))
           refine Reg.op rfl (Ope.mov rfl ?_)
           refine Reg.off rfl rfl rfl (Reg.off rfl rfl rfl (Reg.op rfl (Ope.pickT rfl rfl ?_)))
           refine Reg.op rfl (Ope.mov rfl ?_)
           refine Reg.off rfl rfl rfl (Reg.off rfl rfl rfl (Reg.op rfl (Ope.pickT rfl rfl ?_)))
           refine Reg.op rfl (Ope.mov rfl ?_)
           refine Reg.off rfl rfl rfl (Reg.off rfl rfl rfl (Reg.op rfl (Ope.pickT rfl rfl ?_)))
           refine Reg.op rfl (Ope.mov rfl ?_)
           refine Reg.off rfl rfl rfl (Reg.off rfl rfl rfl (Reg.op rfl (Ope.pickT rfl rfl ?_)))
           refine Reg.op rfl (Ope.mov rfl ?_)
           refine Reg.off rfl rfl rfl (Reg.off rfl rfl rfl (Reg.off rfl rfl rfl (Reg.off rfl rfl rfl (Reg.off rfl rfl rfl (Reg.off rfl rfl rfl (Reg.off rfl rfl rfl (Reg.op rfl (Ope.pickT rfl rfl ?_))))))))
           refine Reg.nil ?_
           first | exact Run.lend ⟨⟨rfl,rfl,rfl,trivial⟩,rfl,rfl⟩ | exact Run.lend ⟨⟨rfl,rfl,congrArg (fun b=>some (B b)) (decide_eq_false (by omega)),trivial⟩,rfl,rfl⟩ | (exfalso;omega) | (exfalso;simp_all;done)
         ·first
          |(first | (exfalso;omega) | (exfalso;simp at hg;done))
          |refine Reg.on rfl rfl rfl (Ope.mov rfl ?_)
           refine Reg.on rfl rfl rfl (Ope.ne rfl rfl ?_)
           refine Reg.op rfl (Ope.pickF rfl rfl ?_)
           refine Reg.op rfl (Ope.mov rfl ?_)
           refine Reg.splitX rfl rfl (fun hg=>?_) fun hg=>?_
           ·first
            |(first | (exfalso;omega) | (exfalso;simp at hg;done))
            |refine Reg.off rfl rfl rfl (Reg.off rfl rfl rfl (Reg.off rfl rfl rfl (Reg.op rfl (Ope.pickT rfl rfl ?_))))
             refine Reg.op rfl (Ope.mov rfl ?_)
             refine Reg.off rfl rfl rfl (Reg.off rfl rfl rfl (Reg.op rfl (Ope.pickT rfl rfl ?_)))
             refine Reg.op rfl (Ope.mov rfl ?_)
             refine Reg.off rfl rfl rfl (Reg.off rfl rfl rfl (Reg.op rfl (Ope.pickT rfl rfl ?_)))
             refine Reg.op rfl (Ope.mov rfl ?_)
             refine Reg.off rfl rfl rfl (Reg.off rfl rfl rfl (Reg.op rfl (Ope.pickT rfl rfl ?_)))
             refine Reg.op rfl (Ope.mov rfl ?_)
             refine Reg.off rfl rfl rfl (Reg.off rfl rfl rfl (Reg.op rfl (Ope.pickT rfl rfl ?_)))
             refine Reg.op rfl (Ope.mov rfl ?_)
             refine Reg.off rfl rfl rfl (Reg.off rfl rfl rfl (Reg.off rfl rfl rfl (Reg.off rfl rfl rfl (Reg.off rfl rfl rfl (Reg.off rfl rfl rfl (Reg.off rfl rfl rfl (Reg.op rfl (Ope.pickT rfl rfl ?_))))))))
             refine Reg.nil ?_
             first | exact Run.lend ⟨⟨rfl,rfl,rfl,trivial⟩,rfl,rfl⟩ | exact Run.lend ⟨⟨rfl,rfl,congrArg (fun b=>some (B b)) (decide_eq_false (by omega)),trivial⟩,rfl,rfl⟩ | (exfalso;omega) | (exfalso;simp_all;done)
           ·first
            |(first | (exfalso;omega) | (exfalso;simp at hg;done))
            |refine Reg.on rfl rfl rfl (Ope.mov rfl ?_)
             refine Reg.on rfl rfl rfl (Ope.mov rfl ?_)
             refine Reg.on rfl rfl rfl (Ope.lt rfl rfl ?_)
             refine Reg.op rfl (Ope.pickF rfl rfl ?_)
             refine Reg.op rfl (Ope.mov rfl ?_)
             refine Reg.splitX rfl rfl (fun hg=>?_) fun hg=>?_
             ·first
              |(first | (exfalso;omega) | (exfalso;simp at hg;done))
              |refine Reg.off rfl rfl rfl (Reg.off rfl rfl rfl (Reg.op rfl (Ope.pickT rfl rfl ?_)))
               refine Reg.op rfl (Ope.mov rfl ?_)
               refine Reg.off rfl rfl rfl (Reg.off rfl rfl rfl (Reg.op rfl (Ope.pickT rfl rfl ?_)))
               refine Reg.op rfl (Ope.mov rfl ?_)
               refine Reg.off rfl rfl rfl (Reg.off rfl rfl rfl (Reg.op rfl (Ope.pickT rfl rfl ?_)))
               refine Reg.op rfl (Ope.mov rfl ?_)
               refine Reg.off rfl rfl rfl (Reg.off rfl rfl rfl (Reg.op rfl (Ope.pickT rfl rfl ?_)))
               refine Reg.op rfl (Ope.mov rfl ?_)
               refine Reg.off rfl rfl rfl (Reg.off rfl rfl rfl (Reg.off rfl rfl rfl (Reg.off rfl rfl rfl (Reg.off rfl rfl rfl (Reg.off rfl rfl rfl (Reg.off rfl rfl rfl (Reg.op rfl (Ope.pickT rfl rfl ?_))))))))
               refine Reg.nil ?_
               first | exact Run.lend ⟨⟨rfl,rfl,rfl,trivial⟩,rfl,rfl⟩ | exact Run.lend ⟨⟨rfl,rfl,congrArg (fun b=>some (B b)) (decide_eq_false (by omega)),trivial⟩,rfl,rfl⟩ | (exfalso;omega) | (exfalso;simp_all;done)
             ·first
              |(first | (exfalso;omega) | (exfalso;simp at hg;done))
              |refine Reg.on rfl rfl rfl (Ope.mov rfl ?_)
               refine Reg.on rfl rfl rfl (Ope.ne rfl rfl ?_)
               refine Reg.op rfl (Ope.pickF rfl rfl ?_)
               refine Reg.op rfl (Ope.mov rfl ?_)
               refine Reg.splitX rfl rfl (fun hg=>?_) fun hg=>?_
               ·first
                |(first | (exfalso;omega) | (exfalso;simp at hg;done))
                |refine Reg.off rfl rfl rfl (Reg.off rfl rfl rfl (Reg.op rfl (Ope.pickT rfl rfl ?_)))
                 refine Reg.op rfl (Ope.mov rfl ?_)
                 refine Reg.off rfl rfl rfl (Reg.off rfl rfl rfl (Reg.op rfl (Ope.pickT rfl rfl ?_)))
                 refine Reg.op rfl (Ope.mov rfl ?_)
                 refine Reg.off rfl rfl rfl (Reg.off rfl rfl rfl (Reg.op rfl (Ope.pickT rfl rfl ?_)))
                 refine Reg.op rfl (Ope.mov rfl ?_)
                 refine Reg.off rfl rfl rfl (Reg.off rfl rfl rfl (Reg.off rfl rfl rfl (Reg.off rfl rfl rfl (Reg.off rfl rfl rfl (Reg.off rfl rfl rfl (Reg.off rfl rfl rfl (Reg.op rfl (Ope.pickT rfl rfl ?_))))))))
                 refine Reg.nil ?_
                 first | exact Run.lend ⟨⟨rfl,rfl,rfl,trivial⟩,rfl,rfl⟩ | exact Run.lend ⟨⟨rfl,rfl,congrArg (fun b=>some (B b)) (decide_eq_false (by omega)),trivial⟩,rfl,rfl⟩ | (exfalso;omega) | (exfalso;simp_all;done)
               ·first
                |(first | (exfalso;omega) | (exfalso;simp at hg;done))
                |refine Reg.on rfl rfl rfl (Ope.mov rfl ?_)
                 refine Reg.on rfl rfl rfl (Ope.ne rfl rfl ?_)
                 refine Reg.op rfl (Ope.pickF rfl rfl ?_)
                 refine Reg.op rfl (Ope.mov rfl ?_)
                 refine Reg.splitX rfl rfl (fun hg=>?_) fun hg=>?_
                 ·first
                  |(first | (exfalso;omega) | (exfalso;simp at hg;done))
                  |refine Reg.off rfl rfl rfl (Reg.off rfl rfl rfl (Reg.op rfl (Ope.pickT rfl rfl ?_)))
                   refine Reg.op rfl (Ope.mov rfl ?_)
                   refine Reg.off rfl rfl rfl (Reg.off rfl rfl rfl (Reg.op rfl (Ope.pickT rfl rfl ?_)))
                   refine Reg.op rfl (Ope.mov rfl ?_)
                   refine Reg.off rfl rfl rfl (Reg.off rfl rfl rfl (Reg.off rfl rfl rfl (Reg.off rfl rfl rfl (Reg.off rfl rfl rfl (Reg.off rfl rfl rfl (Reg.off rfl rfl rfl (Reg.op rfl (Ope.pickT rfl rfl ?_))))))))
                   refine Reg.nil ?_
                   first | exact Run.lend ⟨⟨rfl,rfl,rfl,trivial⟩,rfl,rfl⟩ | exact Run.lend ⟨⟨rfl,rfl,congrArg (fun b=>some (B b)) (decide_eq_false (by omega)),trivial⟩,rfl,rfl⟩ | (exfalso;omega) | (exfalso;simp_all;done)
                 ·first
                  |(first | (exfalso;omega) | (exfalso;simp at hg;done))
                  |refine Reg.on rfl rfl rfl (Ope.mov rfl ?_)
                   refine Reg.on rfl rfl rfl (Ope.lt rfl rfl ?_)
                   refine Reg.op rfl (Ope.pickF rfl rfl ?_)
                   refine Reg.op rfl (Ope.mov rfl ?_)
                   refine Reg.splitX rfl rfl (fun hg=>?_) fun hg=>?_
                   ·first
                    |(first | (exfalso;omega) | (exfalso;simp at hg;done))
                    |refine Reg.off rfl rfl rfl (Reg.off rfl rfl rfl (Reg.op rfl (Ope.pickT rfl rfl ?_)))
                     refine Reg.op rfl (Ope.mov rfl ?_)
                     refine Reg.off rfl rfl rfl (Reg.off rfl rfl rfl (Reg.off rfl rfl rfl (Reg.off rfl rfl rfl (Reg.off rfl rfl rfl (Reg.off rfl rfl rfl (Reg.off rfl rfl rfl (Reg.op rfl (Ope.pickT rfl rfl ?_))))))))
                     refine Reg.nil ?_
                     first | exact Run.lend ⟨⟨rfl,rfl,rfl,trivial⟩,rfl,rfl⟩ | exact Run.lend ⟨⟨rfl,rfl,congrArg (fun b=>some (B b)) (decide_eq_false (by omega)),trivial⟩,rfl,rfl⟩ | (exfalso;omega) | (exfalso;simp_all;done)
                   ·first
                    |(first | (exfalso;omega) | (exfalso;simp at hg;done))
                    |refine Reg.on rfl rfl rfl (Ope.mov rfl ?_)
                     refine Reg.on rfl rfl rfl (Ope.lt rfl rfl ?_)
                     refine Reg.op rfl (Ope.pickF rfl rfl ?_)
                     refine Reg.op rfl (Ope.mov rfl ?_)
                     refine Reg.splitX rfl rfl (fun hg=>?_) fun hg=>?_
                     ·first
                      |(first | (exfalso;omega) | (exfalso;simp at hg;done))
                      |refine Reg.off rfl rfl rfl (Reg.off rfl rfl rfl (Reg.off rfl rfl rfl (Reg.off rfl rfl rfl (Reg.off rfl rfl rfl (Reg.off rfl rfl rfl (Reg.off rfl rfl rfl (Reg.op rfl (Ope.pickT rfl rfl ?_))))))))
                       refine Reg.nil ?_
                       first | exact Run.lend ⟨⟨rfl,rfl,rfl,trivial⟩,rfl,rfl⟩ | exact Run.lend ⟨⟨rfl,rfl,congrArg (fun b=>some (B b)) (decide_eq_false (by omega)),trivial⟩,rfl,rfl⟩ | (exfalso;omega) | (exfalso;simp_all;done)
                     ·first
                      |(first | (exfalso;omega) | (exfalso;simp at hg;done))
                      |refine Reg.on rfl rfl rfl (Ope.mov rfl ?_)
                       refine Reg.on rfl rfl rfl (Ope.mov rfl ?_)
                       refine Reg.on rfl rfl rfl (Ope.cf rfl rfl hszx rfl ?_)
                       refine Reg.on rfl rfl rfl (Ope.mov rfl ?_)
                       refine Reg.on rfl rfl rfl (Ope.mov rfl ?_)
                       refine Reg.on rfl rfl rfl (Ope.cf rfl rfl hsz rfl ?_)
                       refine Reg.on rfl rfl rfl (Ope.gt rfl rfl ?_)
                       refine Reg.op rfl (Ope.pickF rfl rfl ?_)
                       refine Reg.nil ?_
                       first | exact Run.lend ⟨⟨rfl,rfl,rfl,trivial⟩,rfl,rfl⟩ | exact Run.lend ⟨⟨rfl,rfl,congrArg (fun b=>some (B b)) (decide_eq_false (by omega)),trivial⟩,rfl,rfl⟩ | (exfalso;omega) | (exfalso;simp_all;done)
        ·rintro e' d' h' ⟨hsb2, rfl, rfl⟩; refine Run.less hsb2 ?_
         refine Run.condX rfl (fun hc=>?_) fun hc=>?_
         ·cases hc
         ·refine Run.skip (Run.seq (Run.region (cx_ok _ _ _) (Reg.op rfl (Ope.load rfl rfl ?_))))
          refine Reg.op rfl (Ope.cf rfl rfl hbe hbs ?_)
          refine Reg.op rfl (Ope.mov rfl ?_)
          refine Reg.op rfl (Ope.ext rfl rfl ?_)
          refine Reg.op rfl (Ope.ext rfl rfl ?_)
          refine Reg.op rfl (Ope.ext rfl rfl ?_)
          refine Reg.op rfl (Ope.asg rfl ?_)
          refine Reg.op rfl (Ope.asg rfl ?_)
          refine Reg.op rfl (Ope.asg rfl ?_)
          refine Reg.nil (Run.seq (Run.region (cx_ok _ _ _) (Reg.op rfl (Ope.load rfl rfl ?_))))
          refine Reg.op rfl (Ope.cf rfl rfl hbex hbsx ?_)
          refine Reg.op rfl (Ope.mov rfl ?_)
          refine Reg.op rfl (Ope.ext rfl rfl ?_)
          refine Reg.op rfl (Ope.ext rfl rfl ?_)
          refine Reg.op rfl (Ope.ext rfl rfl ?_)
          refine Reg.op rfl (Ope.asg rfl ?_)
          refine Reg.op rfl (Ope.asg rfl ?_)
          refine Reg.op rfl (Ope.asg rfl ?_)
          refine Reg.nil (Run.seq (Run.region (cx_ok _ _ _) (Reg.op rfl (Ope.load rfl rfl ?_))))
          refine Reg.op rfl (Ope.cf rfl rfl hun hbs ?_)
          refine Reg.op rfl (Ope.mov rfl ?_)
          refine Reg.op rfl (Ope.ext rfl rfl ?_)
          refine Reg.op rfl (Ope.ext rfl rfl ?_)
          refine Reg.op rfl (Ope.asg rfl ?_)
          refine Reg.op rfl (Ope.asg rfl ?_)
          refine Reg.nil (Run.seq (Run.region (cx_ok _ _ _) (Reg.op rfl (Ope.load rfl rfl ?_))))
          refine Reg.op rfl (Ope.cf rfl rfl hunx hbsx ?_)
          refine Reg.op rfl (Ope.mov rfl ?_)
          refine Reg.op rfl (Ope.ext rfl rfl ?_)
          refine Reg.op rfl (Ope.ext rfl rfl ?_)
          refine Reg.op rfl (Ope.asg rfl ?_)
          refine Reg.op rfl (Ope.asg rfl ?_)
          refine Reg.nil (Run.seq (Run.region (cx_ok _ _ _) (Reg.op rfl (Ope.mov rfl ?_))))
          refine Reg.op rfl (Ope.ne rfl rfl ?_)
          refine Reg.op rfl (Ope.mov rfl ?_)
          refine Reg.splitX rfl rfl (fun hg=>?_) fun hg=>?_
          ·first
           |(first | (exfalso;omega) | (exfalso;simp at hg;done))
           |refine Reg.off rfl rfl rfl (Reg.off rfl rfl rfl (Reg.off rfl rfl rfl (Reg.past rfl rfl rfl (Reg.past rfl rfl rfl (Reg.past rfl rfl rfl (Reg.off rfl rfl rfl (Reg.off rfl rfl rfl (Reg.past rfl rfl rfl (Reg.past rfl rfl rfl (Reg.off rfl rfl rfl (Reg.off rfl rfl rfl (Reg.past rfl rfl rfl (Reg.past rfl rfl rfl (Reg.off rfl rfl rfl (Reg.off rfl rfl rfl (Reg.past rfl rfl rfl (Reg.past rfl rfl rfl (Reg.past rfl rfl rfl (Reg.off rfl rfl rfl (Reg.op rfl (Ope.pickT rfl rfl ?_)))))))))))))))))))))
            refine Reg.op rfl (Ope.mov rfl ?_)
            refine Reg.on rfl rfl rfl (Ope.cf rfl rfl (awakeF) rfl ?_)
            refine Reg.op rfl (Ope.pickT rfl rfl ?_)
            refine Reg.op rfl (Ope.asg rfl ?_)
            exact Reg.nil (Run.ret (fin_ret (.tmp rfl .nil) rfl rfl))
          ·first
           |(first | (exfalso;omega) | (exfalso;simp at hg;done))
           |refine Reg.on rfl rfl rfl (Ope.mov rfl ?_)
            refine Reg.on rfl rfl rfl (Ope.eq rfl rfl ?_)
            refine Reg.on rfl rfl rfl (Ope.mov rfl ?_)
            refine Reg.splitX rfl rfl (fun hg=>?_) fun hg=>?_
            ·first
             |(first | (exfalso;omega) | (exfalso;simp at hg;done))
             |refine Reg.on rfl rfl rfl (Ope.mov rfl ?_)
              refine Reg.on rfl rfl rfl (Ope.mov rfl ?_)
              refine Reg.on rfl rfl rfl (Ope.le rfl rfl ?_)
              refine Reg.on rfl rfl rfl (Ope.pickT rfl rfl ?_)
              refine Reg.on rfl rfl rfl (Ope.mov rfl ?_)
              refine Reg.splitX rfl rfl (fun hg=>?_) fun hg=>?_
              ·first
               |(first | (exfalso;omega) | (exfalso;simp at hg;done))
               |refine Reg.on rfl rfl rfl (Ope.mov rfl ?_)
                refine Reg.on rfl rfl rfl (Ope.eq rfl rfl ?_)
                refine Reg.on rfl rfl rfl (Ope.pickT rfl rfl ?_)
                refine Reg.on rfl rfl rfl (Ope.mov rfl ?_)
                refine Reg.splitX rfl rfl (fun hg=>?_) fun hg=>?_
                ·first
                 |(first | (exfalso;omega) | (exfalso;simp at hg;done))
                 |refine Reg.on rfl rfl rfl (Ope.mov rfl ?_)
                  refine Reg.on rfl rfl rfl (Ope.eq rfl rfl ?_)
                  refine Reg.on rfl rfl rfl (Ope.pickT rfl rfl ?_)
                  refine Reg.on rfl rfl rfl (Ope.mov rfl ?_)
                  refine Reg.splitX rfl rfl (fun hg=>?_) fun hg=>?_
                  ·first
                   |(first | (exfalso;omega) | (exfalso;simp at hg;done))
                   |refine Reg.on rfl rfl rfl (Ope.mov rfl ?_)
                    refine Reg.on rfl rfl rfl (Ope.mov rfl ?_)
                    refine Reg.on rfl rfl rfl (Ope.le rfl rfl ?_)
                    refine Reg.on rfl rfl rfl (Ope.pickT rfl rfl ?_)
                    refine Reg.op rfl (Ope.pickF rfl rfl ?_)
                    refine Reg.op rfl (Ope.mov rfl ?_)
                    refine Reg.splitX rfl rfl (fun hg=>?_) fun hg=>?_
                    ·first
                     |(first | (exfalso;omega) | (exfalso;simp at hg;done))
                     |refine Reg.on rfl rfl rfl (Ope.cf rfl rfl (awakeF) rfl ?_)
                      refine Reg.op rfl (Ope.pickT rfl rfl ?_)
                      refine Reg.op rfl (Ope.asg rfl ?_)
                      exact Reg.nil (Run.ret (fin_ret (.tmp rfl .nil) rfl rfl))
                    ·first
                     |(first | (exfalso;omega) | (exfalso;simp at hg;done))
                     |refine Reg.off rfl rfl rfl (Reg.op rfl (Ope.pickF rfl rfl ?_))
                      refine Reg.op rfl (Ope.asg rfl ?_)
                      exact Reg.nil (Run.ret (fin_ret (.tmp rfl .nil) rfl rfl))
                  ·first
                   |(first | (exfalso;omega) | (exfalso;simp at hg;done))
                   |refine Reg.off rfl rfl rfl (Reg.off rfl rfl rfl (Reg.off rfl rfl rfl (Reg.on rfl rfl rfl (Ope.pickF rfl rfl ?_))))
                    refine Reg.op rfl (Ope.pickF rfl rfl ?_)
                    refine Reg.op rfl (Ope.mov rfl ?_)
                    refine Reg.off rfl rfl rfl (Reg.op rfl (Ope.pickF rfl rfl ?_))
                    refine Reg.op rfl (Ope.asg rfl ?_)
                    exact Reg.nil (Run.ret (fin_ret (.tmp rfl .nil) rfl rfl))
                ·first
                 |(first | (exfalso;omega) | (exfalso;simp at hg;done))
                 |refine Reg.off rfl rfl rfl (Reg.off rfl rfl rfl (Reg.on rfl rfl rfl (Ope.pickF rfl rfl ?_)))
                  refine Reg.on rfl rfl rfl (Ope.mov rfl ?_)
                  refine Reg.off rfl rfl rfl (Reg.off rfl rfl rfl (Reg.off rfl rfl rfl (Reg.on rfl rfl rfl (Ope.pickF rfl rfl ?_))))
                  refine Reg.op rfl (Ope.pickF rfl rfl ?_)
                  refine Reg.op rfl (Ope.mov rfl ?_)
                  refine Reg.off rfl rfl rfl (Reg.op rfl (Ope.pickF rfl rfl ?_))
                  refine Reg.op rfl (Ope.asg rfl ?_)
                  exact Reg.nil (Run.ret (fin_ret (.tmp rfl .nil) rfl rfl))
              ·first
               |(first | (exfalso;omega) | (exfalso;simp at hg;done))
               |refine Reg.off rfl rfl rfl (Reg.off rfl rfl rfl (Reg.on rfl rfl rfl (Ope.pickF rfl rfl ?_)))
                refine Reg.on rfl rfl rfl (Ope.mov rfl ?_)
                refine Reg.off rfl rfl rfl (Reg.off rfl rfl rfl (Reg.on rfl rfl rfl (Ope.pickF rfl rfl ?_)))
                refine Reg.on rfl rfl rfl (Ope.mov rfl ?_)
                refine Reg.off rfl rfl rfl (Reg.off rfl rfl rfl (Reg.off rfl rfl rfl (Reg.on rfl rfl rfl (Ope.pickF rfl rfl ?_))))
                refine Reg.op rfl (Ope.pickF rfl rfl ?_)
                refine Reg.op rfl (Ope.mov rfl ?_)
                refine Reg.off rfl rfl rfl (Reg.op rfl (Ope.pickF rfl rfl ?_))
                refine Reg.op rfl (Ope.asg rfl ?_)
                exact Reg.nil (Run.ret (fin_ret (.tmp rfl .nil) rfl rfl))
            ·first
             |(first | (exfalso;omega) | (exfalso;simp at hg;done))
             |refine Reg.off rfl rfl rfl (Reg.off rfl rfl rfl (Reg.off rfl rfl rfl (Reg.on rfl rfl rfl (Ope.pickF rfl rfl ?_))))
              refine Reg.on rfl rfl rfl (Ope.mov rfl ?_)
              refine Reg.off rfl rfl rfl (Reg.off rfl rfl rfl (Reg.on rfl rfl rfl (Ope.pickF rfl rfl ?_)))
              refine Reg.on rfl rfl rfl (Ope.mov rfl ?_)
              refine Reg.off rfl rfl rfl (Reg.off rfl rfl rfl (Reg.on rfl rfl rfl (Ope.pickF rfl rfl ?_)))
              refine Reg.on rfl rfl rfl (Ope.mov rfl ?_)
              refine Reg.off rfl rfl rfl (Reg.off rfl rfl rfl (Reg.off rfl rfl rfl (Reg.on rfl rfl rfl (Ope.pickF rfl rfl ?_))))
              refine Reg.op rfl (Ope.pickF rfl rfl ?_)
              refine Reg.op rfl (Ope.mov rfl ?_)
              refine Reg.off rfl rfl rfl (Reg.op rfl (Ope.pickF rfl rfl ?_))
              refine Reg.op rfl (Ope.asg rfl ?_)
              exact Reg.nil (Run.ret (fin_ret (.tmp rfl .nil) rfl rfl))
end
theorem f10a (s:Shp) (hi:s.i64) (by':List Nat) (hb8:∀ x∈by',x < 256) (wh wt:Nat) (hwh:wh < 256) (hwt:wt < 256):Fn P0 10 [s.v .no .no,.sl .no (by'.map U8),U8 wh,U8 wt] (B true):=by
  rcases Nat.eq_zero_or_pos s.jo.length with h | h
  · exact f10n s (t1:=.no) (t2:=.no) rfl rfl hi _ _ _ (.inr h)
  · cases hv : s.val with
    | false=>exact f10n s (t1:=.no) (t2:=.no) rfl rfl hi _ _ _ (.inl hv)
    | true=>exact f10y s (t1:=.no) (t2:=.no) rfl rfl hi hv h .no rfl by' hb8 wh wt hwh hwt
end Go.Pv
namespace Go.Pv
open Go.Proofs Go.Am
set_option maxRecDepth 10000
section
variable {H:Type} {enc:TypeId×Value→H} {w:World} {base:Nat} {held:Bool}
theorem reads_int:Reads enc Try.prog w base (fun _=>true) held 3 fun ps=>∃ n:Int,ps=[I n]∧(-9223372036854775808≤n∧n≤9223372036854775807) :=
  (Reads.int Try.underlying3).mono fun ps ⟨n,h,h1,h2⟩=>⟨n,h,Int.le_trans (by decide) h1,Int.le_trans h2 (by decide)⟩
theorem reads_span:Reads enc Try.prog w base (fun _=>true) held 46 fun ps=>∃ a b:Int,ps=[I a,I b] :=
  (Reads.struct (Qs:=[fun ps=>∃ n:Int,ps=[I n]∧_,fun ps=>∃ n:Int,ps=[I n]∧_]) Try.underlying46 (by kernel_rfl) ⟨reads_int,reads_int,trivial⟩).mono fun ps h=>by
    obtain ⟨_,_,rfl,⟨a,rfl,_⟩,_,_,rfl,⟨b,rfl,_⟩,rfl⟩:=h
    exact ⟨a,b,rfl⟩
theorem reads_job:Reads enc Try.prog w base (fun _=>true) held 48 fun ps=>∃ j:Job,ps=j.v.cells∧(-9223372036854775808≤j.af∧j.af≤9223372036854775807) :=
  (Reads.struct (Qs:=[fun ps=>∃ n:Int,ps=[I n]∧_,fun ps=>∃ a b:Int,ps=[I a,I b],fun ps=>∃ n:Int,ps=[I n]∧_,fun ps=>∃ n:Int,ps=[I n]∧_,fun ps=>∃ n:Int,ps=[I n]∧_,fun ps=>∃ n:Int,ps=[I n]∧_,fun ps=>∃ n:Int,ps=[I n]∧_]) Try.underlying48 (by kernel_rfl) ⟨reads_int,reads_span,reads_int,reads_int,reads_int,reads_int,reads_int,trivial⟩).mono fun ps h=>by
    obtain ⟨_,_,rfl,⟨a,rfl,_⟩,_,_,rfl,⟨b,c,rfl⟩,_,_,rfl,⟨d,rfl,_⟩,_,_,rfl,⟨e,rfl,_⟩,_,_,rfl,⟨f,rfl,_⟩,_,_,rfl,⟨g,rfl,_⟩,_,_,rfl,⟨h,rfl,hh⟩,rfl⟩:=h
    exact ⟨⟨a,b,c,d,e,f,g,h⟩,rfl,hh⟩
theorem cells_job:Try.prog.cellsOf 48=8:=by kernel_rfl
theorem cells_int:Try.prog.cellsOf 3=1:=by kernel_rfl
theorem cells_u8:Try.prog.cellsOf 5=1:=by kernel_rfl
theorem reads_jobs:Reads enc Try.prog w base (fun _=>true) held 23 fun ps=>∃ S:List Job,ps=[.sl .no (S.map Job.v)]∧∀ j∈S,-9223372036854775808≤j.af∧j.af≤9223372036854775807 :=
  (Reads.slice (Q:=fun j:Job=>-9223372036854775808≤j.af∧j.af≤9223372036854775807) (f:=Job.v) (fun _=>rfl) Try.underlying23 (by rw [cells_job];decide) (reads_job.mono fun ps ⟨s,h,h'⟩=>⟨s,h,by rw [cells_job];rfl,h'⟩)).mono fun ps ⟨S,h,_,h'⟩=>⟨S,h,h'⟩
theorem reads_ints:Reads enc Try.prog w base (fun _=>true) held 22 fun ps=>∃ S:List Int,ps=[.sl .no (S.map I)] :=
  (Reads.slice (Q:=fun _=>True) (f:=I) (fun _=>rfl) Try.underlying22 (by rw [cells_int];decide) (reads_int.mono fun ps ⟨s,h,_⟩=>⟨s,h,by rw [cells_int];rfl,trivial⟩)).mono fun ps ⟨S,h,_⟩=>⟨S,h⟩
theorem reads_mend:Reads enc Try.prog w base (fun _=>true) held 25 fun ps=>∃ s:Shp,s.i64∧ps=[.sl .no (s.su.map I),.sl .no (s.jo.map Job.v)] :=
  (Reads.struct (Qs:=[fun ps=>∃ S:List Int,ps=[.sl .no (S.map I)],fun ps=>∃ S:List Job,ps=[.sl .no (S.map Job.v)]∧_]) Try.underlying25 (by kernel_rfl) ⟨reads_ints,reads_jobs,trivial⟩).mono fun ps h=>by
    obtain ⟨_,_,rfl,⟨su,rfl⟩,_,_,rfl,⟨jo,rfl,hj⟩,rfl⟩:=h
    exact ⟨⟨su,jo⟩,fun i hi=>hj _ (List.getElem_mem hi),rfl⟩
theorem trod_mend {v:Value} {d:DataW H} {ps:List MemPlace} {r:Reach} {b:Nat} (hv:Value.okWide Try.prog w r b 25 v) (h:DataW.Trod enc Try.prog w base (fun _=>true) held 25 v d ps):∃ s:Shp,s.i64∧RV (St.froz w) (s.v .no .no) v:=by
  obtain ⟨l,h1,s,hi,rfl⟩:=trod_agg Try.underlying25 hv h reads_mend
  exact ⟨s,hi,h1⟩
theorem trod_bytes {v : Value} {d : DataW H} {ps : List MemPlace} {r : Reach} {b : Nat} (hv : Value.okWide Try.prog w r b 42 v) (h : DataW.Trod enc Try.prog w base (fun _ => true) held 42 v d ps) : ∃ xs : List Nat, (∀ x ∈ xs, x < 256) ∧ RV (St.froz w) (.sl .no (xs.map U8)) v := by
  obtain ⟨xs,h1,_,h3⟩:=trod_ints Try.underlying42 Try.underlying5 cells_u8 hv h
  have h4:∀ x∈xs,0≤x∧x≤255:=fun x hx=>⟨Int.le_trans (by decide) (h3 x hx).1,Int.le_trans (h3 x hx).2 (by decide)⟩
  refine ⟨xs.map Int.toNat,fun x hx=>?_,?_⟩
  · obtain ⟨y, hy, rfl⟩ := List.mem_map.1 hx
    have:=h4 y hy;omega
  · have e : (xs.map Int.toNat).map U8 = xs.map fun n => .lit (.int .u8 n) := by
      rw [List.map_map]
      exact List.map_congr_left fun x hx=>by
        have:=h4 x hx
        show PV.lit (.int .u8 ((x.toNat:Nat):Int))=_
        rw [Int.toNat_of_nonneg this.1]
    rw [e]
    exact h1
structure Shp.hnd (s:Shp):Prop where
  i:s.i64
  su:s.su.length≤9223372036854775807
  jo:s.jo.length≤9223372036854775807
end
end Go.Pv
