/- Parts of the proof: E11, E12, E13, E14, E15, E16 -/
import Derived.Test.YtfpihegkllffbaaGreatP17
import Derived.Test.YtfpihegkllffbaaGreatP12
set_option linter.unusedVariables false
set_option linter.unusedSimpArgs false
set_option linter.unusedSectionVars false
namespace Go.Pv
open Go.Proofs Go.Am
set_option maxRecDepth 10000
instance:Mpt A0 146 3 (.agg [I 0,I 0]):=⟨by kernel_rfl⟩
theorem und_int:A0.under 3=some (.int .i64):=by kernel_rfl
abbrev kP (p:Prt):AV:=.int .i64 (p.1:Int)
abbrev vP (p:Prt):PV:=p.2.v
abbrev nP (p:Prt):PV:=N p.1
theorem ofP (p:Prt):PV.ofAV (kP p)=some (nP p):=rfl
abbrev fmP (M:List Prt):PV:=.fm (M.map kP) (M.map vP)
abbrev fitP (M:List Prt) (seen:List Nat):PBlk:=.fit (M.map kP) (M.map vP) seen
def prtV (p:Prt):PV:=.agg [N p.1,I p.2.lo,I p.2.hi]
def cplV (a b:Prt):PV:=.agg [N a.1,I a.2.lo,I a.2.hi,N b.1,I b.2.lo,I b.2.hi]
theorem bds_vP (n:Nat):∀ M:List Prt,PV.bds n (M.map vP)=true
  | []=>rfl
  | p::M=>by simp only [List.map_cons,PV.bds,bds_vP n M];rfl
theorem bd_fmP (n:Nat) (M:List Prt):(fmP M).bd n=true:=bds_vP n M
theorem hs_roundL {m z:Nat} {a b e c:Option PBlk} {l lf:HL} (hs:∀ i x,hget lf i=some x→hget l i=some x) (hm:hget lf m=none) (hz:m≠z):∀ i x,hget ((z,e)::lf) i=some x→hget ((m,none)::(m,a)::(m,b)::(z,e)::(z,c)::l) i=some x:=by
  intro i x h
  by_cases h1:i=m
  · subst h1
    rw [hget_tl hz,hm] at h
    cases h
  · rw [hget_tl h1, hget_tl h1, hget_tl h1]
    by_cases h2:i=z
    · subst h2
      rw [hget_hd] at h ⊢
      exact h
    · rw [hget_tl h2] at h ⊢
      rw [hget_tl h2]
      exact hs i x h
theorem HE_swap {m z y:Nat} {a b:Option PBlk} {l:HL} (h:z≠y):HE m ((z,a)::(y,b)::l)=HE m ((y,b)::(z,a)::l):=by
  simp only [HE,PH.mk.injEq,and_true]
  funext i
  by_cases h1:i=z
  · subst h1
    rw [hget_hd,hget_tl h,hget_hd]
  · rw [hget_tl h1]
    by_cases h2:i=y
    · subst h2;rw [hget_hd,hget_hd]
    · rw [hget_tl h2,hget_tl h2,hget_tl h1]
theorem f106 (a b:Prt) (ha:(0≤a.2.lo∧a.2.lo≤1000000)∧(0≤a.2.hi∧a.2.hi≤1000000)) (hb:(0≤b.2.lo∧b.2.lo≤1000000)∧(0≤b.2.hi∧b.2.hi≤1000000)) (ha1:a.1 < 32) (hb1:b.1 < 32):Fn P0 106 [cplV a b] (prtV (a.1 ||| b.1,a.2.add b.2)):=by
  have hp:=f87 a.2 b.2 ha hb
  obtain ⟨S,lo,hi⟩:=a
  obtain ⟨T,lo',hi'⟩:=b
  simp only at hp ha1 hb1
  refine PFun.of (C:=c106) (cx_ok _ _ _) rfl (fn:=Tryz.f106) (by kernel_rfl) (c:=_) rfl rfl rfl ?_
  refine rS (rN (cx_ok _ _ _) (rO rfl (Ope.boxF rfl rfl ?_)))
  refine rO rfl (Ope.newL rfl ?_)
  refine rI (rS (Run.draw (cx_ok _ _ _) [(0,true),(1,true),(2,false),(3,true),(4,true),(5,false),(6,true),(7,true),(8,true),(9,true),(10,true),(11,true),(12,true),(13,true),(14,true),(15,true)] (by kernel_rfl) (dO rfl rfl rfl .sure (Ope.idxA rfl rfl rfl rfl ?_))))
  refine dO rfl rfl rfl .sure (Ope.fld rfl rfl ?_)
  refine dO rfl rfl rfl (.load rfl) (oL rfl rfl ?_)
  refine dO rfl rfl rfl .sure (Ope.idxA rfl rfl rfl rfl ?_)
  refine dO rfl rfl rfl .sure (Ope.fld rfl rfl ?_)
  refine dO rfl rfl rfl (.load rfl) (oL rfl rfl ?_)
  refine dO rfl rfl rfl .sure (Ope.orN (p:=S) (q:=T) rfl rfl rfl rfl (by show S < 2 ^ 63;omega) (by show T < 2 ^ 63;omega) ?_)
  refine dO rfl rfl rfl .sure (Ope.idxA rfl rfl rfl rfl ?_)
  refine dO rfl rfl rfl .sure (Ope.fld rfl rfl ?_)
  refine dO rfl rfl rfl .sure (oL rfl rfl ?_)
  refine dO rfl rfl rfl .sure (Ope.idxA rfl rfl rfl rfl ?_)
  refine dO rfl rfl rfl .sure (Ope.fld rfl rfl ?_)
  refine dO rfl rfl rfl .sure (oL rfl rfl ?_)
  refine dO rfl rfl rfl .sure (Ope.cf rfl rfl (hp) rfl ?_)
  refine dO rfl rfl rfl .sure (Ope.bld rfl rfl ?_)
  refine dO rfl rfl rfl .sure (Ope.store rfl rfl rfl rfl rfl rfl ?_)
  exact Dra.nil (Run.ret (fin_ret (.cell rfl rfl .nil) rfl rfl))
theorem f105 (M1 M2:List Prt):Fn P0 105 [fmP M1,fmP M2] (.fn (.func 116) [] [.fp (fmP M1),.fp (fmP M2)]):=by
  have hb:PV.bd 0 (.fn (.func 116) [] [.fp (fmP M1),.fp (fmP M2)])=true:=by
    simp only [PV.bd,PV.bds,bds_vP,Bool.and_self]
  refine PFun.of (C:=c105) (cx_ok _ _ _) rfl (fn:=Tryz.f105) (by kernel_rfl) (c:=_) rfl rfl rfl ?_
  refine rS (rN (cx_ok _ _ _) (rO rfl (Ope.boxF rfl rfl ?_)))
  refine rO rfl (Ope.boxF rfl rfl ?_)
  refine rO rfl (oA rfl ?_)
  refine rI (rS (rN (cx_ok _ _ _) (rO rfl (Ope.mkf rfl rfl ?_))))
  refine rO rfl (oA rfl ?_)
  exact rI (Run.ret (fin_ret (.tmp rfl .nil) hb rfl))
def CplA (M1 M2:List Prt) (v:PV):Prop:=∃ a∈M1,∃ b∈M2,a.1 &&& b.1=0∧v=cplV a b
theorem f116 (M1 M2 : List Prt) (h1 : ∀ q ∈ M1, q.1 < 32) (h2 : ∀ q ∈ M2, q.1 < 32) : YieldsA P0 116 [] [.fp (fmP M1), .fp (fmP M2)] (CplA M1 M2) := by
  intro j n l R hjn hfeed
  show PCall P0 116 [.yld j,.fp (fmP M1),.fp (fmP M2)] (HE n l) R _
  have hf0:=hfeed (M1.length * M2.length)
  clear hfeed
  refine PCall.ofH (C:=c116) (cx_ok _ _ _) rfl (fn:=Tryz.f116) (by kernel_rfl) (c:=_) rfl rfl rfl (fun hok=>?_)
  refine rS (rN (cx_ok _ _ _) (rO rfl (oL rfl rfl ?_)))
  refine rO rfl (Ope.rngF (ks:=M1.map kP) (vs:=M1.map vP) rfl ?_)
  refine rI (Run.block (Run.loop (α:=List Nat×List PV×HL×Nat) (fun t=>[(0,.yld j),(1,.fp (fmP M1)),(2,.fp (fmP M2)),(9,.ptr n 0)]) (fun t=>HE t.2.2.2 ((n,some (fitP M1 t.1))::t.2.2.1)) (fun t=>Seen M1.length t.1∧n < t.2.2.2∧∃ lf,(∀ i x,hget lf i=some x→hget t.2.2.1 i=some x)∧hget lf n=none∧(∀ i,t.2.2.2≤i→hget lf i=none)∧(∀ p∈t.1,∀ a,M1[p]?=some a→∀ b∈M2,a.1 &&& b.1=0→cplV a b∈t.2.1)∧FeedA P0 (.yld j) R (CplA M1 M2) ((M1.length - t.1.length) * M2.length) t.2.1 t.2.2.2 lf) (fun t=>M1.length - t.1.length) ([],[],l,n+1) ⟨rfl,rfl,rfl,rfl,trivial⟩ rfl ⟨Seen.nil _,Nat.lt_succ_self _,l,fun _ _ h=>h,ok_none hok (Nat.le_refl _),fun i hi=>ok_none hok (by simp only at hi;omega),fun p hp=>(by cases hp),hf0.mono (Nat.le_succ _)⟩ (fun t ht=>?_)))
  obtain ⟨seen,pre,la,m⟩:=t
  obtain ⟨hs,hnm,lf,hsub,hln,hlm,hcomp,hfe⟩:=ht
  simp only at hs hnm hsub hlm hcomp hfe
  show Run _ _ _ _ [(0,.yld j),(1,.fp (fmP M1)),(2,.fp (fmP M2)),(9,.ptr n 0)] [] (HE m ((n,some (fitP M1 seen))::la))
  refine rS (rN (cx_ok _ _ _) (rO rfl (Ope.nxtF (xs:=M1) (kf:=kP) (vf:=vP) (kv:=nP) ofP rfl hget_hd rfl (fun hall=>?_) (fun p hp hps=>?_))))
  ·refine rO rfl (Ope.ext rfl rfl ?_)
   refine rI (rS (rC rfl (fun hc=>?_) fun hc=>?_))
   ·(cases hc;done)
   ·refine Run.exit (Jmp.code (Jmp.round (Jmp.here ?_)))
    first
    | exact finH_ret .nil (Nat.le_refl _) (fun i x h=>by
        show hget ((m+1,some (fitP M2 (seen2++[q])))::(n,some (fitP M1 (seen++[p])))::l3) i=some x
        rw [hget_tl (fun e=>by rw [e,hno3 _ hk2.1] at h;cases h),hget_tl (fun e=>by rw [e,hno3 _ hk2.2] at h;cases h)];exact h) (hR m3 (Nat.le_refl _) _)
    | exact finH_end .nil (Nat.le_refl _) (fun i x h=>by
        show hget ((n,some (fitP M1 seen))::la) i=some x
        rw [hget_tl (fun e=>by rw [e,hln] at h;cases h)];exact hsub i x h) (hfe.done (fun v ⟨a,ha,b,hb,hab,hv⟩=>by
        obtain ⟨z,hz,rfl⟩:=List.getElem_of_mem ha
        rw [hv]
        exact hcomp z (hall z hz) _ (List.getElem?_eq_getElem hz) b hb hab) m (Nat.le_refl _) _)
  ·refine rO rfl (Ope.ext rfl rfl ?_)
   refine rI (rS (rC rfl (fun hc=>?_) fun hc=>?_))
   ·refine Run.skip (Run.block (rS (rN (cx_ok _ _ _) (rO rfl (Ope.entF (xs:=M1) (kf:=kP) (vf:=vP) (kv:=nP) ofP hp rfl hget_hd ?_)))))
    refine rO rfl (Ope.ext rfl rfl ?_)
    refine rO rfl (Ope.ext rfl rfl ?_)
    refine rO rfl (Ope.newL rfl ?_)
    refine rO rfl (oA rfl ?_)
    refine Reg.op0 (Ope.store rfl rfl hget_hd rfl rfl rfl ?_)
    refine rI (rS (Run.frz (d:=5) true rfl hget_hd rfl ?_))
    refine Run.wideS (m:=m+1) (l':=(n,some (fitP M1 (seen++[p])))::lf) (Nat.le_refl _) (hs_roundL hsub (hlm m (Nat.le_refl _)) (by omega)) ?_
    have hlt:=hs.len_lt hp hps
    have hs':=hs.snoc hp hps
    have hfu:(M1.length - seen.length) * M2.length=(M1.length - (seen.length+1)) * M2.length+M2.length:=by
      rw [show M1.length - seen.length=(M1.length - (seen.length+1))+1 by omega,Nat.succ_mul]
    rw [hfu] at hfe
    have ha32:=h1 M1[p] (List.getElem_mem hp)
    have haM:M1[p]∈M1:=List.getElem_mem hp
    have haP:∀ x,M1[p]?=some x→x=M1[p]:=fun x hx=>by rw [List.getElem?_eq_getElem hp] at hx;cases hx;rfl
    have hnew:∀ {pre2:List PV},(∀ q∈seen,∀ a,M1[q]?=some a→∀ b∈M2,a.1 &&& b.1=0→cplV a b∈pre2)→(∀ b∈M2,M1[p].1 &&& b.1=0→cplV M1[p] b∈pre2)→∀ q∈seen++[p],∀ a,M1[q]?=some a→∀ b∈M2,a.1 &&& b.1=0→cplV a b∈pre2:=fun c1 c2 q hq a ha b hb hab=>by
      rcases List.mem_append.1 hq with hq | hq
      · exact c1 q hq a ha b hb hab
      · rw [List.mem_singleton.1 hq] at ha
        rw [haP a ha] at hab ⊢
        exact c2 b hb hab
    have hnum:(N M1[p].1)=I ((M1[p].1:Nat):Int):=rfl
    generalize M1[p]=a at *
    refine rN (cx_ok _ _ _) (rO rfl (oL rfl rfl ?_))
    refine rO rfl (Ope.rngF (ks:=M2.map kP) (vs:=M2.map vP) rfl ?_)
    refine rI (Run.block ?_)
    refine Run.loop (α:=List Nat×List PV×HL×Nat) (fun t=>[(0,.yld j),(1,.fp (fmP M1)),(2,.fp (fmP M2)),(4,N a.1),(5,.fp a.2.v),(9,.ptr n 0),(16,.ptr (m+1) 0)]) (fun t=>HE t.2.2.2 ((m+1,some (fitP M2 t.1))::(n,some (fitP M1 (seen++[p])))::t.2.2.1)) (fun t=>Seen M2.length t.1∧m+1 < t.2.2.2∧hget t.2.2.1 n=none∧hget t.2.2.1 (m+1)=none∧(∀ i,t.2.2.2≤i→hget t.2.2.1 i=none)∧(∀ q∈seen,∀ a,M1[q]?=some a→∀ b∈M2,a.1 &&& b.1=0→cplV a b∈t.2.1)∧(∀ q∈t.1,∀ b,M2[q]?=some b→a.1 &&& b.1=0→cplV a b∈t.2.1)∧FeedA P0 (.yld j) R (CplA M1 M2) ((M1.length - (seen.length+1)) * M2.length+(M2.length - t.1.length)) t.2.1 t.2.2.2 t.2.2.1) (fun t=>M2.length - t.1.length) ([],pre,lf,m+2) ⟨rfl,rfl,rfl,rfl,rfl,rfl,rfl,trivial⟩ rfl ⟨Seen.nil _,Nat.lt_succ_self _,hln,hlm _ (by omega),fun i hi=>hlm i (by simp only at hi;omega),hcomp,fun q hq=>(by cases hq),hfe.mono (by simp only;omega)⟩ (fun t ht=>?_)
    obtain ⟨seen2,pre2,l2,m2⟩:=t
    obtain ⟨gs,gnm,gln,glz,glm,gcomp,gcom2,gfe⟩:=ht
    simp only at gs gnm gln glz glm gcomp gcom2 gfe
    show Run _ _ _ _ [(0,.yld j),(1,.fp (fmP M1)),(2,.fp (fmP M2)),(4,N a.1),(5,.fp a.2.v),(9,.ptr n 0),(16,.ptr (m+1) 0)] [] (HE m2 ((m+1,some (fitP M2 seen2))::(n,some (fitP M1 (seen++[p])))::l2))
    refine rS (rN (cx_ok _ _ _) (rO rfl (Ope.nxtF (xs:=M2) (kf:=kP) (vf:=vP) (kv:=nP) ofP rfl hget_hd rfl (fun gall=>?_) (fun q hq hqs=>?_))))
    ·refine rO rfl (Ope.ext rfl rfl ?_)
     refine rI (rS (rC rfl (fun hc=>?_) fun hc=>?_))
     ·(cases hc;done)
     ·refine Run.exit (Jmp.code (Jmp.round (Jmp.here (Run.bend ?_))))
      exact Run.lend ⟨(seen++[p],pre2,(m+1,some (fitP M2 seen2))::l2,m2),by show M1.length - (seen++[p]).length < M1.length - seen.length;rw [List.length_append,List.length_singleton];omega,⟨hs',by show n < m2;omega,l2,fun i x h=>by
          show hget ((m+1,_)::l2) i=some x
          rw [hget_tl (fun e=>by rw [e,glz] at h;cases h)];exact h,gln,glm,hnew gcomp (fun b hb hab=>by
          obtain ⟨z,hz,rfl⟩:=List.getElem_of_mem hb
          exact gcom2 z (gall z hz) _ (List.getElem?_eq_getElem hz) hab),by
          show FeedA P0 (.yld j) R (CplA M1 M2) ((M1.length - (seen++[p]).length) * M2.length) pre2 m2 l2
          rw [List.length_append,List.length_singleton]
          exact gfe.le (Nat.le_add_right _ _)⟩,⟨rfl,rfl,rfl,rfl,trivial⟩,HE_swap (by omega),rfl⟩
    ·refine rO rfl (Ope.ext rfl rfl ?_)
     refine rI (rS (rC rfl (fun hc=>?_) fun hc=>?_))
     ·refine Run.skip (Run.block (rS (rN (cx_ok _ _ _) (rO rfl (Ope.entF (xs := M2) (kf := kP) (vf := vP) (kv := nP) ofP hq rfl hget_hd ?_)))))
      refine rO rfl (Ope.ext rfl rfl ?_)
      refine rO rfl (Ope.ext rfl rfl ?_)
      refine rO rfl (Ope.newL rfl ?_)
      refine rO rfl (oA rfl ?_)
      refine Reg.op0 (Ope.store rfl rfl hget_hd rfl rfl rfl ?_)
      refine rI (rS (Run.frz (d:=7) true rfl hget_hd rfl ?_))
      refine Run.wideS (m:=m2+1) (l':=(m+1,some (fitP M2 (seen2++[q])))::(n,some (fitP M1 (seen++[p])))::l2) (Nat.le_refl _) (hs_round ((hget_tl (by omega)).trans (glm m2 (Nat.le_refl _))) (by omega)) ?_
      have glt:=gs.len_lt hq hqs
      have gs':=gs.snoc hq hqs
      have hb32:=h2 M2[q] (List.getElem_mem hq)
      have hbM:M2[q]∈M2:=List.getElem_mem hq
      have hbP:∀ x,M2[q]?=some x→x=M2[q]:=fun x hx=>by rw [List.getElem?_eq_getElem hq] at hx;cases hx;rfl
      have gfu:(M1.length - (seen.length+1)) * M2.length+(M2.length - seen2.length)=((M1.length - (seen.length+1)) * M2.length+(M2.length - (seen2++[q]).length))+1:=by
        rw [List.length_append,List.length_singleton];omega
      rw [gfu] at gfe
      have gnew:∀ {pre3:List PV},(∀ x∈pre2,x∈pre3)→(a.1 &&& M2[q].1=0→cplV a M2[q]∈pre3)→(∀ z∈seen,∀ a,M1[z]?=some a→∀ b∈M2,a.1 &&& b.1=0→cplV a b∈pre3)∧∀ z∈seen2++[q],∀ b,M2[z]?=some b→a.1 &&& b.1=0→cplV a b∈pre3:=fun c1 c2=>⟨fun z hz a' ha' b hb hab=>c1 _ (gcomp z hz a' ha' b hb hab),fun z hz b hb hab=>by
        rcases List.mem_append.1 hz with hz | hz
        · exact c1 _ (gcom2 z hz b hb hab)
        · rw [List.mem_singleton.1 hz] at hb
          rw [hbP b hb] at hab ⊢
          exact c2 hab⟩
      generalize M2[q]=b at *
      have hmz:m+1≠n:=by omega
      have hown:OwnsB [(m+1,some (fitP M2 (seen2++[q]))),(n,some (fitP M1 (seen++[p])))] l2:=OwnsB.two rfl rfl hmz glz gln
      have hk2:=@keysB_two (m+1) n (some (fitP M2 (seen2++[q]))) (some (fitP M1 (seen++[p])))
      refine rN (cx_ok _ _ _) (rO rfl (oM rfl ?_))
      refine rO rfl (oM rfl ?_)
      refine rO rfl (Ope.andN (p:=a.1) (q:=b.1) rfl rfl rfl rfl (by show a.1 < 2 ^ 64;omega) (by show b.1 < 2 ^ 63;omega) ?_)
      refine rO rfl (Ope.eq rfl rfl ?_)
      refine rO rfl (oM rfl ?_)
      refine Reg.splitX rfl rfl (fun hg=>?_) fun hg=>?_
      ·refine Reg.on rfl rfl rfl (oM rfl ?_)
       refine Reg.on rfl rfl rfl (oM rfl ?_)
       refine Reg.on rfl rfl rfl (oL rfl rfl ?_)
       refine Reg.on rfl rfl rfl (Ope.bld rfl rfl ?_)
       refine Reg.on rfl rfl rfl (oM rfl ?_)
       refine Reg.on rfl rfl rfl (oL rfl rfl ?_)
       refine Reg.on rfl rfl rfl (Ope.bld rfl rfl ?_)
       refine Reg.on rfl rfl rfl (Ope.bld rfl rfl ?_)
       refine Reg.on rfl rfl rfl (Ope.yldB (own:=[(m+1,some (fitP M2 (seen2++[q]))),(n,some (fitP M1 (seen++[p])))]) (l:=l2) (j:=j) (v:=cplV a b) rfl rfl hown ⟨a,haM,b,hbM,by omega,rfl⟩ (gfe.mono (Nat.le_succ _)) (fun m3 l3 hm3 hok3 hno3 hfe3=>?_) (fun m3 l3 hm3 hok3 hno3 hR=>?_))
       ·refine Reg.on rfl rfl rfl (Ope.not rfl ?_)
        refine rO rfl (Ope.pickT rfl rfl ?_)
        refine rI (rC rfl (fun hc=>?_) fun hc=>?_)
        ·(cases hc;done)
        ·refine Run.skip (Run.bend ?_)
         first
         | exact Run.lend ⟨(seen2++[q],pre2++[cplV a b],l3,m3),by show M2.length - (seen2++[q]).length < M2.length - seen2.length;rw [List.length_append,List.length_singleton];omega,⟨gs',by show m+1 < m3;omega,hno3 n hk2.2,hno3 (m+1) hk2.1,fun i hi=>ok_none hok3 hi,(gnew (fun x hx=>List.mem_append_left _ hx) fun _=>List.mem_append_right _ (List.mem_singleton_self _)).1,(gnew (fun x hx=>List.mem_append_left _ hx) fun _=>List.mem_append_right _ (List.mem_singleton_self _)).2,hfe3⟩,⟨rfl,rfl,rfl,rfl,rfl,rfl,rfl,trivial⟩,rfl,rfl⟩
         | exact Run.lend ⟨(seen2++[q],pre2,l2,m2+1),by show M2.length - (seen2++[q]).length < M2.length - seen2.length;rw [List.length_append,List.length_singleton];omega,⟨gs',by show m+1 < m2+1;omega,gln,glz,fun i hi=>glm i (by simp only at hi;omega),(gnew (fun x hx=>hx) fun h=>absurd h (by omega)).1,(gnew (fun x hx=>hx) fun h=>absurd h (by omega)).2,gfe.less.mono (Nat.le_succ _)⟩,⟨rfl,rfl,rfl,rfl,rfl,rfl,rfl,trivial⟩,rfl,rfl⟩
       ·refine Reg.on rfl rfl rfl (Ope.not rfl ?_)
        refine rO rfl (Ope.pickT rfl rfl ?_)
        refine rI (rC rfl (fun hc=>?_) fun hc=>?_)
        ·refine Run.ret (Jmp.retB (Jmp.round (Jmp.retB (Jmp.retB (Jmp.round (Jmp.retB ?_))))))
         first
         | exact finH_ret .nil (Nat.le_refl _) (fun i x h=>by
             show hget ((m+1,some (fitP M2 (seen2++[q])))::(n,some (fitP M1 (seen++[p])))::l3) i=some x
             rw [hget_tl (fun e=>by rw [e,hno3 _ hk2.1] at h;cases h),hget_tl (fun e=>by rw [e,hno3 _ hk2.2] at h;cases h)];exact h) (hR m3 (Nat.le_refl _) _)
         | exact finH_end .nil (Nat.le_refl _) (fun i x h=>by
             show hget ((n,some (fitP M1 seen))::la) i=some x
             rw [hget_tl (fun e=>by rw [e,hln] at h;cases h)];exact hsub i x h) (hfe.done (fun v ⟨a,ha,b,hb,hab,hv⟩=>by
             obtain ⟨z,hz,rfl⟩:=List.getElem_of_mem ha
             rw [hv]
             exact hcomp z (hall z hz) _ (List.getElem?_eq_getElem hz) b hb hab) m (Nat.le_refl _) _)
        ·(cases hc;done)
      ·refine Reg.off rfl rfl rfl (Reg.off rfl rfl rfl (Reg.off rfl rfl rfl (Reg.off rfl rfl rfl (Reg.off rfl rfl rfl (Reg.off rfl rfl rfl (Reg.off rfl rfl rfl (Reg.off rfl rfl rfl (Reg.off rfl rfl rfl (Reg.off rfl rfl rfl (rO rfl (Ope.pickF rfl rfl ?_)))))))))))
       refine rI (Run.condF rfl (Run.skip (Run.bend ?_)))
       first
       | exact Run.lend ⟨(seen2++[q],pre2++[cplV a b],l3,m3),by show M2.length - (seen2++[q]).length < M2.length - seen2.length;rw [List.length_append,List.length_singleton];omega,⟨gs',by show m+1 < m3;omega,hno3 n hk2.2,hno3 (m+1) hk2.1,fun i hi=>ok_none hok3 hi,(gnew (fun x hx=>List.mem_append_left _ hx) fun _=>List.mem_append_right _ (List.mem_singleton_self _)).1,(gnew (fun x hx=>List.mem_append_left _ hx) fun _=>List.mem_append_right _ (List.mem_singleton_self _)).2,hfe3⟩,⟨rfl,rfl,rfl,rfl,rfl,rfl,rfl,trivial⟩,rfl,rfl⟩
       | exact Run.lend ⟨(seen2++[q],pre2,l2,m2+1),by show M2.length - (seen2++[q]).length < M2.length - seen2.length;rw [List.length_append,List.length_singleton];omega,⟨gs',by show m+1 < m2+1;omega,gln,glz,fun i hi=>glm i (by simp only at hi;omega),(gnew (fun x hx=>hx) fun h=>absurd h (by omega)).1,(gnew (fun x hx=>hx) fun h=>absurd h (by omega)).2,gfe.less.mono (Nat.le_succ _)⟩,⟨rfl,rfl,rfl,rfl,rfl,rfl,rfl,trivial⟩,rfl,rfl⟩
     ·(cases hc;done)
   ·(cases hc;done)
end Go.Pv
namespace Go.Pv
open Go.Proofs Go.Am
set_option maxRecDepth 10000
def toI (M:List Prt):List (Int×PV):=M.map fun p=>((p.1:Int),p.2.v)
theorem toI_get (S:Nat):∀ M:List Prt,getI (toI M) S=(getM M S).map Spn.v
  | []=>rfl
  | p :: M => by
    have ih:=toI_get S M
    simp only [getI,getM,toI,List.map_cons,List.find?_cons] at ih ⊢
    by_cases h:p.1=S
    · rw [decide_eq_true (show ((p.1:Nat):Int)=(S:Int) by omega),decide_eq_true h];rfl
    · rw [decide_eq_false (show ¬ ((p.1:Nat):Int)=(S:Int) by omega),decide_eq_false h];exact ih
theorem toI_none {p:Prt}:∀ {M:List Prt},getM M p.1=none→toI (updM M p)=setI (toI M) p.1 p.2.v
  | [],_=>rfl
  | q :: M, h => by
    have hq:¬ q.1=p.1:=fun e=>by simp [getM,e] at h
    have h':getM M p.1=none:=by simpa [getM,hq] using h
    rw [updM,if_neg hq]
    simp only [toI,List.map_cons,setI]
    rw [if_neg (show ¬ ((q.1:Nat):Int)=(p.1:Int) by omega)]
    exact congrArg (_::·) (toI_none h')
theorem toI_some {p:Prt} {e:Spn}:∀ {M:List Prt},getM M p.1=some e→toI (updM M p)=setI (toI M) p.1 (p.2.hull e).v
  | [],h=>by cases h
  | q :: M, h => by
    by_cases hq:q.1=p.1
    · have he : q.2 = e := by simpa [getM, hq] using h
      rw [updM,if_pos hq]
      simp only [toI,List.map_cons,setI]
      rw [if_pos (show ((q.1:Nat):Int)=(p.1:Int) by omega),he]
    · have h' : getM M p.1 = some e := by simpa [getM, hq] using h
      rw [updM,if_neg hq]
      simp only [toI,List.map_cons,setI]
      rw [if_neg (show ¬ ((q.1:Nat):Int)=(p.1:Int) by omega)]
      exact congrArg (_::·) (toI_some h')
theorem toI_fm (M:List Prt):PV.fm ((toI M).map fun p=>.int .i64 p.1) ((toI M).map (·.2))=fmP M:=by
  unfold toI
  rw [List.map_map,List.map_map]
  rfl
theorem f104 (X:Prt×Prt→Prop) (part:Prt×Prt→Prt) (g:Nat) (caps:List PV) (A:PV→Prop) (hy:YieldsA P0 g [] caps A) (hA:∀ v,A v↔∃ x,X x∧v=cplV x.1 x.2) (pf:Nat) (pcap:List PV)
    (hpart:∀ x,X x→Fn P0 pf (cplV x.1 x.2::pcap) (prtV (part x))) (hbd:∀ x:Prt×Prt,PV.bds 0 (cplV x.1 x.2::pcap)=true) (hresp:∀ x y,X x→X y→cplV x.1 x.2=cplV y.1 y.2→part x=part y) :
    PFun P0 104 [.fn (.func g) [] caps,.agg [.fn (.func pf) [] pcap]] (fun v=>∃ M,v=fmP M∧JM (fun p=>∃ x,X x∧p=part x) M) fun _=>False:=by
  refine PFun.of (C:=c104) (cx_ok _ _ _) rfl (fn:=Tryz.f104) (by kernel_rfl) (c:=_) rfl rfl rfl ?_
  refine rS (rN (cx_ok _ _ _) (rO rfl (Ope.boxF rfl rfl ?_)))
  refine rO rfl (oA rfl ?_)
  refine rI (rS (rN (cx_ok _ _ _) (rO rfl (Ope.mmap ?_))))
  refine rO rfl (Ope.newL rfl ?_)
  refine Reg.op0 (Ope.store rfl rfl rfl rfl rfl rfl ?_)
  refine rI (rS (rS (Run.frz (d:=5) false rfl rfl rfl ?_)))
  refine Run.wide (m:=2) (l':=[(0,some (.map [] 0))]) (Nat.le_refl _) ⟨rfl,trivial⟩ ?_
  refine rN (cx_ok _ _ _) (rO rfl (oM rfl ?_))
  refine rI (Run.block (Run.rangeFA (cx_ok _ _ _) rfl (α:=List (Prt×Prt)×List Prt) (fun a=>[(0,some (.map (esI 0 (toI a.2)) (toI a.2).length))]) (fun _=>4) (fun pre a=>pre=(a.1.map fun x=>cplV x.1 x.2)∧(∀ x∈a.1,X x)∧JM (fun p=>∃ x∈a.1,p=part x) a.2) rfl hy rfl rfl ⟨Tryz.f104,by kernel_rfl⟩ ([],[]) ⟨rfl,fun x hx=>(by cases hx),jm_congr jm0 fun q=>⟨fun ⟨x,hx,_⟩=>(by cases hx),fun h=>h.elim⟩⟩ ⟨rfl,trivial⟩ (by simp) (by simp) (by omega) (fun pre a v hv hI m hm1 hm2 lb=>?_) (fun pre a hall hI m hm1 hm2=>?_)))
  ·obtain ⟨ys,M⟩:=a
   obtain ⟨rfl,hX,hJ⟩:=hI
   obtain ⟨x,hx,rfl⟩:=(hA v).1 hv
   simp only at hX hJ
   have hp:=hpart x hx
   have hb:=hbd x
   have hgt:=toI_get (part x).1 M
   have hJ':JM (fun p=>∃ y∈ys++[x],p=part y) (updM M (part x)):=jm_step hJ fun q=>⟨fun ⟨y,hy,e⟩=>by
       rcases List.mem_append.1 hy with hy | hy
       · exact .inl ⟨y,hy,e⟩
       · rw [List.mem_singleton.1 hy] at e;exact .inr e,fun h=>by
       rcases h with ⟨y,hy,e⟩ | e
       · exact ⟨y,List.mem_append_left _ hy,e⟩
       · exact ⟨x,List.mem_append_right _ (List.mem_singleton_self _),e⟩⟩
   have hX':∀ y∈ys++[x],X y:=fun y hy=>by
     rcases List.mem_append.1 hy with hy | hy
     · exact hX y hy
     · rw [List.mem_singleton.1 hy];exact hx
   have hpre:(ys.map fun x=>cplV x.1 x.2)++[cplV x.1 x.2]=(ys++[x]).map fun x=>cplV x.1 x.2:=by rw [List.map_append];rfl
   rw [hpre]
   have hwi:=f111 (part x).2
   have hpv:prtV (part x)=.agg [N (part x).1,I (part x).2.lo,I (part x).2.hi]:=rfl
   have htn:=@toI_none (part x) M
   have hts:=fun e=>@toI_some (part x) e M
   cases hg:getM M (part x).1 with | none=>?_ | some e=>?_
   ·refine rN (Cx.Ok.rnd (cx_ok _ _ _)) (rO rfl (Ope.newL rfl ?_))
    refine Reg.op0 (Ope.store rfl rfl hget_hd rfl rfl rfl ?_)
    refine rI (Run.done ⟨rfl,rfl,_,_,rfl,(hget_tl (by omega)).trans ((hget_tl (by omega)).trans hget_hd),fun lb2=>?_⟩)
    refine Run.block (rS (Run.frz (d:=6) true rfl ((hget_tl (by omega)).trans hget_hd) rfl ?_))
    refine Run.wide (m:=m+1) (l':=[(3,some lb2),(2,some .dfr),(0,some (.map (esI 0 (toI M)) (toI M).length))]) (Nat.le_refl _) ⟨by repeat (first | rfl | exact hget_hd | refine (hget_tl (by omega)).trans ?_),by repeat (first | rfl | exact hget_hd | refine (hget_tl (by omega)).trans ?_),by repeat (first | rfl | exact hget_hd | refine (hget_tl (by omega)).trans ?_),trivial⟩ ?_
    refine rN (Cx.Ok.rnd (cx_ok _ _ _)) (rO rfl (Ope.fld rfl rfl ?_))
    refine rO rfl (oL rfl rfl ?_)
    refine rO rfl (oL rfl rfl ?_)
    refine rO rfl (Ope.cf rfl rfl hp hb ?_)
    refine rO rfl (Ope.newL rfl ?_)
    refine Reg.op0 (Ope.store rfl rfl hget_hd rfl rfl rfl ?_)
    refine rI (rS (rS (rN (Cx.Ok.rnd (cx_ok _ _ _)) (rO rfl (oL rfl rfl ?_)))))
    refine rO rfl (Ope.fld rfl rfl ?_)
    refine rO rfl (Ope.loadH rfl hget_hd rfl ?_)
    refine rO rfl (Ope.lookI und_int rfl rfl (by repeat (first | rfl | exact hget_hd | refine (hget_tl (by omega)).trans ?_)) ?_)
    rw [hgt,hg]
    refine rO rfl (oM rfl ?_)
    refine rO rfl (Ope.ext rfl rfl ?_)
    refine rO rfl (Ope.ext rfl rfl ?_)
    refine rO rfl (Ope.newL rfl ?_)
    refine Reg.op0 (Ope.store rfl rfl hget_hd rfl rfl rfl ?_)
    refine rO rfl (oA rfl ?_)
    refine rI (rS (Run.frz (d:=8) true rfl hget_hd rfl ?_))
    refine Run.wide (m:=m+3) (l':=[(m+1,some (.cells [N (part x).1,I (part x).2.lo,I (part x).2.hi])),(3,some lb2),(2,some .dfr),(0,some (.map (esI 0 (toI M)) (toI M).length))]) (Nat.le_refl _) ⟨by repeat (first | rfl | exact hget_hd | refine (hget_tl (by omega)).trans ?_),by repeat (first | rfl | exact hget_hd | refine (hget_tl (by omega)).trans ?_),by repeat (first | rfl | exact hget_hd | refine (hget_tl (by omega)).trans ?_),by repeat (first | rfl | exact hget_hd | refine (hget_tl (by omega)).trans ?_),trivial⟩ ?_
    refine rN (Cx.Ok.rnd (cx_ok _ _ _)) (rO rfl (oM rfl ?_))
    refine rI (rC rfl (fun hc=>?_) fun hc=>?_)
    ·first
     |(cases hc;done)
     |refine rN (Cx.Ok.rnd (cx_ok _ _ _)) (rO rfl (Ope.fld rfl rfl ?_))
      refine rO rfl (Ope.loadH rfl hget_hd rfl ?_)
      refine rO rfl (oL rfl rfl ?_)
      refine rO rfl (Ope.cf rfl rfl (hwi e) rfl ?_)
      refine rO rfl (Ope.fld rfl rfl ?_)
      refine Reg.op0 (Ope.store rfl rfl hget_hd rfl rfl rfl ?_)
      refine rI (rN (Cx.Ok.rnd (cx_ok _ _ _)) (rO rfl (oL rfl rfl ?_)))
      refine rO rfl (Ope.fld rfl rfl ?_)
      refine rO rfl (Ope.loadH rfl hget_hd rfl ?_)
      refine rO rfl (Ope.fld rfl rfl ?_)
      refine rO rfl (Ope.loadH rfl hget_hd rfl ?_)
      refine Reg.op0 (Ope.msetI (M:=toI M) und_int rfl rfl rfl (by repeat (first | rfl | exact hget_hd | refine (hget_tl (by omega)).trans ?_)) ?_)
      refine rI (Run.bend ?_)
      first
      | exact Run.done ⟨rfl,_,_,rfl,by omega,by repeat (first | rfl | exact hget_hd | refine (hget_tl (by omega)).trans ?_),(ys++[x],updM M (part x)),by show 4≤_;omega,⟨by repeat (first | rfl | exact hget_hd | refine (hget_tl (by omega)).trans ?_),by show hget _ 0=some (.map (esI 0 (toI (updM M (part x)))) (toI (updM M (part x))).length);rw [hts e hg];exact hget_hd,trivial⟩,rfl,hX',hJ'⟩
      | exact Run.done ⟨rfl,_,_,rfl,by omega,by repeat (first | rfl | exact hget_hd | refine (hget_tl (by omega)).trans ?_),(ys++[x],updM M (part x)),by show 4≤_;omega,⟨by repeat (first | rfl | exact hget_hd | refine (hget_tl (by omega)).trans ?_),by show hget _ 0=some (.map (esI 0 (toI (updM M (part x)))) (toI (updM M (part x))).length);rw [htn hg];exact hget_hd,trivial⟩,rfl,hX',hJ'⟩
    ·first
     |(cases hc;done)
     |refine Run.skip (rN (Cx.Ok.rnd (cx_ok _ _ _)) (rO rfl (oL rfl rfl ?_)))
      refine rO rfl (Ope.fld rfl rfl ?_)
      refine rO rfl (Ope.loadH rfl hget_hd rfl ?_)
      refine rO rfl (Ope.fld rfl rfl ?_)
      refine rO rfl (Ope.loadH rfl hget_hd rfl ?_)
      refine Reg.op0 (Ope.msetI (M:=toI M) und_int rfl rfl rfl (by repeat (first | rfl | exact hget_hd | refine (hget_tl (by omega)).trans ?_)) ?_)
      refine rI (Run.bend ?_)
      first
      | exact Run.done ⟨rfl,_,_,rfl,by omega,by repeat (first | rfl | exact hget_hd | refine (hget_tl (by omega)).trans ?_),(ys++[x],updM M (part x)),by show 4≤_;omega,⟨by repeat (first | rfl | exact hget_hd | refine (hget_tl (by omega)).trans ?_),by show hget _ 0=some (.map (esI 0 (toI (updM M (part x)))) (toI (updM M (part x))).length);rw [hts e hg];exact hget_hd,trivial⟩,rfl,hX',hJ'⟩
      | exact Run.done ⟨rfl,_,_,rfl,by omega,by repeat (first | rfl | exact hget_hd | refine (hget_tl (by omega)).trans ?_),(ys++[x],updM M (part x)),by show 4≤_;omega,⟨by repeat (first | rfl | exact hget_hd | refine (hget_tl (by omega)).trans ?_),by show hget _ 0=some (.map (esI 0 (toI (updM M (part x)))) (toI (updM M (part x))).length);rw [htn hg];exact hget_hd,trivial⟩,rfl,hX',hJ'⟩
   ·refine rN (Cx.Ok.rnd (cx_ok _ _ _)) (rO rfl (Ope.newL rfl ?_))
    refine Reg.op0 (Ope.store rfl rfl hget_hd rfl rfl rfl ?_)
    refine rI (Run.done ⟨rfl,rfl,_,_,rfl,(hget_tl (by omega)).trans ((hget_tl (by omega)).trans hget_hd),fun lb2=>?_⟩)
    refine Run.block (rS (Run.frz (d:=6) true rfl ((hget_tl (by omega)).trans hget_hd) rfl ?_))
    refine Run.wide (m:=m+1) (l':=[(3,some lb2),(2,some .dfr),(0,some (.map (esI 0 (toI M)) (toI M).length))]) (Nat.le_refl _) ⟨by repeat (first | rfl | exact hget_hd | refine (hget_tl (by omega)).trans ?_),by repeat (first | rfl | exact hget_hd | refine (hget_tl (by omega)).trans ?_),by repeat (first | rfl | exact hget_hd | refine (hget_tl (by omega)).trans ?_),trivial⟩ ?_
    refine rN (Cx.Ok.rnd (cx_ok _ _ _)) (rO rfl (Ope.fld rfl rfl ?_))
    refine rO rfl (oL rfl rfl ?_)
    refine rO rfl (oL rfl rfl ?_)
    refine rO rfl (Ope.cf rfl rfl hp hb ?_)
    refine rO rfl (Ope.newL rfl ?_)
    refine Reg.op0 (Ope.store rfl rfl hget_hd rfl rfl rfl ?_)
    refine rI (rS (rS (rN (Cx.Ok.rnd (cx_ok _ _ _)) (rO rfl (oL rfl rfl ?_)))))
    refine rO rfl (Ope.fld rfl rfl ?_)
    refine rO rfl (Ope.loadH rfl hget_hd rfl ?_)
    refine rO rfl (Ope.lookI und_int rfl rfl (by repeat (first | rfl | exact hget_hd | refine (hget_tl (by omega)).trans ?_)) ?_)
    rw [hgt,hg]
    refine rO rfl (oM rfl ?_)
    refine rO rfl (Ope.ext rfl rfl ?_)
    refine rO rfl (Ope.ext rfl rfl ?_)
    refine rO rfl (Ope.newL rfl ?_)
    refine Reg.op0 (Ope.store rfl rfl hget_hd rfl rfl rfl ?_)
    refine rO rfl (oA rfl ?_)
    refine rI (rS (Run.frz (d:=8) true rfl hget_hd rfl ?_))
    refine Run.wide (m:=m+3) (l':=[(m+1,some (.cells [N (part x).1,I (part x).2.lo,I (part x).2.hi])),(3,some lb2),(2,some .dfr),(0,some (.map (esI 0 (toI M)) (toI M).length))]) (Nat.le_refl _) ⟨by repeat (first | rfl | exact hget_hd | refine (hget_tl (by omega)).trans ?_),by repeat (first | rfl | exact hget_hd | refine (hget_tl (by omega)).trans ?_),by repeat (first | rfl | exact hget_hd | refine (hget_tl (by omega)).trans ?_),by repeat (first | rfl | exact hget_hd | refine (hget_tl (by omega)).trans ?_),trivial⟩ ?_
    refine rN (Cx.Ok.rnd (cx_ok _ _ _)) (rO rfl (oM rfl ?_))
    refine rI (rC rfl (fun hc=>?_) fun hc=>?_)
    ·first
     |(cases hc;done)
     |refine rN (Cx.Ok.rnd (cx_ok _ _ _)) (rO rfl (Ope.fld rfl rfl ?_))
      refine rO rfl (Ope.loadH rfl hget_hd rfl ?_)
      refine rO rfl (oL rfl rfl ?_)
      refine rO rfl (Ope.cf rfl rfl (hwi e) rfl ?_)
      refine rO rfl (Ope.fld rfl rfl ?_)
      refine Reg.op0 (Ope.store rfl rfl hget_hd rfl rfl rfl ?_)
      refine rI (rN (Cx.Ok.rnd (cx_ok _ _ _)) (rO rfl (oL rfl rfl ?_)))
      refine rO rfl (Ope.fld rfl rfl ?_)
      refine rO rfl (Ope.loadH rfl hget_hd rfl ?_)
      refine rO rfl (Ope.fld rfl rfl ?_)
      refine rO rfl (Ope.loadH rfl hget_hd rfl ?_)
      refine Reg.op0 (Ope.msetI (M:=toI M) und_int rfl rfl rfl (by repeat (first | rfl | exact hget_hd | refine (hget_tl (by omega)).trans ?_)) ?_)
      refine rI (Run.bend ?_)
      first
      | exact Run.done ⟨rfl,_,_,rfl,by omega,by repeat (first | rfl | exact hget_hd | refine (hget_tl (by omega)).trans ?_),(ys++[x],updM M (part x)),by show 4≤_;omega,⟨by repeat (first | rfl | exact hget_hd | refine (hget_tl (by omega)).trans ?_),by show hget _ 0=some (.map (esI 0 (toI (updM M (part x)))) (toI (updM M (part x))).length);rw [hts e hg];exact hget_hd,trivial⟩,rfl,hX',hJ'⟩
      | exact Run.done ⟨rfl,_,_,rfl,by omega,by repeat (first | rfl | exact hget_hd | refine (hget_tl (by omega)).trans ?_),(ys++[x],updM M (part x)),by show 4≤_;omega,⟨by repeat (first | rfl | exact hget_hd | refine (hget_tl (by omega)).trans ?_),by show hget _ 0=some (.map (esI 0 (toI (updM M (part x)))) (toI (updM M (part x))).length);rw [htn hg];exact hget_hd,trivial⟩,rfl,hX',hJ'⟩
    ·first
     |(cases hc;done)
     |refine Run.skip (rN (Cx.Ok.rnd (cx_ok _ _ _)) (rO rfl (oL rfl rfl ?_)))
      refine rO rfl (Ope.fld rfl rfl ?_)
      refine rO rfl (Ope.loadH rfl hget_hd rfl ?_)
      refine rO rfl (Ope.fld rfl rfl ?_)
      refine rO rfl (Ope.loadH rfl hget_hd rfl ?_)
      refine Reg.op0 (Ope.msetI (M:=toI M) und_int rfl rfl rfl (by repeat (first | rfl | exact hget_hd | refine (hget_tl (by omega)).trans ?_)) ?_)
      refine rI (Run.bend ?_)
      first
      | exact Run.done ⟨rfl,_,_,rfl,by omega,by repeat (first | rfl | exact hget_hd | refine (hget_tl (by omega)).trans ?_),(ys++[x],updM M (part x)),by show 4≤_;omega,⟨by repeat (first | rfl | exact hget_hd | refine (hget_tl (by omega)).trans ?_),by show hget _ 0=some (.map (esI 0 (toI (updM M (part x)))) (toI (updM M (part x))).length);rw [hts e hg];exact hget_hd,trivial⟩,rfl,hX',hJ'⟩
      | exact Run.done ⟨rfl,_,_,rfl,by omega,by repeat (first | rfl | exact hget_hd | refine (hget_tl (by omega)).trans ?_),(ys++[x],updM M (part x)),by show 4≤_;omega,⟨by repeat (first | rfl | exact hget_hd | refine (hget_tl (by omega)).trans ?_),by show hget _ 0=some (.map (esI 0 (toI (updM M (part x)))) (toI (updM M (part x))).length);rw [htn hg];exact hget_hd,trivial⟩,rfl,hX',hJ'⟩
  ·obtain ⟨ys,M⟩:=a
   obtain ⟨rfl,hX,hJ⟩:=hI
   simp only at hX hJ
   have hJ':JM (fun p=>∃ x,X x∧p=part x) M:=jm_congr hJ fun q=>⟨fun ⟨x,hx,e⟩=>by
       obtain ⟨y,hy,hyx⟩:=List.mem_map.1 (hall _ ((hA _).2 ⟨x,hx,rfl⟩))
       exact ⟨y,hy,by rw [e];exact (hresp y x (hX y hy) hx hyx).symm⟩,fun ⟨x,hx,e⟩=>⟨x,hX x hx,e⟩⟩
   refine Run.bend (rS (Run.frzIp (dd:=5) (i:=0) (M:=toI M) rfl rfl ?_))
   rw [toI_fm]
   refine rN (cx_ok _ _ _) (rO rfl (oL rfl rfl ?_))
   refine rO rfl (oA rfl ?_)
   exact rI (Run.ret (fin_retD rfl (.tmp rfl .nil) (bd_fmP 0 M) ⟨M,rfl,hJ'⟩))
end Go.Pv
namespace Go.Pv
open Go.Proofs Go.Am
set_option maxRecDepth 10000
theorem f102 (X:Rec→Prop) (part:Rec→Prt) (g:Nat) (caps:List PV) (A:PV→Prop) (hy:YieldsA P0 g [] caps A) (hX5:∀ x,X x→x.cs.length=5) (hA:∀ v,A v↔∃ x,X x∧v=Rec.v x) (pf:Nat) (pcap:List PV)
    (hpart:∀ x,X x→Fn P0 pf (Rec.v x::pcap) (prtV (part x))) (hbd:∀ x:Rec,PV.bds 0 (Rec.v x::pcap)=true) (hresp:∀ x y,X x→X y→Rec.v x=Rec.v y→part x=part y) :
    PFun P0 102 [.fn (.func g) [] caps,.agg [.fn (.func pf) [] pcap]] (fun v=>∃ M,v=fmP M∧JM (fun p=>∃ x,X x∧p=part x) M) fun _=>False:=by
  refine PFun.of (C:=c102) (cx_ok _ _ _) rfl (fn:=Tryz.f102) (by kernel_rfl) (c:=_) rfl rfl rfl ?_
  refine rS (rN (cx_ok _ _ _) (rO rfl (Ope.boxF rfl rfl ?_)))
  refine rO rfl (oA rfl ?_)
  refine rI (rS (rN (cx_ok _ _ _) (rO rfl (Ope.mmap ?_))))
  refine rO rfl (Ope.newL rfl ?_)
  refine Reg.op0 (Ope.store rfl rfl rfl rfl rfl rfl ?_)
  refine rI (rS (rS (Run.frz (d:=5) false rfl rfl rfl ?_)))
  refine Run.wide (m:=2) (l':=[(0,some (.map [] 0))]) (Nat.le_refl _) ⟨rfl,trivial⟩ ?_
  refine rN (cx_ok _ _ _) (rO rfl (oM rfl ?_))
  refine rI (Run.block (Run.rangeFA (cx_ok _ _ _) rfl (α:=List (Rec)×List Prt) (fun a=>[(0,some (.map (esI 0 (toI a.2)) (toI a.2).length))]) (fun _=>4) (fun pre a=>pre=(a.1.map fun x=>Rec.v x)∧(∀ x∈a.1,X x)∧JM (fun p=>∃ x∈a.1,p=part x) a.2) rfl hy rfl rfl ⟨Tryz.f102,by kernel_rfl⟩ ([],[]) ⟨rfl,fun x hx=>(by cases hx),jm_congr jm0 fun q=>⟨fun ⟨x,hx,_⟩=>(by cases hx),fun h=>h.elim⟩⟩ ⟨rfl,trivial⟩ (by simp) (by simp) (by omega) (fun pre a v hv hI m hm1 hm2 lb=>?_) (fun pre a hall hI m hm1 hm2=>?_)))
  ·obtain ⟨ys,M⟩:=a
   obtain ⟨rfl,hX,hJ⟩:=hI
   obtain ⟨x,hx,rfl⟩:=(hA v).1 hv
   simp only at hX hJ
   have hp:=hpart x hx
   have hb:=hbd x
   have hgt:=toI_get (part x).1 M
   have hJ':JM (fun p=>∃ y∈ys++[x],p=part y) (updM M (part x)):=jm_step hJ fun q=>⟨fun ⟨y,hy,e⟩=>by
       rcases List.mem_append.1 hy with hy | hy
       · exact .inl ⟨y,hy,e⟩
       · rw [List.mem_singleton.1 hy] at e;exact .inr e,fun h=>by
       rcases h with ⟨y,hy,e⟩ | e
       · exact ⟨y,List.mem_append_left _ hy,e⟩
       · exact ⟨x,List.mem_append_right _ (List.mem_singleton_self _),e⟩⟩
   have hX':∀ y∈ys++[x],X y:=fun y hy=>by
     rcases List.mem_append.1 hy with hy | hy
     · exact hX y hy
     · rw [List.mem_singleton.1 hy];exact hx
   have hpre:(ys.map fun x=>Rec.v x)++[Rec.v x]=(ys++[x]).map fun x=>Rec.v x:=by rw [List.map_append];rfl
   rw [hpre]
   have hwi:=f111 (part x).2
   have hpv:prtV (part x)=.agg [N (part x).1,I (part x).2.lo,I (part x).2.hi]:=rfl
   have htn:=@toI_none (part x) M
   have hts:=fun e=>@toI_some (part x) e M
   have h5:=hX5 x hx
   obtain ⟨ds,cs⟩:=x
   simp only at h5
   obtain ⟨c0,c1,c2,c3,c4,rfl⟩:∃ c0 c1 c2 c3 c4,cs=[c0,c1,c2,c3,c4]:=by
     match cs,h5 with
     | [a,b,c,d,e],_=>exact ⟨a,b,c,d,e,rfl⟩
   cases hg:getM M (part ⟨ds,[c0,c1,c2,c3,c4]⟩).1 with | none=>?_ | some e=>?_
   ·refine rN (Cx.Ok.rnd (cx_ok _ _ _)) (rO rfl (Ope.newL rfl ?_))
    refine Reg.op0 (Ope.store rfl rfl hget_hd rfl (by cases ds<;>rfl) rfl ?_)
    refine rI (Run.done ⟨rfl,rfl,_,_,rfl,(hget_tl (by omega)).trans ((hget_tl (by omega)).trans hget_hd),fun lb2=>?_⟩)
    refine Run.block (rS (Run.frz (d:=6) true rfl ((hget_tl (by omega)).trans hget_hd) rfl ?_))
    refine Run.wide (m:=m+1) (l':=[(3,some lb2),(2,some .dfr),(0,some (.map (esI 0 (toI M)) (toI M).length))]) (Nat.le_refl _) ⟨by repeat (first | rfl | exact hget_hd | refine (hget_tl (by omega)).trans ?_),by repeat (first | rfl | exact hget_hd | refine (hget_tl (by omega)).trans ?_),by repeat (first | rfl | exact hget_hd | refine (hget_tl (by omega)).trans ?_),trivial⟩ ?_
    refine rN (Cx.Ok.rnd (cx_ok _ _ _)) (rO rfl (Ope.fld rfl rfl ?_))
    refine rO rfl (oL rfl rfl ?_)
    refine rO rfl (oL rfl rfl ?_)
    refine rO rfl (Ope.cf rfl rfl hp hb ?_)
    refine rO rfl (Ope.newL rfl ?_)
    refine Reg.op0 (Ope.store rfl rfl hget_hd rfl rfl rfl ?_)
    refine rI (rS (rS (rN (Cx.Ok.rnd (cx_ok _ _ _)) (rO rfl (oL rfl rfl ?_)))))
    refine rO rfl (Ope.fld rfl rfl ?_)
    refine rO rfl (Ope.loadH rfl hget_hd rfl ?_)
    refine rO rfl (Ope.lookI und_int rfl rfl (by repeat (first | rfl | exact hget_hd | refine (hget_tl (by omega)).trans ?_)) ?_)
    rw [hgt,hg]
    refine rO rfl (oM rfl ?_)
    refine rO rfl (Ope.ext rfl rfl ?_)
    refine rO rfl (Ope.ext rfl rfl ?_)
    refine rO rfl (Ope.newL rfl ?_)
    refine Reg.op0 (Ope.store rfl rfl hget_hd rfl rfl rfl ?_)
    refine rO rfl (oA rfl ?_)
    refine rI (rS (Run.frz (d:=8) true rfl hget_hd rfl ?_))
    refine Run.wide (m:=m+3) (l':=[(m+1,some (.cells [N (part ⟨ds,[c0,c1,c2,c3,c4]⟩).1,I (part ⟨ds,[c0,c1,c2,c3,c4]⟩).2.lo,I (part ⟨ds,[c0,c1,c2,c3,c4]⟩).2.hi])),(3,some lb2),(2,some .dfr),(0,some (.map (esI 0 (toI M)) (toI M).length))]) (Nat.le_refl _) ⟨by repeat (first | rfl | exact hget_hd | refine (hget_tl (by omega)).trans ?_),by repeat (first | rfl | exact hget_hd | refine (hget_tl (by omega)).trans ?_),by repeat (first | rfl | exact hget_hd | refine (hget_tl (by omega)).trans ?_),by repeat (first | rfl | exact hget_hd | refine (hget_tl (by omega)).trans ?_),trivial⟩ ?_
    refine rN (Cx.Ok.rnd (cx_ok _ _ _)) (rO rfl (oM rfl ?_))
    refine rI (rC rfl (fun hc=>?_) fun hc=>?_)
    ·first
     |(cases hc;done)
     |refine rN (Cx.Ok.rnd (cx_ok _ _ _)) (rO rfl (Ope.fld rfl rfl ?_))
      refine rO rfl (Ope.loadH rfl hget_hd rfl ?_)
      refine rO rfl (oL rfl rfl ?_)
      refine rO rfl (Ope.cf rfl rfl (hwi e) rfl ?_)
      refine rO rfl (Ope.fld rfl rfl ?_)
      refine Reg.op0 (Ope.store rfl rfl hget_hd rfl rfl rfl ?_)
      refine rI (rN (Cx.Ok.rnd (cx_ok _ _ _)) (rO rfl (oL rfl rfl ?_)))
      refine rO rfl (Ope.fld rfl rfl ?_)
      refine rO rfl (Ope.loadH rfl hget_hd rfl ?_)
      refine rO rfl (Ope.fld rfl rfl ?_)
      refine rO rfl (Ope.loadH rfl hget_hd rfl ?_)
      refine Reg.op0 (Ope.msetI (M:=toI M) und_int rfl rfl rfl (by repeat (first | rfl | exact hget_hd | refine (hget_tl (by omega)).trans ?_)) ?_)
      refine rI (Run.bend ?_)
      first
      | exact Run.done ⟨rfl,_,_,rfl,by omega,by repeat (first | rfl | exact hget_hd | refine (hget_tl (by omega)).trans ?_),(ys++[⟨ds,[c0,c1,c2,c3,c4]⟩],updM M (part ⟨ds,[c0,c1,c2,c3,c4]⟩)),by show 4≤_;omega,⟨by repeat (first | rfl | exact hget_hd | refine (hget_tl (by omega)).trans ?_),by show hget _ 0=some (.map (esI 0 (toI (updM M (part ⟨ds,[c0,c1,c2,c3,c4]⟩)))) (toI (updM M (part ⟨ds,[c0,c1,c2,c3,c4]⟩))).length);rw [hts e hg];exact hget_hd,trivial⟩,rfl,hX',hJ'⟩
      | exact Run.done ⟨rfl,_,_,rfl,by omega,by repeat (first | rfl | exact hget_hd | refine (hget_tl (by omega)).trans ?_),(ys++[⟨ds,[c0,c1,c2,c3,c4]⟩],updM M (part ⟨ds,[c0,c1,c2,c3,c4]⟩)),by show 4≤_;omega,⟨by repeat (first | rfl | exact hget_hd | refine (hget_tl (by omega)).trans ?_),by show hget _ 0=some (.map (esI 0 (toI (updM M (part ⟨ds,[c0,c1,c2,c3,c4]⟩)))) (toI (updM M (part ⟨ds,[c0,c1,c2,c3,c4]⟩))).length);rw [htn hg];exact hget_hd,trivial⟩,rfl,hX',hJ'⟩
    ·first
     |(cases hc;done)
     |refine Run.skip (rN (Cx.Ok.rnd (cx_ok _ _ _)) (rO rfl (oL rfl rfl ?_)))
      refine rO rfl (Ope.fld rfl rfl ?_)
      refine rO rfl (Ope.loadH rfl hget_hd rfl ?_)
      refine rO rfl (Ope.fld rfl rfl ?_)
      refine rO rfl (Ope.loadH rfl hget_hd rfl ?_)
      refine Reg.op0 (Ope.msetI (M:=toI M) und_int rfl rfl rfl (by repeat (first | rfl | exact hget_hd | refine (hget_tl (by omega)).trans ?_)) ?_)
      refine rI (Run.bend ?_)
      first
      | exact Run.done ⟨rfl,_,_,rfl,by omega,by repeat (first | rfl | exact hget_hd | refine (hget_tl (by omega)).trans ?_),(ys++[⟨ds,[c0,c1,c2,c3,c4]⟩],updM M (part ⟨ds,[c0,c1,c2,c3,c4]⟩)),by show 4≤_;omega,⟨by repeat (first | rfl | exact hget_hd | refine (hget_tl (by omega)).trans ?_),by show hget _ 0=some (.map (esI 0 (toI (updM M (part ⟨ds,[c0,c1,c2,c3,c4]⟩)))) (toI (updM M (part ⟨ds,[c0,c1,c2,c3,c4]⟩))).length);rw [hts e hg];exact hget_hd,trivial⟩,rfl,hX',hJ'⟩
      | exact Run.done ⟨rfl,_,_,rfl,by omega,by repeat (first | rfl | exact hget_hd | refine (hget_tl (by omega)).trans ?_),(ys++[⟨ds,[c0,c1,c2,c3,c4]⟩],updM M (part ⟨ds,[c0,c1,c2,c3,c4]⟩)),by show 4≤_;omega,⟨by repeat (first | rfl | exact hget_hd | refine (hget_tl (by omega)).trans ?_),by show hget _ 0=some (.map (esI 0 (toI (updM M (part ⟨ds,[c0,c1,c2,c3,c4]⟩)))) (toI (updM M (part ⟨ds,[c0,c1,c2,c3,c4]⟩))).length);rw [htn hg];exact hget_hd,trivial⟩,rfl,hX',hJ'⟩
   ·refine rN (Cx.Ok.rnd (cx_ok _ _ _)) (rO rfl (Ope.newL rfl ?_))
    refine Reg.op0 (Ope.store rfl rfl hget_hd rfl (by cases ds<;>rfl) rfl ?_)
    refine rI (Run.done ⟨rfl,rfl,_,_,rfl,(hget_tl (by omega)).trans ((hget_tl (by omega)).trans hget_hd),fun lb2=>?_⟩)
    refine Run.block (rS (Run.frz (d:=6) true rfl ((hget_tl (by omega)).trans hget_hd) rfl ?_))
    refine Run.wide (m:=m+1) (l':=[(3,some lb2),(2,some .dfr),(0,some (.map (esI 0 (toI M)) (toI M).length))]) (Nat.le_refl _) ⟨by repeat (first | rfl | exact hget_hd | refine (hget_tl (by omega)).trans ?_),by repeat (first | rfl | exact hget_hd | refine (hget_tl (by omega)).trans ?_),by repeat (first | rfl | exact hget_hd | refine (hget_tl (by omega)).trans ?_),trivial⟩ ?_
    refine rN (Cx.Ok.rnd (cx_ok _ _ _)) (rO rfl (Ope.fld rfl rfl ?_))
    refine rO rfl (oL rfl rfl ?_)
    refine rO rfl (oL rfl rfl ?_)
    refine rO rfl (Ope.cf rfl rfl hp hb ?_)
    refine rO rfl (Ope.newL rfl ?_)
    refine Reg.op0 (Ope.store rfl rfl hget_hd rfl rfl rfl ?_)
    refine rI (rS (rS (rN (Cx.Ok.rnd (cx_ok _ _ _)) (rO rfl (oL rfl rfl ?_)))))
    refine rO rfl (Ope.fld rfl rfl ?_)
    refine rO rfl (Ope.loadH rfl hget_hd rfl ?_)
    refine rO rfl (Ope.lookI und_int rfl rfl (by repeat (first | rfl | exact hget_hd | refine (hget_tl (by omega)).trans ?_)) ?_)
    rw [hgt,hg]
    refine rO rfl (oM rfl ?_)
    refine rO rfl (Ope.ext rfl rfl ?_)
    refine rO rfl (Ope.ext rfl rfl ?_)
    refine rO rfl (Ope.newL rfl ?_)
    refine Reg.op0 (Ope.store rfl rfl hget_hd rfl rfl rfl ?_)
    refine rO rfl (oA rfl ?_)
    refine rI (rS (Run.frz (d:=8) true rfl hget_hd rfl ?_))
    refine Run.wide (m:=m+3) (l':=[(m+1,some (.cells [N (part ⟨ds,[c0,c1,c2,c3,c4]⟩).1,I (part ⟨ds,[c0,c1,c2,c3,c4]⟩).2.lo,I (part ⟨ds,[c0,c1,c2,c3,c4]⟩).2.hi])),(3,some lb2),(2,some .dfr),(0,some (.map (esI 0 (toI M)) (toI M).length))]) (Nat.le_refl _) ⟨by repeat (first | rfl | exact hget_hd | refine (hget_tl (by omega)).trans ?_),by repeat (first | rfl | exact hget_hd | refine (hget_tl (by omega)).trans ?_),by repeat (first | rfl | exact hget_hd | refine (hget_tl (by omega)).trans ?_),by repeat (first | rfl | exact hget_hd | refine (hget_tl (by omega)).trans ?_),trivial⟩ ?_
    refine rN (Cx.Ok.rnd (cx_ok _ _ _)) (rO rfl (oM rfl ?_))
    refine rI (rC rfl (fun hc=>?_) fun hc=>?_)
    ·first
     |(cases hc;done)
     |refine rN (Cx.Ok.rnd (cx_ok _ _ _)) (rO rfl (Ope.fld rfl rfl ?_))
      refine rO rfl (Ope.loadH rfl hget_hd rfl ?_)
      refine rO rfl (oL rfl rfl ?_)
      refine rO rfl (Ope.cf rfl rfl (hwi e) rfl ?_)
      refine rO rfl (Ope.fld rfl rfl ?_)
      refine Reg.op0 (Ope.store rfl rfl hget_hd rfl rfl rfl ?_)
      refine rI (rN (Cx.Ok.rnd (cx_ok _ _ _)) (rO rfl (oL rfl rfl ?_)))
      refine rO rfl (Ope.fld rfl rfl ?_)
      refine rO rfl (Ope.loadH rfl hget_hd rfl ?_)
      refine rO rfl (Ope.fld rfl rfl ?_)
      refine rO rfl (Ope.loadH rfl hget_hd rfl ?_)
      refine Reg.op0 (Ope.msetI (M:=toI M) und_int rfl rfl rfl (by repeat (first | rfl | exact hget_hd | refine (hget_tl (by omega)).trans ?_)) ?_)
      refine rI (Run.bend ?_)
      first
      | exact Run.done ⟨rfl,_,_,rfl,by omega,by repeat (first | rfl | exact hget_hd | refine (hget_tl (by omega)).trans ?_),(ys++[⟨ds,[c0,c1,c2,c3,c4]⟩],updM M (part ⟨ds,[c0,c1,c2,c3,c4]⟩)),by show 4≤_;omega,⟨by repeat (first | rfl | exact hget_hd | refine (hget_tl (by omega)).trans ?_),by show hget _ 0=some (.map (esI 0 (toI (updM M (part ⟨ds,[c0,c1,c2,c3,c4]⟩)))) (toI (updM M (part ⟨ds,[c0,c1,c2,c3,c4]⟩))).length);rw [hts e hg];exact hget_hd,trivial⟩,rfl,hX',hJ'⟩
      | exact Run.done ⟨rfl,_,_,rfl,by omega,by repeat (first | rfl | exact hget_hd | refine (hget_tl (by omega)).trans ?_),(ys++[⟨ds,[c0,c1,c2,c3,c4]⟩],updM M (part ⟨ds,[c0,c1,c2,c3,c4]⟩)),by show 4≤_;omega,⟨by repeat (first | rfl | exact hget_hd | refine (hget_tl (by omega)).trans ?_),by show hget _ 0=some (.map (esI 0 (toI (updM M (part ⟨ds,[c0,c1,c2,c3,c4]⟩)))) (toI (updM M (part ⟨ds,[c0,c1,c2,c3,c4]⟩))).length);rw [htn hg];exact hget_hd,trivial⟩,rfl,hX',hJ'⟩
    ·first
     |(cases hc;done)
     |refine Run.skip (rN (Cx.Ok.rnd (cx_ok _ _ _)) (rO rfl (oL rfl rfl ?_)))
      refine rO rfl (Ope.fld rfl rfl ?_)
      refine rO rfl (Ope.loadH rfl hget_hd rfl ?_)
      refine rO rfl (Ope.fld rfl rfl ?_)
      refine rO rfl (Ope.loadH rfl hget_hd rfl ?_)
      refine Reg.op0 (Ope.msetI (M:=toI M) und_int rfl rfl rfl (by repeat (first | rfl | exact hget_hd | refine (hget_tl (by omega)).trans ?_)) ?_)
      refine rI (Run.bend ?_)
      first
      | exact Run.done ⟨rfl,_,_,rfl,by omega,by repeat (first | rfl | exact hget_hd | refine (hget_tl (by omega)).trans ?_),(ys++[⟨ds,[c0,c1,c2,c3,c4]⟩],updM M (part ⟨ds,[c0,c1,c2,c3,c4]⟩)),by show 4≤_;omega,⟨by repeat (first | rfl | exact hget_hd | refine (hget_tl (by omega)).trans ?_),by show hget _ 0=some (.map (esI 0 (toI (updM M (part ⟨ds,[c0,c1,c2,c3,c4]⟩)))) (toI (updM M (part ⟨ds,[c0,c1,c2,c3,c4]⟩))).length);rw [hts e hg];exact hget_hd,trivial⟩,rfl,hX',hJ'⟩
      | exact Run.done ⟨rfl,_,_,rfl,by omega,by repeat (first | rfl | exact hget_hd | refine (hget_tl (by omega)).trans ?_),(ys++[⟨ds,[c0,c1,c2,c3,c4]⟩],updM M (part ⟨ds,[c0,c1,c2,c3,c4]⟩)),by show 4≤_;omega,⟨by repeat (first | rfl | exact hget_hd | refine (hget_tl (by omega)).trans ?_),by show hget _ 0=some (.map (esI 0 (toI (updM M (part ⟨ds,[c0,c1,c2,c3,c4]⟩)))) (toI (updM M (part ⟨ds,[c0,c1,c2,c3,c4]⟩))).length);rw [htn hg];exact hget_hd,trivial⟩,rfl,hX',hJ'⟩
  ·obtain ⟨ys,M⟩:=a
   obtain ⟨rfl,hX,hJ⟩:=hI
   simp only at hX hJ
   have hJ':JM (fun p=>∃ x,X x∧p=part x) M:=jm_congr hJ fun q=>⟨fun ⟨x,hx,e⟩=>by
       obtain ⟨y,hy,hyx⟩:=List.mem_map.1 (hall _ ((hA _).2 ⟨x,hx,rfl⟩))
       exact ⟨y,hy,by rw [e];exact (hresp y x (hX y hy) hx hyx).symm⟩,fun ⟨x,hx,e⟩=>⟨x,hX x hx,e⟩⟩
   refine Run.bend (rS (Run.frzIp (dd:=5) (i:=0) (M:=toI M) rfl rfl ?_))
   rw [toI_fm]
   refine rN (cx_ok _ _ _) (rO rfl (oL rfl rfl ?_))
   refine rO rfl (oA rfl ?_)
   exact rI (Run.ret (fin_retD rfl (.tmp rfl .nil) (bd_fmP 0 M) ⟨M,rfl,hJ'⟩))
end Go.Pv
namespace Go.Pv
open Go.Proofs Go.Am
set_option maxRecDepth 10000
theorem rok_len {f:Fns} {q:Rec} (h:f.Rok q):q.ds.length≤5:=by
  have:=h.nd.length_le_of_subset (l₂:=List.range 5) fun i hi=>by
    obtain ⟨d,hd,rfl⟩:=List.mem_map.1 hi
    exact List.mem_range.2 (h.lt d hd)
  simpa using this
theorem nodup_of_nu {l:List Deed} (h:(l.map Deed.nu).Nodup):l.Nodup:=by
  induction l with
  | nil=>exact List.nodup_nil
  | cons a l ih =>
    obtain ⟨h1,h2⟩:=List.nodup_cons.1 h
    exact List.nodup_cons.2 ⟨fun hm=>h1 (List.mem_map_of_mem hm),ih h2⟩
abbrev capsG (f:Fns) (t1 t2:Tail) (j c:Nat):List PV:=[.fp (.yld j),.ptr c 0,.fp (f.v t1 t2)]
abbrev cellG (f:Fns) (t1 t2:Tail) (j c:Nat):PBlk:=.cells [.fn (.func 113) [] (capsG f t1 t2 j c)]
structure Gd (f:Fns) (q:Rec) (left:List Deed):Prop where
  r:f.Rok q
  d:∀ d∈left,Dok f d
  b:∀ d∈left,∀ o∈q.ds,bef o d=true
  n:left.length≤1000
theorem Gd.next {f:Fns} (hf:f.ok) {q:Rec} {left:List Deed} (h:Gd f q left) {d:Deed} (hd:d∈left) (hn:q.has d.nu=false):Gd f (f.wth q d) (left.filter (bef d)) :=
  ⟨rok_wth hf h.r (h.d d hd).nu hn (h.b d hd),fun x hx=>h.d x (List.mem_filter.1 hx).1,fun x hx o ho=>by
    obtain ⟨x1,x2⟩:=List.mem_filter.1 hx
    rcases List.mem_cons.1 ho with rfl | ho
    · exact x2
    · exact h.b x x1 o ho,Nat.le_trans (List.length_filter_le _ _) h.n⟩
def EndG (j c:Nat) (cell:PBlk) (R:PV→PH→Prop) (A:PV→Prop) (N n:Nat) (pre:List PV) (v:PV) (h':PH):Prop :=
  ∃ m l',n≤m∧h'=HE m ((c,some cell)::l')∧hget l' c=none∧(∀ i,m≤i→hget l' i=none)∧((v=B true∧FeedA P0 (.yld j) R A N pre m l')∨(v=B false∧∀ m2,m≤m2→∀ u,R u (HE m2 l')))
theorem hs_junk {c m:Nat} {cell x:Option PBlk} {l:HL} (hm:hget l m=none) (hcm:m≠c):∀ i b,hget ((c,cell)::l) i=some b→hget ((m,x)::(c,cell)::l) i=some b:=by
  intro i b h
  by_cases h1:i=m
  · subst h1
    rw [hget_tl hcm,hm] at h;cases h
  · rw [hget_tl h1];exact h
theorem hs_frz3 {c m:Nat} {cell x y z:Option PBlk} {l:HL} (hm:hget l m=none) (hcm:m≠c):∀ i b,hget ((c,cell)::l) i=some b→hget ((m,x)::(m,y)::(m,z)::(c,cell)::l) i=some b:=by
  intro i b h
  by_cases h1:i=m
  · subst h1
    rw [hget_tl hcm,hm] at h;cases h
  · rw [hget_tl h1,hget_tl h1,hget_tl h1];exact h
theorem loadR {q:Rec} (h:q.cs.length=5) {l:HL}:loadK true 6 l (.fp q.v)=some q.v:=by
  obtain ⟨ds,cs⟩:=q
  match cs,h with
  | [a,b,c,d,e],_=>rfl
section
variable (f:Fns) {t1 t2:Tail} (h1:t1.isOwn=false) (h2:t2.isOwn=false) (hf:f.ok)
include h1 h2 hf
theorem f113 (A : PV → Prop) : ∀ (K : Nat) (q : Rec) (left : List Deed) (tl : Tail) (htl : tl.isOwn = false), left.length ≤ K → Gd f q left → (∀ x ∈ f.recs K q left, A x.v) → ∀ (j c n N : Nat) (l : HL) (R : PV → PH → Prop) (pre : List PV), j < n → c < n → hget l c = none →
    FeedA P0 (.yld j) R A ((f.recs K q left).length+N) pre n l →
    PCall P0 113 [q.v,.sl tl (left.map Deed.v),.fp (.yld j),.ptr c 0,.fp (f.v t1 t2)] (HE n ((c,some (cellG f t1 t2 j c))::l)) (EndG j c (cellG f t1 t2 j c) R A N n (pre++(f.recs K q left).map Rec.v)) fun _ _=>False:=by
  intro K
  induction K with
  | zero =>
    intro q left tl htl hK hg hA j c n N l R pre hjn hcn hlc hfe
    obtain rfl:left=[]:=List.eq_nil_of_length_eq_zero (Nat.le_zero.1 hK)
    simp only [Fns.recs,List.length_singleton,List.map_cons,List.map_nil,List.mem_singleton,forall_eq] at hA hfe ⊢
    rw [Nat.add_comm] at hfe
    refine PCall.ofH (C:=c113) (cx_ok _ _ _) rfl (fn:=Tryz.f113) (by kernel_rfl) (c:=_) rfl rfl rfl (fun hok=>?_)
    refine rS (rN (cx_ok _ _ _) (rO rfl (Ope.boxF rfl rfl ?_)))
    refine rO rfl (oA rfl ?_)
    refine rI (Run.scope (rS (rS (rN (cx_ok _ _ _) (rO rfl (oL rfl rfl ?_))))))
    refine rO rfl (oL rfl (loadR hg.r.ln) ?_)
    refine rO rfl (Ope.yldB (own:=[(c,some (cellG f t1 t2 j c))]) (l:=l) (j:=j) (v:=q.v) rfl rfl (OwnsB.one rfl hlc) hA hfe (fun m3 l3 hm3 hok3 hno3 hfe3=>?_) (fun m3 l3 hm3 hok3 hno3 hR=>?_))
    ·refine rO rfl (Ope.not rfl ?_)
     refine rI (rC rfl (fun hc=>?_) fun hc=>?_)
     ·(cases hc;done)
     ·refine Run.skip (rS (Run.label (rS (rS (rN (cx_ok _ _ _) (rO rfl (oM rfl ?_)))))))
      first | refine rO rfl (Ope.len rfl (List.length_map _) ?_) | refine rO rfl (Ope.len rfl rfl ?_) | refine rO rfl (Ope.lenL rfl ?_)
      refine rO rfl (oM rfl ?_)
      refine rI (Run.block (Run.loop (α:=Nat) (fun i=>[(15,.sl tl []),(16,I 0),(17,I i)]) (fun _=>HE m3 ((c,some (cellG f t1 t2 j c))::l3)) (fun i=>i=0) (fun i=>i) 0 ⟨rfl,rfl,rfl,trivial⟩ rfl rfl (fun i hi=>?_)))
      subst hi
      refine rS (rN (cx_ok _ _ _) (rO rfl (Ope.lt rfl rfl ?_)))
      refine rI (rS (rC rfl (fun hc=>?_) fun hc=>?_))
      ·(exfalso;omega)
      ·refine Run.exit (Jmp.code (Jmp.round (Jmp.here (rS (rN (cx_ok _ _ _) (rO rfl (oA rfl ?_)))))))
       refine rI (Run.ret (Jmp.retS ?_))
       first
       | exact finH_ret (.tmp rfl .nil) (Nat.le_refl _) (fun _ _ h=>h) ⟨m3,l3,hm3,rfl,hno3 c keysB_one,fun i hi=>ok_none hok3 hi,.inl ⟨rfl,hfe3⟩⟩
       | exact finH_ret (.tmp rfl .nil) (Nat.le_refl _) (fun _ _ h=>h) ⟨m3,l3,hm3,rfl,hno3 c keysB_one,fun i hi=>ok_none hok3 hi,.inr ⟨rfl,hR⟩⟩
    ·refine rO rfl (Ope.not rfl ?_)
     refine rI (rC rfl (fun hc=>?_) fun hc=>?_)
     ·refine rS (rN (cx_ok _ _ _) (rO rfl (oA rfl ?_)))
      refine rI (Run.ret (Jmp.code (Jmp.retS ?_)))
      first
      | exact finH_ret (.tmp rfl .nil) (Nat.le_refl _) (fun _ _ h=>h) ⟨m3,l3,hm3,rfl,hno3 c keysB_one,fun i hi=>ok_none hok3 hi,.inl ⟨rfl,hfe3⟩⟩
      | exact finH_ret (.tmp rfl .nil) (Nat.le_refl _) (fun _ _ h=>h) ⟨m3,l3,hm3,rfl,hno3 c keysB_one,fun i hi=>ok_none hok3 hi,.inr ⟨rfl,hR⟩⟩
     ·(cases hc;done)
  | succ K ih =>
    intro q left tl htl hK hg hA j c n N l R pre hjn hcn hlc hfe
    obtain ⟨G,hG⟩:∃ G:Deed→List Rec,∀ d,G d=if q.has d.nu=true then [] else f.recs K (f.wth q d) (left.filter (bef d)):=⟨_,fun _=>rfl⟩
    have hrec:f.recs (K+1) q left=q::left.flatMap G:=by
      rw [Fns.recs]
      congr 1
      rw [show G=fun d=>if q.has d.nu=true then [] else f.recs K (f.wth q d) (left.filter (bef d)) from funext hG]
    rw [hrec] at hA hfe ⊢
    have hAq:=hA q (by simp)
    have hAG:∀ d∈left,∀ x∈G d,A x.v:=fun d hd x hx=>hA x (List.mem_cons_of_mem _ (List.mem_flatMap.2 ⟨d,hd,hx⟩))
    have hdr:∀ p (h:p < left.length),(left.drop p).flatMap G=G left[p]++(left.drop (p+1)).flatMap G:=fun p h=>by
      rw [List.drop_eq_getElem_cons h,List.flatMap_cons]
    have htk:∀ p (h:p < left.length),(left.take (p+1)).flatMap G=(left.take p).flatMap G++G left[p]:=fun p h=>by
      rw [List.take_succ_eq_append_getElem h,List.flatMap_append,List.flatMap_cons,List.flatMap_nil,List.append_nil]
    have hfe:FeedA P0 (.yld j) R A (((left.drop 0).flatMap G).length+N+1) pre n l:=by
      rw [List.drop_zero]
      rw [List.length_cons] at hfe
      rw [show (left.flatMap G).length+N+1=(left.flatMap G).length+1+N by omega]
      exact hfe
    have hq5:=rok_len hg.r
    have hqn:=nodup_of_nu hg.r.nd
    have hqc:=hg.r.ln
    have hln:=hg.n
    have hbw:∀ x:Deed,PV.bds 0 [f.v t1 t2,q.v,x.v]=true:=fun x=>bd_fnsV f h1 h2 (bds_cons (bd_rec 0 q) rfl)
    have hbo:∀ x:Deed,PV.bds 0 [.sl tl (left.map Deed.v),.fn (.func 76) [x.v] []]=true:=fun x=>bds_cons (bd_sl (f:=Deed.v) htl (fun _=>rfl) _) rfl
    have hhas:∀ x,q.has x=true↔∃ o∈q.ds,o.nu=x:=fun x=>by rw [has_iff,List.mem_map]
    have hqv:q.v=.agg (mapV (q.ds.map Deed.key) (q.ds.map fun _=>B true)::q.cs.map I):=rfl
    refine PCall.ofH (C:=c113) (cx_ok _ _ _) rfl (fn:=Tryz.f113) (by kernel_rfl) (c:=_) rfl rfl rfl (fun hok=>?_)
    refine rS (rN (cx_ok _ _ _) (rO rfl (Ope.boxF rfl rfl ?_)))
    refine rO rfl (oA rfl ?_)
    refine rI (Run.scope (rS (rS (rN (cx_ok _ _ _) (rO rfl (oL rfl rfl ?_))))))
    refine rO rfl (oL rfl (loadR hg.r.ln) ?_)
    refine rO rfl (Ope.yldB (own:=[(c,some (cellG f t1 t2 j c))]) (l:=l) (j:=j) (v:=q.v) rfl rfl (OwnsB.one rfl hlc) hAq hfe (fun m3 l3 hm3 hok3 hno3 hfe3=>?_) (fun m3 l3 hm3 hok3 hno3 hR=>?_))
    ·refine rO rfl (Ope.not rfl ?_)
     refine rI (rC rfl (fun hc=>?_) fun hc=>?_)
     ·(cases hc;done)
     ·refine Run.skip (rS (Run.label (rS (rS (rN (cx_ok _ _ _) (rO rfl (oM rfl ?_)))))))
      refine rO rfl (Ope.len (m:=left.length) rfl (by simp) ?_)
      refine rO rfl (oM rfl ?_)
      refine rI (Run.block (Run.loop (α:=Nat×HL×Nat) (fun t=>[(1,.sl tl (left.map Deed.v)),(2,.fp (.yld j)),(3,.ptr c 0),(4,.fp (f.v t1 t2)),(5,.fp q.v),(15,.sl tl (left.map Deed.v)),(16,I left.length),(17,I t.1)]) (fun t=>HE t.2.2 ((c,some (cellG f t1 t2 j c))::t.2.1)) (fun t=>t.1≤left.length∧n≤t.2.2∧hget t.2.1 c=none∧(∀ i,t.2.2≤i→hget t.2.1 i=none)∧FeedA P0 (.yld j) R A (((left.drop t.1).flatMap G).length+N) (pre++[q.v]++((left.take t.1).flatMap G).map Rec.v) t.2.2 t.2.1) (fun t=>left.length - t.1) (0,l3,m3) ⟨rfl,rfl,rfl,rfl,rfl,rfl,rfl,rfl,trivial⟩ rfl ⟨Nat.zero_le _,hm3,hno3 c keysB_one,fun i hi=>ok_none hok3 hi,by simpa using hfe3⟩ (fun t ht=>?_)))
      obtain ⟨p,l4,m⟩:=t
      obtain ⟨hp,hnm,hl4,hl4n,hfe4⟩:=ht
      simp only at hp hnm hl4 hl4n hfe4
      show Run _ _ _ _ [(1,.sl tl (left.map Deed.v)),(2,.fp (.yld j)),(3,.ptr c 0),(4,.fp (f.v t1 t2)),(5,.fp q.v),(15,.sl tl (left.map Deed.v)),(16,I left.length),(17,I p)] [] (HE m ((c,some (cellG f t1 t2 j c))::l4))
      refine rS (rN (cx_ok _ _ _) (rO rfl (Ope.lt rfl rfl ?_)))
      refine rI (rS (rC rfl (fun hc=>?_) fun hc=>?_))
      ·refine Run.skip (rS (Run.block (rS ?_)))
       have hlt:p < left.length:=by omega
       have hdM:left[p]∈left:=List.getElem_mem hlt
       have hdp:=hdr p hlt
       have htp:=htk p hlt
       have hGp:=hG left[p]
       have hDk:=hg.d _ hdM
       have hbf:=hg.b _ hdM
       have hnx:=fun hn=>hg.next hf hdM hn
       have hAGp:=hAG _ hdM
       have hho:=hhas left[p].nu
       have hflt:(left.filter (bef left[p])).length≤K:=by
         have h1:=List.length_filter_lt_length_iff_exists (p:=bef left[p]) (l:=left) |>.2 ⟨left[p],hdM,by rw [bef_irr];simp⟩
         omega
       have hon:=f114 left[p] tl left hln
       refine rN (cx_ok _ _ _) (rO rfl (Ope.idxM (m:=p) (f:=Deed.v) rfl rfl rfl hlt (fun _=>rfl) ?_))
       refine rO rfl (oL rfl rfl ?_)
       refine rO rfl (Ope.newL rfl ?_)
       refine Reg.op0 (Ope.store rfl rfl hget_hd rfl rfl rfl ?_)
       refine rI (rS (rS (Run.frz (d:=9) true rfl hget_hd rfl ?_)))
       refine Run.wideS (m:=m+1) (l':=(c,some (cellG f t1 t2 j c))::l4) (Nat.le_refl _) (hs_frz3 (hl4n m (Nat.le_refl _)) (by omega)) ?_
       refine rN (cx_ok _ _ _) (rO rfl (Ope.fld rfl fldM ?_))
       refine rO rfl (oL rfl loadM ?_)
       refine rO rfl (Ope.rngV rfl ?_)
       refine rI (Run.block (Run.loop (α:=List Nat×Nat) (fun t=>[(1,.sl tl (left.map Deed.v)),(2,.fp (.yld j)),(3,.ptr c 0),(4,.fp (f.v t1 t2)),(5,.fp q.v),(9,.fp left[p].v),(15,.sl tl (left.map Deed.v)),(16,I left.length),(17,I p),(23,.ptr (m+1) 0)]) (fun t=>HE t.2 ((m+1,some (itV (q.ds.map Deed.key) (q.ds.map fun _=>B true) t.1))::(c,some (cellG f t1 t2 j c))::l4)) (fun t=>Seen q.ds.length t.1∧m+1 < t.2∧∀ s∈t.1,∀ o,q.ds[s]?=some o→o.nu≠left[p].nu) (fun t=>q.ds.length - t.1.length) ([],m+2) ⟨rfl,rfl,rfl,rfl,rfl,rfl,rfl,rfl,rfl,rfl,trivial⟩ rfl ⟨Seen.nil _,Nat.lt_succ_self _,fun s hs=>(by cases hs)⟩ (fun t ht=>?_)))
       obtain ⟨seen,m2⟩:=t
       obtain ⟨hs,hm2,hne⟩:=ht
       simp only at hs hm2 hne
       show Run _ _ _ _ [(1,.sl tl (left.map Deed.v)),(2,.fp (.yld j)),(3,.ptr c 0),(4,.fp (f.v t1 t2)),(5,.fp q.v),(9,.fp left[p].v),(15,.sl tl (left.map Deed.v)),(16,I left.length),(17,I p),(23,.ptr (m+1) 0)] [] (HE m2 ((m+1,some (itV (q.ds.map Deed.key) (q.ds.map fun _=>B true) seen))::(c,some (cellG f t1 t2 j c))::l4))
       refine rS (rN (cx_ok _ _ _) (rO rfl (Ope.nxtV (xs:=q.ds) (kf:=Deed.key) (vf:=fun _=>B true) (kv:=Deed.v) Deed.of rfl hget_hd rfl (fun hall=>?_) (fun s hsl hss=>?_))))
       ·refine rO rfl (Ope.ext rfl rfl ?_)
        refine rI (rS (rC rfl (fun hc=>?_) fun hc=>?_))
        ·(cases hc;done)
        ·refine Run.exit (Jmp.code (Jmp.round (Jmp.here (rS (Run.wideS (m:=m2) (l':=(c,some (cellG f t1 t2 j c))::l4) (Nat.le_refl _) (hs_junk (hl4n (m+1) (by omega)) (by omega)) ?_)))))
         have hnh:q.has left[p].nu=false:=by
           cases hh:q.has left[p].nu with
           | false=>rfl
           | true =>
             obtain ⟨o,ho,hon⟩:=hho.1 hh
             obtain ⟨z,hz,rfl⟩:=List.getElem_of_mem ho
             exact absurd hon (hne z (hall z hz) _ (List.getElem?_eq_getElem hz))
         rw [if_neg (by rw [hnh];simp)] at hGp
         have hdn:left[p] ∉ q.ds:=fun hm=>by
           have:=hho.2 ⟨_,hm,rfl⟩
           rw [hnh] at this;cases this
         have hwi:=f77 f h1 h2 hf q left[p] hqc hq5 hqn hdn hDk
         have hfe5:FeedA P0 (.yld j) R A ((f.recs K (f.wth q left[p]) (left.filter (bef left[p]))).length+(((left.drop (p+1)).flatMap G).length+N)) (pre++[q.v]++((left.take p).flatMap G).map Rec.v) m2 l4:=by
           have h:=hfe4.mono (n':=m2) (by omega)
           rw [hdp,List.length_append,hGp] at h
           rw [← Nat.add_assoc]
           exact h
         have hih:=ih (f.wth q left[p]) (left.filter (bef left[p])) .no rfl hflt (hnx hnh) (by rw [← hGp];exact hAGp) j c m2 (((left.drop (p+1)).flatMap G).length+N) l4 R (pre++[q.v]++((left.take p).flatMap G).map Rec.v) (by omega) (by omega) hl4 hfe5
         refine Run.drawS (cx_ok _ _ _) (fun h'=>h'.get c=some (cellG f t1 t2 j c)) [(0,false,false),(1,true,false),(2,true,false),(3,true,false),(5,true,false),(6,false,false),(7,true,false),(4,true,true),(8,true,true),(9,true,false),(10,true,false)] (by kernel_rfl) (DraS.opR rfl rfl rfl hget_hd (StabS.at rfl) (Ope.loadH rfl hget_hd rfl ?_))
         refine DraS.opQ rfl rfl rfl (oL rfl rfl ?_)
         refine DraS.opQ rfl rfl rfl (oL rfl (loadR hqc) ?_)
         refine DraS.opQ rfl rfl rfl (oL rfl rfl ?_)
         refine DraS.opQ rfl rfl rfl (oM rfl ?_)
         refine DraS.opR rfl rfl rfl hget_hd (StabS.frozen rfl) (oL rfl rfl ?_)
         refine DraS.opQ rfl rfl rfl (Ope.mkf rfl rfl ?_)
         refine DraS.opS rfl rfl rfl (Ope.cf rfl rfl hwi (hbw _) ?_)
         refine ⟨hget_hd,?_⟩
         refine DraS.opS rfl rfl rfl (Ope.cf rfl rfl hon (hbo _) ?_)
         refine ⟨hget_hd,?_⟩
         refine DraS.opQ rfl rfl rfl (Ope.call rfl rfl rfl (hih.mono (fun v h' hq=>?_) fun _ _ h=>h.elim))
         obtain ⟨m5,l5,hm5,rfl,hl5c,hl5n,hq⟩:=hq
         rcases hq with ⟨rfl,hfe6⟩ | ⟨rfl,hR⟩
         ·refine DraS.opQ rfl rfl rfl (Ope.not rfl ?_)
          refine DraS.nil (rC rfl (fun hc=>?_) fun hc=>?_)
          ·(cases hc;done)
          ·refine Run.skip (Run.bend ?_)
           first
           | refine Run.wideS (m:=m2+1) (l':=(c,some (cellG f t1 t2 j c))::l4) (Nat.le_refl _) (hs_junk (hl4n (m+1) (by omega)) (by omega)) ?_
           | skip
           refine rN (cx_ok _ _ _) (rO rfl (Ope.add rfl rfl (by omega) ?_))
           refine rO rfl (oM rfl ?_)
           refine rI ?_
           first
           | exact Run.lend ⟨(p+1,l5,m5),by show left.length - (p+1) < left.length - p;omega,⟨by show p+1≤left.length;omega,by show n≤m5;omega,hl5c,hl5n,by
               rw [htp,hGp,List.map_append,← List.append_assoc];exact hfe6⟩,⟨rfl,rfl,rfl,rfl,rfl,rfl,rfl,rfl,trivial⟩,rfl,rfl⟩
           | (have hhe : q.has left[p].nu = true := hho.2 ⟨q.ds[s], List.getElem_mem hsl, by omega⟩
              rw [if_pos hhe] at hGp
              exact Run.lend ⟨(p+1,l4,m2+1),by show left.length - (p+1) < left.length - p;omega,⟨by show p+1≤left.length;omega,by show n≤m2+1;omega,hl4,fun i hi=>hl4n i (by simp only at hi;omega),by
               rw [htp,hGp,List.append_nil]
               have h:=hfe4.mono (n':=m2+1) (by omega)
               rw [hdp,hGp,List.nil_append] at h
               exact h⟩,⟨rfl,rfl,rfl,rfl,rfl,rfl,rfl,rfl,trivial⟩,rfl,rfl⟩)
         ·refine DraS.opQ rfl rfl rfl (Ope.not rfl ?_)
          refine DraS.nil (rC rfl (fun hc=>?_) fun hc=>?_)
          ·refine rS (rN (cx_ok _ _ _) (rO rfl (oA rfl ?_)))
           refine rI (Run.ret (Jmp.retB (Jmp.code (Jmp.round (Jmp.retB (Jmp.code (Jmp.retS ?_)))))))
           first
           | exact finH_ret (.tmp rfl .nil) (Nat.le_refl _) (fun _ _ h=>h) ⟨m3,l3,hm3,rfl,hno3 c keysB_one,fun i hi=>ok_none hok3 hi,.inr ⟨rfl,hR⟩⟩
           | exact finH_ret (.tmp rfl .nil) (Nat.le_refl _) (fun _ _ h=>h) ⟨m5,l5,by omega,rfl,hl5c,hl5n,.inr ⟨rfl,hR⟩⟩
           | (obtain rfl : p = left.length := by omega
              refine finH_ret (.tmp rfl .nil) (Nat.le_refl _) (fun _ _ h=>h) ⟨m,l4,hnm,rfl,hl4,hl4n,.inl ⟨rfl,?_⟩⟩
              rw [List.drop_length,List.take_length] at hfe4
              simpa using hfe4)
          ·(cases hc;done)
       ·refine rO rfl (Ope.ext rfl rfl ?_)
        refine rI (rS (rC rfl (fun hc=>?_) fun hc=>?_))
        ·refine Run.skip (Run.block (rS (rN (cx_ok _ _ _) (rO rfl (Ope.entV (xs:=q.ds) (kf:=Deed.key) (vf:=fun _=>B true) (kv:=Deed.v) Deed.of hsl rfl hget_hd ?_)))))
         refine rO rfl (Ope.ext rfl rfl ?_)
         refine rO rfl (Ope.newL rfl ?_)
         refine Reg.op0 (Ope.store rfl rfl hget_hd rfl rfl rfl ?_)
         refine rI (rS (Run.frz (d:=10) true rfl hget_hd rfl ?_))
         refine Run.wideS (m:=m2+1) (l':=(m+1,some (itV (q.ds.map Deed.key) (q.ds.map fun _=>B true) (seen++[s])))::(c,some (cellG f t1 t2 j c))::l4) (Nat.le_refl _) (hs_round ((hget_tl (by omega)).trans (hl4n m2 (by omega))) (by omega)) ?_
         refine rN (cx_ok _ _ _) (rO rfl (Ope.fld rfl rfl ?_))
         refine rO rfl (oL rfl rfl ?_)
         refine rO rfl (Ope.fld rfl rfl ?_)
         refine rO rfl (oL rfl rfl ?_)
         refine rO rfl (Ope.eq rfl rfl ?_)
         refine rI (rC rfl (fun hc=>?_) fun hc=>?_)
         ·refine Run.exit (Jmp.past rfl (Jmp.round (Jmp.past rfl (Jmp.code (Jmp.here ?_)))))
          first
          | refine Run.wideS (m:=m2+1) (l':=(c,some (cellG f t1 t2 j c))::l4) (Nat.le_refl _) (hs_junk (hl4n (m+1) (by omega)) (by omega)) ?_
          | skip
          refine rN (cx_ok _ _ _) (rO rfl (Ope.add rfl rfl (by omega) ?_))
          refine rO rfl (oM rfl ?_)
          refine rI ?_
          first
          | exact Run.lend ⟨(p+1,l5,m5),by show left.length - (p+1) < left.length - p;omega,⟨by show p+1≤left.length;omega,by show n≤m5;omega,hl5c,hl5n,by
              rw [htp,hGp,List.map_append,← List.append_assoc];exact hfe6⟩,⟨rfl,rfl,rfl,rfl,rfl,rfl,rfl,rfl,trivial⟩,rfl,rfl⟩
          | (have hhe : q.has left[p].nu = true := hho.2 ⟨q.ds[s], List.getElem_mem hsl, by omega⟩
             rw [if_pos hhe] at hGp
             exact Run.lend ⟨(p+1,l4,m2+1),by show left.length - (p+1) < left.length - p;omega,⟨by show p+1≤left.length;omega,by show n≤m2+1;omega,hl4,fun i hi=>hl4n i (by simp only at hi;omega),by
              rw [htp,hGp,List.append_nil]
              have h:=hfe4.mono (n':=m2+1) (by omega)
              rw [hdp,hGp,List.nil_append] at h
              exact h⟩,⟨rfl,rfl,rfl,rfl,rfl,rfl,rfl,rfl,trivial⟩,rfl,rfl⟩)
         ·refine Run.skip (Run.bend (Run.lend ⟨(seen++[s],m2+1),by show q.ds.length - (seen++[s]).length < q.ds.length - seen.length;have:=hs.len_lt hsl hss;rw [List.length_append,List.length_singleton];omega,⟨hs.snoc hsl hss,by show m+1 < m2+1;omega,fun z hz o ho=>?_⟩,⟨rfl,rfl,rfl,rfl,rfl,rfl,rfl,rfl,rfl,rfl,trivial⟩,rfl,rfl⟩))
          rcases List.mem_append.1 hz with hz | hz
          · exact hne z hz o ho
          · rw [List.mem_singleton.1 hz, List.getElem?_eq_getElem hsl] at ho
            cases ho
            omega
        ·(cases hc;done)
      ·refine Run.exit (Jmp.code (Jmp.round (Jmp.here (rS (rN (cx_ok _ _ _) (rO rfl (oA rfl ?_)))))))
       refine rI (Run.ret (Jmp.retS ?_))
       first
       | exact finH_ret (.tmp rfl .nil) (Nat.le_refl _) (fun _ _ h=>h) ⟨m3,l3,hm3,rfl,hno3 c keysB_one,fun i hi=>ok_none hok3 hi,.inr ⟨rfl,hR⟩⟩
       | exact finH_ret (.tmp rfl .nil) (Nat.le_refl _) (fun _ _ h=>h) ⟨m5,l5,by omega,rfl,hl5c,hl5n,.inr ⟨rfl,hR⟩⟩
       | (obtain rfl : p = left.length := by omega
          refine finH_ret (.tmp rfl .nil) (Nat.le_refl _) (fun _ _ h=>h) ⟨m,l4,hnm,rfl,hl4,hl4n,.inl ⟨rfl,?_⟩⟩
          rw [List.drop_length,List.take_length] at hfe4
          simpa using hfe4)
    ·refine rO rfl (Ope.not rfl ?_)
     refine rI (rC rfl (fun hc=>?_) fun hc=>?_)
     ·refine rS (rN (cx_ok _ _ _) (rO rfl (oA rfl ?_)))
      refine rI (Run.ret (Jmp.code (Jmp.retS ?_)))
      first
      | exact finH_ret (.tmp rfl .nil) (Nat.le_refl _) (fun _ _ h=>h) ⟨m3,l3,hm3,rfl,hno3 c keysB_one,fun i hi=>ok_none hok3 hi,.inr ⟨rfl,hR⟩⟩
      | exact finH_ret (.tmp rfl .nil) (Nat.le_refl _) (fun _ _ h=>h) ⟨m5,l5,by omega,rfl,hl5c,hl5n,.inr ⟨rfl,hR⟩⟩
      | (obtain rfl : p = left.length := by omega
         refine finH_ret (.tmp rfl .nil) (Nat.le_refl _) (fun _ _ h=>h) ⟨m,l4,hnm,rfl,hl4,hl4n,.inl ⟨rfl,?_⟩⟩
         rw [List.drop_length,List.take_length] at hfe4
         simpa using hfe4)
     ·(cases hc;done)
end
end Go.Pv
namespace Go.Pv
open Go.Proofs Go.Am
set_option maxRecDepth 10000
section
variable (f:Fns) {t1 t2:Tail} (h1:t1.isOwn=false) (h2:t2.isOwn=false) (hf:f.ok)
include h1 h2 hf
omit h1 h2 in
theorem gd_all (k r:Nat) (hk:k < f.ru.length) (hr:(r:Int) < f.n):Gd f rec0 (f.dds k r):=by
  have hn:=hf.n
  have hlen:(f.dds (k:Int) (r:Int)).length≤15:=by
    have h:=ddsI_len f hf (k:Int) (r:Int) f.li.length (Nat.le_refl _)
    have h5:=hf.li
    have e:f.ddsI (k:Int) (r:Int) f.li.length=f.dds k r:=rfl
    rw [e] at h
    omega
  refine ⟨rok0 f,fun d hd=>?_,fun d _ o ho=>(by cases ho),by omega⟩
  obtain ⟨⟨a1,a2,a3,a4,a5⟩,a6,a7⟩:=(mem_dds ⟨by omega,hr⟩).1 hd
  have hv:=(hf.lv (f.ofc d.nu) (by rw [Fns.ofc_at a1];exact List.getElem_mem a1)).2.2
  have hl5:=hf.li
  exact ⟨by rw [a6];omega,by omega,by rw [a7];omega,by omega⟩
theorem f112 (k r:Nat) (hk:k < f.ru.length) (hr:(r:Int) < f.n):YieldsA P0 112 [] [.fp (f.v t1 t2),.fp (I k),.fp (I r)] (fun v=>∃ x,x∈f.all k r∧v=x.v):=by
  intro j n l R hjn hfeed
  show PCall P0 112 [.yld j,.fp (f.v t1 t2),.fp (I k),.fp (I r)] (HE n l) R _
  have hde:=f115 f h1 h2 hf k r hr
  have hbd:PV.bds 0 [f.v t1 t2,I k,I r]=true:=bd_fnsV f h1 h2 rfl
  have hgo:=fun c m l pre hjm hcm hlc hfe=>f113 f h1 h2 hf (fun v=>∃ x,x∈f.all k r∧v=x.v) (f.dds k r).length rec0 (f.dds k r) .no rfl (Nat.le_refl _) (gd_all f hf k r hk hr) (fun x hx=>⟨x,hx,rfl⟩) j c m 0 l R pre hjm hcm hlc hfe
  have hf0:FeedA P0 (.yld j) R (fun v=>∃ x,x∈f.all k r∧v=x.v) ((f.recs (f.dds k r).length rec0 (f.dds k r)).length+0) [] n l:=hfeed _
  have hrv:rec0.v=.agg [.lit .nilmap,I 0,I 0,I 0,I 0,I 0]:=rfl
  refine PCall.ofH (C:=c112) (cx_ok _ _ _) rfl (fn:=Tryz.f112) (by kernel_rfl) (c:=_) rfl rfl rfl (fun hok=>?_)
  refine rS (rN (cx_ok _ _ _) (rO rfl (Ope.boxF rfl rfl ?_)))
  refine rI (rS (rN (cx_ok _ _ _) (rO rfl (Ope.newL rfl ?_))))
  refine rI (rS (rN (cx_ok _ _ _) (rO rfl (Ope.mkf rfl rfl ?_))))
  refine Reg.op0 (Ope.store rfl rfl hget_hd rfl rfl rfl ?_)
  refine rI ?_
  have hln:hget l n=none:=ok_none hok (Nat.le_refl _)
  refine Run.wideS (m:=n+1) (l':=(n,some (cellG f t1 t2 j n))::l) (Nat.le_refl _) (fun i b h=>?_) ?_
  · by_cases h1 : i = n
    · subst h1;rw [hget_hd] at h ⊢;exact h
    · rw [hget_tl h1] at h ⊢;rw [hget_tl h1];exact h
  refine Run.drawS (cx_ok _ _ _) (fun h'=>h'.get n=some (cellG f t1 t2 j n)) [(0,false,false),(1,true,false),(2,true,false),(3,true,false),(4,true,false),(5,true,true),(6,true,false)] (by kernel_rfl) (DraS.opR rfl rfl rfl hget_hd (StabS.at rfl) (Ope.loadH rfl hget_hd rfl ?_))
  refine DraS.opQ rfl rfl rfl (Ope.bld rfl rfl ?_)
  refine DraS.opQ rfl rfl rfl (oL rfl rfl ?_)
  refine DraS.opQ rfl rfl rfl (oL rfl rfl ?_)
  refine DraS.opQ rfl rfl rfl (oL rfl rfl ?_)
  refine DraS.opS rfl rfl rfl (Ope.cf rfl rfl hde hbd ?_)
  refine ⟨hget_hd,?_⟩
  refine DraS.opQ rfl rfl rfl (Ope.call rfl rfl rfl ((hgo n (n+1) l [] (by omega) (Nat.lt_succ_self _) hln (hf0.mono (Nat.le_succ _))).mono (fun v h' hq=>?_) fun _ _ h=>h.elim))
  obtain ⟨m5,l5,hm5,rfl,hl5c,hl5n,hq⟩:=hq
  refine DraS.nil ?_
  exact finH_end .nil (Nat.le_refl _) (fun i b h=>by
    show hget ((n,some (cellG f t1 t2 j n))::l5) i=some b
    rw [hget_tl (fun e=>by rw [e,hl5c] at h;cases h)];exact h) (by
    rcases hq with ⟨rfl,hfe⟩ | ⟨rfl,hR⟩
    · exact hfe.done (fun v ⟨x,hx,hv⟩=>by rw [List.nil_append,hv];exact List.mem_map_of_mem hx) m5 (Nat.le_refl _) _
    · exact hR m5 (Nat.le_refl _) _)
omit hf in
theorem f103 (k r:Int):Fn P0 103 [f.v t1 t2,I k,I r] (.fn (.func 112) [] [.fp (f.v t1 t2),.fp (I k),.fp (I r)]):=by
  have hb:PV.bd 0 (.fn (.func 112) [] [.fp (f.v t1 t2),.fp (I k),.fp (I r)])=true:=by
    have:=bd_fns f h1 h2
    simp only [PV.bd,PV.bds] at this ⊢
    simp at this ⊢
    exact this
  refine PFun.of (C:=c103) (cx_ok _ _ _) rfl (fn:=Tryz.f103) (by kernel_rfl) (c:=_) rfl rfl rfl ?_
  refine rS (rN (cx_ok _ _ _) (rO rfl (Ope.boxF rfl rfl ?_)))
  refine rO rfl (Ope.boxF rfl rfl ?_)
  refine rO rfl (Ope.boxF rfl rfl ?_)
  refine rO rfl (oA rfl ?_)
  refine rI (rS (rN (cx_ok _ _ _) (rO rfl (Ope.mkf rfl rfl ?_))))
  refine rO rfl (oA rfl ?_)
  exact rI (Run.ret (fin_ret (.tmp rfl .nil) hb rfl))
omit h1 h2 hf in
theorem f99 (q:Rec) (c:Ctr) (hc:c.ok) (hq:f.Rok q):Fn P0 99 [q.v,.fp c.v] (prtV (setB q.ds,⟨q.cnt c.g,q.cnt c.g⟩)):=by
  have hco:=f100 q c hc (nodup_of_nu hq.nd) hq.lt (rok_len hq) hq.ln hq.bd
  have hof:=f101 q (nodup_of_nu hq.nd) hq.lt
  have hb1:PV.bds 0 [q.v,c.v]=true:=bds_cons (bd_rec 0 q) (bds_cons hc.b rfl)
  have hb2:PV.bds 0 [q.v]=true:=bds_cons (bd_rec 0 q) rfl
  have hl:=fun {l:HL}=>loadR (q:=q) hq.ln (l:=l)
  refine PFun.of (C:=c99) (cx_ok _ _ _) rfl (fn:=Tryz.f99) (by kernel_rfl) (c:=_) rfl rfl rfl ?_
  refine rS (rN (cx_ok _ _ _) (rO rfl (Ope.boxF rfl rfl ?_)))
  refine rO rfl (Ope.newL rfl ?_)
  refine rI (rS (rN (cx_ok _ _ _) (rO rfl (oL rfl hl ?_))))
  refine rO rfl (oL rfl rfl ?_)
  refine rO rfl (Ope.cf rfl rfl hco hb1 ?_)
  refine rO rfl (oA rfl ?_)
  refine rI (rS (rN (cx_ok _ _ _) (rO rfl (oL rfl hl ?_))))
  refine rO rfl (Ope.cf rfl rfl hof hb2 ?_)
  refine rO rfl (oM rfl ?_)
  refine rO rfl (oM rfl ?_)
  refine rO rfl (Ope.bld rfl rfl ?_)
  refine rO rfl (Ope.bld rfl rfl ?_)
  refine Reg.op0 (Ope.store rfl rfl rfl rfl rfl rfl ?_)
  exact rI (Run.ret (fin_ret (.cell rfl rfl .nil) rfl rfl))
omit h1 h2 hf in
theorem recV_resp {x y : Rec} (h : x.v = y.v) : x = y := by
  obtain ⟨ds,cs⟩:=x
  obtain ⟨ds',cs'⟩:=y
  simp only [Rec.v,PV.agg.injEq,List.cons.injEq] at h
  obtain ⟨h1,h2⟩:=h
  have hcs:cs=cs':=by
    clear h1
    induction cs generalizing cs' with
    | nil => cases cs' with
      | nil=>rfl
      | cons b cs'=>cases h2
    | cons a cs ih => cases cs' with
      | nil=>cases h2
      | cons b cs' =>
        simp only [List.map_cons,List.cons.injEq] at h2
        have hab:a=b:=by have:=h2.1;cases this;rfl
        rw [hab,ih _ h2.2]
  have hks:ds.map Deed.key=ds'.map Deed.key:=by
    cases ds with
    | nil => cases ds' with
      | nil=>rfl
      | cons b ds'=>cases h1
    | cons a ds => cases ds' with
      | nil=>cases h1
      | cons b ds' =>
        simp only [List.map_cons,mapV,PV.fm.injEq] at h1
        simpa using h1.1
  have hds:ds=ds':=by
    clear h1
    induction ds generalizing ds' with
    | nil => cases ds' with
      | nil=>rfl
      | cons b ds'=>cases hks
    | cons a ds ih => cases ds' with
      | nil=>cases hks
      | cons b ds' =>
        simp only [List.map_cons,List.cons.injEq] at hks
        rw [keyD_inj hks.1,ih _ hks.2]
  rw [hcs,hds]
omit h1 h2 hf in
theorem cplV_resp {x y:Prt×Prt} (h:cplV x.1 x.2=cplV y.1 y.2):x=y:=by
  obtain ⟨⟨a,b,c⟩,d,e,g⟩:=x
  obtain ⟨⟨a',b',c'⟩,d',e',g'⟩:=y
  simp only [cplV,PV.agg.injEq,List.cons.injEq,PV.lit.injEq,AV.int.injEq,true_and,and_true] at h
  obtain ⟨h1,h2,h3,h4,h5,h6⟩:=h
  have:a=a':=by omega
  have:d=d':=by omega
  subst_vars
  rfl
theorem f88 (c : Ctr) (hc : c.ok) (k : Nat) (hk : k < f.ru.length) : PFun P0 88 [f.v t1 t2, I k, c.v] (fun v => ∃ e : Spn, v = e.v ∧ f.KHul c.g (fun x => decide (x = k)) e) fun _ => False := by
  have hrs:=fun r=>f103 f h1 h2 k r
  have hyl:=fun r hr=>f112 f h1 h2 hf k r hk hr
  have hset:=f107 f h1 h2 hf.li k
  have hbf:PV.bds 0 [f.v t1 t2,I k]=true:=bd_fnsV f h1 h2 rfl
  have hbr:∀ r:Nat,PV.bds 0 [f.v t1 t2,I k,I r]=true:=fun r=>bd_fnsV f h1 h2 rfl
  have hj1:=fun (r:Nat) (hr:(r:Int) < f.n)=>f102 (fun x=>x∈f.all k r) (fun q=>(setB q.ds,⟨q.cnt c.g,q.cnt c.g⟩)) 112 [.fp (f.v t1 t2),.fp (I k),.fp (I r)] _ (hyl r hr) (fun x hx=>(all_sel hf ⟨by omega,hr⟩ hx).1.ln) (fun v=>Iff.rfl) 99 [.fp c.v] (fun q hq=>f99 f q c hc (all_sel hf ⟨by omega,hr⟩ hq).1) (fun q=>bds_cons (bd_rec 0 q) (bds_cons hc.b rfl)) (fun x y _ _ h=>by rw [recV_resp h])
  have hbc:PV.bds 0 [.fp c.v]=true:=bds_cons hc.b rfl
  have hbj1:∀ r:Nat,PV.bds 0 [.fn (.func 112) [] [.fp (f.v t1 t2),.fp (I k),.fp (I r)],.agg [.fn (.func 99) [] [.fp c.v]]]=true:=fun r=>by
    have h3:=bd_fns f h1 h2
    simp only [PV.bd,PV.bds] at h3 hbc ⊢
    simp at h3 hbc ⊢
    exact ⟨h3,hbc⟩
  have hj2:=fun (M1 M2:List Prt) (b1:∀ q∈M1,(0≤q.2.lo∧q.2.lo≤5005)∧(0≤q.2.hi∧q.2.hi≤5005)∧q.1 < 32) (b2:∀ q∈M2,(0≤q.2.lo∧q.2.lo≤5005)∧(0≤q.2.hi∧q.2.hi≤5005)∧q.1 < 32)=>f104 (fun x=>x.1∈M1∧x.2∈M2∧x.1.1 &&& x.2.1=0) (fun x=>(x.1.1 ||| x.2.1,x.1.2.add x.2.2)) 116 [.fp (fmP M1),.fp (fmP M2)] _ (f116 M1 M2 (fun q hq=>(b1 q hq).2.2) fun q hq=>(b2 q hq).2.2) (fun v=>⟨fun ⟨a,ha,b,hb,hab,hv⟩=>⟨(a,b),⟨ha,hb,hab⟩,hv⟩,fun ⟨x,⟨ha,hb,hab⟩,hv⟩=>⟨x.1,ha,x.2,hb,hab,hv⟩⟩) 106 [] (fun x hx=>by
      have a1:=b1 x.1 hx.1
      have a2:=b2 x.2 hx.2.1
      exact f106 x.1 x.2 (by omega) (by omega) a1.2.2 a2.2.2) (fun x=>rfl) (fun x y _ _ h=>by rw [cplV_resp h])
  have hbj2:∀ M1 M2:List Prt,PV.bds 0 [.fn (.func 116) [] [.fp (fmP M1),.fp (fmP M2)],.agg [.fn (.func 106) [] []]]=true:=fun M1 M2=>by
    simp only [PV.bds,PV.bd,bds_vP,Bool.and_self]
  have hbcp:∀ M1 M2:List Prt,PV.bds 0 [fmP M1,fmP M2]=true:=fun M1 M2=>by simp only [PV.bds,PV.bd,bds_vP,Bool.and_self]
  have hcp:=fun M1 M2=>f105 M1 M2
  have hn:=hf.n
  have hgo:=hc.g
  have hzero:f.AllM c.g (fun d=>d.kd=(k:Int)∧d.ri < ((0:Nat):Int)) [(0,⟨0,0⟩)]:=allM_zero f c.g fun d hd hp=>by have:=hd.2.2.1.1;omega
  have hstep:∀ (r:Nat) (M1 M2 M:List Prt),f.AllM c.g (fun d=>d.kd=(k:Int)∧d.ri < (r:Int)) M1→f.AllM c.g (fun d=>d.kd=(k:Int)∧d.ri=(r:Int)) M2→JM (Cpl M1 M2) M→f.AllM c.g (fun d=>d.kd=(k:Int)∧d.ri < ((r+1:Nat):Int)) M:=fun r M1 M2 M a1 a2 a3 =>
    allM_join (fun d=>decide (d.ri < (r:Int))) (fun d hd hp=>⟨hd.1,by simpa using hp⟩) (fun d hd hp=>⟨hd.1,by have:¬ d.ri < (r:Int):=(by simpa using hp);have:=hd.2;omega⟩) (fun d hd=>by rcases hd with ⟨p,q⟩ | ⟨p,q⟩<;>exact ⟨p,by omega⟩) (fun a b ha hb hab=>by have:=ha.2;have:=hb.2;have:=hab.2;omega) a1 a2 a3
  have hown:=fun (r:Nat) (hr:(r:Int) < f.n) (M:List Prt) (h:JM (fun p=>∃ q∈f.all k r,p=(setB q.ds,⟨q.cnt c.g,q.cnt c.g⟩)) M)=>allM_own hf c.g (k:=(k:Int)) ⟨by omega,hr⟩ h
  have hbdM:=fun {P:Deed→Prop} {M:List Prt} (h:f.AllM c.g P M)=>fun q hq=>allM_bd hf hgo h (q:=q) hq
  have hend:∀ M,f.AllM c.g (fun d=>d.kd=(k:Int)∧d.ri < (f.n.toNat:Int)) M→∃ e,getM M (f.kin fun x=>decide (x=(k:Int)))=some e∧f.KHul c.g (fun x=>decide (x=(k:Int))) e:=fun M hM=>by
    have hP:∀ {S D},f.Sel (fun d=>decide (d.kd=(k:Int))=true) S D↔f.Sel (fun d=>d.kd=(k:Int)∧d.ri < (f.n.toNat:Int)) S D:=fun {S D} =>
      ⟨fun h=>⟨fun d hd=>⟨(h.al d hd).1,by simpa using (h.al d hd).2,by have:=(h.al d hd).1.2.2.1;omega⟩,h.nd,h.nu⟩,fun h=>⟨fun d hd=>⟨(h.al d hd).1,by simpa using (h.al d hd).2.1⟩,h.nd,h.nu⟩⟩
    obtain ⟨D,hD⟩:=sel_some hf (fun x=>decide (x=(k:Int))) f.li.length (Nat.le_refl _)
    obtain ⟨e,he⟩:=hM.ex _ _ (hP.1 hD)
    refine ⟨e,?_,Hul.congr (hM.hu _ he) fun x=>⟨fun ⟨D,q1,q2⟩=>⟨D,hP.2 q1,q2⟩,fun ⟨D,q1,q2⟩=>⟨D,hP.1 q1,q2⟩⟩⟩
    have:∀ {M:List Prt} {S:Nat},(M.map (·.1)).Nodup→(S,e)∈M→getM M S=some e:=fun {M S}=>by
      intro hnd hm
      induction M with
      | nil=>cases hm
      | cons p M ih =>
        obtain ⟨n1,n2⟩:=List.nodup_cons.1 hnd
        rcases List.mem_cons.1 hm with h | h
        · subst h;simp [getM]
        · have hne : ¬ p.1 = S := fun e => n1 (by show p.1 ∈ _; rw [e]; exact List.mem_map_of_mem (f := (·.1)) h)
          simpa [getM,hne] using ih n2 h
    exact this hM.nd he
  have hgt:=fun M=>toI_get (f.kin fun x=>decide (x=(k:Int))) M
  have hnd:∀ {P:Deed→Prop} {M:List Prt},f.AllM c.g P M→((toI M).map (·.1)).Nodup:=fun {P M} h=>by
    have e:(toI M).map (·.1)=(M.map (·.1)).map fun x:Nat=>(x:Int):=by unfold toI;rw [List.map_map,List.map_map];rfl
    rw [e]
    have:∀ l:List Nat,l.Nodup→(l.map fun x:Nat=>(x:Int)).Nodup:=fun l=>by
      induction l with
      | nil=>exact fun _=>List.nodup_nil
      | cons a l ih =>
        intro hl
        obtain ⟨n1,n2⟩:=List.nodup_cons.1 hl
        refine List.nodup_cons.2 ⟨fun hm=>?_,ih n2⟩
        obtain ⟨b,hb,hab⟩:=List.mem_map.1 hm
        have hab:(b:Int)=(a:Int):=hab
        exact n1 (by rw [show a=b by omega];exact hb)
    exact this _ h.nd
  obtain ⟨nn,hnn⟩:∃ nn:Nat,f.n=(nn:Int):=⟨f.n.toNat,by omega⟩
  have hfv:f.v t1 t2=.agg [.sl t1 (f.ru.map Rul.v),I nn,.sl t2 (f.li.map Ofc.v)]:=by rw [← hnn]
  have hnt:f.n.toNat=nn:=by omega
  rw [hnt] at hend
  have hn6:nn≤6:=by omega
  clear hyl hn
  refine PFun.of (C:=c88) (cx_ok _ _ _) rfl (fn:=Tryz.f88) (by kernel_rfl) (c:=_) rfl rfl rfl ?_
  refine rS (rN (cx_ok _ _ _) (rO rfl (Ope.boxF rfl rfl ?_)))
  refine rO rfl (Ope.boxF rfl rfl ?_)
  refine rO rfl (Ope.newL rfl ?_)
  refine rI (rS (rN (cx_ok _ _ _) (rO rfl (Ope.mkf rfl rfl ?_))))
  refine rO rfl (Ope.bld rfl rfl ?_)
  refine rO rfl (Ope.newL rfl ?_)
  refine Reg.op0 (Ope.store rfl rfl rfl rfl rfl rfl ?_)
  refine rI (rS (Run.frz (d:=7) true rfl hget_hd rfl ?_))
  refine rN (cx_ok _ _ _) (rO rfl (Ope.mmap ?_))
  refine rO rfl (Ope.bld rfl rfl ?_)
  refine Reg.op0 (Ope.ins rfl rfl rfl rfl hget_hd (acheck_int und_int 0) rfl (fun j v h=>by cases h) (fun j v h=>by cases h) (fun _=>?_))
  refine rO rfl (oM rfl ?_)
  refine rO rfl (oA rfl ?_)
  refine rI (rS (rS (Run.frzM [((.int .i64 0:AV),(Spn.v ⟨0,0⟩))] (d:=8) rfl hget_hd (fun e he=>by rw [List.mem_singleton.1 he];decide) (by simp) (List.Perm.refl _) ?_)))
  refine Run.wide (m:=3) (l':=[(0,some (.cells [I 0,I 0]))]) (Nat.le_refl _) ⟨rfl,trivial⟩ ?_
  refine rN (cx_ok _ _ _) (rO rfl (Ope.fld rfl rfl ?_))
  refine rO rfl (Ope.fld rfl rfl ?_)
  refine rO rfl (oL rfl rfl ?_)
  refine rO rfl (oM rfl ?_)
  refine rI (Run.block (Run.loop (α:=Nat×List Prt×Nat) (fun t=>[(1,I k),(3,.fp (f.v t1 t2)),(6,.ptr 0 0),(7,.fp (.agg [.fn (.func 99) [] [.fp c.v]])),(8,fmP t.2.1),(18,I nn),(19,I t.1)]) (fun t=>HE t.2.2 [(0,some (.cells [I 0,I 0]))]) (fun t=>t.1≤nn∧f.AllM c.g (fun d=>d.kd=(k:Int)∧d.ri < (t.1:Int)) t.2.1) (fun t=>nn - t.1) (0,[(0,⟨0,0⟩)],3) ⟨rfl,rfl,rfl,rfl,rfl,by rw [← hnn];rfl,rfl,trivial⟩ rfl ⟨Nat.zero_le _,hzero⟩ (fun t ht=>?_)))
  obtain ⟨r,M1,m⟩:=t
  obtain ⟨hr,hM1⟩:=ht
  simp only at hr hM1
  show Run _ _ _ _ [(1,I k),(3,.fp (f.v t1 t2)),(6,.ptr 0 0),(7,.fp (.agg [.fn (.func 99) [] [.fp c.v]])),(8,fmP M1),(18,I nn),(19,I r)] [] (HE m [(0,some (.cells [I 0,I 0]))])
  refine rS (rN (cx_ok _ _ _) (rO rfl (Ope.lt rfl rfl ?_)))
  refine rI (rS (rC rfl (fun hc=>?_) fun hc=>?_))
  ·refine Run.skip (rS (Run.block (rS (rN (cx_ok _ _ _) (rO rfl (oM rfl ?_))))))
   refine rO rfl (oA rfl ?_)
   refine rI (rS ?_)
   have hrl:r < nn:=by omega
   have hj1r:=hj1 r (by omega)
   have hownr:=hown r (by omega)
   refine Run.draw (cx_ok _ _ _) [(0,true),(1,true),(2,true),(4,false),(3,true),(5,true),(6,true)] (by kernel_rfl) (dO rfl rfl rfl .sure (oL rfl rfl ?_))
   refine dO rfl rfl rfl .sure (oM rfl ?_)
   refine dO rfl rfl rfl .sure (oM rfl ?_)
   refine dO rfl rfl rfl (.load rfl) (oL rfl rfl ?_)
   refine dO rfl rfl rfl .sure (Ope.cf rfl rfl (hrs r) (hbr r) ?_)
   refine dO rfl rfl rfl .sure (Ope.call rfl rfl rfl (hj1r.call (hbj1 r) (fun v hv=>?_) fun v hv=>hv.elim))
   obtain ⟨M2,rfl,hJ2⟩:=hv
   refine dO rfl rfl rfl .sure (oA rfl ?_)
   refine Dra.nil ?_
   have hM2:=hownr M2 hJ2
   have hj2r:=hj2 M1 M2 (hbdM hM1) (hbdM hM2)
   refine rN (cx_ok _ _ _) (rO rfl (oM rfl ?_))
   refine rO rfl (oM rfl ?_)
   refine rO rfl (Ope.cf rfl rfl (hcp M1 M2) (hbcp M1 M2) ?_)
   refine rO rfl (Ope.bld rfl rfl ?_)
   refine rO rfl (Ope.call rfl rfl rfl (hj2r.call (hbj2 M1 M2) (fun v hv=>?_) fun v hv=>hv.elim))
   obtain ⟨M3,rfl,hJ3⟩:=hv
   refine rO rfl (oA rfl ?_)
   refine rI (Run.bend (rN (cx_ok _ _ _) (rO rfl (Ope.add rfl rfl (by omega) ?_))))
   refine rO rfl (oM rfl ?_)
   exact rI (Run.lend ⟨(r+1,M3,m),by show nn - (r+1) < nn - r;omega,⟨by show r+1≤nn;omega,hstep r M1 M2 M3 hM1 hM2 (jm_congr hJ3 fun p=>⟨fun ⟨a,ha,b,hb,hab,e⟩=>⟨(a,b),⟨ha,hb,hab⟩,e⟩,fun ⟨x,⟨ha,hb,hab⟩,e⟩=>⟨x.1,ha,x.2,hb,hab,e⟩⟩)⟩,⟨rfl,rfl,rfl,rfl,rfl,rfl,rfl,trivial⟩,rfl,rfl⟩)
  ·refine Run.exit (Jmp.code (Jmp.round (Jmp.here (rS ?_))))
   obtain rfl:r=nn:=by omega
   obtain ⟨e,he,hK⟩:=hend M1 hM1
   have hge:=hgt M1
   rw [he] at hge
   have hndM:=hnd hM1
   refine rN (cx_ok _ _ _) (rO rfl (oM rfl ?_))
   refine rO rfl (oL rfl rfl ?_)
   refine rO rfl (oM rfl ?_)
   refine rO rfl (Ope.cf rfl rfl hset hbf ?_)
   refine rO rfl (Ope.lookFI (M:=toI M1) und_int hndM (by rw [toI_fm];rfl) rfl ?_)
   rw [hge]
   refine Reg.op0 (Ope.store rfl rfl rfl rfl rfl rfl ?_)
   refine rI (Run.ret (fin_ret (.cell rfl rfl .nil) rfl ?_))
   exact ⟨e,rfl,hK⟩
end
end Go.Pv
namespace Go.Pv
open Go.Proofs Go.Am
set_option maxRecDepth 10000
section
variable (f:Fns) {t1 t2:Tail} (h1:t1.isOwn=false) (h2:t2.isOwn=false) (hf:f.ok)
include h1 h2 hf
omit h1 h2 in
theorem khul_bd {g:Deed→Int→Int} (hg:Gok g) {p:Int→Bool} {e:Spn} (h:f.KHul g p e):(0≤e.lo∧e.lo≤5005)∧(0≤e.hi∧e.hi≤5005):=by
  obtain ⟨D,hD,e1⟩:=h.lo
  obtain ⟨E,hE,e2⟩:=h.hi
  have b1:=val_bd hf hg hD
  have b2:=val_bd hf hg hE
  rw [e1] at b1
  rw [e2] at b2
  exact ⟨b1,b2⟩
theorem f69 (c:Ctr) (hc:c.ok):PFun P0 69 [f.v t1 t2,c.v] (fun v=>∃ e:Spn,v=e.v∧f.THul c.g e) fun _=>False:=by
  have hok:=fun k hk=>f88 f h1 h2 hf c hc k hk
  have hbk:∀ k:Nat,PV.bds 0 [f.v t1 t2,I k,c.v]=true:=fun k=>bd_fnsV f h1 h2 (bds_cons rfl (bds_cons hc.b rfl))
  have hz:f.KHul c.g (fun x=>decide (x < ((0:Nat):Int))) ⟨0,0⟩:=khul_zero f c.g fun i hi=>by
    have:=(hf.lv (f.ofc i) (by rw [Fns.ofc_at hi];exact List.getElem_mem hi)).1
    simp only [decide_eq_false_iff_not];omega
  have hst:∀ (i:Nat) (a b:Spn),f.KHul c.g (fun x=>decide (x < (i:Int))) a→f.KHul c.g (fun x=>decide (x=(i:Int))) b→f.KHul c.g (fun x=>decide (x < ((i+1:Nat):Int))) (a.add b):=fun i a b ha hb =>
    khul_add (fun x=>by rw [← Bool.decide_or];exact decide_eq_decide.2 (by omega)) (fun x hx=>by simp only [decide_eq_true_eq] at hx;omega) ha hb
  have hend:∀ a,f.KHul c.g (fun x=>decide (x < (f.ru.length:Int))) a→f.THul c.g a:=fun a ha=>thul_of (khul_congr (fun i hi=>by
    have:=(hf.lv (f.ofc i) (by rw [Fns.ofc_at hi];exact List.getElem_mem hi)).1
    simp only [decide_eq_true_eq];omega) ha)
  have hbd:=fun {p:Int→Bool} {e:Spn} (h:f.KHul c.g p e)=>khul_bd f hf hc.g h
  have hru:=hf.ru
  refine PFun.of (C:=c69) (cx_ok _ _ _) rfl (fn:=Tryz.f69) (by kernel_rfl) (c:=_) rfl rfl rfl ?_
  refine rS (rN (cx_ok _ _ _) (rO rfl (Ope.boxF rfl rfl ?_)))
  refine rO rfl (Ope.newL rfl ?_)
  refine rI (rS (rN (cx_ok _ _ _) (rO rfl (Ope.newL rfl ?_))))
  refine rI (rS (rS (rN (cx_ok _ _ _) (rO rfl (Ope.fld rfl rfl ?_)))))
  refine rO rfl (Ope.fld rfl rfl ?_)
  refine rO rfl (oL rfl rfl ?_)
  refine rO rfl (Ope.len (m:=f.ru.length) rfl (by simp) ?_)
  refine rO rfl (oM rfl ?_)
  refine rI (Run.block (Run.wide (m:=2) (l':=[(1,some (.cells [I 0,I 0])),(0,some (.cells [I 0,I 0]))]) (Nat.le_refl _) ⟨rfl,rfl,trivial⟩ ?_))
  refine Run.loop (α:=Nat×Spn×Nat) (fun t=>[(1,c.v),(2,.fp (f.v t1 t2)),(4,.ptr 0 0),(5,.ptr 1 0),(10,I f.ru.length),(11,I t.1)]) (fun t=>HE t.2.2 [(1,some (.cells [I t.2.1.lo,I t.2.1.hi])),(0,some (.cells [I 0,I 0]))]) (fun t=>t.1≤f.ru.length∧f.KHul c.g (fun x=>decide (x < (t.1:Int))) t.2.1) (fun t=>f.ru.length - t.1) (0,⟨0,0⟩,2) ⟨rfl,rfl,rfl,rfl,rfl,rfl,trivial⟩ rfl ⟨Nat.zero_le _,hz⟩ (fun t ht=>?_)
  obtain ⟨i,e,m⟩:=t
  obtain ⟨hi,hK⟩:=ht
  simp only at hi hK
  show Run _ _ _ _ [(1,c.v),(2,.fp (f.v t1 t2)),(4,.ptr 0 0),(5,.ptr 1 0),(10,I f.ru.length),(11,I i)] [] (HE m [(1,some (.cells [I e.lo,I e.hi])),(0,some (.cells [I 0,I 0]))])
  refine rS (rN (cx_ok _ _ _) (rO rfl (Ope.lt rfl rfl ?_)))
  refine rI (rS (rC rfl (fun hc=>?_) fun hc=>?_))
  ·refine Run.skip (rS (Run.block (rS (rN (cx_ok _ _ _) (rO rfl (oM rfl ?_))))))
   refine rO rfl (oA rfl ?_)
   refine rI ?_
   have hlt:i < f.ru.length:=by omega
   have hki:=hok i hlt
   have hb1:=hbd hK
   refine Run.drawB (cx_ok _ _ _) 1 [(0,false,false),(1,true,false),(2,true,false),(3,true,false),(4,true,true),(5,true,false),(6,true,false)] (by kernel_rfl) (DraS.opR rfl rfl rfl rfl (StabS.at rfl) (oL rfl rfl ?_))
   refine DraS.opQ rfl rfl rfl (oL rfl rfl ?_)
   refine DraS.opQ rfl rfl rfl (oM rfl ?_)
   refine DraS.opQ rfl rfl rfl (oM rfl ?_)
   refine DraS.opS rfl rfl rfl (Ope.call rfl rfl rfl (hki.call (hbk i) (fun v hv=>?_) fun v hv=>hv.elim))
   obtain ⟨e',rfl,hK'⟩:=hv
   refine ⟨rfl,?_⟩
   refine DraS.opQ rfl rfl rfl (Ope.cf rfl rfl (f87 e e' (by omega) (by have:=hbd hK';omega)) rfl ?_)
   refine DraS.opQ rfl rfl rfl (Ope.store rfl rfl rfl rfl rfl rfl ?_)
   refine DraS.nil (Run.bend (Run.wide (m:=m) (l':=[(1,some (.cells [I (e.lo+e'.lo),I (e.hi+e'.hi)])),(0,some (.cells [I 0,I 0]))]) (Nat.le_refl _) ⟨rfl,rfl,trivial⟩ ?_))
   refine rN (cx_ok _ _ _) (rO rfl (Ope.add rfl rfl (by omega) ?_))
   refine rO rfl (oM rfl ?_)
   exact rI (Run.lend ⟨(i+1,e.add e',m),by show f.ru.length - (i+1) < f.ru.length - i;omega,⟨by show i+1≤f.ru.length;omega,hst i e e' hK hK'⟩,⟨rfl,rfl,rfl,rfl,rfl,rfl,trivial⟩,rfl,rfl⟩)
  ·refine Run.exit (Jmp.code (Jmp.round (Jmp.here (rS ?_))))
   obtain rfl:i=f.ru.length:=by omega
   refine rN (cx_ok _ _ _) (rO rfl (oL rfl rfl ?_))
   refine Reg.op0 (Ope.store rfl rfl rfl rfl rfl rfl ?_)
   refine rI (Run.ret (fin_ret (.cell rfl rfl .nil) rfl ?_))
   exact ⟨e,rfl,hend e hK⟩
theorem f42 (c:Ctr) (hc:c.ok):PFun P0 42 [f.v t1 t2,c.v] (fun v=>∃ e:Spn,v=e.v∧f.THul c.g e) fun _=>False:=by
  have he:=f69 f h1 h2 hf c hc
  have hb:PV.bds 0 [f.v t1 t2,c.v]=true:=bd_fnsV f h1 h2 (bds_cons hc.b rfl)
  refine PFun.of (C:=c42) (cx_ok _ _ _) rfl (fn:=Tryz.f42) (by kernel_rfl) (c:=_) rfl rfl rfl ?_
  refine rS (rN (cx_ok _ _ _) (rO rfl (Ope.boxF rfl rfl ?_)))
  refine rO rfl (Ope.newL rfl ?_)
  refine rI (rS (rN (cx_ok _ _ _) (rO rfl (oL rfl rfl ?_))))
  refine rO rfl (oM rfl ?_)
  refine rO rfl (Ope.call rfl rfl rfl (he.call hb (fun v hv=>?_) fun v hv=>hv.elim))
  obtain ⟨e,rfl,hK⟩:=hv
  refine rO rfl (Ope.cf rfl rfl (f70 e) rfl ?_)
  refine Reg.op0 (Ope.store rfl rfl rfl rfl rfl rfl ?_)
  refine rI (Run.ret (fin_ret (.cell rfl rfl .nil) rfl ?_))
  exact ⟨e,rfl,hK⟩
end
end Go.Pv
