/- Parts of the proof: Am37, Am38, Am39, Am40, Am41, Am42 -/
import Derived.Test.YtkjffpokogbjjaaGreatP6
set_option linter.unusedVariables false
set_option linter.unusedSimpArgs false
set_option linter.unusedSectionVars false
namespace Go.Am
open Go.RowKit
section
variable {A:AP} {E:Eqs} {P:Program} {B:KB} {f:FuncId} {sz:Nat}
theorem Thru.snoc {j:Code} {pre:List AItem} {it:AItem} (h:Thru j pre) (hi:∀ id k,j=.exit id→aexitTo id (it::k)=aexitTo id k):Thru j (pre++[it]):=by
 cases j<;>first
  |exact h
  |(next id =>
    intro k
    rw [List.append_assoc]
    exact (h _).trans (hi id k rfl))
theorem COk.before {items items':List AItem} {K:KC} (h:COk P f sz items K)
  (hs:∀ (fr:AFr) (t:T AV) (x:KX) (cs:List AFr) (k:List AItem) (H:Heap),fr.sz=sz→fr.fn=f→Lz P ⟨fr.at t x (items'++k),cs,H⟩ ⟨fr.at t x (items++k),cs,H⟩):COk P f sz items' K:=by
 intro t x H kn ka r e
 rcases h t x H kn ka r e with ⟨t',x',H',k1,k2,k3⟩ | ⟨j,t',x',H',pre,k1,k2,k3,k4⟩
 ·exact .inl ⟨t',x',H',k1,k2,fun fr cs k h1 h2=>(hs fr t x cs k H h1 h2).trans (k3 fr cs k h1 h2)⟩
 ·exact .inr ⟨j,t',x',H',pre,k1,k2,k3,fun fr cs k h1 h2=>(hs fr t x cs k H h1 h2).trans (k4 fr cs k h1 h2)⟩
theorem kloop_ok (hA:A.Ok P) (hE:E.Ok P) {body:Code} {K:KC} (hK:COk P f sz [.code body] K):∀ (n:Nat) (t:T AV) (x:KX) (H:Heap) (ka:Code→T AV→KX→Heap→KR) (r:AV×Heap),kloop K n t x H ka=some r→∃ j t' x' H' pre,ka j t' x' H'=some r∧x'.rnd=x.rnd∧Thru j pre ∧
   ∀ (fr:AFr) (cs:List AFr) (k:List AItem),fr.sz=sz→fr.fn=f→Lz P ⟨fr.at t x (.code body::.inLoop body::k),cs,H⟩ ⟨fr.at t' x' (.code j::(pre++k)),cs,H'⟩
 |0,_,_,_,_,_,h=>by cases h
 |n+1,t,x,H,ka,r,h=>by
  rcases hK t x H _ _ r h with ⟨t1,x1,H1,k1,k2,k3⟩ | ⟨j,t1,x1,H1,pre,k1,k2,k3,k4⟩
  ·obtain ⟨j,t',x',H',pre,u1,u2,u3,u4⟩:=kloop_ok hA hE hK n t1 x1 H1 ka r k1
   refine ⟨j,t',x',H',pre,u1,u2.trans k2,u3,fun fr cs k h1 h2=>((k3 fr cs (.inLoop body::k) h1 h2).trans ?_).trans (u4 fr cs k h1 h2)⟩
   exact Lz.step hA hE noD_ok rfl
  ·refine ⟨j,t1,x1,H1,pre++[.inLoop body],k1,k2,k3.snoc fun _ _ _=>rfl,fun fr cs k h1 h2=>?_⟩
   have:=k4 fr cs (.inLoop body::k) h1 h2
   rw [List.append_assoc]
   exact this
theorem kendRF_ok (hA:A.Ok P) (hE:E.Ok P) {l:Nat} {t:T AV} {x:KX} {H:Heap} {kn:T AV→KX→Heap→KR} {ka:Code→T AV→KX→Heap→KR} {r:AV×Heap} (h:kendRF l t x H kn ka=some r) :
  (∃ H',kn t x H'=some r∧∀ (fr:AFr) (cs:List AFr) (k:List AItem),Lz P ⟨fr.at t x (.endRF l::k),cs,H⟩ ⟨fr.at t x k,cs,H'⟩) ∨
  (∃ j H',ka j t x H'=some r∧Thru j []∧∀ (fr:AFr) (cs:List AFr) (k:List AItem),Lz P ⟨fr.at t x (.endRF l::k),cs,H⟩ ⟨fr.at t x (.code j::k),cs,H'⟩):=by
 simp only [kendRF,kblk_eq] at h
 obtain ⟨b,hb,h⟩:=Option.bind_eq_some_iff.1 h
 split at h
 case h_2=>cases h
 next st pend fn s tmps ps asg body d =>
 split at h
 ·cases h
 ·next hst =>
  simp only [kblkPut_eq] at h
  have stepN:pend=none→∀ (fr:AFr) (cs:List AFr) (k:List AItem),astep A E noD ⟨fr.at t x (.endRF l::k),cs,H⟩ =
    some ⟨fr.at t x k,cs,{ H with blks:=H.blks.set l (.loop .exhausted pend fn s tmps ps asg body d) }⟩:=by
   intro e fr cs k
   subst e
   simp only [astep,AFr.at,arun1,hb]
  have stepS:∀ c,pend=some c→∀ (fr:AFr) (cs:List AFr) (k:List AItem),astep A E noD ⟨fr.at t x (.endRF l::k),cs,H⟩ =
    some ⟨fr.at t x (.code c::k),cs,{ H with blks:=H.blks.set l (.loop .exhausted pend fn s tmps ps asg body d) }⟩:=by
   intro c e fr cs k
   subst e
   simp only [astep,AFr.at,arun1,hb]
  split at h
  ·exact .inl ⟨_,h,fun fr cs k=>Lz.step hA hE noD_ok (stepN rfl fr cs k)⟩
  ·split at h
   ·exact .inr ⟨.ret,_,h,trivial,fun fr cs k=>Lz.step hA hE noD_ok (stepS _ rfl fr cs k)⟩
   ·next id=>exact .inr ⟨.exit id,_,h,fun _=>rfl,fun fr cs k=>Lz.step hA hE noD_ok (stepS _ rfl fr cs k)⟩
   ·cases h
theorem kcallRF_ok (hA:A.Ok P) (hE:E.Ok P) (hB:BOk A P B) {fn:Fn} {first cap:List AV} {l:Nat} {t:T AV} {x:KX} {H:Heap} {kn:T AV→KX→Heap→KR} {ka:Code→T AV→KX→Heap→KR} {r:AV×Heap}
  (h:kcallRF A B fn first cap l t x H kn ka=some r):∃ g args fr1,acallFn A H fn cap (first++[.yld l])=some (.enter g args)∧AFr.enter A g args .normal=some fr1 ∧
  ((∃ H',kn t x H'=some r∧∀ (fr:AFr) (cs:List AFr) (k:List AItem),Lz P ⟨fr1,fr.at t x (.inRF l::k)::cs,H⟩ ⟨fr.at t x k,cs,H'⟩) ∨
  (∃ j H',ka j t x H'=some r∧Thru j []∧∀ (fr:AFr) (cs:List AFr) (k:List AItem),Lz P ⟨fr1,fr.at t x (.inRF l::k)::cs,H⟩ ⟨fr.at t x (.code j::k),cs,H'⟩)):=by
 unfold kcallRF at h
 split at h
 case h_2=>cases h
 next g args hg =>
 obtain ⟨v,H1,fr1,h1,h2,hback⟩:=hB.fn g args H _ r h
 have b:∀ (fr:AFr) (cs:List AFr) (k:List AItem),Lz P ⟨fr1,fr.at t x (.inRF l::k)::cs,H⟩ ⟨fr.at t x (.endRF l::k),cs,H1⟩:=fun fr cs k=>hback _ _ _ rfl
 refine ⟨g,args,fr1,hg,h2,?_⟩
 rcases kendRF_ok (P:=P) hA hE h1 with ⟨H',k1,k2⟩ | ⟨j,H',k1,k2,k3⟩
 ·exact .inl ⟨H',k1,fun fr cs k=>(b fr cs k).trans (k2 fr cs k)⟩
 ·exact .inr ⟨j,H',k1,k2,fun fr cs k=>(b fr cs k).trans (k3 fr cs k)⟩
theorem krange_ok (hA:A.Ok P) (hE:E.Ok P) (hB:BOk A P B) {g:Operand} {ps:Array Tmp} {asg body:Code} :
  COk P f sz [.code (.rangeFunc g ps asg body)] ⟨fun t x H kn ka=>(kev g).run t fun v=>krange A B f sz ps asg body v t x H kn ka⟩:=by
 intro t x H kn ka r h
 simp only [kev_eq] at h
 obtain ⟨v,hv,h⟩:=Option.bind_eq_some_iff.1 h
 unfold krange at h
 split at h
 case h_2=>cases h
 next fn first cap =>
 obtain ⟨ds,rnd⟩:=x
 cases rnd with
 |none =>
  obtain ⟨blks,d,fams⟩:=H
  simp only [fNat_eq,kput_eq] at h
  obtain ⟨g',args,fr1,h1,h2,h3⟩:=kcallRF_ok hA hE hB h
  have step:∀ (fr:AFr) (cs:List AFr) (k:List AItem),fr.sz=sz→fr.fn=f→astep A E noD ⟨fr.at t ⟨ds,none⟩ ([.code (.rangeFunc g ps asg body)]++k),cs,⟨blks,d,fams⟩⟩ =
    some ⟨fr1,fr.at t ⟨.collected d::ds,none⟩ (.inRF (d+1)::k)::cs,⟨(blks.set d (.dfr (some []))).set (d+1) (.loop .ready none f sz t ps asg body d),d+1+1,fams⟩⟩:=by
   intro fr cs k e1 e2
   subst e1 e2
   simp only [astep,AFr.at,arun1,List.cons_append,List.nil_append,acode,arange,ev_eq,hv,h1,h2]
  rcases h3 with ⟨H',k1,k2⟩ | ⟨j,H',k1,k2,k3⟩
  ·exact .inl ⟨t,_,H',k1,rfl,fun fr cs k e1 e2=>(Lz.step hA hE noD_ok (step fr cs k e1 e2)).trans (k2 fr cs k)⟩
  ·exact .inr ⟨j,t,_,H',[],k1,rfl,k2,fun fr cs k e1 e2=>(Lz.step hA hE noD_ok (step fr cs k e1 e2)).trans (k3 fr cs k)⟩
 |some l0 =>
  simp only [kblk_eq] at h
  obtain ⟨b,hb,h⟩:=Option.bind_eq_some_iff.1 h
  split at h
  case h_2=>cases h
  next st pend fn0 s0 tmps0 ps0 asg0 body0 d =>
  obtain ⟨blks,l,fams⟩:=H
  simp only [fNat_eq,kput_eq] at h
  obtain ⟨g',args,fr1,h1,h2,h3⟩:=kcallRF_ok hA hE hB h
  have step:∀ (fr:AFr) (cs:List AFr) (k:List AItem),fr.sz=sz→fr.fn=f→astep A E noD ⟨fr.at t ⟨ds,some l0⟩ ([.code (.rangeFunc g ps asg body)]++k),cs,⟨blks,l,fams⟩⟩ =
    some ⟨fr1,fr.at t ⟨ds,some l0⟩ (.inRF l::k)::cs,⟨blks.set l (.loop .ready none f sz t ps asg body d),l+1,fams⟩⟩:=by
   intro fr cs k e1 e2
   subst e1 e2
   simp only [astep,AFr.at,arun1,List.cons_append,List.nil_append,acode,arange,ev_eq,hv,hb,h1,h2]
  rcases h3 with ⟨H',k1,k2⟩ | ⟨j,H',k1,k2,k3⟩
  ·exact .inl ⟨t,_,H',k1,rfl,fun fr cs k e1 e2=>(Lz.step hA hE noD_ok (step fr cs k e1 e2)).trans (k2 fr cs k)⟩
  ·exact .inr ⟨j,t,_,H',[],k1,rfl,k2,fun fr cs k e1 e2=>(Lz.step hA hE noD_ok (step fr cs k e1 e2)).trans (k3 fr cs k)⟩
theorem kcode_ok (hA : A.Ok P) (hE : E.Ok P) (hP : P.follows .mixedOrders = true) (hB : BOk A P B) : ∀ (c : Code), COk P f sz [.code c] (kcode A E B f sz c)
 |.skip=>fun t x H kn ka r h=>.inl ⟨t,x,H,h,rfl,fun fr cs k _ _=>Lz.step hA hE noD_ok rfl⟩
 |.label _=>fun t x H kn ka r h=>.inl ⟨t,x,H,h,rfl,fun fr cs k _ _=>Lz.step hA hE noD_ok rfl⟩
 |.ret=>fun t x H kn ka r h=>.inr ⟨.ret,t,x,H,[],h,rfl,trivial,fun fr cs k _ _=>Lz.refl _⟩
 |.exit id=>fun t x H kn ka r h=>.inr ⟨.exit id,t,x,H,[],h,rfl,fun _=>rfl,fun fr cs k _ _=>Lz.refl _⟩
 |.seq a b=>by
  intro t x H kn ka r h
  have s0:∀ (fr:AFr) (cs:List AFr) (k:List AItem),Lz P ⟨fr.at t x ([.code (.seq a b)]++k),cs,H⟩ ⟨fr.at t x ([.code a]++(.code b::k)),cs,H⟩:=fun fr cs k=>Lz.step hA hE noD_ok rfl
  rcases kcode_ok hA hE hP hB a t x H _ _ r h with ⟨t1,x1,H1,k1,k2,k3⟩ | ⟨j,t1,x1,H1,pre,k1,k2,k3,k4⟩
  ·rcases kcode_ok hA hE hP hB b t1 x1 H1 _ _ r k1 with ⟨t2,x2,H2,u1,u2,u3⟩ | ⟨j,t2,x2,H2,pre,u1,u2,u3,u4⟩
   ·exact .inl ⟨t2,x2,H2,u1,u2.trans k2,fun fr cs k h1 h2=>((s0 fr cs k).trans (k3 fr cs (.code b::k) h1 h2)).trans (u3 fr cs k h1 h2)⟩
   ·exact .inr ⟨j,t2,x2,H2,pre,u1,u2.trans k2,u3,fun fr cs k h1 h2=>((s0 fr cs k).trans (k3 fr cs (.code b::k) h1 h2)).trans (u4 fr cs k h1 h2)⟩
  ·refine .inr ⟨j,t1,x1,H1,pre++[.code b],k1,k2,k3.snoc fun _ _ _=>rfl,fun fr cs k h1 h2=>(s0 fr cs k).trans ?_⟩
   rw [List.append_assoc]
   exact k4 fr cs (.code b::k) h1 h2
 |.cond c a b=>by
  intro t x H kn ka r h
  simp only [kcode,kev_eq] at h
  obtain ⟨v,hv,h⟩:=Option.bind_eq_some_iff.1 h
  split at h
  case h_2=>cases h
  next q =>
  cases q with
  |true =>
   have s0:∀ (fr:AFr) (cs:List AFr) (k:List AItem),Lz P ⟨fr.at t x ([.code (.cond c a b)]++k),cs,H⟩ ⟨fr.at t x ([.code a]++k),cs,H⟩:=fun fr cs k =>
    Lz.step hA hE noD_ok (by simp only [astep,AFr.at,arun1,List.cons_append,List.nil_append,acode,ev_eq,hv])
   rcases kcode_ok hA hE hP hB a t x H _ _ r h with ⟨t1,x1,H1,k1,k2,k3⟩ | ⟨j,t1,x1,H1,pre,k1,k2,k3,k4⟩
   ·exact .inl ⟨t1,x1,H1,k1,k2,fun fr cs k h1 h2=>(s0 fr cs k).trans (k3 fr cs k h1 h2)⟩
   ·exact .inr ⟨j,t1,x1,H1,pre,k1,k2,k3,fun fr cs k h1 h2=>(s0 fr cs k).trans (k4 fr cs k h1 h2)⟩
  |false =>
   have s0:∀ (fr:AFr) (cs:List AFr) (k:List AItem),Lz P ⟨fr.at t x ([.code (.cond c a b)]++k),cs,H⟩ ⟨fr.at t x ([.code b]++k),cs,H⟩:=fun fr cs k =>
    Lz.step hA hE noD_ok (by simp only [astep,AFr.at,arun1,List.cons_append,List.nil_append,acode,ev_eq,hv])
   rcases kcode_ok hA hE hP hB b t x H _ _ r h with ⟨t1,x1,H1,k1,k2,k3⟩ | ⟨j,t1,x1,H1,pre,k1,k2,k3,k4⟩
   ·exact .inl ⟨t1,x1,H1,k1,k2,fun fr cs k h1 h2=>(s0 fr cs k).trans (k3 fr cs k h1 h2)⟩
   ·exact .inr ⟨j,t1,x1,H1,pre,k1,k2,k3,fun fr cs k h1 h2=>(s0 fr cs k).trans (k4 fr cs k h1 h2)⟩
 |.block id body=>by
  intro t x H kn ka r h
  have s0:∀ (fr:AFr) (cs:List AFr) (k:List AItem),Lz P ⟨fr.at t x ([.code (.block id body)]++k),cs,H⟩ ⟨fr.at t x ([.code body]++(.inBlock id::k)),cs,H⟩:=fun fr cs k=>Lz.step hA hE noD_ok rfl
  rcases kcode_ok hA hE hP hB body t x H _ _ r h with ⟨t1,x1,H1,k1,k2,k3⟩ | ⟨j,t1,x1,H1,pre,k1,k2,k3,k4⟩
  ·exact .inl ⟨t1,x1,H1,k1,k2,fun fr cs k h1 h2=>((s0 fr cs k).trans (k3 fr cs (.inBlock id::k) h1 h2)).trans (Lz.step hA hE noD_ok rfl)⟩
  ·unfold kout at k1
   split at k1
   ·next i =>
    split at k1
    ·next hi =>
     have hid:i=id:=Nat.eq_of_beq_eq_true hi
     subst hid
     refine .inl ⟨t1,x1,H1,k1,k2,fun fr cs k h1 h2=>((s0 fr cs k).trans (k4 fr cs (.inBlock i::k) h1 h2)).trans (Lz.step hA hE noD_ok ?_)⟩
     have hx:aexitTo i (pre++(.inBlock i::k))=some k:=by
      rw [show aexitTo i (pre++(.inBlock i::k))=aexitTo i (.inBlock i::k) from k3 _]
      simp [aexitTo]
     simp only [astep,AFr.at,arun1,acode,hx]
    ·next hi =>
     refine .inr ⟨.exit i,t1,x1,H1,pre++[.inBlock id],k1,k2,k3.snoc ?_,fun fr cs k h1 h2=>(s0 fr cs k).trans ?_⟩
     ·intro i' k e
      cases e
      have:Nat.beq id i=false:=by
       cases hb:Nat.beq id i with
       |false=>rfl
       |true =>
        have:=Nat.eq_of_beq_eq_true hb
        subst this
        simp at hi
      simp only [aexitTo,this]
     ·rw [List.append_assoc]
      exact k4 fr cs (.inBlock id::k) h1 h2
   ·next hj =>
    refine .inr ⟨j,t1,x1,H1,pre++[.inBlock id],k1,k2,k3.snoc fun i k e=>absurd e (hj i),fun fr cs k h1 h2=>(s0 fr cs k).trans ?_⟩
    rw [List.append_assoc]
    exact k4 fr cs (.inBlock id::k) h1 h2
 |.loop body=>by
  intro t x H kn ka r h
  obtain ⟨j,t',x',H',pre,k1,k2,k3,k4⟩:=kloop_ok hA hE (kcode_ok hA hE hP hB body) _ t x H ka r h
  exact .inr ⟨j,t',x',H',pre,k1,k2,k3,fun fr cs k h1 h2=>(Lz.step hA hE noD_ok rfl).trans (k4 fr cs k h1 h2)⟩
 |.region id ops false=>(kops_ok hA hE hB ops.toList ops.toList).before fun fr t x cs k H _ _=>Lz.step hA hE noD_ok rfl
 |.region id ops true=>by
  intro t x H kn ka r h
  obtain ⟨t',H',h1,h2⟩:=kregion_draw h
  refine .inl ⟨t',x,H',h2,rfl,fun fr cs k e1 e2=>Lz.step hA hE (drawR_ok hA hE hP (kone_ok hA hE hB)) ?_⟩
  have h3:=h1 (fr.at t x ([AItem.code (Code.region id ops true)]++k)) e1 rfl
  show (match drawR A E (kone A E B) (fr.at t x ([AItem.code (Code.region id ops true)]++k)) ops H with
   |some (t,H)=>some (⟨{ fr.at t x ([AItem.code (Code.region id ops true)]++k) with tmps:=t,todo:=k },cs,H⟩:ASt)
   |none=>none)=_
  rw [h3]
  rfl
 |.rangeFunc g ps asg body=>krange_ok hA hE hB
 |.scope _=>fun t x H kn ka r h=>by cases h
 |.goto _=>fun t x H kn ka r h=>by cases h
 |.refuse _=>fun t x H kn ka r h=>by cases h
end
end Go.Am
namespace Go.Am
open Go.RowKit
section
variable {A:AP} {E:Eqs} {P:Program} {B:KB}
theorem kres_ok {t:T AV} {H:Heap}:∀ (l:List ResultVar) (k:List AV→KR) (r:AV×Heap),kres A t H l k=some r→∃ vs,aresults A H t l=some vs∧k vs=some r
 |[],_,_,h=>⟨[],rfl,h⟩
 |x :: xs, k, r, h => by
  unfold kres at h
  split at h
  ·next y =>
   rw [kat_eq] at h
   obtain ⟨v,hv,h⟩:=Option.bind_eq_some_iff.1 h
   obtain ⟨vs,h1,h2⟩:=kres_ok xs _ r h
   exact ⟨v::vs,by simp only [aresults,aresult,hv,h1],h2⟩
  ·next a ty =>
   split at h
   ·next v hv =>
    obtain ⟨vs,h1,h2⟩:=kres_ok xs _ r h
    exact ⟨v::vs,by simp only [aresults,hv,h1],h2⟩
   ·cases h
theorem kunw_ok (hA:A.Ok P) (hE:E.Ok P):∀ (ds:List ADef) (H:Heap) (k:Heap→KR) (r:AV×Heap),kunw ds H k=some r →
  ∃ H',k H'=some r∧∀ (fr:AFr) (cs:List AFr),fr.mode=.returning→Lz P ⟨{ fr with defers:=ds },cs,H⟩ ⟨{ fr with defers:=[] },cs,H'⟩
 |[],H,_,_,h=>⟨H,h,fun _ _ _=>Lz.refl _⟩
 |d::ds,H,k,r,h=>by
  unfold kunw at h
  split at h
  case h_2=>cases h
  next b =>
  rw [kblk_eq] at h
  obtain ⟨o,ho,h⟩:=Option.bind_eq_some_iff.1 h
  split at h
  case h_2=>cases h
  rw [kblkPut_eq] at h
  obtain ⟨H',h1,h2⟩:=kunw_ok hA hE ds _ k r h
  refine ⟨H',h1,fun fr cs hm=>(Lz.step hA hE noD_ok ?_).trans (h2 fr cs hm)⟩
  simp only [astep,hm,aunwind,ho,List.nil_append]
theorem kback_ok (hA:A.Ok P) (hE:E.Ok P) {l:List ResultVar} {t:T AV} {x:KX} {H:Heap} {k:AV→Heap→KR} {r:AV×Heap} (h:kback A l t x H k=some r) :
  ∃ v H',k v H'=some r∧∀ (fr:AFr) (fn:Func),fr.mode=.returning→fr.kind=.normal→fr.defers=x.ds→fr.tmps=t→A.funcs.get fr.fn=some fn→fn.results.toList=l →
   ∃ fr',RetV A fr' H' v∧fr'.fn=fr.fn∧Lz P ⟨fr,[],H⟩ ⟨fr',[],H'⟩:=by
 obtain ⟨ds,rnd⟩:=x
 simp only [kback] at h
 obtain ⟨H',h1,h2⟩:=kunw_ok hA hE ds H _ r h
 obtain ⟨vs,h3,h4⟩:=kres_ok l _ r h1
 refine ⟨aone vs,H',h4,fun fr fn e1 e2 e3 e4 e5 e6=>⟨{ fr with defers:=[] },⟨e1,rfl,e2,fn,vs,e5,?_,rfl⟩,rfl,?_⟩⟩
 ·rw [e6]
  show aresults A H' fr.tmps l=some vs
  rw [e4]
  exact h3
 ·have:=h2 fr [] e1
  obtain ⟨f1,f2,f3,f4,f5,f6,f7,f8⟩:=fr
  simp only at e3
  subst e3
  exact this
def FRes (A:AP) (P:Program) (f:FuncId) (args:List AV) (H:Heap) (k:AV→Heap→KR) (r:AV×Heap):Prop :=
 ∃ v H' fr fr',k v H'=some r∧AFr.enter A f args .normal=some fr∧RetV A fr' H' v∧fr'.fn=f∧Lz P ⟨fr,[],H⟩ ⟨fr',[],H'⟩
theorem kfast_ok (hA:A.Ok P) (hE:E.Ok P) (hP:P.follows .mixedOrders=true) (hB:BOk A P B) {f:FuncId} {fn:Func} {c:Code} (hf:A.funcs.get f=some fn) (hc:fn.body=some c)
  {args:List AV} {H:Heap} {k:AV→Heap→KR} {r:AV×Heap} (h:(kfast A E B f fn c).run args H k=some r):FRes A P f args H k r:=by
 simp only [kfast] at h
 split at h
 case h_2=>cases h
 next hle =>
 have hle':args.length≤fn.ntmps:=Nat.le_of_ble_eq_true hle
 rw [kfill_eq] at h
 have hent:AFr.enter A f args .normal=some { fn:=f,sz:=fn.ntmps,tmps:=T.ofList args 0 .nil,todo:=[.code c],defers:=[],mode:=.run,kind:=.normal,rnd:=none }:=by
  simp only [AFr.enter,hf,hc]
  rw [show args.length+(fn.ntmps - args.length)=fn.ntmps from by omega]
 rcases kcode_ok (f:=f) (sz:=fn.ntmps) hA hE hP hB c _ _ _ _ _ r h with ⟨t1,x1,H1,k1,k2,k3⟩ | ⟨j,t1,x1,H1,pre,k1,k2,k3,k4⟩
 ·obtain ⟨v,H',h1,h2⟩:=kback_ok (P:=P) hA hE k1
  have l0:=k3 { fn:=f,sz:=fn.ntmps,tmps:=T.ofList args 0 .nil,todo:=[.code c],defers:=[],mode:=.run,kind:=.normal,rnd:=none } [] [] rfl rfl
  obtain ⟨fr',u1,u2,u3⟩:=h2 { fn:=f,sz:=fn.ntmps,tmps:=t1,todo:=[],defers:=x1.ds,mode:=.returning,kind:=.normal,rnd:=x1.rnd } fn rfl rfl rfl rfl hf rfl
  refine ⟨v,H',_,fr',h1,hent,u1,u2,(l0.trans (Lz.step hA hE noD_ok ?_)).trans u3⟩
  simp only at k2
  simp only [astep,AFr.at,arun1,aleave,k2]
 ·unfold kbackJ at k1
  split at k1
  case h_2=>cases k1
  obtain ⟨v,H',h1,h2⟩:=kback_ok (P:=P) hA hE k1
  have l0:=k4 { fn:=f,sz:=fn.ntmps,tmps:=T.ofList args 0 .nil,todo:=[.code c],defers:=[],mode:=.run,kind:=.normal,rnd:=none } [] [] rfl rfl
  obtain ⟨fr',u1,u2,u3⟩:=h2 { fn:=f,sz:=fn.ntmps,tmps:=t1,todo:=.code .ret::(pre++[]),defers:=x1.ds,mode:=.returning,kind:=.normal,rnd:=x1.rnd } fn rfl rfl rfl rfl hf rfl
  refine ⟨v,H',_,fr',h1,hent,u1,u2,(l0.trans (Lz.step hA hE noD_ok ?_)).trans u3⟩
  simp only at k2
  simp only [astep,AFr.at,arun1,acode,aleave,k2]
theorem kleave_ok (hA:A.Ok P) (hE:E.Ok P) {l:Nat} {jump:Option Code} {H:Heap} {k:AV→Heap→KR} {r:AV×Heap} (h:kleave l jump H k=some r) :
  ∃ v H',k v H'=some r∧∀ (fr c c':AFr) (cs:List AFr),fr.rnd=some l→fr.kind=.normal→c.fin v=some c'→aleave ⟨fr,c::cs,H⟩ jump=some ⟨c',cs,H'⟩:=by
 unfold kleave at h
 rw [kblk_eq] at h
 obtain ⟨b,hb,h⟩:=Option.bind_eq_some_iff.1 h
 split at h
 case h_2=>cases h
 cases jump with
 |none =>
  simp only [kblkPut_eq] at h
  refine ⟨_,_,h,fun fr c c' cs e1 e2 e3=>?_⟩
  simp only [aleave,e1,hb,adoReturn,e2,Option.isNone,e3,if_true]
 |some j =>
  simp only [kblkPut_eq] at h
  refine ⟨_,_,h,fun fr c c' cs e1 e2 e3=>?_⟩
  simp only [aleave,e1,hb,adoReturn,e2,Option.isNone,e3]
  rfl
theorem kround_ok (hA:A.Ok P) (hE:E.Ok P) (hP:P.follows .mixedOrders=true) (hB:BOk A P B) {f:FuncId} {sz:Nat} {asg body:Code} {l:Nat} {t:T AV} {H:Heap} {k:AV→Heap→KR} {r:AV×Heap}
  (h:(kround A E B f sz asg body).run l t H k=some r) :
  ∃ v H',k v H'=some r∧Back P { fn:=f,sz,tmps:=t,todo:=[.code asg,.beginRound,.code body],defers:=[],mode:=.run,kind:=.normal,rnd:=some l } H v H':=by
 simp only [kround] at h
 rcases kcode_ok (f:=f) (sz:=sz) hA hE hP hB asg _ _ _ _ _ r h with ⟨t1,x1,H1,k1,k2,k3⟩ | ⟨j,t1,x1,H1,pre,k1,k2,k3,k4⟩
 case inr=>cases k1
 have g0:∀ (cs:List AFr),Lz P ⟨{ fn:=f,sz,tmps:=t,todo:=[.code asg,.beginRound,.code body],defers:=[],mode:=.run,kind:=.normal,rnd:=some l },cs,H⟩
   ⟨({ fn:=f,sz,tmps:=t,todo:=[],defers:=[],mode:=.run,kind:=.normal,rnd:=some l }:AFr).at t1 x1 [.beginRound,.code body],cs,H1⟩ :=
  fun cs=>k3 { fn:=f,sz,tmps:=t,todo:=[],defers:=[],mode:=.run,kind:=.normal,rnd:=some l } cs [.beginRound,.code body] rfl rfl
 simp only at k2
 unfold kbegin at k1
 rw [kblk_eq] at k1
 obtain ⟨b,hb,k1⟩:=Option.bind_eq_some_iff.1 k1
 split at k1
 case h_2=>cases k1
 next st pend fn0 s0 tmps0 ps0 asg0 body0 d =>
 split at k1
 case h_2=>cases k1
 rw [kblkPut_eq] at k1
 have g1:∀ (cs:List AFr),Lz P ⟨({ fn:=f,sz,tmps:=t,todo:=[],defers:=[],mode:=.run,kind:=.normal,rnd:=some l }:AFr).at t1 x1 [.beginRound,.code body],cs,H1⟩
   ⟨({ fn:=f,sz,tmps:=t,todo:=[],defers:=[],mode:=.run,kind:=.normal,rnd:=some l }:AFr).at t1 x1 [.code body],cs,{ H1 with blks:=H1.blks.set l (.loop .busy pend fn0 s0 tmps0 ps0 asg0 body0 d) }⟩:=by
  intro cs
  refine Lz.step hA hE noD_ok ?_
  simp only [astep,AFr.at,arun1,k2,hb]
 rcases kcode_ok (f:=f) (sz:=sz) hA hE hP hB body _ _ _ _ _ r k1 with ⟨t2,x2,H2,u1,u2,u3⟩ | ⟨j,t2,x2,H2,pre,u1,u2,u3,u4⟩
 ·obtain ⟨v,H',h1,h2⟩:=kleave_ok hA hE u1
  refine ⟨v,H',h1,fun c cs c' hc=>(((g0 _).trans (g1 _)).trans (u3 { fn:=f,sz,tmps:=t,todo:=[],defers:=[],mode:=.run,kind:=.normal,rnd:=some l } (c::cs) [] rfl rfl)).trans (Lz.step hA hE noD_ok ?_)⟩
  have:=h2 (({ fn:=f,sz,tmps:=t,todo:=[],defers:=[],mode:=.run,kind:=.normal,rnd:=some l }:AFr).at t2 x2 []) c c' cs (u2.trans k2) rfl hc
  exact this
 ·obtain ⟨v,H',h1,h2⟩:=kleave_ok hA hE u1
  refine ⟨v,H',h1,fun c cs c' hc=>(((g0 _).trans (g1 _)).trans (u4 { fn:=f,sz,tmps:=t,todo:=[],defers:=[],mode:=.run,kind:=.normal,rnd:=some l } (c::cs) [] rfl rfl)).trans (Lz.step hA hE noD_ok ?_)⟩
  have h3:=h2 (({ fn:=f,sz,tmps:=t,todo:=[],defers:=[],mode:=.run,kind:=.normal,rnd:=some l }:AFr).at t2 x2 (.code j::(pre++[]))) c c' cs (u2.trans k2) rfl hc
  cases j<;>first
   |exact h3
   |(next id =>
     have hx:aexitTo id (pre++[])=none:=u3 []
     simp only [astep,AFr.at,arun1,acode,hx]
     exact h3)
   |exact u3.elim
end
end Go.Am
namespace Go.Am
open Go.RowKit
section
variable {A:AP} {E:Eqs} {P:Program} {B:KB} {slow:T Unit}
theorem mcall_ok (hA:A.Ok P) (hE:E.Ok P) (hB:BOk A P B) {S S':ASt} {all:List Oper} {o:Oper} {els:Unit→Option ASt}
  (hst:aguard all S.fr.tmps o.guard=some true→∀ out,aop A E S.H (evT S.fr.tmps) o=some out→astep A E noD S=aout A S out)
  (h:mcall A E slow B.fn S all o els=some S'):els ()=some S'∨Lz P S S':=by
 unfold mcall at h
 split at h
 case h_2=>exact .inl h
 split at h
 case h_2=>exact .inl h
 next hg =>
 split at h
 case h_2=>exact .inl h
 next f args ho =>
 split at h
 case h_1=>exact .inl h
 split at h
 case h_2=>cases h
 next v H hr =>
 split at h
 case h_2=>cases h
 next fr hf =>
 cases h
 rw [ev_eq] at ho
 obtain ⟨v',H',fr0,h1,h2,h3⟩:=hB.fn f args S.H _ _ hr
 cases h1
 refine .inr ?_
 obtain ⟨sfr,scs,sH⟩:=S
 exact Does.lz (D:=noD) hA hE noD_ok (.enter f args fr0 ho h2 h3) (hst hg) hf
theorem mstep_ok (hA:A.Ok P) (hE:E.Ok P) (hB:BOk A P B) {D:Drawer} (hD:DSound P D) {S S':ASt} (h:mstep A E D slow B.fn S=some S'):Lz P S S':=by
 unfold mstep at h
 split at h
 case h_2=>exact Lz.step hA hE hD h
 next hm =>
 split at h
 ·next all o rest k htd =>
  rcases mcall_ok (P:=P) hA hE hB (by
   intro hg out hout
   simp only [astep,hm,arun1,htd,hg,ev_eq,hout]) h with h1 | h1
  ·exact Lz.step hA hE hD h1
  ·exact h1
 ·next all o rest htd =>
  rcases mcall_ok (P:=P) hA hE hB (by
   intro hg out hout
   simp only [astep,hm,arun1,htd,hg,ev_eq,hout]) h with h1 | h1
  ·exact Lz.step hA hE hD h1
  ·exact h1
 ·exact Lz.step hA hE hD h
theorem mfinal_ok {f:FuncId} {S:ASt} {v:AV} {H:Heap} (h:mfinal A f S=some (v,H)):RetV A S.fr H v∧S.fr.fn=f∧S=⟨S.fr,[],H⟩:=by
 unfold mfinal at h
 split at h
 case h_2=>cases h
 next hk =>
 split at h
 case h_2=>cases h
 next hf =>
 unfold afinal at h
 split at h
 case h_2=>cases h
 next hm hd hc =>
 split at h
 case h_2=>cases h
 next fn hfn =>
 split at h
 case h_2=>cases h
 next vs hvs =>
 cases h
 obtain ⟨fr,cs,H⟩:=S
 simp only at hc
 subst hc
 exact ⟨⟨hm,hd,hk,fn,vs,hfn,hvs,rfl⟩,Nat.eq_of_beq_eq_true hf,rfl⟩
theorem mrun_ok (hA:A.Ok P) (hE:E.Ok P) (hB:BOk A P B) {D:Drawer} (hD:DSound P D) {f:FuncId}:∀ (n:Nat) (S:ASt) (v:AV) (H':Heap),mrun A E D slow B.fn f n S=some (v,H') →
  ∃ fr',RetV A fr' H' v∧fr'.fn=f∧Lz P S ⟨fr',[],H'⟩
 |0,_,_,_,h=>by cases h
 |n+1,S,v,H',h=>by
  unfold mrun at h
  split at h
  ·next r hr =>
   cases h
   obtain ⟨h1,h2,h3⟩:=mfinal_ok hr
   refine ⟨S.fr,h1,h2,?_⟩
   rw [← h3]
   exact Lz.refl _
  ·split at h
   case h_2=>cases h
   next S1 hS =>
   rw [ASt.force_eq] at h
   obtain ⟨fr',h1,h2,h3⟩:=mrun_ok hA hE hB hD n S1 v H' h
   exact ⟨fr',h1,h2,(mstep_ok hA hE hB hD hS).trans h3⟩
theorem kslow_ok (hA:A.Ok P) (hE:E.Ok P) (hB:BOk A P B) {D:Drawer} (hD:DSound P D) {L:Nat} {f:FuncId} {args:List AV} {H:Heap} {k:AV→Heap→KR} {r:AV×Heap}
  (h:(kslow A E L D slow B.fn f).run args H k=some r):FRes A P f args H k r:=by
 simp only [kslow] at h
 split at h
 case h_2=>cases h
 next fr hfr =>
 split at h
 case h_2=>cases h
 next v H' hr =>
 simp only [fAV_eq,fHeap_eq] at h
 obtain ⟨fr',h1,h2,h3⟩:=mrun_ok hA hE hB hD L _ v H' hr
 exact ⟨v,H',fr,fr',h,hfr,h1,h2,h3⟩
theorem mone_rok (hA:A.Ok P) (hE:E.Ok P) (hB:BOk A P B) {D:Drawer} (hD:DSound P D) (n:Nat):ROk P (mone A E D slow B.fn n):=by
 induction n with
 |zero=>intro B0 w0 Z base S m fr cs w v H' hS e;cases e
 |succ n ih =>
  intro B0 w0 Z base S m fr cs w v H' hS e
  unfold mone at e
  split at e
  ·next u hcs htd =>
   cases e
   have h2:=hS.cs
   rw [hcs] at h2
   simp only [FrRs] at h2
   subst h2
   rcases hS.fr with h1 | ⟨z,hz,h1⟩
   ·have:=h1.todo
    rw [htd] at this
    obtain ⟨y,ys,_,h3,_⟩:=this
    exact h3.elim
   ·cases hz
    rcases h1.todo with ⟨o,h3,_⟩ | ⟨v',x,h3,h4,h5⟩
    ·rw [htd] at h3
     cases h3
    ·rw [htd] at h3
     cases h3
     exact ⟨m,w,x,by rw [← h5];exact .refl _ _,m.le_refl,h4,hS.H⟩
  ·split at e
   case h_2=>cases e
   next S' hS' =>
   rw [ASt.force_eq] at e
   obtain ⟨m1,fr1,cs1,w1,s1,s2,s3⟩:=mstep_ok hA hE hB hD hS' B0 w0 (some Z) m fr cs base w hS
   obtain ⟨m',w',x,r1,r2,r3,r4⟩:=ih (base:=base) S' m1 fr1 cs1 w1 v H' s3 e
   exact ⟨m',w',x,s1.trans r1,Env.le_trans s2 r2,r3,r4⟩
theorem kfn_ok (hA:A.Ok P) (hE:E.Ok P) (hP:P.follows .mixedOrders=true) (hB:BOk A P B) {L:Nat} {f:FuncId} {args:List AV} {H:Heap} {k:AV→Heap→KR} {r:AV×Heap}
  (h:(kfn A E L slow B f).run args H k=some r):FRes A P f args H k r:=by
 unfold kfn at h
 split at h
 ·exact kslow_ok hA hE hB hB.dr h
 ·split at h
  ·next fn hfn =>
   split at h
   ·next c hc=>exact kfast_ok hA hE hP hB hfn hc h
   ·cases h
  ·cases h
theorem RetV.final {fr:AFr} {H:Heap} {v:AV} (h:RetV A fr H v):afinal A ⟨fr,[],H⟩=some (v,H):=by
 obtain ⟨h1,h2,h3,fn,vs,h4,h5,rfl⟩:=h
 simp only [afinal,h1,h2,h4,h5]
theorem Lz.leads {S S':ASt} (h:Lz P S S'):Leads P S S':=fun B0 w0 m fr cs base w hS=>h B0 w0 none m fr cs base w hS
end
end Go.Am
namespace Go.Am
open Go.RowKit
mutual
def ren (σ:Nat→Nat):AV→AV
 |.ptr a o=>.ptr (σ a) o
 |.sl a o n c=>.sl (σ a) o n c
 |.map a=>.map (σ a)
 |.fn f a b=>.fn f (rens σ a) (rens σ b)
 |.yld a=>.yld (σ a)
 |.ifc t v=>.ifc t (ren σ v)
 |.agg l=>.agg (rens σ l)
 |.tup l=>.tup (rens σ l)
 |.bool b=>.bool b
 |.int k n=>.int k n
 |.str s=>.str s
 |.nilptr=>.nilptr
 |.zptr=>.zptr
 |.nilsl=>.nilsl
 |.nilmap=>.nilmap
 |.nilfn=>.nilfn
 |.nilifc=>.nilifc
def rens (σ:Nat→Nat):List AV→List AV
 |[]=>[]
 |v::vs=>ren σ v::rens σ vs
end
section
variable {m m':Env} {σ:Nat→Nat}
mutual
theorem VR.ren (h:∀ a l,m a=some l→m' (σ a)=some l):∀ (v:AV) (x:Value),VR m v x→VR m' (ren σ v) x
 |.bool _,_,e=>by simpa only [Am.ren,VR] using e
 |.int _ _,_,e=>by simpa only [Am.ren,VR] using e
 |.str _,_,e=>by simpa only [Am.ren,VR] using e
 |.nilptr,_,e=>by simpa only [Am.ren,VR] using e
 |.zptr,_,e=>by simpa only [Am.ren,VR] using e
 |.nilsl,_,e=>by simpa only [Am.ren,VR] using e
 |.nilmap,_,e=>by simpa only [Am.ren,VR] using e
 |.nilfn,_,e=>by simpa only [Am.ren,VR] using e
 |.nilifc,_,e=>by simpa only [Am.ren,VR] using e
 |.ptr _ _,_,e=>by
  simp only [Am.ren,VR] at e ⊢
  obtain ⟨l,h1,h2⟩:=e
  exact ⟨l,h _ _ h1,h2⟩
 |.sl a o n c,_,e=>by
  simp only [Am.ren,VR] at e ⊢
  obtain ⟨l,p,cc,h1,h2⟩:=e
  exact ⟨l,p,cc,h _ _ h1,h2⟩
 |.map _,_,e=>by
  simp only [Am.ren,VR] at e ⊢
  obtain ⟨l,h1,h2⟩:=e
  exact ⟨l,h _ _ h1,h2⟩
 |.yld _,_,e=>by
  simp only [Am.ren,VR] at e ⊢
  obtain ⟨l,h1,h2⟩:=e
  exact ⟨l,h _ _ h1,h2⟩
 |.fn _ a b,_,e=>by
  simp only [Am.ren,VR] at e ⊢
  obtain ⟨x,y,h1,h2,h3⟩:=e
  exact ⟨x,y,h1,VRs.ren h a _ h2,VRs.ren h b _ h3⟩
 |.ifc _ a,_,e=>by
  simp only [Am.ren,VR] at e ⊢
  obtain ⟨x,h1,h2⟩:=e
  exact ⟨x,h1,VR.ren h a _ h2⟩
 |.agg l,_,e=>by
  simp only [Am.ren,VR] at e ⊢
  obtain ⟨x,h1,h2⟩:=e
  exact ⟨x,h1,VRs.ren h l _ h2⟩
 |.tup l,_,e=>by
  simp only [Am.ren,VR] at e ⊢
  obtain ⟨x,h1,h2⟩:=e
  exact ⟨x,h1,VRs.ren h l _ h2⟩
theorem VRs.ren (h:∀ a l,m a=some l→m' (σ a)=some l):∀ (v:List AV) (x:List Value),VRs m v x→VRs m' (rens σ v) x
 |[],_,e=>by simpa only [rens,VRs] using e
 |a::as,_,e=>by
  simp only [rens,VRs] at e ⊢
  obtain ⟨y,ys,h1,h2,h3⟩:=e
  exact ⟨y,ys,h1,VR.ren h a _ h2,VRs.ren h as _ h3⟩
end
mutual
theorem VR.unren:∀ (v:AV) (x:Value),VR m (ren σ v) x→VR (fun a=>m (σ a)) v x
 |.bool _,_,e=>by simpa only [Am.ren,VR] using e
 |.int _ _,_,e=>by simpa only [Am.ren,VR] using e
 |.str _,_,e=>by simpa only [Am.ren,VR] using e
 |.nilptr,_,e=>by simpa only [Am.ren,VR] using e
 |.zptr,_,e=>by simpa only [Am.ren,VR] using e
 |.nilsl,_,e=>by simpa only [Am.ren,VR] using e
 |.nilmap,_,e=>by simpa only [Am.ren,VR] using e
 |.nilfn,_,e=>by simpa only [Am.ren,VR] using e
 |.nilifc,_,e=>by simpa only [Am.ren,VR] using e
 |.ptr _ _,_,e=>by simpa only [Am.ren,VR] using e
 |.sl a o n c,_,e=>by simpa only [Am.ren,VR] using e
 |.map _,_,e=>by simpa only [Am.ren,VR] using e
 |.yld _,_,e=>by simpa only [Am.ren,VR] using e
 |.fn _ a b,_,e=>by
  simp only [Am.ren,VR] at e ⊢
  obtain ⟨x,y,h1,h2,h3⟩:=e
  exact ⟨x,y,h1,VRs.unren a _ h2,VRs.unren b _ h3⟩
 |.ifc _ a,_,e=>by
  simp only [Am.ren,VR] at e ⊢
  obtain ⟨x,h1,h2⟩:=e
  exact ⟨x,h1,VR.unren a _ h2⟩
 |.agg l,_,e=>by
  simp only [Am.ren,VR] at e ⊢
  obtain ⟨x,h1,h2⟩:=e
  exact ⟨x,h1,VRs.unren l _ h2⟩
 |.tup l,_,e=>by
  simp only [Am.ren,VR] at e ⊢
  obtain ⟨x,h1,h2⟩:=e
  exact ⟨x,h1,VRs.unren l _ h2⟩
theorem VRs.unren:∀ (v:List AV) (x:List Value),VRs m (rens σ v) x→VRs (fun a=>m (σ a)) v x
 |[],_,e=>by simpa only [rens,VRs] using e
 |a::as,_,e=>by
  simp only [rens,VRs] at e ⊢
  obtain ⟨y,ys,h1,h2,h3⟩:=e
  exact ⟨y,ys,h1,VR.unren a _ h2,VRs.unren as _ h3⟩
end
def rene (σ:Nat→Nat):List (AV×AV×Nat)→List (AV×AV×Nat)
 |[]=>[]
 |(k,v,n)::es=>(ren σ k,ren σ v,n)::rene σ es
theorem ER.ren (h:∀ a l,m a=some l→m' (σ a)=some l):∀ (e:List (AV×AV×Nat)) (x:List MapEntry),ER m e x→ER m' (rene σ e) x
 |[],_,e=>e
 |(k,v,n)::es,_,⟨y,ys,h1,h2,h3,h4,h5⟩=>⟨y,ys,h1,VR.ren h _ _ h2,VR.ren h _ _ h3,h4,ER.ren h es _ h5⟩
theorem ER.unren:∀ (e:List (AV×AV×Nat)) (x:List MapEntry),ER m (rene σ e) x→ER (fun a=>m (σ a)) e x
 |[],_,e=>e
 |(k,v,n)::es,_,⟨y,ys,h1,h2,h3,h4,h5⟩=>⟨y,ys,h1,VR.unren _ _ h2,VR.unren _ _ h3,h4,ER.unren es _ h5⟩
inductive Lit where
 |cells (t:TypeId) (cs:List AV)
 |map (es:List (AV×AV×Nat)) (clock:Nat)
def Lit.ren (σ:Nat→Nat):Lit→Lit
 |.cells t cs=>.cells t (rens σ cs)
 |.map es clock=>.map (rene σ es) clock
def Lit.blk (a:Nat):Lit→ABlk
 |.cells t cs=>.cells t a cs.length (T.ofList cs 0 .nil)
 |.map es clock=>.map es clock
theorem rens_length (σ:Nat→Nat):∀ (l:List AV),(rens σ l).length=l.length
 |[]=>rfl
 |_::l=>by simp only [rens,List.length_cons,rens_length σ l]
theorem rens_get (σ:Nat→Nat):∀ (l:List AV) (i:Nat),(rens σ l)[i]?=l[i]?.map (ren σ)
 |[],_=>rfl
 |_::l,0=>rfl
 |_::l,i+1=>by simpa only [rens,List.getElem?_cons_succ] using rens_get σ l i
theorem get_ofList0 (l:List AV) (i:Nat):(T.ofList l 0 .nil).get i=l[i]?:=by
 rw [T.get_ofList]
 split
 ·rw [Nat.sub_zero]
 ·next h =>
  rw [T.get_nil,List.getElem?_eq_none]
  omega
theorem BR.lit_ren (h:∀ a l,m a=some l→m' (σ a)=some l) {b:Lit} {a a':Nat} {l:Loc} {o:Option Obj} (e:BR m (b.blk a) l o):BR m' ((b.ren σ).blk a') l o:=by
 cases b with
 |cells t cs =>
  obtain ⟨arr,h1,h2,h3,h4⟩:=e
  refine ⟨arr,h1,h2,by rw [rens_length];exact h3,fun i v hi=>?_⟩
  rw [get_ofList0,rens_get] at hi
  obtain ⟨u,hu,rfl⟩:=Option.map_eq_some_iff.1 hi
  obtain ⟨k1,x,k2,k3⟩:=h4 i u (by rw [get_ofList0];exact hu)
  exact ⟨by rw [rens_length];exact k1,x,k2,VR.ren h _ _ k3⟩
 |map es clock =>
  obtain ⟨arr,h1,h2⟩:=e
  exact ⟨arr,h1,ER.ren h _ _ h2⟩
theorem BR.lit_unren {b:Lit} {a a':Nat} {l:Loc} {o:Option Obj} (e:BR m ((b.ren σ).blk a') l o):BR (fun a=>m (σ a)) (b.blk a) l o:=by
 cases b with
 |cells t cs =>
  obtain ⟨arr,h1,h2,h3,h4⟩:=e
  refine ⟨arr,h1,h2,by rw [rens_length] at h3;exact h3,fun i v hi=>?_⟩
  rw [get_ofList0] at hi
  obtain ⟨k1,x,k2,k3⟩:=h4 i (Am.ren σ v) (by rw [get_ofList0,rens_get,hi];rfl)
  exact ⟨by rw [rens_length] at k1;exact k1,x,k2,VR.unren _ _ k3⟩
 |map es clock =>
  obtain ⟨arr,h1,h2⟩:=e
  exact ⟨arr,h1,ER.unren _ _ h2⟩
end
end Go.Am
namespace Go.Am
open Go.RowKit
structure Ent where
 f:FuncId
 args:List AV
 bs:List Lit
 v:AV
 next:Nat
 new:List (Nat×Lit)
def lits:List Lit→Nat→List ABlk
 |[],_=>[]
 |b::bs,i=>b.blk i::lits bs (i+1)
def ones:List Lit→Nat→List (List Nat)
 |[],_=>[]
 |_::bs,i=>[i]::ones bs (i+1)
def heapOf (bs:List Lit):Heap:={ blks:=T.ofList (lits bs 0) 0 .nil,next:=bs.length,fams:=T.ofList (ones bs 0) 0 .nil }
def Same:ABlk→Lit→Prop
 |.cells t _ n c,.cells t' cs=>t=t'∧n=cs.length∧∀ i u,cs[i]?=some u→c.get i=some u
 |.map es k,.map es' k'=>es=es'∧k=k'
 |_,_=>False
def addB (τ:Nat→Nat):List (Nat×Lit)→T ABlk→T ABlk
 |[],t=>t
 |(j,b)::l,t=>addB τ l (t.set (τ j) ((b.ren τ).blk (τ j)))
def addF (τ:Nat→Nat):List (Nat×Lit)→T (List Nat)→T (List Nat)
 |[],t=>t
 |(j,_)::l,t=>addF τ l (t.set (τ j) [τ j])
def Ent.heap (e:Ent) (τ:Nat→Nat) (H:Heap):Heap:={ blks:=addB τ e.new H.blks,next:=H.next+(e.next - e.bs.length),fams:=addF τ e.new H.fams }
structure EntOk (A:AP) (P:Program) (e:Ent):Prop where
 run:∃ fr fr' H1,AFr.enter A e.f e.args .normal=some fr∧RetV A fr' H1 e.v∧Lz P ⟨fr,[],heapOf e.bs⟩ ⟨fr',[],H1⟩∧H1.next=e.next ∧
  (∀ a b,e.bs[a]?=some b→∃ b1,H1.blks.get a=some b1∧Same b1 b) ∧
  ∀ j b,(j,b)∈e.new→e.bs.length≤j∧∃ b1,H1.blks.get j=some b1∧Same b1 b∧∀ t f n c,b1=.cells t f n c→H1.fams.get f=some [j]
structure UseOk (e:Ent) (τ:Nat→Nat) (args:List AV) (H:Heap):Prop where
 args:rens τ e.args=args
 inj:∀ a a',a < e.bs.length→a' < e.bs.length→τ a=τ a'→a=a'
 blk:∀ a b,e.bs[a]?=some b→∃ b1,H.blks.get (τ a)=some b1∧Same b1 (b.ren τ)∧∀ t f n c,b1=.cells t f n c→H.fams.get f=some [τ a]
 big:∀ a,e.bs.length≤a→τ a=H.next+(a - e.bs.length)
section
variable {m:Env} {A:AP} {E:Eqs} {P:Program}
theorem lits_get:∀ (bs:List Lit) (i k:Nat),(lits bs i)[k]?=bs[k]?.map (Lit.blk (i+k))
 |[],_,_=>rfl
 |b::bs,i,0=>rfl
 |b::bs,i,k+1=>by
  simp only [lits,List.getElem?_cons_succ,lits_get bs (i+1) k]
  rw [show i+1+k=i+(k+1) from by omega]
theorem ones_get:∀ (bs:List Lit) (i k:Nat),(ones bs i)[k]?=bs[k]?.map fun _=>[i+k]
 |[],_,_=>rfl
 |b::bs,i,0=>rfl
 |b::bs,i,k+1=>by
  simp only [ones,List.getElem?_cons_succ,ones_get bs (i+1) k]
  rw [show i+1+k=i+(k+1) from by omega]
theorem get_ofList1 {α:Type} (l:List α) (i:Nat):(T.ofList l 0 .nil).get i=l[i]?:=by
 rw [T.get_ofList]
 split
 ·rw [Nat.sub_zero]
 ·next h =>
  rw [T.get_nil,List.getElem?_eq_none]
  omega
theorem heapOf_blk (bs:List Lit) (a:Nat):(heapOf bs).blks.get a=bs[a]?.map (Lit.blk a):=by
 simp only [heapOf,get_ofList1,lits_get,Nat.zero_add]
theorem heapOf_fam (bs:List Lit) (a:Nat):(heapOf bs).fams.get a=bs[a]?.map fun _=>[a]:=by
 simp only [heapOf,get_ofList1,ones_get,Nat.zero_add]
theorem Same.to {b1:ABlk} {b:Lit} (h:Same b1 b) {a:Nat} {l:Loc} {o:Option Obj} (e:BR m b1 l o):BR m (b.blk a) l o:=by
 cases b1<;>cases b<;>first
  |exact h.elim
  |skip
 ·obtain ⟨rfl,rfl,h⟩:=h
  obtain ⟨arr,h1,h2,h3,h4⟩:=e
  refine ⟨arr,h1,h2,h3,fun i v hi=>?_⟩
  rw [get_ofList1] at hi
  exact h4 i v (h i v hi)
 ·obtain ⟨rfl,rfl⟩:=h
  exact e
theorem Same.from {b1:ABlk} {b:Lit} (h:Same b1 b) {m0:Env} {l0:Loc} {o0:Option Obj} (e0:BR m0 b1 l0 o0) {a:Nat} {l:Loc} {o:Option Obj} (e:BR m (b.blk a) l o):BR m b1 l o:=by
 cases b1 with
 |cells t f n c =>
  cases b with
  |cells t' cs =>
   obtain ⟨rfl,rfl,h⟩:=h
   obtain ⟨arr,h1,h2,h3,h4⟩:=e
   obtain ⟨_,_,_,_,k4⟩:=e0
   refine ⟨arr,h1,h2,h3,fun i v hi=>?_⟩
   obtain ⟨hlt,_⟩:=k4 i v hi
   have hc:cs[i]?=some (cs[i]'hlt):=List.getElem?_eq_getElem hlt
   have hg:=h i _ hc
   rw [hi] at hg
   rw [← Option.some.inj hg] at hc
   exact h4 i v (by rw [get_ofList1];exact hc)
  |map=>exact h.elim
 |map es k =>
  cases b with
  |cells=>exact h.elim
  |map es' k' =>
   obtain ⟨rfl,rfl⟩:=h
   exact e
 |loop=>exact h.elim
 |dfr=>exact h.elim
theorem addB_get (τ:Nat→Nat):∀ (l:List (Nat×Lit)) (t:T ABlk) (x:Nat) (b:ABlk),(addB τ l t).get x=some b →
  (∃ j lit,(j,lit)∈l∧x=τ j∧b=(lit.ren τ).blk x)∨t.get x=some b
 |[],_,_,_,h=>.inr h
 |(j, lit) :: l, t, x, b, h => by
  rcases addB_get τ l _ x b h with ⟨j',lit',h1,h2,h3⟩ | h1
  ·exact .inl ⟨j',lit',List.mem_cons_of_mem _ h1,h2,h3⟩
  ·rw [T.get_set] at h1
   by_cases hx:x=τ j
   ·rw [if_pos hx] at h1
    cases h1
    exact .inl ⟨j,lit,List.mem_cons_self ..,hx,by rw [hx]⟩
   ·rw [if_neg hx] at h1
    exact .inr h1
theorem addF_old (τ:Nat→Nat):∀ (l:List (Nat×Lit)) (t:T (List Nat)) (x:Nat),(∀ j lit,(j,lit)∈l→x≠τ j)→(addF τ l t).get x=t.get x
 |[],_,_,_=>rfl
 |(j,lit)::l,t,x,h=>by
  simp only [addF]
  rw [addF_old τ l _ x fun j' lit' hm=>h j' lit' (List.mem_cons_of_mem _ hm),T.get_set,if_neg (h j lit (List.mem_cons_self ..))]
theorem addF_new (τ:Nat→Nat):∀ (l:List (Nat×Lit)) (t:T (List Nat)) (j:Nat) (lit:Lit),(j,lit)∈l∨t.get (τ j)=some [τ j]→(addF τ l t).get (τ j)=some [τ j]
 |[],_,_,_,h=>by
  rcases h with h | h
  ·cases h
  ·exact h
 |(i, b) :: l, t, j, lit, h => by
  simp only [addF]
  refine addF_new τ l _ j lit ?_
  by_cases hij:τ j=τ i
  ·right
   rw [T.get_set,if_pos hij,hij]
  ·rcases h with h | h
   ·rcases List.mem_cons.1 h with h | h
    ·cases h
     exact absurd rfl hij
    ·exact .inl h
   ·right
    rw [T.get_set,if_neg hij]
    exact h
theorem use_ok (hA:A.Ok P) {e:Ent} (he:EntOk A P e) {τ:Nat→Nat} {args:List AV} {H:Heap} (hu:UseOk e τ args H) {fr:AFr} (hfr:AFr.enter A e.f args .normal=some fr) :
  Back P fr H (ren τ e.v) (e.heap τ H):=by
 obtain ⟨f0,f1,H1,r1,r2,r3,r4,r5,r6⟩:=he.run
 intro c cs c' hc B0 w0 Z m f fs base w hS
 obtain ⟨hSf,hScs,h⟩:=hS
 replace h:HR B0 w0 m H w:=h
 replace hSf:FrR Z m fr f:=hSf
 obtain ⟨y,ys,rfl,hy,hys⟩:=hScs
 have hn:(heapOf e.bs).next=e.bs.length:=rfl
 have bsome:∀ a,a < e.bs.length→∃ b,e.bs[a]?=some b:=fun a ha=>⟨_,List.getElem?_eq_getElem ha⟩
 have hlt:∀ a,a < e.bs.length→τ a < H.next:=by
  intro a ha
  obtain ⟨b,hb⟩:=bsome a ha
  obtain ⟨b1,h1,_⟩:=hu.blk a b hb
  obtain ⟨l,h2,_⟩:=h.blk _ _ h1
  exact (h.fresh _ _ h2).1
 have hm0:∀ a l,m (τ a)=some l→a < e.bs.length:=by
  intro a l hl
  rcases Nat.lt_or_ge a e.bs.length with h1 | h1
  ·exact h1
  ·have:=(h.fresh _ _ hl).1
   rw [hu.big a h1] at this
   omega
 let B1:Prot:={ blk:=fun k=>k < w.heap.size∧∀ a l,m (τ a)=some l→l.blk≠k,ids:=fun _=>False }
 have hB:∀ k,B0 k→B1 k:=by
  intro k hk
  refine ⟨h.below.lt hk,fun a l hl hkl=>?_⟩
  obtain ⟨b,hb⟩:=bsome a (hm0 a l hl)
  obtain ⟨b1,h1,_⟩:=hu.blk a b hb
  exact h.live _ _ _ h1 hl (by rw [hkl];exact hk)
 have hin:∀ x b l,H.blks.get x=some b→m x=some l→¬ B1 l.blk→∃ a,a < e.bs.length∧x=τ a:=by
  intro x b l hx hl hnb
  have:∃ a l',m (τ a)=some l'∧l'.blk=l.blk:=by
   refine Classical.byContradiction fun hno=>hnb ⟨h.inb _ _ hl,fun a l' hl' hc=>hno ⟨a,l',hl',hc⟩⟩
  obtain ⟨a,l',h1,h2⟩:=this
  have ha:=hm0 a l' h1
  refine ⟨a,ha,?_⟩
  obtain ⟨b0,hb0⟩:=bsome a ha
  obtain ⟨b1,k1,_,k3⟩:=hu.blk a b0 hb0
  rcases h.sep _ _ _ _ _ _ hx k1 hl h1 h2.symm with h3 | ⟨t,f',n',c0,t',n'',c0',e1,e2,_⟩
  ·exact h3
  ·obtain ⟨_,L,h5,h6⟩:=h.fam x t f' n' c0 (by rw [hx,e1])
   rw [k3 _ _ _ _ e2] at h5
   cases h5
   simpa using h6
 have hR0:HR B1 w (fun a=>m (τ a)) (heapOf e.bs) w:=by
  refine ⟨.refl fun k hk=>hk.1,fun a l hl=>⟨hm0 a l hl,fun hc=>hc⟩,fun a l hl=>h.inb _ _ hl,?_,?_,?_,?_,fun _ hc=>hc.elim⟩
  ·intro a b hb
   rw [heapOf_blk] at hb
   obtain ⟨b0,hb0,rfl⟩:=Option.map_eq_some_iff.1 hb
   obtain ⟨b1,k1,k2,_⟩:=hu.blk a b0 hb0
   obtain ⟨l,h1,h2⟩:=h.blk _ _ k1
   exact ⟨l,h1,BR.lit_unren (k2.to (a:=a) h2)⟩
  ·intro a a' b b' l l' hb hb' hl hl' hll
   rw [heapOf_blk] at hb hb'
   obtain ⟨b0,hb0,rfl⟩:=Option.map_eq_some_iff.1 hb
   obtain ⟨b0',hb0',rfl⟩:=Option.map_eq_some_iff.1 hb'
   obtain ⟨b1,k1,_,k3⟩:=hu.blk a b0 hb0
   obtain ⟨b1',k1',_,k3'⟩:=hu.blk a' b0' hb0'
   left
   refine hu.inj a a' (hm0 _ _ hl) (hm0 _ _ hl') ?_
   rcases h.sep _ _ _ _ _ _ k1 k1' hl hl' hll with h3 | ⟨t,f',n',c0,t',n'',c0',e1,e2,_⟩
   ·exact h3
   ·have q1:=k3 _ _ _ _ e1
    have q2:=k3' _ _ _ _ e2
    rw [q1] at q2
    simpa using q2
  ·intro a t f' n' c0 hb
   rw [heapOf_blk] at hb
   obtain ⟨b0,hb0,hb1⟩:=Option.map_eq_some_iff.1 hb
   cases b0 with
   |cells t' cs =>
    simp only [Lit.blk,ABlk.cells.injEq] at hb1
    obtain ⟨_,rfl,_,_⟩:=hb1
    refine ⟨?_,[a],by rw [heapOf_fam,hb0];rfl,by simp⟩
    rcases Nat.lt_or_ge a e.bs.length with h1 | h1
    ·exact h1
    ·rw [List.getElem?_eq_none h1] at hb0;cases hb0
   |map es k=>simp only [Lit.blk] at hb1;cases hb1
  ·intro a b l hb hl hc
   exact hc.2 a l hl rfl
 have hfe:∃ fn,A.funcs.get e.f=some fn∧∃ cd,fn.body=some cd∧fr={ fn:=e.f,sz:=args.length+(fn.ntmps - args.length),tmps:=T.ofList args 0 .nil,todo:=[.code cd],defers:=[],mode:=.run,kind:=.normal,rnd:=none } ∧
   f0={ fn:=e.f,sz:=e.args.length+(fn.ntmps - e.args.length),tmps:=T.ofList e.args 0 .nil,todo:=[.code cd],defers:=[],mode:=.run,kind:=.normal,rnd:=none }:=by
  unfold AFr.enter at hfr r1
  split at hfr
  ·next fn hfn =>
   rw [hfn] at r1
   simp only [] at r1
   split at hfr
   ·next cd hcd =>
    rw [hcd] at r1
    cases hfr
    cases r1
    exact ⟨fn,hfn,cd,hcd,rfl,rfl⟩
   ·cases hfr
  ·cases hfr
 obtain ⟨fn,hfn,cd,hcd,hfr',hf0⟩:=hfe
 have hlen:args.length=e.args.length:=by rw [← hu.args,rens_length]
 have hN:FrN m fr f:=hSf.own (by rw [hfr'];rfl)
 have hN0:FrN (fun a=>m (τ a)) f0 f:=by
  obtain ⟨n1,n2,n3,n4,n5,n6,n7⟩:=hN
  rw [hfr'] at n1 n2 n3 n4 n5 n6 n7
  rw [hf0]
  refine ⟨n1,⟨by rw [n2.1];show args.length+(fn.ntmps - args.length)=_;rw [hlen],fun i v hi=>?_⟩,?_,n4,n5,n6,n7⟩
  ·simp only [get_ofList1] at hi
   obtain ⟨x,q1,q2⟩:=n2.2 i (ren τ v) (by simp only [get_ofList1];rw [← hu.args,rens_get,hi];rfl)
   exact ⟨x,q1,VR.unren _ _ q2⟩
  ·exact n3
 obtain ⟨m1,g1,gs,w1,s1,s2,s3⟩:=r3 B1 w none (fun a=>m (τ a)) f [] (y::ys++base) w ⟨.inl hN0,rfl,hR0⟩
 obtain ⟨hgs,x,x1,x2,h1⟩:=afinal_ok hA s3 r2.kind r2.final
 subst hgs
 have hm1:∀ a,a < e.bs.length→m1 a=m (τ a):=by
  intro a ha
  obtain ⟨b,hb⟩:=bsome a ha
  obtain ⟨b1,k1,_⟩:=hu.blk a b hb
  obtain ⟨l,h2,_⟩:=h.blk _ _ k1
  rw [h2]
  exact s2 a l h2
 let m':Env:=fun x=>if x < H.next then m x else m1 (x - H.next+e.bs.length)
 have hm':∀ a l,m1 a=some l→m' (τ a)=some l:=by
  intro a l hl
  rcases Nat.lt_or_ge a e.bs.length with ha | ha
  ·show (if τ a < H.next then m (τ a) else _)=some l
   rw [if_pos (hlt a ha),← hm1 a ha]
   exact hl
  ·show (if τ a < H.next then _ else m1 (τ a - H.next+e.bs.length))=some l
   rw [hu.big a ha,if_neg (by omega),show H.next+(a - e.bs.length) - H.next+e.bs.length=a from by omega]
   exact hl
 have hle:m.le m':=by
  intro x l hl
  show (if x < H.next then m x else _)=some l
  rw [if_pos (h.fresh _ _ hl).1]
  exact hl
 have hnew:∀ j b,(j,b)∈e.new→H.next≤τ j∧m' (τ j)=m1 j:=by
  intro j b hj
  have:=(r6 j b hj).1
  refine ⟨by rw [hu.big j this];omega,?_⟩
  show (if τ j < H.next then _ else m1 (τ j - H.next+e.bs.length))=m1 j
  rw [hu.big j this,if_neg (by omega),show H.next+(j - e.bs.length) - H.next+e.bs.length=j from by omega]
 have hold:∀ x,x < H.next→m' x=m x:=fun x hx=>if_pos hx
 have hget:∀ x b,(e.heap τ H).blks.get x=some b→(x < H.next∧H.blks.get x=some b)∨(∃ j lit,(j,lit)∈e.new∧x=τ j∧b=(lit.ren τ).blk x):=by
  intro x b hb
  rcases addB_get τ _ _ _ _ hb with hb | hb
  ·exact .inr hb
  ·obtain ⟨l,hl,_⟩:=h.blk _ _ hb
   exact .inl ⟨(h.fresh _ _ hl).1,hb⟩
 have hkeep1:Keep B1 w w1:=h1.below
 have hkeep:Keep B0 w0 w1 :=
  ⟨hkeep1.os.trans h.below.os,hkeep1.tape.trans h.below.tape,hkeep1.output.trans h.below.output,Nat.le_trans h.below.size hkeep1.size,fun k hk=>(hkeep1.block k (hB k hk)).trans (h.below.block k hk),h.below.there,fun a=>(hkeep1.froz a).trans (h.below.froz a)⟩
 have hnext:(e.heap τ H).next=H.next+(e.next - e.bs.length):=rfl
 have hR : HR B0 w0 m' (e.heap τ H) w1 := by
  refine ⟨hkeep,?_,?_,?_,?_,?_,?_,?_⟩
  ·intro a l hl
   by_cases ha:a < H.next
   ·rw [hold a ha] at hl
    have:=h.fresh _ _ hl
    exact ⟨by rw [hnext];omega,this.2⟩
   ·have hl':m1 (a - H.next+e.bs.length)=some l:=by
     have:m' a=m1 (a - H.next+e.bs.length):=if_neg ha
     rw [← this];exact hl
    have:=(h1.fresh _ _ hl').1
    rw [r4] at this
    exact ⟨by rw [hnext];omega,fun hc=>ha (h.idsb a hc)⟩
  ·intro a l hl
   by_cases ha:a < H.next
   ·rw [hold a ha] at hl
    have:=h.inb _ _ hl
    have:=hkeep1.size
    omega
   ·have hl':m1 (a - H.next+e.bs.length)=some l:=by
     have:m' a=m1 (a - H.next+e.bs.length):=if_neg ha
     rw [← this];exact hl
    exact h1.inb _ _ hl'
  ·intro x b hb
   rcases hget x b hb with ⟨hx,hb⟩ | ⟨j,lit,hj,rfl,rfl⟩
   ·obtain ⟨l,hl,hbr⟩:=h.blk x b hb
    refine ⟨l,by rw [hold x hx];exact hl,?_⟩
    by_cases hp:B1 l.blk
    ·rw [hkeep1.block _ hp]
     exact hbr.mono hle
    ·obtain ⟨a,ha,rfl⟩:=hin x b l hb hl hp
     obtain ⟨b0,hb0⟩:=bsome a ha
     obtain ⟨b1,k1,k2,_⟩:=hu.blk a b0 hb0
     rw [hb] at k1
     cases k1
     obtain ⟨b2,q1,q2⟩:=r5 a b0 hb0
     obtain ⟨l2,q3,q4⟩:=h1.blk a b2 q1
     rw [hm1 a ha,hl] at q3
     cases q3
     exact k2.from hbr (a:=τ a) (BR.lit_ren (a':=τ a) hm' (q2.to (a:=a) q4))
   ·obtain ⟨_,b1,q1,q2,_⟩:=r6 j lit hj
    obtain ⟨l,q3,q4⟩:=h1.blk j b1 q1
    exact ⟨l,by rw [(hnew j lit hj).2];exact q3,BR.lit_ren hm' (q2.to (a:=j) q4)⟩
  ·-- an old block and a new one lie apart
   have mixed:∀ x b l j lit l',x < H.next→H.blks.get x=some b→m x=some l→(j,lit)∈e.new→m1 j=some l'→l.blk=l'.blk→False:=by
    intro x b l j lit l' hx hb hl hj hl' hll
    obtain ⟨hjn,b1,q1,q2,q3⟩:=r6 j lit hj
    have hnp:¬ B1 l.blk:=by rw [hll];exact h1.live _ _ _ q1 hl'
    obtain ⟨a,ha,rfl⟩:=hin x b l hb hl hnp
    obtain ⟨b0,hb0⟩:=bsome a ha
    obtain ⟨b2,p1,p2⟩:=r5 a b0 hb0
    rcases h1.sep _ _ _ _ _ _ p1 q1 (by rw [hm1 a ha];exact hl) hl' hll with h3 | ⟨t,f',n',c0,t',n'',c0',e1,e2,_⟩
    ·omega
    ·obtain ⟨_,L,h5,h6⟩:=h1.fam a t f' n' c0 (by rw [p1,e1])
     rw [q3 _ _ _ _ e2] at h5
     cases h5
     have:a=j:=by simpa using h6
     omega
   intro x x' b b' l l' hb hb' hl hl' hll
   rcases hget x b hb with ⟨hx,hb0⟩ | ⟨j,lit,hj,rfl,rfl⟩
   ·rcases hget x' b' hb' with ⟨hx',hb0'⟩ | ⟨j',lit',hj',rfl,rfl⟩
    ·rw [hold x hx] at hl
     rw [hold x' hx'] at hl'
     exact h.sep _ _ _ _ _ _ hb0 hb0' hl hl' hll
    ·rw [hold x hx] at hl
     rw [(hnew j' lit' hj').2] at hl'
     exact (mixed _ _ _ _ _ _ hx hb0 hl hj' hl' hll).elim
   ·rcases hget x' b' hb' with ⟨hx',hb0'⟩ | ⟨j',lit',hj',rfl,rfl⟩
    ·rw [hold x' hx'] at hl'
     rw [(hnew j lit hj).2] at hl
     exact (mixed _ _ _ _ _ _ hx' hb0' hl' hj hl hll.symm).elim
    ·rw [(hnew j lit hj).2] at hl
     rw [(hnew j' lit' hj').2] at hl'
     obtain ⟨_,b1,q1,q2,q3⟩:=r6 j lit hj
     obtain ⟨_,b1',q1',q2',q3'⟩:=r6 j' lit' hj'
     left
     rcases h1.sep _ _ _ _ _ _ q1 q1' hl hl' hll with h3 | ⟨t,f',n',c0,t',n'',c0',e1,e2,_⟩
     ·rw [h3]
     ·have p1:=q3 _ _ _ _ e1
      have p2:=q3' _ _ _ _ e2
      rw [p1] at p2
      have:j=j':=by simpa using p2
      rw [this]
  ·intro a t f' n' c0 hb
   rcases hget a _ hb with ⟨hx,hb0⟩ | ⟨j,lit,hj,rfl,hb1⟩
   ·obtain ⟨q1,L,q2,q3⟩:=h.fam a t f' n' c0 hb0
    refine ⟨by rw [hnext];omega,L,?_,q3⟩
    show (addF τ e.new H.fams).get f'=some L
    rw [addF_old τ _ _ _ fun j lit hj hc=>?_]
    ·exact q2
    ·have:=(hnew j lit hj).1
     omega
   ·cases lit with
    |cells t' cs' =>
     simp only [Lit.ren,Lit.blk,ABlk.cells.injEq] at hb1
     obtain ⟨_,rfl,_,_⟩:=hb1
     obtain ⟨hjn,b1,q1,q2,q3⟩:=r6 j _ hj
     obtain ⟨l,q4,_⟩:=h1.blk j b1 q1
     have:=(h1.fresh _ _ q4).1
     rw [r4] at this
     refine ⟨by rw [hnext,hu.big j hjn];omega,[τ j],addF_new τ _ _ j _ (.inl hj),by simp⟩
    |map es k=>simp only [Lit.ren,Lit.blk] at hb1;cases hb1
  ·intro a b l hb hl hc
   rcases hget a b hb with ⟨hx,hb0⟩ | ⟨j,lit,hj,rfl,rfl⟩
   ·rw [hold a hx] at hl
    exact h.live _ _ _ hb0 hl hc
   ·rw [(hnew j lit hj).2] at hl
    obtain ⟨_,b1,q1,_,_⟩:=r6 j lit hj
    exact h1.live _ _ _ q1 hl (hB _ hc)
  ·intro a ha
   have:=h.idsb a ha
   rw [hnext]
   omega
 have hv:VR m' (ren τ e.v) x:=VR.ren hm' _ _ x2
 refine ⟨m',y.finish x,ys,w1,?_,hle,fin_ok (hy.mono hle) hc hv,hys.mono hle,hR⟩
 refine Steps.trans s1 (.one ?_)
 exact step_leave_returned x1
end
end Go.Am
namespace Go.Am
open Go.RowKit
mutual
def names:AV→List Nat→List Nat
 |.ptr a _,l=>a::l
 |.sl a _ _ _,l=>a::l
 |.map a,l=>a::l
 |.fn _ a b,l=>namess a (namess b l)
 |.yld a,l=>a::l
 |.ifc _ v,l=>names v l
 |.agg vs,l=>namess vs l
 |.tup vs,l=>namess vs l
 |.bool _,l=>l
 |.int _ _,l=>l
 |.str _,l=>l
 |.nilptr,l=>l
 |.zptr,l=>l
 |.nilsl,l=>l
 |.nilmap,l=>l
 |.nilfn,l=>l
 |.nilifc,l=>l
def namess:List AV→List Nat→List Nat
 |[],l=>l
 |v::vs,l=>names v (namess vs l)
end
def namesE:List (AV×AV×Nat)→List Nat→List Nat
 |[],l=>l
 |(k,v,_)::es,l=>names k (names v (namesE es l))
def cellsUp (c:T AV):Nat→List AV→List AV
 |0,l=>l
 |n+1,l=>match c.get n with
  |some v=>cellsUp c n (v::l)
  |none=>cellsUp c n l
def namesB:ABlk→List Nat
 |.cells _ _ n c=>namess (cellsUp c n []) []
 |.map es _=>namesE es []
 |_=>[]
def reach (H : Heap) : Nat → List Nat → T Nat → T Nat → Nat → T Nat × T Nat × Nat
 |0,_,inv,s,n=>(inv,s,n)
 |f + 1, todo, inv, s, n => match todo with
  |[]=>(inv,s,n)
  |a::l=>match inv.get a with
   |some _=>reach H f l inv s n
   |none=>match H.blks.get a with
    |some b=>reach H f (l++namesB b) (inv.set a n) (s.set n a) (n+1)
    |none=>(inv,s,n)
def tau (s:T Nat) (n0 next a:Nat):Nat :=
 match Nat.blt a n0 with
 |true=>(s.get a).getD 0
 |false=>next+(a - n0)
def cellsSame (c:T AV):List AV→Nat→Bool
 |[],_=>true
 |u::us,i=>match c.get i with
  |some v=>match AV.beq v u with
   |true=>cellsSame c us (i+1)
   |false=>false
  |none=>false
def entsSame:List (AV×AV×Nat)→List (AV×AV×Nat)→Bool
 |[],[]=>true
 |(k,v,n)::es,(k',v',n')::es'=>AV.beq k k' && AV.beq v v' && Nat.beq n n' && entsSame es es'
 |_,_=>false
def same:ABlk→Lit→Bool
 |.cells t _ n c,.cells t' cs=>Nat.beq t t' && Nat.beq n cs.length && cellsSame c cs 0
 |.map es k,.map es' k'=>entsSame es es' && Nat.beq k k'
 |_,_=>false
def aloneB (H:Heap) (a:Nat):ABlk→Bool
 |.cells _ f _ _=>match H.fams.get f with
  |some [x]=>Nat.beq x a
  |_=>false
 |_=>true
def injOk (inv:T Nat) (τ:Nat→Nat):Nat→Bool
 |0=>true
 |a+1=>match inv.get (τ a) with
  |some x=>Nat.beq x a && injOk inv τ a
  |none=>false
def blksOk (H:Heap) (τ:Nat→Nat):List Lit→Nat→Bool
 |[],_=>true
 |b::bs,a=>match H.blks.get (τ a) with
  |some b1=>same b1 (b.ren τ) && aloneB H (τ a) b1 && blksOk H τ bs (a+1)
  |none=>false
def useOk (e:Ent) (inv:T Nat) (τ:Nat→Nat) (args:List AV) (H:Heap):Bool :=
 AV.beqs (rens τ e.args) args && injOk inv τ e.bs.length && blksOk H τ e.bs 0
def kuse (es:List Ent) (inv s:T Nat) (n:Nat) (args:List AV) (H:Heap) (k:AV→Heap→KR) (els:Unit→KR):KR :=
 match es with
 |[]=>els ()
 |e::es=>match Nat.beq n e.bs.length with
  |true=>match useOk e inv (tau s n H.next) args H with
   |true=>fAV (ren (tau s n H.next) e.v) fun v=>fHeap (e.heap (tau s n H.next) H) fun H=>k v H
   |false=>kuse es inv s n args H k els
  |false=>kuse es inv s n args H k els
def ktab (tb:T (List Ent)) (B:KB):KB :=
 { B with fn := fun f => match tb.get f with
  |none=>B.fn f
  |some es=>⟨fun args H k=>match reach H 200 (namess args []) .nil .nil 0 with
   |(inv,s,n)=>kuse es inv s n args H k fun _=>(B.fn f).run args H k⟩ }
def klevT (A:AP) (E:Eqs) (L:Nat) (slow:T Unit) (tb:T (List Ent)):Nat→KB
 |0=>⟨fun _=>⟨fun _ _ _=>none⟩,fun _ _ _ _=>⟨fun _ _ _ _=>none⟩,fun _ _ _=>none⟩
 |n+1=>ktab tb ⟨kfn A E L slow (klevT A E L slow tb n),kround A E (klevT A E L slow tb n),drawR A E (mone A E (klevT A E L slow tb n).dr slow (klevT A E L slow tb n).fn L)⟩
def kmainT (A:AP) (E:Eqs) (L:Nat) (slow:T Unit) (tb:T (List Ent)) (n:Nat) (f:FuncId):KR :=
 (kfn A E L slow (klevT A E L slow tb n) f).run [] emptyHeap fun v H=>some (v,H)
def oldsOk (H:Heap):List Lit→Nat→Bool
 |[],_=>true
 |b::bs,a=>match H.blks.get a with
  |some b1=>same b1 b && oldsOk H bs (a+1)
  |none=>false
def newsOk (H:Heap) (n0:Nat):List (Nat×Lit)→Bool
 |[]=>true
 |(j,b)::l=>match H.blks.get j with
  |some b1=>Nat.ble n0 j && same b1 b && aloneB H j b1 && newsOk H n0 l
  |none=>false
def entOk (e:Ent) (v:AV) (H:Heap):Bool:=AV.beq v e.v && Nat.beq H.next e.next && oldsOk H e.bs 0 && newsOk H e.bs.length e.new
def kent (A:AP) (E:Eqs) (L:Nat) (slow:T Unit) (tb:T (List Ent)) (n:Nat) (e:Ent):KR :=
 fHeap (heapOf e.bs) fun H=>(kfn A E L slow (klevT A E L slow tb n) e.f).run e.args H fun v H=>match entOk e v H with
  |true=>some (.bool true,emptyHeap)
  |false=>none
section
variable {A:AP} {E:Eqs} {P:Program} {B:KB} {slow:T Unit}
theorem cellsSame_ok (c:T AV):∀ (us:List AV) (i:Nat),cellsSame c us i=true→∀ k u,us[k]?=some u→c.get (i+k)=some u
 |[],_,_,_,_,hu=>by simp at hu
 |u::us,i,h,k,u',hu=>by
  simp only [cellsSame] at h
  split at h
  case h_2=>cases h
  next v hv =>
  split at h
  case h_2=>cases h
  next hb =>
  cases k with
  |zero =>
   simp only [List.getElem?_cons_zero,Option.some.injEq] at hu
   subst hu
   rw [Nat.add_zero,hv,AV.beq_eq _ _ hb]
  |succ k =>
   rw [List.getElem?_cons_succ] at hu
   have:=cellsSame_ok c us (i+1) h k u' hu
   rw [show i+(k+1)=i+1+k from by omega]
   exact this
theorem entsSame_ok:∀ (a b:List (AV×AV×Nat)),entsSame a b=true→a=b
 |[],[],_=>rfl
 |[],_::_,h=>by cases h
 |_::_,[],h=>by cases h
 |(k,v,n)::es,(k',v',n')::es',h=>by
  simp only [entsSame,Bool.and_eq_true] at h
  obtain ⟨⟨⟨h1,h2⟩,h3⟩,h4⟩:=h
  rw [AV.beq_eq _ _ h1,AV.beq_eq _ _ h2,Nat.eq_of_beq_eq_true h3,entsSame_ok es es' h4]
theorem same_ok {b1:ABlk} {b:Lit} (h:same b1 b=true):Same b1 b:=by
 cases b1<;>cases b<;>simp only [same,Bool.false_eq_true,Bool.and_eq_true] at h
 ·obtain ⟨⟨h1,h2⟩,h3⟩:=h
  exact ⟨Nat.eq_of_beq_eq_true h1,Nat.eq_of_beq_eq_true h2,fun i u hu=>by
   have:=cellsSame_ok _ _ 0 h3 i u hu
   rwa [Nat.zero_add] at this⟩
 ·obtain ⟨h1,h2⟩:=h
  exact ⟨entsSame_ok _ _ h1,Nat.eq_of_beq_eq_true h2⟩
theorem aloneB_ok {H:Heap} {a:Nat} {b:ABlk} (h:aloneB H a b=true):∀ t f n c,b=.cells t f n c→H.fams.get f=some [a]:=by
 intro t f n c e
 subst e
 simp only [aloneB] at h
 split at h
 ·next x hx=>rw [hx,Nat.eq_of_beq_eq_true h]
 ·cases h
theorem injOk_ok {inv:T Nat} {τ:Nat→Nat}:∀ (n:Nat),injOk inv τ n=true→∀ a,a < n→inv.get (τ a)=some a
 |0,_,a,ha=>absurd ha (by omega)
 |n+1,h,a,ha=>by
  simp only [injOk] at h
  split at h
  case h_2=>cases h
  next x hx =>
  simp only [Bool.and_eq_true] at h
  rcases Nat.lt_or_ge a n with h1 | h1
  ·exact injOk_ok n h.2 a h1
  ·have:a=n:=by omega
   subst this
   rw [hx,Nat.eq_of_beq_eq_true h.1]
theorem blksOk_ok {H:Heap} {τ:Nat→Nat}:∀ (bs:List Lit) (i:Nat),blksOk H τ bs i=true→∀ k b,bs[k]?=some b →
  ∃ b1,H.blks.get (τ (i+k))=some b1∧Same b1 (b.ren τ)∧∀ t f n c,b1=.cells t f n c→H.fams.get f=some [τ (i+k)]
 |[],_,_,_,_,hb=>by simp at hb
 |b::bs,i,h,k,b',hb=>by
  simp only [blksOk] at h
  split at h
  case h_2=>cases h
  next b1 hb1 =>
  simp only [Bool.and_eq_true] at h
  obtain ⟨⟨h1,h2⟩,h3⟩:=h
  cases k with
  |zero =>
   simp only [List.getElem?_cons_zero,Option.some.injEq] at hb
   subst hb
   exact ⟨b1,hb1,same_ok h1,aloneB_ok h2⟩
  |succ k =>
   rw [List.getElem?_cons_succ] at hb
   have:=blksOk_ok bs (i+1) h3 k b' hb
   rw [show i+(k+1)=i+1+k from by omega]
   exact this
theorem useOk_ok {e:Ent} {inv s:T Nat} {args:List AV} {H:Heap} (h:useOk e inv (tau s e.bs.length H.next) args H=true):UseOk e (tau s e.bs.length H.next) args H:=by
 simp only [useOk,Bool.and_eq_true] at h
 obtain ⟨⟨h1,h2⟩,h3⟩:=h
 refine ⟨AV.beqs_eq _ _ h1,fun a a' ha ha' he=>?_,fun a b hb=>?_,fun a ha=>?_⟩
 ·have k1:=injOk_ok _ h2 a ha
  have k2:=injOk_ok _ h2 a' ha'
  rw [he,k2] at k1
  exact (Option.some.inj k1).symm
 ·have:=blksOk_ok _ 0 h3 a b hb
  rwa [Nat.zero_add] at this
 ·unfold tau
  rw [T.blt_false a _ (by omega)]
theorem kuse_ok (hA:A.Ok P) {f:FuncId} {inv s:T Nat} {n:Nat} {args:List AV} {H:Heap} {k:AV→Heap→KR} {els:Unit→KR} {r:AV×Heap} {fn:Func} {c:Code} (hfn:A.funcs.get f=some fn) (hc:fn.body=some c) :
  ∀ (es:List Ent),(∀ e,e∈es→e.f=f∧EntOk A P e)→kuse es inv s n args H k els=some r →
  els ()=some r∨∃ v H' fr,k v H'=some r∧AFr.enter A f args .normal=some fr∧Back P fr H v H'
 |[],_,h=>.inl h
 |e::es,he,h=>by
  simp only [kuse] at h
  have ih:=kuse_ok hA (inv:=inv) (s:=s) (n:=n) (args:=args) (H:=H) (k:=k) (els:=els) (r:=r) hfn hc es fun e' h'=>he e' (List.mem_cons_of_mem _ h')
  split at h
  case h_2=>exact ih h
  next hn =>
  split at h
  case h_2=>exact ih h
  next hu =>
  have hn':=Nat.eq_of_beq_eq_true hn
  subst hn'
  simp only [fAV_eq,fHeap_eq] at h
  obtain ⟨hf,hE⟩:=he e (List.mem_cons_self ..)
  subst hf
  refine .inr ⟨_,_,_,h,by simp only [AFr.enter,hfn,hc];rfl,use_ok hA hE (useOk_ok hu) (by simp only [AFr.enter,hfn,hc])⟩
def TabOk (A:AP) (P:Program) (tb:T (List Ent)):Prop :=
 ∀ f es,tb.get f=some es→(∃ fn c,A.funcs.get f=some fn∧fn.body=some c)∧∀ e,e∈es→e.f=f∧EntOk A P e
theorem ktab_ok (hA:A.Ok P) {tb:T (List Ent)} (ht:TabOk A P tb) (hB:BOk A P B):BOk A P (ktab tb B):=by
 refine ⟨fun f args H k r h=>?_,hB.rd,hB.dr⟩
 simp only [ktab] at h
 split at h
 ·exact hB.fn f args H k r h
 ·next es hes =>
  obtain ⟨⟨fn,c,hfn,hc⟩,he⟩:=ht f es hes
  rcases kuse_ok hA hfn hc es he h with h1 | h1
  ·exact hB.fn f args H k r h1
  ·exact h1
theorem klevT_ok (hA:A.Ok P) (hE:E.Ok P) (hP:P.follows .mixedOrders=true) {tb:T (List Ent)} (ht:TabOk A P tb) {L:Nat}:∀ n,BOk A P (klevT A E L slow tb n)
 |0=>⟨fun _ _ _ _ _ h=>(by cases h),fun _ _ _ _ _ _ _ _ _ h=>(by cases h),noD_ok⟩
 |n+1=>by
  have ih:=klevT_ok hA hE hP ht (L:=L) n
  refine ktab_ok hA ht ⟨fun f args H k r h=>?_,fun f sz asg body l t H k r h=>kround_ok hA hE hP ih h,drawR_ok hA hE hP (mone_rok hA hE ih ih.dr L)⟩
  obtain ⟨v,H',fr,fr',h1,h2,h3,_,h4⟩:=kfn_ok hA hE hP ih h
  exact ⟨v,H',fr,h1,h2,h3.back hA hE h4⟩
theorem kmainT_keep (hA:A.Ok P) (hE:E.Ok P) (hP:P.follows .mixedOrders=true) {tb:T (List Ent)} (ht:TabOk A P tb) {L n:Nat} {f:FuncId} {b:Bool} {H:Heap}
  (h:kmainT A E L slow tb n f=some (.bool b,H)) (w:World):Calls P f #[] w fun e w'=>e=.returned (.bool b)∧Kept w w':=by
 obtain ⟨v,H',fr,fr',h1,h2,h3,h4,h5⟩:=kfn_ok hA hE hP (klevT_ok hA hE hP ht n) h
 cases h1
 exact calls_keep hA h2 h5.leads h4 h3.kind h3.final w
theorem oldsOk_ok {H:Heap}:∀ (bs:List Lit) (i:Nat),oldsOk H bs i=true→∀ k b,bs[k]?=some b→∃ b1,H.blks.get (i+k)=some b1∧Same b1 b
 |[],_,_,_,_,hb=>by simp at hb
 |b::bs,i,h,k,b',hb=>by
  simp only [oldsOk] at h
  split at h
  case h_2=>cases h
  next b1 hb1 =>
  simp only [Bool.and_eq_true] at h
  cases k with
  |zero =>
   simp only [List.getElem?_cons_zero,Option.some.injEq] at hb
   subst hb
   exact ⟨b1,hb1,same_ok h.1⟩
  |succ k =>
   rw [List.getElem?_cons_succ] at hb
   have:=oldsOk_ok bs (i+1) h.2 k b' hb
   rw [show i+(k+1)=i+1+k from by omega]
   exact this
theorem newsOk_ok {H:Heap} {n0:Nat}:∀ (l:List (Nat×Lit)),newsOk H n0 l=true→∀ j b,(j,b)∈l→n0≤j∧∃ b1,H.blks.get j=some b1∧Same b1 b∧∀ t f n c,b1=.cells t f n c→H.fams.get f=some [j]
 |[],_,_,_,hm=>by cases hm
 |(j, b) :: l, h, j', b', hm => by
  simp only [newsOk] at h
  split at h
  case h_2=>cases h
  next b1 hb1 =>
  simp only [Bool.and_eq_true] at h
  obtain ⟨⟨⟨h1,h2⟩,h3⟩,h4⟩:=h
  rcases List.mem_cons.1 hm with hm | hm
  ·cases hm
   exact ⟨Nat.le_of_ble_eq_true h1,b1,hb1,same_ok h2,aloneB_ok h3⟩
  ·exact newsOk_ok l h4 j' b' hm
theorem kent_ok (hA:A.Ok P) (hE:E.Ok P) (hP:P.follows .mixedOrders=true) {tb:T (List Ent)} (ht:TabOk A P tb) {L n:Nat} {e:Ent} (h:(kent A E L slow tb n e).isSome=true):EntOk A P e:=by
 obtain ⟨r,hr⟩:=Option.isSome_iff_exists.1 h
 simp only [kent,fHeap_eq] at hr
 obtain ⟨v,H',fr,fr',h1,h2,h3,h4,h5⟩:=kfn_ok hA hE hP (klevT_ok hA hE hP ht n) hr
 simp only [] at h1
 split at h1
 case h_2=>cases h1
 next hk =>
 simp only [entOk,Bool.and_eq_true] at hk
 obtain ⟨⟨⟨k1,k2⟩,k3⟩,k4⟩:=hk
 have hv:=AV.beq_eq _ _ k1
 subst hv
 exact ⟨fr,fr',H',h2,h3,h5,Nat.eq_of_beq_eq_true k2,fun a b hb=>by
  have:=oldsOk_ok _ 0 k3 a b hb
  rwa [Nat.zero_add] at this,newsOk_ok _ k4⟩
theorem TabOk.nil:TabOk A P .nil:=fun f es h=>by rw [T.get_nil] at h;cases h
theorem TabOk.set {tb:T (List Ent)} (ht:TabOk A P tb) {f:FuncId} {es:List Ent} {fn:Func} {c:Code} (hfn:A.funcs.get f=some fn) (hc:fn.body=some c) (he:∀ e,e∈es→e.f=f∧EntOk A P e):TabOk A P (tb.set f es):=by
 intro g es' h
 rw [T.get_set] at h
 split at h
 ·next hg =>
  cases h
  subst hg
  exact ⟨⟨fn,c,hfn,hc⟩,he⟩
 ·exact ht g es' h
end
end Go.Am
