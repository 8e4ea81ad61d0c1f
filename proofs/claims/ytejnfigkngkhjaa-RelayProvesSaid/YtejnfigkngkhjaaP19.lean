/- Parts of the proof: Pv60, R85, R86, R87, R88, R89 -/
import Derived.Test.YtejnfigkngkhjaaP16
import Derived.Test.YtejnfigkngkhjaaP18
set_option linter.unusedVariables false
set_option linter.unusedSimpArgs false
set_option linter.unusedSectionVars false
namespace Go.Pv
open Go.Am Go.RowKit
section
variable {C:Cx} {F:EQ} {X:EX} {k:List KI} {e:EL} {ds:List Nat} {h:PH} {n m:Nat} {l:HL}
theorem Run.loopD {c:Code} {α:Type} (env:α→EL) (hp:α→PH) (dsf:α→List Nat) (I:α→Prop) (m:α→Nat) (a:α) (hs:Lsub (env a) e) (hh:h=hp a) (hd:ds=dsf a) (hI:I a)
  (round:∀ a,I a→Run C F X (.c c::.l (fun e' ds' h'=>∃ a',m a' < m a∧I a'∧Lsub (env a') e'∧h'=hp a'∧ds'=dsf a')::k) (env a) (dsf a) (hp a)):Run C F X (.c (.loop c)::k) e ds h:=by
 refine Run.intro (PWP.loop (fun n t ds' h'=>∃ a',m a'=n∧I a'∧Sub (env a') t∧h'=hp a'∧ds'=dsf a') (n:=m a) ⟨a,rfl,hI,fun i v hi=>by rw [TE_get];exact hs.get hi,hh,hd⟩ ?_)
 rintro n t ds' h' ⟨a',rfl,h2,h3,rfl,rfl⟩
 refine PWP.mono ((round a' h2).wp h3) ?_ fun _ _ _ _ h=>h
 intro x t ds h ⟨e',g1,g2⟩
 cases x with
 |normal =>
  obtain ⟨a2,q1,q2,q3,q4,q5⟩:=g2
  exact ⟨m a2,q1,a2,rfl,q2,fun i v hi=>g1 i v (q3.get hi),q4,q5⟩
 |jump j=>exact ⟨e',g1,g2⟩
theorem undo_of:∀ (L:List Nat) (l:HL),(∀ i∈L,hget l i=some .dfr)→L.Nodup→Undo L (HE m l)
 |[],_,_,_=>trivial
 |i::L,l,h,hn=>by
  obtain ⟨h1,h2⟩:=List.nodup_cons.1 hn
  refine ⟨h i (by simp),?_⟩
  rw [HE_del]
  exact undo_of L _ (fun q hq=>(hget_tl (show q≠i from fun e=>h1 (by rw [← e];exact hq))).trans (h q (List.mem_cons_of_mem _ hq))) h2
theorem unds_HE:∀ (L:List Nat) (l:HL),∃ l',unds L (HE m l)=HE m l'
 |[],l=>⟨l,rfl⟩
 |i::L,l=>by
  simp only [unds,HE_del]
  exact unds_HE L _
theorem fin_retL {fn:Func} {R:PV→Prop} {vs:List PV} {L:List Nat} (hd:∀ i∈L,hget l i=some .dfr) (hn:L.Nodup) (hv:∀ l',Res C.A e l' fn.results.toList vs) (hb:(pone vs).bd 0=true) (hR:R (pone vs)):Jmp C (FinF C fn R) X [] .ret e L (HE m l):=by
 refine Jmp.done ⟨undo_of L l hd hn,vs,?_,?_⟩
 ·obtain ⟨l',h'⟩:=unds_HE (m:=m) L l
  rw [h']
  exact (hv l').get
 ·exact ⟨_,_,PGh.cut hb (by rw [PH.cut_zero];exact PH.nil_ok),by rw [PH.cut_zero],hR⟩
end
def dfrs (L:List Nat):HL:=L.map fun i=>(i,some .dfr)
theorem dfrs_get {L:List Nat} {l:HL} {i:Nat} (h:i∈L):hget (dfrs L++l) i=some .dfr:=by
 induction L with
 |nil=>cases h
 |cons q L ih =>
  show hget ((q,some PBlk.dfr)::(dfrs L++l)) i=_
  by_cases hq:i=q
  ·subst hq;exact hget_hd
  ·rw [hget_tl hq]
   rcases List.mem_cons.1 h with h | h
   ·exact absurd h hq
   ·exact ih h
theorem dfrs_past {L:List Nat} {l:HL} {i:Nat} (h:i ∉ L):hget (dfrs L++l) i=hget l i:=by
 induction L with
 |nil=>rfl
 |cons q L ih =>
  show hget ((q,some PBlk.dfr)::(dfrs L++l)) i=_
  rw [hget_tl (fun e=>h (by subst e;simp))]
  exact ih fun hq=>h (List.mem_cons_of_mem _ hq)
theorem dfrs_keys {L:List Nat} {m:Nat} (h:∀ i∈L,i < m) {x:Nat} (hx:m≤x) {l:HL} (hl:∀ p∈l,p.1≠x):∀ p∈dfrs L++l,p.1≠x:=by
 intro p hp
 rcases List.mem_append.1 hp with hp | hp
 ·obtain ⟨i,hi,rfl⟩:=List.mem_map.1 hp
  have:=h i hi
  show i≠x
  omega
 ·exact hl p hp
theorem dfrs_sub {l:HL}:∀ (L:List Nat),L.Nodup→(∀ p∈l,p.1 ∉ L)→Hsub l l→Hsub (dfrs L++l) (dfrs L++l)
 |[],_,_,h=>h
 |q::L,hn,hl,h=>by
  obtain ⟨h1,h2⟩:=List.nodup_cons.1 hn
  refine ⟨hget_hd,?_⟩
  refine Hsub.over (dfrs_sub L h2 (fun p hp hq=>hl p hp (List.mem_cons_of_mem _ hq)) h) ?_
  intro p hp
  rcases List.mem_append.1 hp with hp | hp
  ·obtain ⟨i,hi,rfl⟩:=List.mem_map.1 hp
   show i≠q
   exact fun e=>h1 (e ▸ hi)
  ·exact fun e=>hl p hp (by rw [e];simp)
end Go.Pv
namespace Go.Pv
open Go.Proofs Go.Am
set_option maxRecDepth 10000
def FedR (j n:Nat) (Rr:PV→PH→Prop) (rest:List PV) (v:PV) (h':PH):Prop :=
  ∃ m l',h'=HE m l'∧n≤m∧((v=B true∧Feed P0 (.yld j) Rr rest m l')∨(v=B false∧∀ m2,m≤m2→∀ u,Rr u (HE m2 l')))
theorem or20 {set e:Nat} (hs:set < 2 ^ 20) (he:e < 20):(set ||| 1 * 2 ^ e) < 2 ^ 20:=by
  refine Nat.or_lt_two_pow hs ?_
  rw [Nat.one_mul]
  exact Nat.pow_lt_pow_right (by decide) he
theorem f117z (nE:Nat) (Q:Enq) (set below:Nat) (hset:set < 2 ^ 20) (j n:Nat) (hj:j < n) (l:HL) (Rr:PV→PH→Prop) (rest:List PV) (hf:Feed P0 (.yld j) Rr (N set::rest) n l) :
    PCall P0 117 [srV nE Q,N set,N below,N 0,.yld j] (HE n l) (FedR j n Rr rest) fun _ _=>False:=by
  refine PCall.ofH (C:=c117) (cx_ok _ _ _) rfl (fn:=Try.f117) (by kernel_rfl) (c:=_) rfl rfl rfl (fun hok=>?_)
  refine Run.seq (Run.region (cx_ok _ _ _) (Reg.op rfl (Ope.boxF rfl rfl ?_)))
  refine Reg.op rfl (Ope.asg rfl ?_)
  refine Reg.nil (Run.seq (Run.seq (Run.region (cx_ok _ _ _) (Reg.op rfl (Ope.mov rfl ?_)))))
  refine Reg.op rfl (Ope.eq rfl rfl ?_)
  refine Reg.nil (Run.condX rfl (fun hc=>?_) fun hc=>?_)
  ·refine Run.seq (Run.region (cx_ok _ _ _) (Reg.op rfl (Ope.mov rfl ?_)))
   refine Reg.op rfl (Ope.mov rfl ?_)
   refine Reg.op rfl (Ope.yld (own:=[]) (v:=N set) rfl rfl (Owns.of (by simp) (by simp [keysB])) hf (fun m2 l2 hm2 hok2 hno2 hf2=>?_) (fun m2 l2 hm2 hok2 hno2 hr2=>?_))
   ·refine Reg.op rfl (Ope.asg rfl ?_)
    refine Reg.nil (Run.ret (Jmp.code ?_))
    first
      | exact finH_ret (.tmp rfl .nil) (Nat.le_refl _) hs_refl ⟨m2,l2,rfl,hm2,.inl ⟨rfl,hf2⟩⟩
      | exact finH_ret (.tmp rfl .nil) (Nat.le_refl _) hs_refl ⟨m2,l2,rfl,hm2,.inr ⟨rfl,hr2⟩⟩
   ·refine Reg.op rfl (Ope.asg rfl ?_)
    refine Reg.nil (Run.ret (Jmp.code ?_))
    first
      | exact finH_ret (.tmp rfl .nil) (Nat.le_refl _) hs_refl ⟨m2,l2,rfl,hm2,.inl ⟨rfl,hf2⟩⟩
      | exact finH_ret (.tmp rfl .nil) (Nat.le_refl _) hs_refl ⟨m2,l2,rfl,hm2,.inr ⟨rfl,hr2⟩⟩
  ·exact absurd rfl hc
theorem f117s (nE : Nat) (Q : Enq) (hQ : Q.ok) (k : Nat) (hk : k < 30)
    (ih:∀ (set below:Nat),set < 2 ^ 20→below≤20→∀ (j n:Nat),j < n→∀ (l:HL) (Rr:PV→PH→Prop) (rest:List PV),Feed P0 (.yld j) Rr ((growL Q.p k set below).map N++rest) n l →
      PCall P0 117 [srV nE Q,N set,N below,N k,.yld j] (HE n l) (FedR j n Rr rest) fun _ _=>False)
    (set below:Nat) (hset:set < 2 ^ 20) (hbel:below≤20) (j n:Nat) (hj:j < n) (l:HL) (Rr:PV→PH→Prop) (rest:List PV) (hf:Feed P0 (.yld j) Rr ((growL Q.p (k+1) set below).map N++rest) n l) :
    PCall P0 117 [srV nE Q,N set,N below,N (k+1),.yld j] (HE n l) (FedR j n Rr rest) fun _ _=>False:=by
  obtain ⟨hQb,g,cap,hQv,hQp⟩:=hQ
  rw [growL_succ] at hf
  obtain ⟨Qv,p⟩:=Q
  simp only at hQb hQv hQp hf
  subst hQv
  have hbd:∀ x:Nat,PV.bds 0 ([N x]++cap)=true:=fun x=>by
    simp only [PV.bd,PV.bds] at hQb
    simp only [List.cons_append,List.nil_append,PV.bds,PV.bd]
    simpa using hQb
  have hk1:((k+1:Nat):Int) - 1=(k:Int):=by omega
  refine PCall.ofH (C:=c117) (cx_ok _ _ _) rfl (fn:=Try.f117) (by kernel_rfl) (c:=_) rfl rfl rfl (fun hok=>?_)
  refine Run.seq (Run.region (cx_ok _ _ _) (Reg.op rfl (Ope.boxF rfl rfl ?_)))
  refine Reg.op rfl (Ope.asg rfl ?_)
  refine Reg.nil (Run.seq (Run.seq (Run.region (cx_ok _ _ _) (Reg.op rfl (Ope.mov rfl ?_)))))
  refine Reg.op rfl (Ope.eq rfl rfl ?_)
  refine Reg.nil (Run.condX rfl (fun hc=>?_) fun hc=>?_)
  ·(exfalso;omega)
  ·refine Run.skip (Run.seq (Run.region (cx_ok _ _ _) (Reg.op rfl (Ope.load rfl rfl ?_))))
   refine Reg.op rfl (Ope.mkf rfl rfl ?_)
   refine Reg.op rfl (Ope.asg rfl ?_)
   refine Reg.nil (Run.seq (Run.seq (Run.region (cx_ok _ _ _) (Reg.op rfl (Ope.mov rfl ?_)))))
   refine Reg.op rfl (Ope.mov rfl ?_)
   refine Reg.nil (Run.block (Run.loop (α:=Nat×Nat×HL) (fun s=>[(1,N set),(3,N (k+1)),(4,.yld j),(5,.fp (srV nE ⟨.fn (.func g) [] cap,p⟩)),(11,.fn (.func 117) [srV nE ⟨.fn (.func g) [] cap,p⟩] []),(22,N below),(23,I s.1)]) (fun s=>HE s.2.1 s.2.2) (fun s=>s.1≤below∧n≤s.2.1∧Feed P0 (.yld j) Rr ((growF p k set (below - s.1) s.1).map N++rest) s.2.1 s.2.2) (fun s=>below - s.1) (0,n,l) ⟨rfl,rfl,rfl,rfl,rfl,rfl,rfl,trivial⟩ rfl ⟨Nat.zero_le _,Nat.le_refl _,hf⟩ (fun s hs=>?_)))
   obtain ⟨e,m,l1⟩:=s
   obtain ⟨he1,hnm,hf1⟩:=hs
   simp only at he1 hnm hf1
   show Run _ _ _ _ [(1,N set),(3,N (k+1)),(4,.yld j),(5,.fp (srV nE ⟨.fn (.func g) [] cap,p⟩)),(11,.fn (.func 117) [srV nE ⟨.fn (.func g) [] cap,p⟩] []),(22,N below),(23,I e)] [] (HE m l1)
   refine Run.seq (Run.region (cx_ok _ _ _) (Reg.op rfl (Ope.lt rfl rfl ?_)))
   refine Reg.nil (Run.seq (Run.condX rfl (fun hc=>?_) fun hc=>?_))
   ·refine Run.skip (Run.seq (Run.block (Run.seq ?_)))
    have heb:e < below:=by omega
    have hd:below - e=(below - (e+1))+1:=by omega
    rw [hd] at hf1
    simp only [growF,List.map_append,List.append_assoc] at hf1
    have hpe:2 ^ e≤1048576:=pow20 (by omega)
    have hp0:0 < 2 ^ e:=Nat.pow_pos (by decide)
    have hlar:=or20 (e:=e) hset (by omega)
    have hlow:((1 * 2 ^ e:Nat):Int) - 1=((1 * 2 ^ e - 1:Nat):Int):=by omega
    have hun:((set ||| 1 * 2 ^ e) ||| (1 * 2 ^ e - 1)) < 2 ^ 20:=by
      refine Nat.or_lt_two_pow hlar ?_
      have:=Nat.pow_lt_pow_right (a:=2) (by decide) (show e < 20 by omega)
      omega
    refine Run.region (cx_ok _ _ _) (Reg.op rfl (Ope.mov rfl ?_))
    refine Reg.op rfl (Ope.asg rfl ?_)
    refine Reg.nil (Run.seq (Run.draw (cx_ok _ _ _) [(0,true),(1,true),(2,true),(3,true),(5,true),(6,true),(7,true),(4,true),(8,true),(9,true)] (by kernel_rfl) (Dra.op' rfl rfl rfl .sure (Ope.mov rfl ?_))))
    refine Dra.op' rfl rfl rfl .sure (Ope.mov rfl ?_)
    refine Dra.op' rfl rfl rfl .sure (Ope.shlN (p:=1) (m:=e) rfl rfl rfl rfl (by omega) (by omega) ?_)
    refine Dra.op' rfl rfl rfl .sure (Ope.bsl rfl rfl rfl rfl ?_)
    refine Dra.op' rfl rfl rfl .sure (Ope.mov rfl ?_)
    refine Dra.op' rfl rfl rfl .sure (Ope.shlN (p:=1) (m:=e) rfl rfl rfl rfl (by omega) (by omega) ?_)
    refine Dra.op' rfl rfl rfl .sure (Ope.sub rfl rfl (by omega) ?_)
    rw [hlow]
    refine Dra.op' rfl rfl rfl .sure (Ope.cf rfl rfl (f1082 set (1 * 2 ^ e) (by omega) (by omega)) rfl ?_)
    refine Dra.op' rfl rfl rfl .sure (Ope.asg rfl ?_)
    refine Dra.op' rfl rfl rfl .sure (Ope.asg rfl ?_)
    refine Dra.nil (Run.seq (Run.draw (cx_ok _ _ _) [(0,true),(1,false),(2,true),(3,true),(4,true),(5,true),(6,true),(7,true),(8,true),(9,true),(10,true),(11,true),(12,true),(13,true),(14,true),(15,true),(16,true)] (by kernel_rfl) (Dra.op' rfl rfl rfl .sure (Ope.fld rfl rfl ?_))))
    refine Dra.op' rfl rfl rfl (.load rfl) (Ope.load rfl rfl ?_)
    refine Dra.op' rfl rfl rfl .sure (Ope.mov rfl ?_)
    refine Dra.op' rfl rfl rfl .sure (Ope.mov rfl ?_)
    refine Dra.op' rfl rfl rfl .sure (Ope.bsl rfl rfl rfl rfl ?_)
    refine Dra.op' rfl rfl rfl .sure (Ope.cf rfl rfl (f1082 (set ||| 1 * 2 ^ e) (1 * 2 ^ e - 1) (by omega) (by omega)) rfl ?_)
    refine Dra.op' rfl rfl rfl .sure (Ope.cf rfl rfl (hQp _ (by omega)) (hbd _) ?_)
    refine Dra.op' rfl rfl rfl .sure (Ope.mov rfl ?_)
    refine Dra.splitX rfl rfl rfl rfl (fun hg=>?_) fun hg=>?_
    ·refine Dra.on' rfl rfl rfl rfl rfl .sure (Ope.mov rfl ?_)
     refine Dra.on' rfl rfl rfl rfl rfl .sure (Ope.mov rfl ?_)
     refine Dra.on' rfl rfl rfl rfl rfl .sure (Ope.mov rfl ?_)
     refine Dra.on' rfl rfl rfl rfl rfl .sure (Ope.mov rfl ?_)
     refine Dra.on' rfl rfl rfl rfl rfl .sure (Ope.sub rfl rfl (by omega) ?_)
     rw [hk1]
     refine Dra.on' rfl rfl rfl rfl rfl .sure (Ope.mov rfl ?_)
     refine Dra.on' rfl rfl rfl rfl rfl .sure (Ope.call rfl rfl rfl ((ih (set ||| 1 * 2 ^ e) e hlar (by omega) j m (by omega) l1 Rr _ (by rw [if_pos hg] at hf1;exact hf1)).mono (fun v h' qv=>?_) fun _ _ qv=>qv.elim))
     obtain ⟨m2,l2,rfl,hm2,⟨rfl,hf2⟩ | ⟨rfl,hr2⟩⟩:=qv
     ·refine Dra.on' rfl rfl rfl rfl rfl .sure (Ope.not rfl ?_)
      refine Dra.op' rfl rfl rfl .sure (Ope.pickT rfl rfl ?_)
      refine Dra.nil (Run.condX rfl (fun hc=>?_) fun hc=>?_)
      ·first
       |exact absurd hc (by decide)
       |refine Run.seq (Run.region (cx_ok _ _ _) (Reg.op rfl (Ope.asg rfl ?_)))
        refine Reg.nil (Run.ret (Jmp.retB (Jmp.code (Jmp.round (Jmp.retB (Jmp.code ?_))))))
        first
          | exact finH_ret (.tmp rfl .nil) (Nat.le_refl _) hs_refl ⟨m2,l2,rfl,by omega,.inr ⟨rfl,hr2⟩⟩
          | exact finH_ret (.tmp rfl .nil) (Nat.le_refl _) hs_refl ⟨m,l1,rfl,hnm,.inl ⟨rfl,by
              have he:below - e=0:=by omega
              rw [he] at hf1
              exact hf1⟩⟩
      ·first
       |exact absurd hc (by decide)
       |refine Run.skip (Run.bend (Run.region (cx_ok _ _ _) (Reg.op rfl (Ope.add rfl rfl (by omega) ?_))))
        refine Reg.op rfl (Ope.mov rfl ?_)
        refine Reg.nil ?_
        first
          | exact Run.lend ⟨(e+1,m2,l2),by simp only;omega,⟨by simp only;omega,by simp only;omega,hf2⟩,⟨rfl,rfl,rfl,rfl,rfl,rfl,rfl,trivial⟩,rfl,rfl⟩
          | exact Run.lend ⟨(e+1,m,l1),by simp only;omega,⟨by simp only;omega,hnm,by
              rw [if_neg (by rw [hg];decide)] at hf1
              exact hf1⟩,⟨rfl,rfl,rfl,rfl,rfl,rfl,rfl,trivial⟩,rfl,rfl⟩
     ·refine Dra.on' rfl rfl rfl rfl rfl .sure (Ope.not rfl ?_)
      refine Dra.op' rfl rfl rfl .sure (Ope.pickT rfl rfl ?_)
      refine Dra.nil (Run.condX rfl (fun hc=>?_) fun hc=>?_)
      ·first
       |exact absurd hc (by decide)
       |refine Run.seq (Run.region (cx_ok _ _ _) (Reg.op rfl (Ope.asg rfl ?_)))
        refine Reg.nil (Run.ret (Jmp.retB (Jmp.code (Jmp.round (Jmp.retB (Jmp.code ?_))))))
        first
          | exact finH_ret (.tmp rfl .nil) (Nat.le_refl _) hs_refl ⟨m2,l2,rfl,by omega,.inr ⟨rfl,hr2⟩⟩
          | exact finH_ret (.tmp rfl .nil) (Nat.le_refl _) hs_refl ⟨m,l1,rfl,hnm,.inl ⟨rfl,by
              have he:below - e=0:=by omega
              rw [he] at hf1
              exact hf1⟩⟩
      ·first
       |exact absurd hc (by decide)
       |refine Run.skip (Run.bend (Run.region (cx_ok _ _ _) (Reg.op rfl (Ope.add rfl rfl (by omega) ?_))))
        refine Reg.op rfl (Ope.mov rfl ?_)
        refine Reg.nil ?_
        first
          | exact Run.lend ⟨(e+1,m2,l2),by simp only;omega,⟨by simp only;omega,by simp only;omega,hf2⟩,⟨rfl,rfl,rfl,rfl,rfl,rfl,rfl,trivial⟩,rfl,rfl⟩
          | exact Run.lend ⟨(e+1,m,l1),by simp only;omega,⟨by simp only;omega,hnm,by
              rw [if_neg (by rw [hg];decide)] at hf1
              exact hf1⟩,⟨rfl,rfl,rfl,rfl,rfl,rfl,rfl,trivial⟩,rfl,rfl⟩
    ·refine Dra.off' rfl rfl rfl (.inl rfl) rfl (Dra.off' rfl rfl rfl (.inl rfl) rfl (Dra.off' rfl rfl rfl (.inl rfl) rfl (Dra.off' rfl rfl rfl (.inl rfl) rfl (Dra.off' rfl rfl rfl (.inl rfl) rfl (Dra.off' rfl rfl rfl (.inl rfl) rfl (Dra.off' rfl rfl rfl (.inl rfl) rfl (Dra.off' rfl rfl rfl (.inl rfl) rfl (Dra.op' rfl rfl rfl .sure (Ope.pickF rfl rfl ?_)))))))))
     refine Dra.nil (Run.condF rfl (Run.skip (Run.bend (Run.region (cx_ok _ _ _) (Reg.op rfl (Ope.add rfl rfl (by omega) ?_))))))
     refine Reg.op rfl (Ope.mov rfl ?_)
     refine Reg.nil ?_
     first
       | exact Run.lend ⟨(e+1,m2,l2),by simp only;omega,⟨by simp only;omega,by simp only;omega,hf2⟩,⟨rfl,rfl,rfl,rfl,rfl,rfl,rfl,trivial⟩,rfl,rfl⟩
       | exact Run.lend ⟨(e+1,m,l1),by simp only;omega,⟨by simp only;omega,hnm,by
           rw [if_neg (by rw [hg];decide)] at hf1
           exact hf1⟩,⟨rfl,rfl,rfl,rfl,rfl,rfl,rfl,trivial⟩,rfl,rfl⟩
   ·refine Run.exit (Jmp.code (Jmp.round (Jmp.here (Run.seq (Run.region (cx_ok _ _ _) (Reg.op rfl (Ope.asg rfl ?_)))))))
    refine Reg.nil (Run.ret ?_)
    first
      | exact finH_ret (.tmp rfl .nil) (Nat.le_refl _) hs_refl ⟨m2,l2,rfl,by omega,.inr ⟨rfl,hr2⟩⟩
      | exact finH_ret (.tmp rfl .nil) (Nat.le_refl _) hs_refl ⟨m,l1,rfl,hnm,.inl ⟨rfl,by
          have he:below - e=0:=by omega
          rw [he] at hf1
          exact hf1⟩⟩
theorem f117 (nE:Nat) (Q:Enq) (hQ:Q.ok):∀ (k:Nat),k≤30→∀ (set below:Nat),set < 2 ^ 20→below≤20→∀ (j n:Nat),j < n→∀ (l:HL) (Rr:PV→PH→Prop) (rest:List PV),Feed P0 (.yld j) Rr ((growL Q.p k set below).map N++rest) n l →
      PCall P0 117 [srV nE Q,N set,N below,N k,.yld j] (HE n l) (FedR j n Rr rest) fun _ _=>False
  | 0,_,set,below,hset,_,j,n,hj,l,Rr,rest,hf=>f117z nE Q set below hset j n hj l Rr rest hf
  | k+1,hk,set,below,hset,hb,j,n,hj,l,Rr,rest,hf=>f117s nE Q hQ k (by omega) (f117 nE Q hQ k (by omega)) set below hset hb j n hj l Rr rest hf
theorem f109 (nE:Nat) (Q:Enq) (hQ:Q.ok) (k:Nat):Fn P0 109 [srV nE Q,N k] (.fn (.func 116) [] [.fp (srV nE Q),.fp (N k)]):=by
  obtain ⟨hQb,g,cap,hQv,hQp⟩:=hQ
  refine PFun.of (C:=c109) (cx_ok _ _ _) rfl (fn:=Try.f109) (by kernel_rfl) (c:=_) rfl rfl rfl ?_
  refine Run.seq (Run.region (cx_ok _ _ _) (Reg.op rfl (Ope.boxF rfl rfl ?_)))
  refine Reg.op rfl (Ope.boxF rfl rfl ?_)
  refine Reg.op rfl (Ope.asg rfl ?_)
  refine Reg.nil (Run.seq (Run.region (cx_ok _ _ _) (Reg.op rfl (Ope.mkf rfl rfl ?_))))
  refine Reg.op rfl (Ope.asg rfl ?_)
  refine Reg.nil (Run.ret (fin_ret (.tmp rfl .nil) (by simp only [pone,PV.bds,PV.bd,hQb,Bool.and_self]) ?_))
  rfl
theorem f116 (nE:Nat) (hn:nE≤20) (Q:Enq) (hQ:Q.ok) (k:Nat) (hk:k≤30):Yields P0 116 [] [.fp (srV nE Q),.fp (N k)] ((growL Q.p k 0 nE).map N):=by
  intro j n l Rr hj hfeed
  have hg:=f117 nE Q hQ k hk 0 nE (by decide) hn j n hj l Rr [] (by rw [List.append_nil];exact hfeed)
  obtain ⟨hQb,g,cap,hQv,hQp⟩:=hQ
  refine PCall.ofH (C:=c116) (cx_ok _ _ _) rfl (fn:=Try.f116) (by kernel_rfl) (c:=_) rfl rfl rfl (fun hok=>?_)
  refine Run.region (cx_ok _ _ _) (Reg.op rfl (Ope.load rfl rfl ?_))
  refine Reg.op rfl (Ope.fld rfl rfl ?_)
  refine Reg.op rfl (Ope.load rfl rfl ?_)
  refine Reg.op rfl (Ope.load rfl rfl ?_)
  refine Reg.op rfl (Ope.mov rfl ?_)
  refine Reg.op rfl (Ope.call rfl rfl rfl (hg.mono (fun v h' qv=>?_) fun _ _ qv=>qv.elim))
  obtain ⟨m2,l2,rfl,hm2,⟨rfl,hf2⟩ | ⟨rfl,hr2⟩⟩:=qv
  ·refine Reg.nil ?_
   first
     | exact finH_end .nil (Nat.le_refl _) hs_refl (hf2 _ (Nat.le_refl _) _)
     | exact finH_end .nil (Nat.le_refl _) hs_refl (hr2 _ (Nat.le_refl _) _)
  ·refine Reg.nil ?_
   first
     | exact finH_end .nil (Nat.le_refl _) hs_refl (hf2 _ (Nat.le_refl _) _)
     | exact finH_end .nil (Nat.le_refl _) hs_refl (hr2 _ (Nat.le_refl _) _)
def fewO (p : Nat → Bool) (nE : Nat) : Nat → Nat → Option Nat
  | 0,_=>none
  | d + 1, k => match (growL p k 0 nE).find? p with
    | some s=>some s
    | none=>fewO p nE d (k+1)
def fewS (p:Nat→Bool) (nE:Nat):Nat:=(fewO p nE (nE+1) 0).getD 0
theorem growL_lt (p:Nat→Bool):∀ (k set n:Nat),set < 2 ^ 20→n≤20→∀ x∈growL p k set n,x < 2 ^ 20
  | 0, set, n, hs, _, x, hx => by
    simp only [growL,List.mem_singleton] at hx
    subst hx;exact hs
  | k + 1, set, n, hs, hn, x, hx => by
    simp only [growL,List.mem_flatMap,List.mem_range] at hx
    obtain ⟨e,he,hx⟩:=hx
    split at hx
    · exact growL_lt p k _ e (or20 hs (by omega)) (by omega) x hx
    · cases hx
theorem Hsub.all {l:HL}:∀ {Z:HL},(∀ p∈Z,hget l p.1=p.2)→Hsub Z l
  | [],_=>trivial
  | (i,b)::Z,h=>⟨h (i,b) (by simp),Hsub.all fun p hp=>h p (List.mem_cons_of_mem _ hp)⟩
theorem fewJ {m x:Nat} {L:List Nat} {lb lb2:PBlk} (hL:∀ i∈L,0 < i∧i < m) (hm:1≤m) :
    Hsub (dfrs (m::L)++[(0,some (.cells [N x]))]) ((m+1,none)::(0,some (.cells [N x]))::(m+1,some lb2)::(m+1,some lb)::(m,some .dfr)::(dfrs L++[(0,some (.cells [I 0]))])):=by
  refine Hsub.all fun p hp=>?_
  rcases List.mem_append.1 hp with hp | hp
  · obtain ⟨i, hi, rfl⟩ := List.mem_map.1 hp
    have h1:0 < i∧i≤m:=by
      rcases List.mem_cons.1 hi with rfl | hi
      · omega
      · have:=hL i hi;omega
    show hget _ i=some .dfr
    rw [hget_tl (by omega),hget_tl (by omega),hget_tl (by omega),hget_tl (by omega)]
    rcases List.mem_cons.1 hi with rfl | hi
    · exact hget_hd
    · rw [hget_tl (by have := hL i hi; omega)]
      exact dfrs_get hi
  · simp only [List.mem_singleton] at hp
    subst hp
    show hget _ 0=_
    rw [hget_tl (by omega)]
    exact hget_hd
theorem f98 (nE : Nat) (hn : nE ≤ 20) (Q : Enq) (hQ : Q.ok) : Fn P0 98 [srV nE Q] (N (fewS Q.p nE)) := by
  have hsets:=fun k hk=>f116 nE hn Q hQ k hk
  have hset:=fun k=>f109 nE Q hQ k
  obtain ⟨hQb,g,cap,hQv,hQp⟩:=hQ
  obtain ⟨Qv,p⟩:=Q
  simp only at hQb hQv hQp hsets hset
  subst hQv
  have hbd:∀ x:Nat,PV.bds 0 ([N x]++cap)=true:=fun x=>by
    simp only [PV.bd,PV.bds] at hQb
    simp only [List.cons_append,List.nil_append,PV.bds,PV.bd]
    simpa using hQb
  have hbs:∀ x:Nat,PV.bds 0 [srV nE ⟨.fn (.func g) [] cap,p⟩,N x]=true:=fun x=>by
    simp only [PV.bds,PV.bd] at hQb ⊢
    simpa using hQb
  have hS:fewS p nE=(fewO p nE (nE+1) 0).getD 0:=rfl
  generalize hf0:fewO p nE (nE+1) 0=f0 at hS
  refine PFun.of (C:=c98) (cx_ok _ _ _) rfl (fn:=Try.f98) (by kernel_rfl) (c:=_) rfl rfl rfl ?_
  refine Run.seq (Run.region (cx_ok _ _ _) (Reg.op rfl (Ope.boxF rfl rfl ?_)))
  refine Reg.op rfl (Ope.asg rfl ?_)
  refine Reg.nil (Run.scope (Run.seq (Run.region (cx_ok _ _ _) (Reg.op rfl (Ope.newL rfl ?_)))))
  refine Reg.op0 (Ope.store rfl rfl rfl rfl rfl rfl ?_)
  refine Reg.nil (Run.seq (Run.label (Run.seq (Run.seq (Run.region (cx_ok _ _ _) (Reg.op rfl (Ope.fld rfl rfl ?_)))))))
  refine Reg.op rfl (Ope.load rfl rfl ?_)
  refine Reg.op rfl (Ope.add rfl rfl (by omega) ?_)
  refine Reg.op rfl (Ope.mov rfl ?_)
  refine Reg.nil (Run.block (Run.wide (m:=1) (l':=dfrs []++[(0,some (.cells [I 0]))]) (Nat.le_refl _) (show Hsub [(0,some (.cells [I 0]))] _ from ⟨rfl,trivial⟩) ?_))
  refine Run.loopD (α:=Nat×Nat×List Nat) (fun s=>[(1,.fp (srV nE ⟨.fn (.func g) [] cap,p⟩)),(3,.ptr 0 0),(8,I ((nE:Int)+1)),(9,I s.1)]) (fun s=>HE s.2.1 (dfrs s.2.2++[(0,some (.cells [I 0]))])) (fun s=>s.2.2) (fun s=>s.1≤nE+1∧1≤s.2.1∧f0=fewO p nE (nE+1 - s.1) s.1∧(∀ i∈s.2.2,0 < i∧i < s.2.1)∧s.2.2.Nodup) (fun s=>nE+1 - s.1) (0,1,[]) ⟨rfl,rfl,rfl,rfl,trivial⟩ rfl rfl ⟨Nat.zero_le _,Nat.le_refl _,hf0.symm,(fun i hi=>by cases hi),List.nodup_nil⟩ (fun s hs=>?_)
  obtain ⟨k,m,L⟩:=s
  obtain ⟨hk,hm,hfew,hL,hLn⟩:=hs
  simp only at hk hm hfew hL hLn
  show Run _ _ _ _ [(1,.fp (srV nE ⟨.fn (.func g) [] cap,p⟩)),(3,.ptr 0 0),(8,I ((nE:Int)+1)),(9,I k)] L (HE m (dfrs L++[(0,some (.cells [I 0]))]))
  refine Run.seq (Run.region (cx_ok _ _ _) (Reg.op rfl (Ope.lt rfl rfl ?_)))
  refine Reg.nil (Run.seq (Run.condX rfl (fun hc=>?_) fun hc=>?_))
  ·refine Run.skip (Run.seq (Run.block (Run.seq ?_)))
   have hkn:k < nE+1:=by omega
   have hd:nE+1 - k=(nE+1 - (k+1))+1:=by omega
   rw [hd] at hfew
   simp only [fewO] at hfew
   have h0L:0 ∉ L:=fun h=>by have:=(hL 0 h).1;omega
   have hself:Hsub (dfrs L++[(0,some (PBlk.cells [I 0]))]) (dfrs L++[(0,some (PBlk.cells [I 0]))]):=dfrs_sub L hLn (fun p hp=>by simp only [List.mem_singleton] at hp;subst hp;exact h0L) ⟨rfl,trivial⟩
   have hkey:∀ x,m≤x→∀ p∈dfrs L++[(0,some (PBlk.cells [I 0]))],p.1≠x:=fun x hx=>dfrs_keys (fun i hi=>(hL i hi).2) hx fun p hp=>by simp only [List.mem_singleton] at hp;subst hp;show 0≠x;omega
   have hkeym:∀ p∈(m,some PBlk.dfr)::(dfrs L++[(0,some (PBlk.cells [I 0]))]),p.1≠m+1:=fun p hp=>by
     rcases List.mem_cons.1 hp with rfl | hp
     · show m≠m+1;omega
     · exact hkey _ (by omega) p hp
   have hselfm:Hsub ((m,some PBlk.dfr)::(dfrs L++[(0,some (PBlk.cells [I 0]))])) ((m,some PBlk.dfr)::(dfrs L++[(0,some (PBlk.cells [I 0]))])):=⟨hget_hd,Hsub.over hself (hkey _ (Nat.le_refl _))⟩
   refine Run.region (cx_ok _ _ _) (Reg.op rfl (Ope.mov rfl ?_))
   refine Reg.op rfl (Ope.asg rfl ?_)
   refine Reg.nil (Run.seq (Run.region (cx_ok _ _ _) (Reg.op rfl (Ope.load rfl rfl ?_))))
   refine Reg.op rfl (Ope.mov rfl ?_)
   refine Reg.op rfl (Ope.cf rfl rfl (hset k) (hbs k) ?_)
   refine Reg.nil (Run.block (Run.rangeF (cx_ok _ _ _) rfl (α:=Unit) (fun _=>dfrs L++[(0,some (.cells [I 0]))]) (fun _=>m+2) (fun i _=>∀ x∈(growL p k 0 nE).take i,p x=false) rfl (hsets k (by omega)) rfl rfl ⟨Try.f98,by kernel_rfl⟩ () (fun x hx=>by simp at hx) hself (fun _=>hkey _ (by omega)) (hkey _ (Nat.le_refl _)) (Nat.le_refl _) (fun i _ v hvi hI m1 hm1 hm2 lb=>?_) (fun _ hI m1 hm1 hm2=>?_)))
   ·obtain ⟨x, hx, rfl⟩ : ∃ x, (growL p k 0 nE)[i]? = some x ∧ v = N x := by
      rw [List.getElem?_map] at hvi
      cases hq:(growL p k 0 nE)[i]? with
      | none=>rw [hq] at hvi;cases hvi
      | some x=>rw [hq] at hvi;cases hvi;exact ⟨x,rfl,rfl⟩
    obtain ⟨hlt,hget⟩:=List.getElem?_eq_some_iff.1 hx
    have hx20:x < 2 ^ 20:=growL_lt p k 0 nE (by decide) hn x (List.mem_of_getElem? hx)
    refine Run.region (Cx.Ok.rnd (cx_ok _ _ _)) (Reg.op rfl (Ope.asg rfl ?_))
    refine Reg.nil (Run.done ⟨rfl,rfl,_,_,rfl,hget_hd,fun lb2=>?_⟩)
    refine Run.block (Run.seq (Run.region (Cx.Ok.rnd (cx_ok _ _ _)) (Reg.op rfl (Ope.fld rfl rfl ?_))))
    refine Reg.op rfl (Ope.load rfl rfl ?_)
    refine Reg.op rfl (Ope.mov rfl ?_)
    refine Reg.op rfl (Ope.cf rfl rfl (hQp x (by omega)) (hbd x) ?_)
    refine Reg.nil (Run.condX rfl (fun hc=>?_) fun hc=>?_)
    ·refine Run.seq (Run.region (Cx.Ok.rnd (cx_ok _ _ _)) (Reg.op rfl (Ope.mov rfl ?_)))
     refine Reg.op0 (Ope.store rfl rfl ((hget_tl (by omega)).trans ((hget_tl (by omega)).trans ((hget_tl (by omega)).trans ((dfrs_past h0L).trans rfl)))) rfl rfl rfl ?_)
     refine Reg.nil (Run.exit (Jmp.past rfl (Jmp.done ⟨rfl,_,_,rfl,by omega,(hget_tl (by omega)).trans hget_hd,(fun _=>rfl),dfrs (m::L)++[(0,some (.cells [N x]))],fewJ hL hm,fun m4 hm4=>?_⟩)))
     refine Jmp.past rfl (Jmp.past rfl (Jmp.code (Jmp.round (Jmp.here (Run.seq (Run.region (cx_ok _ _ _) ?_))))))
     first
       | refine Reg.op rfl (Ope.loadH (v:=N x) rfl ((dfrs_past (by intro h;rcases List.mem_cons.1 h with h | h;(· omega);(· exact h0L h))).trans rfl) rfl ?_)
       | refine Reg.op rfl (Ope.loadH (v:=I 0) rfl ((dfrs_past (fun h=>by have:=(hL 0 h).1;omega)).trans rfl) rfl ?_)
     refine Reg.op rfl (Ope.asg rfl ?_)
     refine Reg.nil (Run.ret (Jmp.retS ?_))
     first
       | exact fin_retL (L:=m::L) (fun i hi=>dfrs_get hi) (List.nodup_cons.2 ⟨fun h=>by have:=(hL m h).2;omega,hLn⟩) (fun l'=>.tmp rfl .nil) rfl (show N x=N (fewS p nE) by
           have hfind:(growL p k 0 nE).find? p=some x:=by
             have hdrop:=List.drop_eq_getElem_cons hlt
             rw [hget] at hdrop
             rw [← List.take_append_drop i (growL p k 0 nE),hdrop,List.find?_append,List.find?_eq_none.2 (fun y hy=>by rw [hI y hy];decide)]
             simp [hc]
           rw [hfind] at hfew
           rw [hS,hfew]
           rfl)
       | exact fin_retL (L:=L) (fun i hi=>dfrs_get hi) hLn (fun l'=>.tmp rfl .nil) rfl (show N 0=N (fewS p nE) by
           have hk0:nE+1 - k=0:=by omega
           rw [hk0] at hfew
           rw [hS,hfew]
           rfl)
    ·refine Run.skip (Run.bend (Run.done ⟨rfl,_,_,rfl,by omega,hget_hd,(),by omega,Hsub.over (Hsub.over hselfm hkeym) hkeym,fun y hy=>?_⟩))
     rw [List.take_succ_eq_append_getElem hlt,hget] at hy
     rcases List.mem_append.1 hy with h1 | h1
     · exact hI y h1
     · simp only [List.mem_singleton] at h1
       subst h1
       exact hc
   ·rw [List.length_map,List.take_length] at hI
    have hfind:(growL p k 0 nE).find? p=none:=List.find?_eq_none.2 fun y hy=>by rw [hI y hy];decide
    rw [hfind] at hfew
    refine Run.bend (Run.bend (Run.region (cx_ok _ _ _) (Reg.op rfl (Ope.add rfl rfl (by omega) ?_))))
    refine Reg.op rfl (Ope.mov rfl ?_)
    refine Reg.nil ?_
    exact Run.lend ⟨(k+1,m1,m::L),by simp only;omega,⟨by simp only;omega,by simp only;omega,hfew,fun i hi=>by
        rcases List.mem_cons.1 hi with rfl | hi
        · simp only;omega
        · have:=hL i hi;simp only;omega,List.nodup_cons.2 ⟨fun h=>by have:=(hL m h).2;omega,hLn⟩⟩,⟨rfl,rfl,rfl,rfl,trivial⟩,rfl,rfl⟩
  ·refine Run.exit (Jmp.code (Jmp.round (Jmp.here (Run.seq (Run.region (cx_ok _ _ _) ?_)))))
   first
     | refine Reg.op rfl (Ope.loadH (v:=N x) rfl ((dfrs_past (by intro h;rcases List.mem_cons.1 h with h | h;(· omega);(· exact h0L h))).trans rfl) rfl ?_)
     | refine Reg.op rfl (Ope.loadH (v:=I 0) rfl ((dfrs_past (fun h=>by have:=(hL 0 h).1;omega)).trans rfl) rfl ?_)
   refine Reg.op rfl (Ope.asg rfl ?_)
   refine Reg.nil (Run.ret (Jmp.retS ?_))
   first
     | exact fin_retL (L:=m::L) (fun i hi=>dfrs_get hi) (List.nodup_cons.2 ⟨fun h=>by have:=(hL m h).2;omega,hLn⟩) (fun l'=>.tmp rfl .nil) rfl (show N x=N (fewS p nE) by
         have hfind:(growL p k 0 nE).find? p=some x:=by
           have hdrop:=List.drop_eq_getElem_cons hlt
           rw [hget] at hdrop
           rw [← List.take_append_drop i (growL p k 0 nE),hdrop,List.find?_append,List.find?_eq_none.2 (fun y hy=>by rw [hI y hy];decide)]
           simp [hc]
         rw [hfind] at hfew
         rw [hS,hfew]
         rfl)
     | exact fin_retL (L:=L) (fun i hi=>dfrs_get hi) hLn (fun l'=>.tmp rfl .nil) rfl (show N 0=N (fewS p nE) by
         have hk0:nE+1 - k=0:=by omega
         rw [hk0] at hfew
         rw [hS,hfew]
         rfl)
end Go.Pv
namespace Go.Pv
open Go.Proofs Go.Am
set_option maxRecDepth 10000
def errC (rest:Int) (S:List Sti):Int:=if relOk rest S=false then 1 else if okT (tabA S rest)=true then 4 else 0
theorem clsL_len (S:List Sti) (rest:Int):(clsL S rest).length=4 * S.length:=by simp [clsL]
theorem clsL_lt {S:List Sti} {rest:Int} (hS:S.length≤5):∀ x∈clsL S rest,x < 2 ^ 62:=by
  intro x hx
  obtain ⟨a,ha,rfl⟩:=List.mem_map.1 hx
  have:=clRow_lt S rest a (a+1) (by have:=List.mem_range.1 ha;omega)
  omega
section
variable (rest:Int) (tl:Tail) (htl:tl.isOwn=false) (S:List Sti)
include htl in
theorem f94 (hS:S.length≤1000000) (g:Nat) (p:List Nat→Nat→Bool)
    (hg:∀ (tl:Tail) (cs:List Nat),tl.isOwn=false→cs.length≤20→(∀ x∈cs,x < 2 ^ 62)→∀ set,set < 2 ^ 62→Fn P0 g [.sl tl (cs.map N),N set] (B (p cs set))) :
    Outs P0 94 [.fp (relV rest tl S),.fp (.fn (.func g) [] [])] (N (fewS (p (clsL S rest)) (4 * S.length))) (errC rest S):=by
  have hb1:=bd_relF rest tl htl S
  have hcl:=clsL_len S rest
  unfold Outs
  refine PFun.of (C:=c94) (cx_ok _ _ _) rfl (fn:=Try.f94) (by kernel_rfl) (c:=_) rfl rfl rfl ?_
  refine Run.seq (Run.region (cx_ok _ _ _) (Reg.op rfl (Ope.asg rfl ?_)))
  refine Reg.nil (Run.seq (Run.region (cx_ok _ _ _) (Reg.op rfl (Ope.load rfl rfl ?_))))
  refine Reg.op rfl (Ope.cf rfl rfl (f83 rest tl S hS) hb1 ?_)
  refine Reg.op rfl (Ope.call rfl rfl rfl ((f82 _ _ _).mono (fun v h' q=>?_) fun v h' q=>by obtain ⟨q1,rfl,rfl⟩:=q;exact fin_panic rfl (by unfold errC;rw [if_pos q1];exact ⟨by decide,rfl⟩)))
  obtain ⟨hV,rfl,rfl⟩:=q
  obtain ⟨hr,hS5,hok⟩:=relOk_of hV
  refine Reg.nil (Run.seq (Run.region (cx_ok _ _ _) (Reg.op rfl (Ope.load rfl rfl ?_))))
  refine Reg.op rfl (Ope.call rfl rfl rfl ((f84j1 [] rest tl htl S hS5).mono (fun v h' q=>?_) fun _ _ q=>q.elim))
  obtain ⟨m,hm,rfl,rfl⟩:=q
  refine Reg.op rfl (Ope.newL rfl ?_)
  refine Reg.op0 (Ope.store rfl rfl hget_hd rfl rfl rfl ?_)
  refine Reg.nil (Run.seq (Run.frz (d:=3) true rfl hget_hd rfl ?_))
  refine Run.wide (m:=m+1) (l':=[(1,some (mapB S))]) (Nat.le_refl _) ⟨(hget_tl (by omega)).trans ((hget_tl (by omega)).trans ((hget_tl (by omega)).trans rfl)),trivial⟩ ?_
  refine Run.draw (cx_ok _ _ _) [(0,false),(1,true),(2,true),(3,true),(4,true),(5,true)] (by kernel_rfl) (Dra.op' rfl rfl rfl (.load rfl) (Ope.load rfl rfl ?_))
  refine Dra.op' rfl rfl rfl .sure (Ope.load rfl rfl ?_)
  refine Dra.op' rfl rfl rfl .sure (Ope.callX2 (j:=1) rfl rfl rfl (f86 rest tl S hS5 1) (bd_not1 rest tl htl S _ _ (by decide)) (mapB_bd S _) rfl (below1 (fun b h=>by cases h)) (by omega) (fun v q=>?_) (fun v q=>q.elim))
  obtain rfl:=q
  refine Dra.op' rfl rfl rfl .sure (Ope.callX2 (j:=1) rfl rfl rfl (f95 rest hr tl htl S hS5 hok (allE S) (allE_lt hS5)) (bd_not rest tl htl S _ _ (by decide) _) (mapB_bd S _) rfl (below1 (fun b h=>by cases h)) (by omega) (fun v q=>?_) (fun v q=>q.elim))
  obtain rfl:=q
  refine Dra.op' rfl rfl rfl .sure (Ope.not rfl ?_)
  refine Dra.op' rfl rfl rfl .sure (Ope.call rfl rfl rfl ((f82 _ _ _).mono (fun v h' q=>?_) fun v h' q=>by obtain ⟨q1,rfl,rfl⟩:=q;exact fin_panic rfl (by unfold errC;rw [if_neg (by rw [hV];decide),if_pos (by simpa using q1)];exact ⟨by decide,rfl⟩)))
  obtain ⟨hC,rfl,rfl⟩:=q
  have hC':okT (tabA S rest)=false:=by simpa using hC
  have herr:errC rest S=0:=by unfold errC;rw [if_neg (by rw [hV];decide),if_neg (by rw [hC'];decide)]
  have hlt:=clsL_lt (rest:=rest) hS5
  refine Dra.nil (Run.seq (Run.region (cx_ok _ _ _) (Reg.op rfl (Ope.load rfl rfl ?_))))
  refine Reg.op rfl (Ope.callX2 (j:=1) rfl rfl rfl (f96 rest hr tl htl S hS5 hok) (bd_not1 rest tl htl S _ _ (by decide)) (mapB_bd S _) rfl (below1 (fun b h=>by cases h)) (by omega) (fun v q=>?_) (fun v q=>q.elim))
  obtain rfl:=q
  refine Reg.op rfl (Ope.newL rfl ?_)
  refine Reg.op0 (Ope.store rfl rfl hget_hd rfl rfl rfl ?_)
  refine Reg.nil (Run.seq (Run.frz (d:=4) false rfl hget_hd rfl ?_))
  refine Run.wide (m:=m+1+1) (l':=[]) (Nat.le_refl _) trivial ?_
  rw [← hcl]
  have hcl20:(clsL S rest).length≤20:=by omega
  generalize clsL S rest=cs at *
  have hQ:Enq.ok ⟨.fn (.func 97) [] [.fp (.fn (.func g) [] []),.fp (.sl .no (cs.map N))],p cs⟩:=⟨by simp only [PV.bd,PV.bds,bdsN 0 cs,Bool.and_true],_,_,rfl,fun set hset=>f97 g .no cs (p cs) rfl (hg .no cs rfl hcl20 hlt) set hset⟩
  have hfew:=f98 cs.length hcl20 _ hQ
  have hbq:PV.bds 0 [srV cs.length ⟨.fn (.func 97) [] [.fp (.fn (.func g) [] []),.fp (.sl .no (cs.map N))],p cs⟩]=true:=by simp only [PV.bds,PV.bd,bdsN 0 cs,Bool.and_true]
  refine Run.region (cx_ok _ _ _) (Reg.op rfl (Ope.load rfl rfl ?_))
  refine Reg.op rfl (Ope.len (m:=cs.length) rfl (by simp) ?_)
  refine Reg.op rfl (Ope.mkf rfl rfl ?_)
  refine Reg.op rfl (Ope.bld rfl rfl ?_)
  refine Reg.op rfl (Ope.newL rfl ?_)
  refine Reg.op0 (Ope.store rfl rfl hget_hd rfl rfl rfl ?_)
  refine Reg.nil (Run.seq (Run.frz (d:=5) true rfl hget_hd rfl ?_))
  refine Run.region (cx_ok _ _ _) (Reg.op rfl (Ope.load rfl rfl ?_))
  refine Reg.op rfl (Ope.cf rfl rfl hfew hbq ?_)
  refine Reg.op rfl (Ope.asg rfl ?_)
  refine Reg.nil (Run.ret (fin_ret (.tmp rfl .nil) rfl ?_))
  exact ⟨herr,rfl⟩
def fewE (p:List Nat→Nat→Bool):Int:=if errC rest S=0 then ((fewS (p (clsL S rest)) (4 * S.length):Nat):Int) else 0
include htl in
theorem f69 (hS:S.length≤1000000) (g:Nat) (p:List Nat→Nat→Bool)
    (hg:∀ (tl:Tail) (cs:List Nat),tl.isOwn=false→cs.length≤20→(∀ x∈cs,x < 2 ^ 62)→∀ set,set < 2 ^ 62→Fn P0 g [.sl tl (cs.map N),N set] (B (p cs set))) :
    Fn P0 69 [relV rest tl S,.fn (.func g) [] []] (.tup [I (fewE rest S p),I (errC rest S)]):=by
  have hbc:PV.bds 0 [.fp (relV rest tl S),.fp (.fn (.func g) [] [])]=true:=by
    simp only [PV.bds,PV.bd,bd_sl (f:=Sti.v) htl (fun _=>rfl) S,Bool.and_true]
  have hb:PV.bds 0 [.fn (.func 94) [] [.fp (relV rest tl S),.fp (.fn (.func g) [] [])]]=true:=by
    simp only [PV.bds,PV.bd,bd_sl (f:=Sti.v) htl (fun _=>rfl) S,Bool.and_true]
  have hf:=ansI (f94 rest tl htl S hS g p hg) hbc
  refine PFun.of (C:=c69) (cx_ok _ _ _) rfl (fn:=Try.f69) (by kernel_rfl) (c:=_) rfl rfl rfl ?_
  refine Run.seq (Run.region (cx_ok _ _ _) (Reg.op rfl (Ope.boxF rfl rfl ?_)))
  refine Reg.op rfl (Ope.boxF rfl rfl ?_)
  refine Reg.op rfl (Ope.asg rfl ?_)
  refine Reg.op rfl (Ope.asg rfl ?_)
  refine Reg.nil (Run.seq (Run.region (cx_ok _ _ _) (Reg.op rfl (Ope.mkf rfl rfl ?_))))
  refine Reg.op rfl (Ope.cf rfl rfl hf hb ?_)
  refine Reg.op rfl (Ope.ext rfl rfl ?_)
  refine Reg.op rfl (Ope.ext rfl rfl ?_)
  refine Reg.op rfl (Ope.asg rfl ?_)
  refine Reg.op rfl (Ope.asg rfl ?_)
  exact Reg.nil (Run.ret (fin_ret (.tmp rfl (.tmp rfl .nil)) rfl rfl))
include htl in
theorem bd_blame (g:Nat):PV.bds 0 [relV rest tl S,.fn (.func g) [] []]=true:=by
  simp only [PV.bds,PV.bd,bd_sl (f:=Sti.v) htl (fun _=>rfl) S,Bool.and_true]
def wroP (cs:List Nat) (set:Nat):Bool:=!amongC cs (outN cs.length set)
include htl in
theorem f26 (hS:S.length≤1000000):Fn P0 26 [relV rest tl S] (.tup [I (fewE rest S amongC),I (errC rest S)]):=by
  have hf:=f69 rest tl htl S hS 70 amongC fun tl cs h1 h2 h3 set h4=>f70 tl h1 cs h2 h3 set h4
  refine PFun.of (C:=c26) (cx_ok _ _ _) rfl (fn:=Try.f26) (by kernel_rfl) (c:=_) rfl rfl rfl ?_
  refine Run.seq (Run.region (cx_ok _ _ _) (Reg.op rfl (Ope.boxF rfl rfl ?_)))
  refine Reg.op rfl (Ope.asg rfl ?_)
  refine Reg.op rfl (Ope.asg rfl ?_)
  refine Reg.nil (Run.seq (Run.region (cx_ok _ _ _) (Reg.op rfl (Ope.load rfl rfl ?_))))
  refine Reg.op rfl (Ope.cf rfl rfl hf (bd_blame rest tl htl S _) ?_)
  refine Reg.op rfl (Ope.ext rfl rfl ?_)
  refine Reg.op rfl (Ope.ext rfl rfl ?_)
  refine Reg.op rfl (Ope.asg rfl ?_)
  refine Reg.op rfl (Ope.asg rfl ?_)
  exact Reg.nil (Run.ret (fin_ret (.tmp rfl (.tmp rfl .nil)) rfl rfl))
include htl in
theorem f28 (hS:S.length≤1000000):Fn P0 28 [relV rest tl S] (.tup [I (fewE rest S wroP),I (errC rest S)]):=by
  have hf:=f69 rest tl htl S hS 73 wroP fun tl cs h1 h2 h3 set h4=>f73 tl h1 cs h2 h3 set h4
  refine PFun.of (C:=c28) (cx_ok _ _ _) rfl (fn:=Try.f28) (by kernel_rfl) (c:=_) rfl rfl rfl ?_
  refine Run.seq (Run.region (cx_ok _ _ _) (Reg.op rfl (Ope.boxF rfl rfl ?_)))
  refine Reg.op rfl (Ope.asg rfl ?_)
  refine Reg.op rfl (Ope.asg rfl ?_)
  refine Reg.nil (Run.seq (Run.region (cx_ok _ _ _) (Reg.op rfl (Ope.load rfl rfl ?_))))
  refine Reg.op rfl (Ope.cf rfl rfl hf (bd_blame rest tl htl S _) ?_)
  refine Reg.op rfl (Ope.ext rfl rfl ?_)
  refine Reg.op rfl (Ope.ext rfl rfl ?_)
  refine Reg.op rfl (Ope.asg rfl ?_)
  refine Reg.op rfl (Ope.asg rfl ?_)
  exact Reg.nil (Run.ret (fin_ret (.tmp rfl (.tmp rfl .nil)) rfl rfl))
end
end Go.Pv
namespace Go.Pv
open Go.Proofs Go.Am
set_option maxRecDepth 10000
def smp (lo hi:Int):List Sti:=[⟨0,0,0,0,2,10,14,12,16⟩,⟨1,lo,hi,9,12,20,24,21,25⟩,⟨0,22,30,23,26,40,44,38,42⟩]
def vOf (vs:List Int) (i:Nat):Int:=vs.getD i 0
def keepsB (S:List Sti) (rest:Int) (E:Nat) (vs:List Int):Bool :=
  ((allB S rest).all fun x=>decide (vOf vs x.b - vOf vs x.a≤x.most E)) && (List.range 11).all fun a=>(List.range 11).all fun b=>decide (vOf vs b - vOf vs a≤600)
theorem keeps_of {S:List Sti} {rest:Int} {E:Nat} {vs:List Int} (h:keepsB S rest E vs=true):Keeps S rest E (vOf vs):=by
  simp only [keepsB,Bool.and_eq_true,List.all_eq_true,List.mem_range,decide_eq_true_eq] at h
  exact ⟨fun a b ha hb=>h.2 a ha b hb,h.1⟩
theorem tab_ge {S:List Sti} {rest:Int} {E:Nat} (vs:List Int) (h:keepsB S rest E vs=true) {a b:Nat} (ha:a < 11) (hb:b < 11):vOf vs b - vOf vs a≤tabS S rest E a b:=(keeps_of h).pot a b ha hb
theorem tab_le {S:List Sti} {rest:Int} {E:Nat} (i:Nat) {a b:Nat} {d:Int} (h:((allB S rest)[i]?).map (fun x=>(x.a,x.b,x.most E))=some (a,b,d)) (ha:a < 11) (hb:b < 11):tabS S rest E a b≤d:=by
  cases hx:(allB S rest)[i]? with
  | none=>rw [hx] at h;cases h
  | some x =>
    rw [hx] at h
    simp only [Option.map_some,Option.some.injEq,Prod.mk.injEq] at h
    obtain ⟨rfl,rfl,rfl⟩:=h
    exact Int.le_trans (sh_short (foldB E (allB S rest)) x.a x.b ha hb) (fold_bd _ _ (List.mem_of_getElem? hx))
abbrev tabX:Tab:=tabA (smp 11 13) 2
theorem smp_rel:relOk 2 (smp 11 13)=true:=by decide +kernel
theorem smp_rel2:relOk 2 (smp 14 15)=true:=by decide +kernel
theorem kLo:keepsB (smp 11 13) 2 (allE (smp 11 13)) [0,12,11,21,23,40]=true:=by decide +kernel
theorem kHi:keepsB (smp 11 13) 2 (allE (smp 11 13)) [0,14,12,24,26,42]=true:=by decide +kernel
theorem kA:keepsB (smp 11 13) 2 (allE (smp 11 13)) [0,12,12,21,23,40]=true:=by decide +kernel
theorem kB:keepsB (smp 11 13) 2 (allE (smp 11 13)) [0,12,11,24,23,40]=true:=by decide +kernel
theorem kC:keepsB (smp 11 13) 2 (allE (smp 11 13)) [0,12,12,21,26,40]=true:=by decide +kernel
theorem kD:keepsB (smp 11 13) 2 (allE (smp 11 13)) [0,12,12,24,23,40]=true:=by decide +kernel
theorem smp_ok:okT tabX=true:=(keeps_of kLo).ok
theorem xlo (i:Nat) {a:Nat} {d:Int} (ha:a < 11) (h:((allB (smp 11 13) 2)[i]?).map (fun x=>(x.a,x.b,x.most (allE (smp 11 13))))=some (a,10,d)) (hv:vOf [0,12,11,21,23,40] 10 - vOf [0,12,11,21,23,40] a=d):tabX a 10=d:=by
  have h1:=tab_le i h ha (by decide)
  have h2:=tab_ge _ kLo ha (show 10 < 11 by decide)
  show tabS _ _ _ a 10=d
  omega
theorem xhi (i:Nat) {a:Nat} {d:Int} (ha:a < 11) (h:((allB (smp 11 13) 2)[i]?).map (fun x=>(x.a,x.b,x.most (allE (smp 11 13))))=some (10,a,d)) (hv:vOf [0,14,12,24,26,42] a - vOf [0,14,12,24,26,42] 10=d):tabX 10 a=d:=by
  have h1:=tab_le i h (by decide) ha
  have h2:=tab_ge _ kHi (show 10 < 11 by decide) ha
  show tabS _ _ _ 10 a=d
  omega
theorem x0l:tabX 0 10=0:=xlo 0 (by decide) (by decide +kernel) (by decide)
theorem x1l:tabX 1 10=-12:=xlo 8 (by decide) (by decide +kernel) (by decide)
theorem x2l:tabX 2 10=-11:=xlo 13 (by decide) (by decide +kernel) (by decide)
theorem x3l:tabX 3 10=-21:=xlo 19 (by decide) (by decide +kernel) (by decide)
theorem x4l:tabX 4 10=-23:=xlo 27 (by decide) (by decide +kernel) (by decide)
theorem x5l:tabX 5 10=-40:=xlo 29 (by decide) (by decide +kernel) (by decide)
theorem x0h:tabX 10 0=0:=xhi 3 (by decide) (by decide +kernel) (by decide)
theorem x1h:tabX 10 1=14:=xhi 7 (by decide) (by decide +kernel) (by decide)
theorem x2h:tabX 10 2=12:=xhi 16 (by decide) (by decide +kernel) (by decide)
theorem x3h:tabX 10 3=24:=xhi 18 (by decide) (by decide +kernel) (by decide)
theorem x4h:tabX 10 4=26:=xhi 28 (by decide) (by decide +kernel) (by decide)
theorem x5h:tabX 10 5=42:=xhi 32 (by decide) (by decide +kernel) (by decide)
theorem xtri {a b:Nat} (ha:a < 11) (hb:b < 11):tabX a b≤tabX a 10+tabX 10 b:=short_tri smp_ok ha hb (by decide)
theorem x32:tabX 3 2=-9:=by
  have h1:=xtri (a:=3) (b:=2) (by decide) (by decide)
  have h2:=tab_ge _ kA (show 3 < 11 by decide) (show 2 < 11 by decide)
  have h3:vOf [0,12,12,21,23,40] 2 - vOf [0,12,12,21,23,40] 3=-9:=by decide
  rw [h3] at h2
  have e1:=x3l
  have e2:=x2h
  show tabS _ _ _ 3 2=-9
  change tabS _ _ _ 3 2≤_ at h1
  omega
theorem x23:tabX 2 3=13:=by
  have h1:=xtri (a:=2) (b:=3) (by decide) (by decide)
  have h2:=tab_ge _ kB (show 2 < 11 by decide) (show 3 < 11 by decide)
  have h3:vOf [0,12,11,24,23,40] 3 - vOf [0,12,11,24,23,40] 2=13:=by decide
  rw [h3] at h2
  have e1:=x2l
  have e2:=x3h
  show tabS _ _ _ 2 3=13
  change tabS _ _ _ 2 3≤_ at h1
  omega
theorem x34:tabX 3 4=5:=by
  have h1:=xtri (a:=3) (b:=4) (by decide) (by decide)
  have h2:=tab_ge _ kC (show 3 < 11 by decide) (show 4 < 11 by decide)
  have h3:vOf [0,12,12,21,26,40] 4 - vOf [0,12,12,21,26,40] 3=5:=by decide
  rw [h3] at h2
  have e1:=x3l
  have e2:=x4h
  show tabS _ _ _ 3 4=5
  change tabS _ _ _ 3 4≤_ at h1
  omega
theorem x43:tabX 4 3=1:=by
  have h1:=xtri (a:=4) (b:=3) (by decide) (by decide)
  have h2:=tab_ge _ kD (show 4 < 11 by decide) (show 3 < 11 by decide)
  have h3:vOf [0,12,12,24,23,40] 3 - vOf [0,12,12,24,23,40] 4=1:=by decide
  rw [h3] at h2
  have e1:=x4l
  have e2:=x3h
  show tabS _ _ _ 4 3=1
  change tabS _ _ _ 4 3≤_ at h1
  omega
theorem smp_err {c:Bool} {e:Int} (hc:c=true):errT 2 (smp 11 13) c e=e:=err_at 2 (smp 11 13) smp_rel hc smp_ok
theorem ex_on:onE 2 (smp 11 13) 2=(23,26)∧errT 2 (smp 11 13) (isSt (smp 11 13) 2) 0=0:=by
  have he:=smp_err (c:=isSt (smp 11 13) 2) (e:=0) (by decide +kernel)
  refine ⟨?_,he⟩
  rw [onE,he,spI,if_pos rfl]
  show (-(tabX 4 10),tabX 10 4)=_
  rw [x4l,x4h];rfl
theorem ex_off:offE 2 (smp 11 13) 0=(12,14)∧errT 2 (smp 11 13) (isSt (smp 11 13) 0) 0=0:=by
  have he:=smp_err (c:=isSt (smp 11 13) 0) (e:=0) (by decide +kernel)
  refine ⟨?_,he⟩
  rw [offE,he,spI,if_pos rfl]
  show (-(tabX 1 10),tabX 10 1)=_
  rw [x1l,x1h];rfl
theorem ex_len:lenE 2 (smp 11 13) 1=(9,13)∧errT 2 (smp 11 13) (isSt (smp 11 13) 1) 0=0:=by
  have he:=smp_err (c:=isSt (smp 11 13) 1) (e:=0) (by decide +kernel)
  refine ⟨?_,he⟩
  rw [lenE,he,spI,if_pos rfl]
  show (-(tabX 3 2),tabX 2 3)=_
  rw [x32,x23];rfl
theorem ex_hand:hanE 2 (smp 11 13) 1=1∧errT 2 (smp 11 13) (hanC (smp 11 13) 1) 0=0:=by
  have he:=smp_err (c:=hanC (smp 11 13) 1) (e:=0) (by decide +kernel)
  refine ⟨?_,he⟩
  rw [hanE,he,if_pos rfl]
  show (if 0≤-(tabX 3 4) then (2:Int) else if tabX 4 3 < 0 then 0 else 1)=1
  rw [x34,x43];rfl
theorem ex_gap:gapM 2 (smp 11 13) 0 39=some 21:=by
  have e:∀ x,Tab.gap tabX x 3 0=(if x < tabX 10 0 then true else if x < -(tabX 1 10) then false else if x < tabX 10 2 then true else if x < -(tabX 3 10) then false else if x < tabX 10 4 then true else if x < -(tabX 5 10) then false else true):=fun x=>rfl
  simp only [x0h,x1l,x2h,x3l,x4h,x5l] at e
  refine firstM_of (by decide) (by decide) ((e 21).trans (by decide)) fun x h1 h2=>(e x).trans ?_
  by_cases hx:x < 12
  · rw [if_neg (by omega),if_pos (by omega)]
  · rw [if_neg (by omega),if_neg (by omega),if_neg (by omega),if_pos (by omega)]
theorem ex_nob : nobM 2 (smp 11 13) 0 45 = some 42 := by
  have hr:∀ x i,Tab.rides tabX x i=(decide (-(tabX (2 * i) 10)≤x) && decide (x < tabX 10 (2 * i+1))):=fun x i=>rfl
  refine firstM_of (by decide) (by decide) ?_ fun x h1 h2=>?_
  · refine empty_yes fun i hi => ?_
    have hi3:i < 3:=hi
    rcases (by omega:i=0∨i=1∨i=2) with rfl | rfl | rfl
    · show Tab.rides tabX 42 0 = false
      rw [hr,show 2 * 0=0 from rfl,show 0+1=1 from rfl,x0l,x1h];decide
    · show Tab.rides tabX 42 1 = false
      rw [hr,show 2 * 1=2 from rfl,show 2+1=3 from rfl,x2l,x3h];decide
    · show Tab.rides tabX 42 2 = false
      rw [hr,show 2 * 2=4 from rfl,show 4+1=5 from rfl,x4l,x5h];decide
  · by_cases h3 : x < 14
    · refine empty_no (i := 0) (show 0 < 3 by decide) ?_
      show Tab.rides tabX x 0=true
      rw [hr,show 2 * 0=0 from rfl,show 0+1=1 from rfl,x0l,x1h,decide_eq_true (by omega),decide_eq_true (by omega)];rfl
    · by_cases h4 : x < 24
      · refine empty_no (i := 1) (show 1 < 3 by decide) ?_
        show Tab.rides tabX x 1=true
        rw [hr,show 2 * 1=2 from rfl,show 2+1=3 from rfl,x2l,x3h,decide_eq_true (by omega),decide_eq_true (by omega)];rfl
      · refine empty_no (i := 2) (show 2 < 3 by decide) ?_
        show Tab.rides tabX x 2=true
        rw [hr,show 2 * 2=4 from rfl,show 4+1=5 from rfl,x4l,x5h,decide_eq_true (by omega),decide_eq_true (by omega)];rfl
theorem smp_cl {E:Nat} (h1:((allB (smp 14 15) 2)[13]?).map (fun x=>(x.a,x.b,x.most E))=some (2,10,-14)) (h2:((allB (smp 14 15) 2)[16]?).map (fun x=>(x.a,x.b,x.most E))=some (10,2,12)):okT (tabS (smp 14 15) 2 E)=false:=by
  cases h:okT (tabS (smp 14 15) 2 E) with
  | false=>rfl
  | true =>
    have t1:=tab_le 13 h1 (by decide) (by decide)
    have t2:=tab_le 16 h2 (by decide) (by decide)
    have t3:tabS (smp 14 15) 2 E 10 10≤tabS (smp 14 15) 2 E 10 2+tabS (smp 14 15) 2 E 2 10:=short_tri h (by decide) (by decide) (by decide)
    have t4:=okT_at h (m:=10) (by decide)
    omega
def prO (a b:Nat):Bool:=!(Nat.beq a 5 && Nat.beq b 4)
theorem smp_prs:((List.range 12).all fun a=>(List.range (a+1)).all fun b=>(!prO a b) || (keepsB (smp 14 15) 2 (1 * 2 ^ a ||| 1 * 2 ^ b) [0,12,11,21,23,40] || keepsB (smp 14 15) 2 (1 * 2 ^ a ||| 1 * 2 ^ b) [0,12,14,21,23,40]))=true:=by decide +kernel
theorem smp_pr {a b:Nat} (ha:a < 12) (hb:b≤a):okT (tabS (smp 14 15) 2 (1 * 2 ^ a ||| 1 * 2 ^ b))=prO a b:=by
  have h:=smp_prs
  simp only [List.all_eq_true,List.mem_range,Bool.or_eq_true] at h
  have h':=h a ha b (by omega)
  cases hp:prO a b with
  | true =>
    rw [hp] at h'
    rcases h' with h' | h' | h'
    · cases h'
    · exact (keeps_of h').ok
    · exact (keeps_of h').ok
  | false =>
    have hab:a=5∧b=4:=by
      simp only [prO,Bool.not_eq_false',Bool.and_eq_true] at hp
      exact ⟨Nat.eq_of_beq_eq_true hp.1,Nat.eq_of_beq_eq_true hp.2⟩
    obtain ⟨rfl,rfl⟩:=hab
    exact smp_cl (by decide +kernel) (by decide +kernel)
def rowP (p:Nat→Nat→Bool) (a:Nat):Nat→Nat
  | 0=>0
  | b+1=>if p a b=true then rowP p a b else rowP p a b ||| 1 * 2 ^ b
theorem row_eq {a:Nat} (ha:a < 12):∀ b,b≤a+1→clRow (smp 14 15) 2 a b=rowP prO a b
  | 0,_=>rfl
  | b + 1, hb => by
    simp only [clRow,rowP,smp_pr ha (show b≤a by omega),row_eq ha b (by omega)]
theorem smp_cls:clsL (smp 14 15) 2=[0,0,0,0,0,16,0,0,0,0,0,0]:=by
  have h:clsL (smp 14 15) 2=(List.range 12).map fun a=>rowP prO a (a+1):=List.map_congr_left fun a ha=>row_eq (List.mem_range.1 ha) _ (Nat.le_refl _)
  rw [h]
  decide +kernel
theorem smp_errC:errC 2 (smp 14 15)=0:=by
  unfold errC
  rw [if_neg (by rw [smp_rel2];decide),if_neg (by rw [show okT (tabA (smp 14 15) 2)=false from smp_cl (by decide +kernel) (by decide +kernel)];decide)]
theorem ex_clash:fewE 2 (smp 14 15) amongC=48:=by
  rw [fewE,smp_errC,if_pos rfl,smp_cls]
  decide +kernel
theorem ex_wrong:fewE 2 (smp 14 15) wroP=16:=by
  rw [fewE,smp_errC,if_pos rfl,smp_cls]
  decide +kernel
end Go.Pv
namespace Go.Pv
open Go.Proofs Go.Am
set_option maxRecDepth 10000
theorem f41 (r a b c d e f g h:Int):Fn P0 41 [I r,.agg [I a,I b],.agg [I c,I d],.agg [I e,I f],.agg [I g,I h]] (Sti.v ⟨r,a,b,c,d,e,f,g,h⟩):=by
  refine PFun.of (C:=c41) (cx_ok _ _ _) rfl (fn:=Try.f41) (by kernel_rfl) (c:=_) rfl rfl rfl ?_
  refine Run.seq (Run.region (cx_ok _ _ _) (Reg.op rfl (Ope.boxF rfl rfl ?_)))
  refine Reg.op rfl (Ope.boxF rfl rfl ?_)
  refine Reg.op rfl (Ope.boxF rfl rfl ?_)
  refine Reg.op rfl (Ope.boxF rfl rfl ?_)
  refine Reg.op rfl (Ope.newL rfl ?_)
  refine Reg.nil (Run.seq (Run.region (cx_ok _ _ _) (Reg.op rfl (Ope.mov rfl ?_))))
  refine Reg.op rfl (Ope.load rfl rfl ?_)
  refine Reg.op rfl (Ope.load rfl rfl ?_)
  refine Reg.op rfl (Ope.bld rfl rfl ?_)
  refine Reg.op rfl (Ope.load rfl rfl ?_)
  refine Reg.op rfl (Ope.load rfl rfl ?_)
  refine Reg.op rfl (Ope.bld rfl rfl ?_)
  refine Reg.op rfl (Ope.bld rfl rfl ?_)
  refine Reg.op0 (Ope.store rfl rfl hget_hd rfl rfl rfl ?_)
  refine Reg.nil (Run.ret (fin_ret (.cell rfl rfl .nil) rfl ?_))
  rfl
theorem f43 (lo hi:Int):Fn P0 43 [I lo,I hi] (relV 2 .ex (smp lo hi)):=by
  refine PFun.of (C:=c43) (cx_ok _ _ _) rfl (fn:=Try.f43) (by kernel_rfl) (c:=_) rfl rfl rfl ?_
  refine Run.seq (Run.region (cx_ok _ _ _) (Reg.op rfl (Ope.newL rfl ?_)))
  refine Reg.nil (Run.seq (Run.region (cx_ok _ _ _) (Reg.op rfl (Ope.cf rfl rfl (f34 0 0) rfl ?_))))
  refine Reg.op rfl (Ope.cf rfl rfl (f34 0 2) rfl ?_)
  refine Reg.op rfl (Ope.cf rfl rfl (f34 10 14) rfl ?_)
  refine Reg.op rfl (Ope.cf rfl rfl (f34 12 16) rfl ?_)
  refine Reg.op rfl (Ope.cf rfl rfl (f41 _ _ _ _ _ _ _ _ _) rfl ?_)
  refine Reg.op rfl (Ope.mov rfl ?_)
  refine Reg.op rfl (Ope.mov rfl ?_)
  refine Reg.op rfl (Ope.cf rfl rfl (f34 lo hi) rfl ?_)
  refine Reg.op rfl (Ope.cf rfl rfl (f34 9 12) rfl ?_)
  refine Reg.op rfl (Ope.cf rfl rfl (f34 20 24) rfl ?_)
  refine Reg.op rfl (Ope.cf rfl rfl (f34 21 25) rfl ?_)
  refine Reg.op rfl (Ope.cf rfl rfl (f41 _ _ _ _ _ _ _ _ _) rfl ?_)
  refine Reg.op rfl (Ope.cf rfl rfl (f34 22 30) rfl ?_)
  refine Reg.op rfl (Ope.cf rfl rfl (f34 23 26) rfl ?_)
  refine Reg.op rfl (Ope.cf rfl rfl (f34 40 44) rfl ?_)
  refine Reg.op rfl (Ope.cf rfl rfl (f34 38 42) rfl ?_)
  refine Reg.op rfl (Ope.cf rfl rfl (f41 _ _ _ _ _ _ _ _ _) rfl ?_)
  refine Reg.op rfl (Ope.bsl rfl rfl rfl rfl ?_)
  refine Reg.op rfl (Ope.bld rfl rfl ?_)
  refine Reg.op0 (Ope.store rfl rfl hget_hd rfl rfl rfl ?_)
  refine Reg.nil (Run.ret (fin_ret (.cell rfl rfl .nil) rfl ?_))
  rfl
theorem eqSv (x y x' y':Int):aeqv A0 E0 20 28 (.agg [.int .i64 x,.int .i64 y]) (.agg [.int .i64 x',.int .i64 y'])=chainB (x == x') (y == y'):=by kernel_rfl
theorem eqSe:E0.eqs.get 28=some ():=by kernel_rfl
theorem eqSu:(match A0.under 28 with | some (.struct _)=>true | _=>false)=true:=by kernel_rfl
theorem eqSp (xo yo:Operand) (x y x' y':Int):pbin A0 E0 .eql 28 xo yo (.agg [I x,I y]) (.agg [I x',I y'])=some (B (x == x' && y == y')):=by
  have hn:pnil A0 28 (.agg [I x,I y]) (.agg [I x',I y'])=none:=by
    have h:=eqSu
    unfold pnil
    cases hu:A0.under 28 with
    | none=>rfl
    | some d =>
      rw [hu] at h
      cases d<;>first | rfl | (exact absurd h (by decide))
  have hv:=eqSv x y x' y'
  simp only [pbin,PV.toAV,PV.toAVs,bothNil,hn,abin,aequal,eqSe,hv]
  cases (x == x')<;>cases (y == y')<;>rfl
theorem awakeF:Fn P0 13 [] (B true):=by
  have hb:=bd_relF 2 .ex rfl (smp 11 13)
  have hb':=bd_relF 2 .ex rfl (smp 14 15)
  have l0:(smp 11 13).length≤1000000:=by decide
  have l1:(smp 14 15).length≤1000000:=by decide
  have h1:=f14 2 .ex rfl (smp 11 13) l0 2
  rw [ex_on.1,ex_on.2] at h1
  have h2:=f16t 2 .ex rfl (smp 11 13) l0 0
  rw [ex_off.1,ex_off.2] at h2
  have h3:=f18t 2 .ex rfl (smp 11 13) l0 1
  rw [ex_len.1,ex_len.2] at h3
  have h4:=f20 2 .ex rfl (smp 11 13) l0 1
  rw [ex_hand.1,ex_hand.2] at h4
  have h5:=f24t 2 .ex rfl (smp 11 13) l0 0 39
  have e5:errT 2 (smp 11 13) (minsOk 0 39) (noE (gapM 2 (smp 11 13) 0 39))=0:=by rw [ex_gap];exact smp_err (by decide +kernel)
  rw [minE,e5,if_pos rfl,ex_gap] at h5
  have h6:=f22t 2 .ex rfl (smp 11 13) l0 0 45
  have e6:errT 2 (smp 11 13) (minsOk 0 45) (noE (nobM 2 (smp 11 13) 0 45))=0:=by rw [ex_nob];exact smp_err (by decide +kernel)
  rw [minE,e6,if_pos rfl,ex_nob] at h6
  have h7:=f26 2 .ex rfl (smp 14 15) l1
  rw [ex_clash,smp_errC] at h7
  have h8:=f28 2 .ex rfl (smp 14 15) l1
  rw [ex_wrong,smp_errC] at h8
  have bi:=fun k=>bd_is 2 .ex rfl (smp 11 13) k
  have bi2:∀ a b,PV.bds 0 [relV 2 .ex (smp 11 13),I a,I b]=true:=fun a b=>by
    have:=bi a
    simp only [PV.bds,PV.bd] at this ⊢
    simpa using this
  have s11:=f43 11 13
  have s14:=f43 14 15
  have eS:∀ (xo yo:Operand) (x y:Int),pbin A0 E0 .eql 28 xo yo (.agg [I x,I y]) (.agg [I x,I y])=some (B true):=fun xo yo x y=>by
    rw [eqSp];simp
  refine PFun.of (C:=c13) (cx_ok _ _ _) rfl (fn:=Try.f13) (by kernel_rfl) (c:=_) rfl rfl rfl ?_
  refine Run.seq (Run.region (cx_ok _ _ _) (Reg.op rfl (Ope.asg rfl ?_)))
  refine Reg.nil (Run.seq (Run.region (cx_ok _ _ _) (Reg.op rfl (Ope.cf rfl rfl (s11) rfl ?_))))
  refine Reg.op rfl (Ope.cf rfl rfl (s14) rfl ?_)
  refine Reg.op rfl (Ope.newL rfl ?_)
  refine Reg.op rfl (Ope.newL rfl ?_)
  refine Reg.op0 (Ope.store rfl rfl rfl rfl rfl rfl ?_)
  refine Reg.op0 (Ope.store rfl rfl rfl rfl rfl rfl ?_)
  refine Reg.nil (Run.seq (Run.region (cx_ok _ _ _) (Reg.op rfl (Ope.load rfl rfl ?_))))
  refine Reg.op rfl (Ope.cf rfl rfl h1 (bi 2) ?_)
  refine Reg.op rfl (Ope.mov rfl ?_)
  refine Reg.op rfl (Ope.ext rfl rfl ?_)
  refine Reg.op rfl (Ope.ext rfl rfl ?_)
  refine Reg.op rfl (Ope.newL rfl ?_)
  refine Reg.op0 (Ope.store rfl rfl rfl rfl rfl rfl ?_)
  refine Reg.op rfl (Ope.asg rfl ?_)
  refine Reg.nil (Run.seq (Run.region (cx_ok _ _ _) (Reg.op rfl (Ope.load rfl rfl ?_))))
  refine Reg.op rfl (Ope.cf rfl rfl h2 (bi 0) ?_)
  refine Reg.op rfl (Ope.mov rfl ?_)
  refine Reg.op rfl (Ope.ext rfl rfl ?_)
  refine Reg.op rfl (Ope.ext rfl rfl ?_)
  refine Reg.op rfl (Ope.newL rfl ?_)
  refine Reg.op0 (Ope.store rfl rfl rfl rfl rfl rfl ?_)
  refine Reg.op rfl (Ope.asg rfl ?_)
  refine Reg.nil (Run.seq (Run.region (cx_ok _ _ _) (Reg.op rfl (Ope.load rfl rfl ?_))))
  refine Reg.op rfl (Ope.cf rfl rfl h3 (bi 1) ?_)
  refine Reg.op rfl (Ope.mov rfl ?_)
  refine Reg.op rfl (Ope.ext rfl rfl ?_)
  refine Reg.op rfl (Ope.ext rfl rfl ?_)
  refine Reg.op rfl (Ope.newL rfl ?_)
  refine Reg.op0 (Ope.store rfl rfl rfl rfl rfl rfl ?_)
  refine Reg.op rfl (Ope.asg rfl ?_)
  refine Reg.nil (Run.seq (Run.region (cx_ok _ _ _) (Reg.op rfl (Ope.load rfl rfl ?_))))
  refine Reg.op rfl (Ope.cf rfl rfl h4 (bi 1) ?_)
  refine Reg.op rfl (Ope.mov rfl ?_)
  refine Reg.op rfl (Ope.ext rfl rfl ?_)
  refine Reg.op rfl (Ope.ext rfl rfl ?_)
  refine Reg.op rfl (Ope.asg rfl ?_)
  refine Reg.op rfl (Ope.asg rfl ?_)
  refine Reg.nil (Run.seq (Run.region (cx_ok _ _ _) (Reg.op rfl (Ope.load rfl rfl ?_))))
  refine Reg.op rfl (Ope.cf rfl rfl h5 (bi2 0 39) ?_)
  refine Reg.op rfl (Ope.mov rfl ?_)
  refine Reg.op rfl (Ope.ext rfl rfl ?_)
  refine Reg.op rfl (Ope.ext rfl rfl ?_)
  refine Reg.op rfl (Ope.asg rfl ?_)
  refine Reg.op rfl (Ope.asg rfl ?_)
  refine Reg.nil (Run.seq (Run.region (cx_ok _ _ _) (Reg.op rfl (Ope.load rfl rfl ?_))))
  refine Reg.op rfl (Ope.cf rfl rfl h6 (bi2 0 45) ?_)
  refine Reg.op rfl (Ope.mov rfl ?_)
  refine Reg.op rfl (Ope.ext rfl rfl ?_)
  refine Reg.op rfl (Ope.ext rfl rfl ?_)
  refine Reg.op rfl (Ope.asg rfl ?_)
  refine Reg.op rfl (Ope.asg rfl ?_)
  refine Reg.nil (Run.seq (Run.region (cx_ok _ _ _) (Reg.op rfl (Ope.load rfl rfl ?_))))
  refine Reg.op rfl (Ope.cf rfl rfl h7 hb' ?_)
  refine Reg.op rfl (Ope.mov rfl ?_)
  refine Reg.op rfl (Ope.ext rfl rfl ?_)
  refine Reg.op rfl (Ope.ext rfl rfl ?_)
  refine Reg.op rfl (Ope.asg rfl ?_)
  refine Reg.op rfl (Ope.asg rfl ?_)
  refine Reg.nil (Run.seq (Run.region (cx_ok _ _ _) (Reg.op rfl (Ope.load rfl rfl ?_))))
  refine Reg.op rfl (Ope.cf rfl rfl h8 hb' ?_)
  refine Reg.op rfl (Ope.mov rfl ?_)
  refine Reg.op rfl (Ope.ext rfl rfl ?_)
  refine Reg.op rfl (Ope.ext rfl rfl ?_)
  refine Reg.op rfl (Ope.asg rfl ?_)
  refine Reg.op rfl (Ope.asg rfl ?_)
  refine Reg.nil (Run.seq (Run.frz (d:=3) true rfl rfl rfl ?_))
  refine Run.frz (d:=5) true rfl rfl rfl ?_
  refine Run.frz (d:=7) true rfl rfl rfl ?_
  refine Run.draw (cx_ok _ _ _) [(0,false),(1,true),(2,true),(3,true),(4,true),(5,true),(6,true),(7,true),(8,false),(9,true),(10,true),(11,true),(12,true),(13,true),(14,true),(15,true),(16,true),(17,false),(18,true),(19,true),(20,true),(21,true),(22,true),(23,true),(24,true),(25,true),(26,true),(27,true),(28,true),(29,true),(30,true),(31,true),(32,true),(33,true),(34,true),(35,true),(36,true),(37,true),(38,true),(39,true),(40,true),(41,true),(42,true),(43,true),(44,true),(45,true),(46,true),(47,true),(48,true),(49,true),(50,true),(51,true),(52,true),(53,true),(54,true),(55,true),(56,true),(57,true),(58,true),(59,true),(60,true),(61,true),(62,true),(63,true),(64,true),(65,true)] (by kernel_rfl) (Dra.op' rfl rfl rfl (.load rfl) (Ope.load rfl rfl ?_))
  refine Dra.op' rfl rfl rfl .sure (Ope.cf rfl rfl (f34 23 26) rfl ?_)
  refine Dra.op' rfl rfl rfl .sure (Ope.eqV rfl rfl (eS _ _ 23 26) ?_)
  refine Dra.op' rfl rfl rfl .sure (Ope.mov rfl ?_)
  refine Dra.on' rfl rfl rfl rfl rfl .sure (Ope.mov rfl ?_)
  refine Dra.on' rfl rfl rfl rfl rfl .sure (Ope.eq rfl rfl ?_)
  refine Dra.op' rfl rfl rfl .sure (Ope.pickT rfl rfl ?_)
  refine Dra.op' rfl rfl rfl .sure (Ope.mov rfl ?_)
  refine Dra.on' rfl rfl rfl rfl rfl (.load rfl) (Ope.load rfl rfl ?_)
  refine Dra.on' rfl rfl rfl rfl rfl .sure (Ope.cf rfl rfl (f34 12 14) rfl ?_)
  refine Dra.on' rfl rfl rfl rfl rfl .sure (Ope.eqV rfl rfl (eS _ _ 12 14) ?_)
  refine Dra.op' rfl rfl rfl .sure (Ope.pickT rfl rfl ?_)
  refine Dra.op' rfl rfl rfl .sure (Ope.mov rfl ?_)
  refine Dra.on' rfl rfl rfl rfl rfl .sure (Ope.mov rfl ?_)
  refine Dra.on' rfl rfl rfl rfl rfl .sure (Ope.eq rfl rfl ?_)
  refine Dra.op' rfl rfl rfl .sure (Ope.pickT rfl rfl ?_)
  refine Dra.op' rfl rfl rfl .sure (Ope.mov rfl ?_)
  refine Dra.on' rfl rfl rfl rfl rfl (.load rfl) (Ope.load rfl rfl ?_)
  refine Dra.on' rfl rfl rfl rfl rfl .sure (Ope.cf rfl rfl (f34 9 13) rfl ?_)
  refine Dra.on' rfl rfl rfl rfl rfl .sure (Ope.eqV rfl rfl (eS _ _ 9 13) ?_)
  refine Dra.op' rfl rfl rfl .sure (Ope.pickT rfl rfl ?_)
  refine Dra.op' rfl rfl rfl .sure (Ope.mov rfl ?_)
  refine Dra.on' rfl rfl rfl rfl rfl .sure (Ope.mov rfl ?_)
  refine Dra.on' rfl rfl rfl rfl rfl .sure (Ope.eq rfl rfl ?_)
  refine Dra.op' rfl rfl rfl .sure (Ope.pickT rfl rfl ?_)
  refine Dra.op' rfl rfl rfl .sure (Ope.mov rfl ?_)
  refine Dra.on' rfl rfl rfl rfl rfl .sure (Ope.mov rfl ?_)
  refine Dra.on' rfl rfl rfl rfl rfl .sure (Ope.eq rfl rfl ?_)
  refine Dra.op' rfl rfl rfl .sure (Ope.pickT rfl rfl ?_)
  refine Dra.op' rfl rfl rfl .sure (Ope.mov rfl ?_)
  refine Dra.on' rfl rfl rfl rfl rfl .sure (Ope.mov rfl ?_)
  refine Dra.on' rfl rfl rfl rfl rfl .sure (Ope.eq rfl rfl ?_)
  refine Dra.op' rfl rfl rfl .sure (Ope.pickT rfl rfl ?_)
  refine Dra.op' rfl rfl rfl .sure (Ope.mov rfl ?_)
  refine Dra.on' rfl rfl rfl rfl rfl .sure (Ope.mov rfl ?_)
  refine Dra.on' rfl rfl rfl rfl rfl .sure (Ope.eq rfl rfl ?_)
  refine Dra.op' rfl rfl rfl .sure (Ope.pickT rfl rfl ?_)
  refine Dra.op' rfl rfl rfl .sure (Ope.mov rfl ?_)
  refine Dra.on' rfl rfl rfl rfl rfl .sure (Ope.mov rfl ?_)
  refine Dra.on' rfl rfl rfl rfl rfl .sure (Ope.eq rfl rfl ?_)
  refine Dra.op' rfl rfl rfl .sure (Ope.pickT rfl rfl ?_)
  refine Dra.op' rfl rfl rfl .sure (Ope.mov rfl ?_)
  refine Dra.on' rfl rfl rfl rfl rfl .sure (Ope.mov rfl ?_)
  refine Dra.on' rfl rfl rfl rfl rfl .sure (Ope.eq rfl rfl ?_)
  refine Dra.op' rfl rfl rfl .sure (Ope.pickT rfl rfl ?_)
  refine Dra.op' rfl rfl rfl .sure (Ope.mov rfl ?_)
  refine Dra.on' rfl rfl rfl rfl rfl .sure (Ope.mov rfl ?_)
  refine Dra.on' rfl rfl rfl rfl rfl .sure (Ope.eq rfl rfl ?_)
  refine Dra.op' rfl rfl rfl .sure (Ope.pickT rfl rfl ?_)
  refine Dra.op' rfl rfl rfl .sure (Ope.mov rfl ?_)
  refine Dra.on' rfl rfl rfl rfl rfl .sure (Ope.mov rfl ?_)
  refine Dra.on' rfl rfl rfl rfl rfl .sure (Ope.eq rfl rfl ?_)
  refine Dra.op' rfl rfl rfl .sure (Ope.pickT rfl rfl ?_)
  refine Dra.op' rfl rfl rfl .sure (Ope.mov rfl ?_)
  refine Dra.on' rfl rfl rfl rfl rfl .sure (Ope.mov rfl ?_)
  refine Dra.on' rfl rfl rfl rfl rfl .sure (Ope.eq rfl rfl ?_)
  refine Dra.op' rfl rfl rfl .sure (Ope.pickT rfl rfl ?_)
  refine Dra.op' rfl rfl rfl .sure (Ope.mov rfl ?_)
  refine Dra.on' rfl rfl rfl rfl rfl .sure (Ope.mov rfl ?_)
  refine Dra.on' rfl rfl rfl rfl rfl .sure (Ope.eq rfl rfl ?_)
  refine Dra.op' rfl rfl rfl .sure (Ope.pickT rfl rfl ?_)
  refine Dra.op' rfl rfl rfl .sure (Ope.mov rfl ?_)
  refine Dra.on' rfl rfl rfl rfl rfl .sure (Ope.mov rfl ?_)
  refine Dra.on' rfl rfl rfl rfl rfl .sure (Ope.eq rfl rfl ?_)
  refine Dra.op' rfl rfl rfl .sure (Ope.pickT rfl rfl ?_)
  refine Dra.op' rfl rfl rfl .sure (Ope.asg rfl ?_)
  exact Dra.nil (Run.ret (fin_ret (.tmp rfl .nil) rfl rfl))
end Go.Pv
namespace Go.Pv
open Go.Proofs Go.Am
set_option maxRecDepth 10000
structure Dwn (xs:List Nat):Prop where
  ne:xs≠[]
  lt:∀ x∈xs,x < 65536
def Arnd (n:Int) (a b:Int):Prop:=0≤a∧a≤n∧n≤b∧b≤600
section
variable {A:AP} {E:Eqs} {S:PH→Prop} {t:Nat→Option PV} {args:Array Operand} {tys:Array TypeId} {dd:Option Nat} {type:TypeId} {pos:String} {after:Array Edge} {guard:Option (Nat×Bool)}
theorem StabS.max:StabS A E S t { dst:=dd,op:=.call { callee:=.builtin .max,args,argTypes:=tys },type,pos,after,guard }:=by
  intro h h' _ _
  simp only [pquiet]
  generalize pargs (pev t) args.toList=o
  cases o with
  | none=>rfl
  | some as'=>cases as'<;>rfl
end
section
variable {C:Cx} {X:EX} {e:EL} {ds:List Nat} {K:PV→PH→Prop} {n:Nat} {l:HL}
variable {d:Option Tmp} {type:TypeId} {pos:String} {after:Array Edge} {guard:Option (Nat×Bool)}
end
end Go.Pv
