/- Parts of the proof: R62, R63, R64, R65, R66, R67 -/
import Derived.Test.YtejnfigkngkhjaaP14
set_option linter.unusedVariables false
set_option linter.unusedSimpArgs false
set_option linter.unusedSectionVars false
namespace Go.Pv
open Go.Proofs Go.Am
set_option maxRecDepth 10000
def Tab.put (t : Tab) (a b : Nat) (x : Int) : Tab := fun i j => match Nat.beq i a with
  | true => match Nat.beq j b with
    | true=>x
    | false=>t i j
  | false=>t i j
theorem put_same (t:Tab) (a b:Nat) (x:Int):t.put a b x a b=x:=by
  have h1:Nat.beq a a=true:=Nat.beq_refl a
  have h2:Nat.beq b b=true:=Nat.beq_refl b
  simp only [Tab.put,h1,h2]
theorem put_other (t:Tab) (a b:Nat) (x:Int) {i j:Nat} (h:i≠a∨j≠b):t.put a b x i j=t i j:=by
  unfold Tab.put
  cases h1:Nat.beq i a with
  | false=>rfl
  | true =>
    cases h2:Nat.beq j b with
    | false=>rfl
    | true =>
      have:=Nat.eq_of_beq_eq_true h1
      have:=Nat.eq_of_beq_eq_true h2
      omega
theorem row_ptr (i o:Nat):∀ m,m < 11→indexK 11 true 11 m (.ptr i o)=some (.ptr i (o+m * 11))
  | 0,_=>rfl | 1,_=>rfl | 2,_=>rfl | 3,_=>rfl | 4,_=>rfl | 5,_=>rfl | 6,_=>rfl | 7,_=>rfl | 8,_=>rfl | 9,_=>rfl | 10,_=>rfl
  | _+11,h=>absurd h (by omega)
theorem at_ptr (i o:Nat):∀ m,m < 11→indexK 11 false 1 m (.ptr i o)=some (.ptr i (o+m))
  | 0,_=>rfl | 1,_=>rfl | 2,_=>rfl | 3,_=>rfl | 4,_=>rfl | 5,_=>rfl | 6,_=>rfl | 7,_=>rfl | 8,_=>rfl | 9,_=>rfl | 10,_=>rfl
  | _+11,h=>absurd h (by omega)
theorem ten {P:Nat→Prop} (h0:P 0) (h1:P 1) (h2:P 2) (h3:P 3) (h4:P 4) (h5:P 5) (h6:P 6) (h7:P 7) (h8:P 8) (h9:P 9) (h10:P 10):∀ m,m < 11→P m
  | 0,_=>h0 | 1,_=>h1 | 2,_=>h2 | 3,_=>h3 | 4,_=>h4 | 5,_=>h5 | 6,_=>h6 | 7,_=>h7 | 8,_=>h8 | 9,_=>h9 | 10,_=>h10
  | _+11,h=>absurd h (by omega)
theorem load_tab (t:Tab) (i:Nat) (l:HL):∀ a,a < 11→∀ b,b < 11→hget l i=some (.cells (tabC t))→loadK false 1 l (.ptr i (0+a * 11+b))=some (I (t a b)):=by
  have key:∀ a,a < 11→∀ b,b < 11→nthK (tabC t) (0+a * 11+b)=some (I (t a b)):=by
    refine ten ?_ ?_ ?_ ?_ ?_ ?_ ?_ ?_ ?_ ?_ ?_<;>exact ten rfl rfl rfl rfl rfl rfl rfl rfl rfl rfl rfl
  intro a ha b hb hg
  simp only [loadK,hg,partK]
  exact key a ha b hb
set_option maxHeartbeats 4000000 in
theorem put_tab (t:Tab) (x:Int):∀ a,a < 11→∀ b,b < 11→putK (0+a * 11+b) [I x] (tabC t) some=some (tabC (t.put a b x)):=by
  refine ten ?_ ?_ ?_ ?_ ?_ ?_ ?_ ?_ ?_ ?_ ?_<;>exact ten rfl rfl rfl rfl rfl rfl rfl rfl rfl rfl rfl
def wideT:Tab:=fun a b=>match Nat.beq a b with
  | true=>0
  | false=>600
def wRow (a : Nat) : Nat → Tab → Tab
  | 0,t=>t
  | k + 1, t => match Nat.beq a k with
    | true=>wRow a k t
    | false=>(wRow a k t).put a k 600
def wAll:Nat→Tab→Tab
  | 0,t=>t
  | k+1,t=>wRow k 11 (wAll k t)
theorem wAll_wide:tabC (wAll 11 fun _ _=>0)=tabC wideT:=by rfl
theorem wRow_ne {i j:Nat} (t:Tab) (h:i≠j):wRow i (j+1) t=(wRow i j t).put i j 600:=by
  have:Nat.beq i j=false:=by
    cases hb:Nat.beq i j with
    | false=>rfl
    | true=>exact absurd (Nat.eq_of_beq_eq_true hb) h
  simp only [wRow,this]
theorem wRow_eq {i j:Nat} (t:Tab) (h:i=j):wRow i (j+1) t=wRow i j t:=by
  subst h
  have:Nat.beq i i=true:=Nat.beq_refl i
  simp only [wRow,this]
theorem f100:Fn P0 100 [] (.agg (tabC wideT)):=by
  rw [← wAll_wide]
  generalize hz:(fun _ _=>0:Tab)=z
  have hz':tabC z=tabC (fun _ _=>0):=by rw [hz]
  refine PFun.of (C:=c100) (cx_ok _ _ _) rfl (fn:=Try.f100) (by kernel_rfl) (c:=_) rfl rfl rfl ?_
  refine Run.seq (Run.region (cx_ok _ _ _) (Reg.op rfl (Ope.newL rfl ?_)))
  refine Reg.nil (Run.seq (Run.region (cx_ok _ _ _) (Reg.op rfl (Ope.newL rfl ?_))))
  refine Reg.nil (Run.seq (Run.seq (Run.region (cx_ok _ _ _) (Reg.op rfl (Ope.mov rfl ?_)))))
  refine Reg.nil (Run.block (Run.wide (m:=2) (l':=[(1,some (.cells (tabC (wAll 0 z)))),(0,some (.cells (tabC z)))]) (Nat.le_refl _) ⟨congrArg (fun l=>some (PBlk.cells l)) hz'.symm,congrArg (fun l=>some (PBlk.cells l)) hz'.symm,trivial⟩ ?_))
  refine Run.loop (α:=Nat) (fun i=>[(0,.ptr 0 0),(1,.ptr 1 0),(4,I i)]) (fun i=>HE 2 [(1,some (.cells (tabC (wAll i z)))),(0,some (.cells (tabC z)))]) (fun i=>i≤11) (fun i=>11 - i) 0 ⟨rfl,rfl,rfl,trivial⟩ rfl (Nat.zero_le _) (fun i hi=>?_)
  refine Run.seq (Run.region (cx_ok _ _ _) (Reg.op rfl (Ope.lt rfl rfl ?_)))
  refine Reg.nil (Run.seq (Run.condX rfl (fun hc=>?_) fun hc=>?_))
  ·refine Run.skip (Run.seq (Run.block (Run.seq (Run.region (cx_ok _ _ _) (Reg.op rfl (Ope.mov rfl ?_))))))
   refine Reg.op rfl (Ope.asg rfl ?_)
   refine Reg.nil (Run.seq ?_)
   have hi11:i < 11:=by omega
   generalize hT:wAll i z=T
   refine Run.region (cx_ok _ _ _) (Reg.op rfl (Ope.mov rfl ?_))
   refine Reg.nil (Run.block (Run.loop (α:=Nat) (fun j=>[(0,.ptr 0 0),(1,.ptr 1 0),(2,I i),(4,I i),(7,I j)]) (fun j=>HE 2 [(1,some (.cells (tabC (wRow i j T)))),(0,some (.cells (tabC z)))]) (fun j=>j≤11) (fun j=>11 - j) 0 ⟨rfl,rfl,rfl,rfl,rfl,trivial⟩ rfl (Nat.zero_le _) (fun j hj=>?_)))
   refine Run.seq (Run.region (cx_ok _ _ _) (Reg.op rfl (Ope.lt rfl rfl ?_)))
   refine Reg.nil (Run.seq (Run.condX rfl (fun hc=>?_) fun hc=>?_))
   ·refine Run.skip (Run.seq (Run.block (Run.seq ?_)))
    have hj11:j < 11:=by omega
    refine Run.region (cx_ok _ _ _) (Reg.op rfl (Ope.mov rfl ?_))
    refine Reg.op rfl (Ope.asg rfl ?_)
    refine Reg.nil (Run.seq (Run.region (cx_ok _ _ _) (Reg.op rfl (Ope.mov rfl ?_))))
    refine Reg.op rfl (Ope.mov rfl ?_)
    refine Reg.op rfl (Ope.ne rfl rfl ?_)
    refine Reg.nil (Run.condX rfl (fun hc=>?_) fun hc=>?_)
    ·refine Run.region (cx_ok _ _ _) (Reg.op rfl (Ope.mov rfl ?_))
     refine Reg.op rfl (Ope.mov rfl ?_)
     refine Reg.op rfl (Ope.idxA (m:=i) rfl rfl rfl (row_ptr 1 0 i hi11) ?_)
     refine Reg.op rfl (Ope.idxA (m:=j) rfl rfl rfl (at_ptr 1 _ j hj11) ?_)
     refine Reg.op0 (Ope.store rfl rfl rfl rfl rfl (put_tab _ 600 i hi11 j hj11) ?_)
     refine Reg.nil (Run.bend ?_)
     first
       | refine Run.wide (m:=2) (l':=[(1,some (.cells (tabC (wRow i (j+1) T)))),(0,some (.cells (tabC z)))]) (Nat.le_refl _) ⟨by rw [wRow_ne T (by omega)];rfl,rfl,trivial⟩ ?_
       | refine Run.wide (m:=2) (l':=[(1,some (.cells (tabC (wRow i (j+1) T)))),(0,some (.cells (tabC z)))]) (Nat.le_refl _) ⟨by rw [wRow_eq T (by omega)];rfl,rfl,trivial⟩ ?_
     refine Run.region (cx_ok _ _ _) (Reg.op rfl (Ope.add rfl rfl (by omega) ?_))
     refine Reg.op rfl (Ope.mov rfl ?_)
     exact Reg.nil (Run.lend ⟨j+1,by omega,by omega,⟨rfl,rfl,rfl,rfl,rfl,trivial⟩,rfl,rfl⟩)
    ·refine Run.skip (Run.bend ?_)
     first
       | refine Run.wide (m:=2) (l':=[(1,some (.cells (tabC (wRow i (j+1) T)))),(0,some (.cells (tabC z)))]) (Nat.le_refl _) ⟨by rw [wRow_ne T (by omega)];rfl,rfl,trivial⟩ ?_
       | refine Run.wide (m:=2) (l':=[(1,some (.cells (tabC (wRow i (j+1) T)))),(0,some (.cells (tabC z)))]) (Nat.le_refl _) ⟨by rw [wRow_eq T (by omega)];rfl,rfl,trivial⟩ ?_
     refine Run.region (cx_ok _ _ _) (Reg.op rfl (Ope.add rfl rfl (by omega) ?_))
     refine Reg.op rfl (Ope.mov rfl ?_)
     exact Reg.nil (Run.lend ⟨j+1,by omega,by omega,⟨rfl,rfl,rfl,rfl,rfl,trivial⟩,rfl,rfl⟩)
   ·refine Run.exit (Jmp.code (Jmp.round (Jmp.here (Run.bend ?_))))
    obtain rfl:j=11:=by omega
    subst hT
    refine Run.region (cx_ok _ _ _) (Reg.op rfl (Ope.add rfl rfl (by omega) ?_))
    refine Reg.op rfl (Ope.mov rfl ?_)
    exact Reg.nil (Run.lend ⟨i+1,by omega,by omega,⟨rfl,rfl,rfl,trivial⟩,rfl,rfl⟩)
  ·refine Run.exit (Jmp.code (Jmp.round (Jmp.here (Run.seq ?_))))
   obtain rfl:i=11:=by omega
   refine Run.region (cx_ok _ _ _) (Reg.op rfl (Ope.load rfl rfl ?_))
   refine Reg.op0 (Ope.store rfl rfl rfl rfl rfl rfl ?_)
   refine Reg.nil (Run.ret (fin_ret (.cell rfl rfl .nil) rfl ?_))
   rfl
end Go.Pv
namespace Go.Pv
open Go.Proofs Go.Am
set_option maxRecDepth 10000
def byPut (w a b:Nat) (t:Tab):Tab:=t.put a b (min (t a b) (t a w+t w b))
def byRow (w a:Nat):Nat→Tab→Tab
  | 0,t=>t
  | k+1,t=>byPut w a k (byRow w a k t)
def byAll (w:Nat):Nat→Tab→Tab
  | 0,t=>t
  | k+1,t=>byRow w k 11 (byAll w k t)
def ByInv (B:Int) (w:Nat) (t0:Tab) (i j:Nat) (t:Tab):Prop:=∀ a b,a < 11→b < 11 →
  (¬ (a < i∨(a=i∧b < j))→t a b=t0 a b)∧t a b≤t0 a b∧-(6 * B)≤t a b∧(b=w→-(3 * B)≤t a b)∧(a=w→-(3 * B)≤t a b)∧(a=w→b=w→-(2 * B)≤t a b)
def Tab.le (t:Tab) (B:Int):Prop:=∀ a b,a < 11→b < 11→-B≤t a b∧t a b≤B
theorem byInv_zero {B:Int} {w:Nat} {t:Tab} (hB:0≤B) (ht:t.le B):ByInv B w t 0 0 t:=by
  intro a b ha hb
  have:=ht a b ha hb
  refine ⟨fun _=>rfl,Int.le_refl _,?_,fun _=>?_,fun _=>?_,fun _ _=>?_⟩<;>omega
theorem byInv_step {B:Int} {w:Nat} {t0 t:Tab} {i j:Nat} (hB:0≤B) (hw:w < 11) (hi:i < 11) (hj:j < 11) (ht:t0.le B) (h:ByInv B w t0 i j t):ByInv B w t0 i (j+1) (byPut w i j t):=by
  intro a b ha hb
  obtain ⟨p1,p2,p3,p4,p5,p6⟩:=h a b ha hb
  by_cases hab:a=i∧b=j
  · obtain ⟨rfl, rfl⟩ := hab
    have e:byPut w a b t a b=min (t a b) (t a w+t w b):=put_same _ _ _ _
    rw [e]
    have q0:=ht a b ha hb
    obtain ⟨r1,r2,r3,r4,r5,r6⟩:=h a w ha hw
    obtain ⟨s1,s2,s3,s4,s5,s6⟩:=h w b hw hb
    have p1':=p1 (by omega)
    have r4':=r4 rfl
    have s5':=s5 rfl
    refine ⟨fun hn=>absurd (show a < a∨(a=a∧b < b+1) by omega) hn,by omega,by omega,fun hbw=>?_,fun haw=>?_,fun haw hbw=>?_⟩
    · subst hbw
      have:=s6 rfl rfl
      omega
    · subst haw
      have:=r6 rfl rfl
      omega
    · subst haw
      subst hbw
      omega
  · have e : byPut w i j t a b = t a b := put_other _ _ _ _ (by omega)
    rw [e]
    exact ⟨fun hn=>p1 (by omega),p2,p3,p4,p5,p6⟩
theorem byInv_next {B:Int} {w:Nat} {t0 t:Tab} {i:Nat} (h:ByInv B w t0 i 11 t):ByInv B w t0 (i+1) 0 t:=by
  intro a b ha hb
  obtain ⟨p1,p⟩:=h a b ha hb
  exact ⟨fun hn=>p1 (by omega),p⟩
theorem f113 (t:Tab) (B:Int) (hB:0≤B) (hB':B≤1000000000000000) (ht:t.le B) (w:Nat) (hw:w < 11):Fn P0 113 [.agg (tabC t),I w] (.agg (tabC (byAll w 11 t))):=by
  generalize hz:(fun _ _=>0:Tab)=z
  have hz':tabC z=tabC (fun _ _=>0):=by rw [hz]
  refine PFun.of (C:=c113) (cx_ok _ _ _) rfl (fn:=Try.f113) (by kernel_rfl) (c:=_) rfl rfl rfl ?_
  refine Run.seq (Run.region (cx_ok _ _ _) (Reg.op rfl (Ope.boxL rfl rfl ?_)))
  refine Reg.op rfl (Ope.newL rfl ?_)
  refine Reg.nil (Run.seq (Run.seq (Run.region (cx_ok _ _ _) (Reg.op rfl (Ope.mov rfl ?_)))))
  refine Reg.nil (Run.block (Run.wide (m:=2) (l':=[(0,some (.cells (tabC (byAll w 0 t)))),(1,some (.cells (tabC z)))]) (Nat.le_refl _) ⟨rfl,congrArg (fun l=>some (PBlk.cells l)) hz'.symm,trivial⟩ ?_))
  refine Run.loop (α:=Nat) (fun i=>[(1,I w),(2,.ptr 0 0),(4,.ptr 1 0),(7,I i)]) (fun i=>HE 2 [(0,some (.cells (tabC (byAll w i t)))),(1,some (.cells (tabC z)))]) (fun i=>i≤11∧ByInv B w t i 0 (byAll w i t)) (fun i=>11 - i) 0 ⟨rfl,rfl,rfl,rfl,trivial⟩ rfl ⟨Nat.zero_le _,byInv_zero hB ht⟩ (fun i hi=>?_)
  obtain ⟨hi,hI⟩:=hi
  refine Run.seq (Run.region (cx_ok _ _ _) (Reg.op rfl (Ope.lt rfl rfl ?_)))
  refine Reg.nil (Run.seq (Run.condX rfl (fun hc=>?_) fun hc=>?_))
  ·refine Run.skip (Run.seq (Run.block (Run.seq (Run.region (cx_ok _ _ _) (Reg.op rfl (Ope.mov rfl ?_))))))
   refine Reg.op rfl (Ope.asg rfl ?_)
   refine Reg.nil (Run.seq ?_)
   have hi11:i < 11:=by omega
   generalize hT:byAll w i t=T at *
   refine Run.region (cx_ok _ _ _) (Reg.op rfl (Ope.mov rfl ?_))
   refine Reg.nil (Run.block (Run.loop (α:=Nat) (fun j=>[(1,I w),(2,.ptr 0 0),(4,.ptr 1 0),(5,I i),(7,I i),(10,I j)]) (fun j=>HE 2 [(0,some (.cells (tabC (byRow w i j T)))),(1,some (.cells (tabC z)))]) (fun j=>j≤11∧ByInv B w t i j (byRow w i j T)) (fun j=>11 - j) 0 ⟨rfl,rfl,rfl,rfl,rfl,rfl,trivial⟩ rfl ⟨Nat.zero_le _,hI⟩ (fun j hj=>?_)))
   obtain ⟨hj,hJ⟩:=hj
   refine Run.seq (Run.region (cx_ok _ _ _) (Reg.op rfl (Ope.lt rfl rfl ?_)))
   refine Reg.nil (Run.seq (Run.condX rfl (fun hc=>?_) fun hc=>?_))
   ·refine Run.skip (Run.seq (Run.block (Run.seq ?_)))
    have hj11:j < 11:=by omega
    have hnext:=byInv_step hB hw hi11 hj11 ht hJ
    generalize hU:byRow w i j T=U at *
    obtain ⟨-,u2,u3,-⟩:=hJ i w hi11 hw
    obtain ⟨-,v2,v3,-⟩:=hJ w j hw hj11
    have u4:=(ht i w hi11 hw).2
    have v4:=(ht w j hw hj11).2
    refine Run.region (cx_ok _ _ _) (Reg.op rfl (Ope.mov rfl ?_))
    refine Reg.op rfl (Ope.asg rfl ?_)
    refine Reg.nil (Run.draw (cx_ok _ _ _) [(0,true),(1,true),(2,true),(3,true),(4,true),(5,true),(6,true),(7,true),(8,true),(9,true),(10,true),(11,true),(12,true),(13,true),(14,true),(15,true),(16,true),(17,true),(18,true),(19,true),(20,true),(21,true)] (by kernel_rfl) (Dra.op' rfl rfl rfl .sure (Ope.mov rfl ?_)))
    refine Dra.op' rfl rfl rfl .sure (Ope.mov rfl ?_)
    refine Dra.op' rfl rfl rfl .sure (Ope.mov rfl ?_)
    refine Dra.op' rfl rfl rfl .sure (Ope.mov rfl ?_)
    refine Dra.op' rfl rfl rfl .sure (Ope.idxA (m:=i) rfl rfl rfl (row_ptr 0 0 i hi11) ?_)
    refine Dra.op' rfl rfl rfl .sure (Ope.idxA (m:=j) rfl rfl rfl (at_ptr 0 _ j hj11) ?_)
    refine Dra.op' rfl rfl rfl .sure (Ope.load rfl (load_tab _ 0 _ i hi11 j hj11 rfl) ?_)
    refine Dra.op' rfl rfl rfl .sure (Ope.mov rfl ?_)
    refine Dra.op' rfl rfl rfl .sure (Ope.mov rfl ?_)
    refine Dra.op' rfl rfl rfl .sure (Ope.idxA (m:=i) rfl rfl rfl (row_ptr 0 0 i hi11) ?_)
    refine Dra.op' rfl rfl rfl .sure (Ope.idxA (m:=w) rfl rfl rfl (at_ptr 0 _ w hw) ?_)
    refine Dra.op' rfl rfl rfl .sure (Ope.load rfl (load_tab _ 0 _ i hi11 w hw rfl) ?_)
    refine Dra.op' rfl rfl rfl .sure (Ope.mov rfl ?_)
    refine Dra.op' rfl rfl rfl .sure (Ope.mov rfl ?_)
    refine Dra.op' rfl rfl rfl .sure (Ope.idxA (m:=w) rfl rfl rfl (row_ptr 0 0 w hw) ?_)
    refine Dra.op' rfl rfl rfl .sure (Ope.idxA (m:=j) rfl rfl rfl (at_ptr 0 _ j hj11) ?_)
    refine Dra.op' rfl rfl rfl .sure (Ope.load rfl (load_tab _ 0 _ w hw j hj11 rfl) ?_)
    refine Dra.op' rfl rfl rfl .sure (Ope.add rfl rfl (by omega) ?_)
    refine Dra.op' rfl rfl rfl .sure (Ope.minI rfl rfl ?_)
    refine Dra.op' rfl rfl rfl .sure (Ope.idxA (m:=i) rfl rfl rfl (row_ptr 0 0 i hi11) ?_)
    refine Dra.op' rfl rfl rfl .sure (Ope.idxA (m:=j) rfl rfl rfl (at_ptr 0 _ j hj11) ?_)
    refine Dra.op' rfl rfl rfl .sure (Ope.store rfl rfl rfl rfl rfl (put_tab _ _ i hi11 j hj11) ?_)
    refine Dra.nil (Run.bend (Run.wide (m:=2) (l':=[(0,some (.cells (tabC (byPut w i j U)))),(1,some (.cells (tabC z)))]) (Nat.le_refl _) ⟨rfl,rfl,trivial⟩ ?_))
    subst hU
    refine Run.region (cx_ok _ _ _) (Reg.op rfl (Ope.add rfl rfl (by omega) ?_))
    refine Reg.op rfl (Ope.mov rfl ?_)
    exact Reg.nil (Run.lend ⟨j+1,by omega,⟨by omega,hnext⟩,⟨rfl,rfl,rfl,rfl,rfl,rfl,trivial⟩,rfl,rfl⟩)
   ·refine Run.exit (Jmp.code (Jmp.round (Jmp.here (Run.bend ?_))))
    obtain rfl:j=11:=by omega
    have hJ':=byInv_next hJ
    subst hT
    refine Run.region (cx_ok _ _ _) (Reg.op rfl (Ope.add rfl rfl (by omega) ?_))
    refine Reg.op rfl (Ope.mov rfl ?_)
    exact Reg.nil (Run.lend ⟨i+1,by omega,⟨by omega,hJ'⟩,⟨rfl,rfl,rfl,rfl,trivial⟩,rfl,rfl⟩)
  ·refine Run.exit (Jmp.code (Jmp.round (Jmp.here (Run.seq ?_))))
   obtain rfl:i=11:=by omega
   refine Run.region (cx_ok _ _ _) (Reg.op rfl (Ope.load rfl rfl ?_))
   refine Reg.op0 (Ope.store rfl rfl rfl rfl rfl rfl ?_)
   refine Reg.nil (Run.ret (fin_ret (.cell rfl rfl .nil) rfl ?_))
   rfl
theorem byAll_inv (t:Tab) (B:Int) (hB:0≤B) (ht:t.le B) (w:Nat) (hw:w < 11):∀ i,i≤11→ByInv B w t i 0 (byAll w i t)
  | 0,_=>byInv_zero hB ht
  | i + 1, hi => by
    have hrow:∀ j,j≤11→ByInv B w t i j (byRow w i j (byAll w i t)):=by
      intro j
      induction j with
      | zero=>intro _;exact byAll_inv t B hB ht w hw i (by omega)
      | succ j ih=>intro hj;exact byInv_step hB hw (by omega) (by omega) ht (ih (by omega))
    exact byInv_next (hrow 11 (Nat.le_refl _))
theorem byAll_le {t:Tab} {B:Int} (hB:0≤B) (ht:t.le B) {w:Nat} (hw:w < 11):(byAll w 11 t).le (6 * B):=by
  intro a b ha hb
  obtain ⟨-,h2,h3,-⟩:=byAll_inv t B hB ht w hw 11 (Nat.le_refl _) a b ha hb
  have:=(ht a b ha hb).2
  omega
end Go.Pv
namespace Go.Pv
open Go.Proofs Go.Am
set_option maxRecDepth 10000
theorem f112 (t:Tab) (B:Int) (hB:0≤B) (hB':B≤1000000000000000) (ht:t.le B) (w:Nat) (hw:w < 11):Fn P0 112 [.agg (tabC t),.fp (I w)] (.agg (tabC (byAll w 11 t))):=by
  refine PFun.of (C:=c112) (cx_ok _ _ _) rfl (fn:=Try.f112) (by kernel_rfl) (c:=_) rfl rfl rfl ?_
  refine Run.seq (Run.region (cx_ok _ _ _) (Reg.op rfl (Ope.boxF rfl rfl ?_)))
  refine Reg.op rfl (Ope.newL rfl ?_)
  refine Reg.nil (Run.seq (Run.region (cx_ok _ _ _) (Reg.op rfl (Ope.load rfl rfl ?_))))
  refine Reg.op rfl (Ope.load rfl rfl ?_)
  refine Reg.op rfl (Ope.cf rfl rfl (f113 t B hB hB' ht w hw) rfl ?_)
  refine Reg.op0 (Ope.store rfl rfl rfl rfl rfl rfl ?_)
  exact Reg.nil (Run.ret (fin_ret (.cell rfl rfl .nil) rfl rfl))
def byS:List Nat→Tab→Tab
  | [],t=>t
  | w::ws,t=>byS ws (byAll w 11 t)
theorem byS_snoc:∀ (ws:List Nat) (w:Nat) (t:Tab),byS (ws++[w]) t=byAll w 11 (byS ws t)
  | [],_,_=>rfl
  | v::ws,w,t=>byS_snoc ws w (byAll v 11 t)
theorem byS_le:∀ (ws:List Nat) (t:Tab) (B:Int),0≤B→t.le B→(∀ w∈ws,w < 11)→(byS ws t).le (6 ^ ws.length * B)
  | [], t, B, hB, ht, _ => by
    show t.le ((6:Int) ^ 0 * B)
    rw [Int.pow_zero,Int.one_mul]
    exact ht
  | w :: ws, t, B, hB, ht, hw => by
    have h1:=byAll_le hB ht (hw w (by simp))
    have h2:=byS_le ws _ (6 * B) (by omega) h1 (fun v hv=>hw v (List.mem_cons_of_mem _ hv))
    have e:(6:Int) ^ (w::ws).length * B=6 ^ ws.length * (6 * B):=by
      rw [List.length_cons,Int.pow_succ,Int.mul_assoc]
    rw [e]
    exact h2
def cloD (w:Nat):PV:=.fn (.func 112) [] [.fp (I w)]
theorem six_le {n:Nat} (h:n≤11):(6:Int) ^ n * 600≤1000000000000000:=by
  have:n=0∨n=1∨n=2∨n=3∨n=4∨n=5∨n=6∨n=7∨n=8∨n=9∨n=10∨n=11:=by omega
  rcases this with rfl | rfl | rfl | rfl | rfl | rfl | rfl | rfl | rfl | rfl | rfl | rfl<;>decide
theorem six_pos (n:Nat):(0:Int)≤6 ^ n * 600:=Int.mul_nonneg (Int.pow_nonneg (by decide)) (by decide)
theorem f114 (t:Tab) (ht:t.le 600) (tl:Tail) (ws:List Nat) (hl:ws.length≤11) (hw:∀ w∈ws,w < 11):Fn P0 114 [.agg (tabC t),.sl tl (ws.map cloD)] (.agg (tabC (byS ws t))):=by
  generalize hz:(fun _ _=>0:Tab)=z
  have hz':tabC z=tabC (fun _ _=>0):=by rw [hz]
  refine PFun.of (C:=c114) (cx_ok _ _ _) rfl (fn:=Try.f114) (by kernel_rfl) (c:=_) rfl rfl rfl ?_
  refine Run.seq (Run.region (cx_ok _ _ _) (Reg.op rfl (Ope.boxL rfl rfl ?_)))
  refine Reg.op rfl (Ope.newL rfl ?_)
  refine Reg.nil (Run.seq (Run.seq (Run.region (cx_ok _ _ _) (Reg.op rfl (Ope.mov rfl ?_)))))
  refine Reg.op rfl (Ope.len (m:=ws.length) rfl (by simp) ?_)
  refine Reg.op rfl (Ope.mov rfl ?_)
  refine Reg.nil (Run.block (Run.wide (m:=2) (l':=[(0,some (.cells (tabC (byS (ws.take 0) t)))),(1,some (.cells (tabC z)))]) (Nat.le_refl _) ⟨rfl,congrArg (fun l=>some (PBlk.cells l)) hz'.symm,trivial⟩ ?_))
  refine Run.loop (α:=Nat) (fun i=>[(2,.ptr 0 0),(4,.ptr 1 0),(7,.sl tl (ws.map cloD)),(8,I ws.length),(9,I i)]) (fun i=>HE 2 [(0,some (.cells (tabC (byS (ws.take i) t)))),(1,some (.cells (tabC z)))]) (fun i=>i≤ws.length) (fun i=>ws.length - i) 0 ⟨rfl,rfl,rfl,rfl,rfl,trivial⟩ rfl (Nat.zero_le _) (fun i hi=>?_)
  refine Run.seq (Run.region (cx_ok _ _ _) (Reg.op rfl (Ope.lt rfl rfl ?_)))
  refine Reg.nil (Run.seq (Run.condX rfl (fun hc=>?_) fun hc=>?_))
  ·refine Run.skip (Run.seq (Run.block (Run.seq ?_)))
   have hlt:i < ws.length:=by omega
   have hle:=byS_le (ws.take i) t 600 (by decide) ht (fun v hv=>hw v (List.mem_of_mem_take hv))
   have hs:=six_le (n:=(ws.take i).length) (by rw [List.length_take];omega)
   have hsnoc:byS (ws.take (i+1)) t=byAll ws[i] 11 (byS (ws.take i) t):=by rw [List.take_succ_eq_append_getElem hlt,byS_snoc]
   have h198:=f112 _ _ (six_pos _) hs hle ws[i] (hw _ (List.getElem_mem _))
   rw [← hsnoc] at h198
   refine Run.region (cx_ok _ _ _) (Reg.op rfl (Ope.idxM (m:=i) (f:=cloD) rfl rfl rfl hlt (fun _=>rfl) ?_))
   refine Reg.op rfl (Ope.load rfl rfl ?_)
   refine Reg.op rfl (Ope.asg rfl ?_)
   refine Reg.nil (Run.region (cx_ok _ _ _) (Reg.op rfl (Ope.mov rfl ?_)))
   refine Reg.op rfl (Ope.load rfl rfl ?_)
   refine Reg.op rfl (Ope.cf rfl rfl (h198) rfl ?_)
   refine Reg.op0 (Ope.store rfl rfl rfl rfl rfl rfl ?_)
   refine Reg.nil (Run.bend (Run.wide (m:=2) (l':=[(0,some (.cells (tabC (byS (ws.take (i+1)) t)))),(1,some (.cells (tabC z)))]) (Nat.le_refl _) ⟨rfl,rfl,trivial⟩ ?_))
   refine Run.region (cx_ok _ _ _) (Reg.op rfl (Ope.add rfl rfl (by omega) ?_))
   refine Reg.op rfl (Ope.mov rfl ?_)
   exact Reg.nil (Run.lend ⟨i+1,by omega,by omega,⟨rfl,rfl,rfl,rfl,rfl,trivial⟩,rfl,rfl⟩)
  ·refine Run.exit (Jmp.code (Jmp.round (Jmp.here (Run.seq ?_))))
   obtain rfl:i=ws.length:=by omega
   have hfull:ws.take ws.length=ws:=List.take_length
   rw [hfull]
   refine Run.region (cx_ok _ _ _) (Reg.op rfl (Ope.load rfl rfl ?_))
   refine Reg.op0 (Ope.store rfl rfl rfl rfl rfl rfl ?_)
   refine Reg.nil (Run.ret (fin_ret (.cell rfl rfl .nil) rfl ?_))
   rfl
def shortT (t:Tab):Tab:=byS (List.range 11) t
theorem f102 (t:Tab) (ht:t.le 600):Fn P0 102 [.agg (tabC t)] (.agg (tabC (shortT t))):=by
  generalize hz:(fun _ _=>0:Tab)=z
  have hz':tabC z=tabC (fun _ _=>0):=by rw [hz]
  have h200:=f114 t ht .no (List.range 11) (by simp) (by simp)
  have hb200:PV.bds 0 [.agg (tabC t),.sl .no ((List.range 11).map cloD)]=true:=by rfl
  refine PFun.of (C:=c102) (cx_ok _ _ _) rfl (fn:=Try.f102) (by kernel_rfl) (c:=_) rfl rfl rfl ?_
  refine Run.seq (Run.region (cx_ok _ _ _) (Reg.op rfl (Ope.boxF rfl rfl ?_)))
  refine Reg.op rfl (Ope.newL rfl ?_)
  refine Reg.nil (Run.seq (Run.region (cx_ok _ _ _) (Reg.op rfl (Ope.asg rfl ?_))))
  refine Reg.nil (Run.seq (Run.seq (Run.region (cx_ok _ _ _) (Reg.op rfl (Ope.mov rfl ?_)))))
  refine Reg.nil (Run.block (Run.wide (m:=1) (l':=[(0,some (.cells (tabC z)))]) (Nat.le_refl _) ⟨congrArg (fun l=>some (PBlk.cells l)) hz'.symm,trivial⟩ ?_))
  refine Run.loop (α:=Nat×Option Nat×Nat) (fun s=>[(1,.fp (.agg (tabC t))),(2,.ptr 0 0),(3,.sl (tlU s.2.1) (((List.range 11).take s.1).map cloD)),(5,I s.1)]) (fun s=>HE s.2.2 (ownU s.2.1++[(0,some (.cells (tabC z)))])) (fun s=>s.1≤11∧(s.2.1=none↔s.1=0)∧(∀ j,s.2.1=some j→0 < j∧j < s.2.2)∧1≤s.2.2) (fun s=>11 - s.1) (0,none,1) ⟨rfl,rfl,rfl,rfl,trivial⟩ rfl ⟨Nat.zero_le _,by simp,by simp,Nat.le_refl _⟩ (fun s hs=>?_)
  obtain ⟨i,o',m⟩:=s
  obtain ⟨hi1,hi2,hi3,hi4⟩:=hs
  simp only at hi1 hi2 hi3 hi4
  refine Run.seq (Run.region (cx_ok _ _ _) (Reg.op rfl (Ope.lt rfl rfl ?_)))
  refine Reg.nil (Run.seq (Run.condX rfl (fun hc=>?_) fun hc=>?_))
  ·refine Run.skip (Run.seq (Run.block (Run.seq ?_)))
   have hi11:i < 11:=by omega
   have hstep:((List.range 11).take i).map cloD++[cloD i]=((List.range 11).take (i+1)).map cloD:=by
     rw [List.take_succ_eq_append_getElem (by simpa using hi11)]
     simp
   have hap:∀ j,o'=some j→((List.range 11).take i).map cloD≠[]∧hget ([(0,some (PBlk.cells (tabC z)))]:HL) j=none:=by
     intro j hj
     refine ⟨fun e0=>?_,(hget_tl (by have:=(hi3 j hj).1;omega)).trans rfl⟩
     have h0:i≠0:=fun h=>by rw [hi2.2 h] at hj;cases hj
     have:=congrArg List.length e0
     simp only [List.length_map,List.length_take,List.length_range,List.length_nil] at this
     omega
   refine Run.region (cx_ok _ _ _) (Reg.op rfl (Ope.mov rfl ?_))
   refine Reg.op rfl (Ope.newL rfl ?_)
   refine Reg.op0 (Ope.store rfl rfl hget_hd rfl rfl rfl ?_)
   refine Reg.nil (Run.frz (d:=4) false rfl hget_hd rfl ?_)
   have hg0:hget ((m,none)::(m,some (.cells [I i]))::(m,some (.cells [I 0]))::(ownU o'++[(0,some (.cells (tabC z)))])) 0=some (.cells (tabC z)):=by
     rw [hget_tl (by omega),hget_tl (by omega),hget_tl (by omega)]
     cases o' with
     | none=>rfl
     | some j=>exact (hget_tl (by have:=(hi3 j rfl).1;omega)).trans rfl
   have hgo:∀ j,o'=some j→hget ((m,none)::(m,some (.cells [I i]))::(m,some (.cells [I 0]))::(ownU o'++[(0,some (.cells (tabC z)))])) j=some .own:=by
     intro j hj
     have:=(hi3 j hj).2
     rw [hget_tl (by omega),hget_tl (by omega),hget_tl (by omega)]
     subst hj
     exact hget_hd
   refine Run.wide (m:=m+1) (l':=ownU o'++[(0,some (.cells (tabC z)))]) (Nat.le_refl _) (by cases o' with | none=>exact ⟨hg0,trivial⟩ | some j=>exact ⟨hgo j rfl,hg0,trivial⟩) ?_
   refine Run.region (cx_ok _ _ _) (Reg.op rfl (Ope.mov rfl ?_))
   refine Reg.op rfl (Ope.mkf rfl rfl ?_)
   refine Reg.op rfl (Ope.bsl rfl rfl rfl rfl ?_)
   refine Reg.op rfl (Ope.apU (o':=o') (vs:=((List.range 11).take i).map cloD) rfl rfl (by simp) hap (by simp;omega) (by simp;omega) (by decide) (by intro v hv;obtain ⟨_,_,rfl⟩:=List.mem_map.1 hv;rfl) (by intro v hv;simp only [List.mem_singleton] at hv;subst hv;exact ⟨rfl,rfl⟩) ?_)
   refine Reg.op rfl (Ope.asg rfl ?_)
   refine Reg.nil (Run.bend (Run.region (cx_ok _ _ _) (Reg.op rfl (Ope.add rfl rfl (by omega) ?_))))
   refine Reg.op rfl (Ope.mov rfl ?_)
   exact Reg.nil (Run.lend ⟨(i+1,some (m+1),m+1+1),by show 11 - (i+1) < 11 - i;omega,⟨by show i+1≤11;omega,by simp,fun j hj=>by cases hj;exact ⟨by omega,Nat.lt_succ_self _⟩,by show 1≤m+1+1;omega⟩,⟨rfl,rfl,congrArg (fun l=>some (PV.sl (.own (m+1)) l)) hstep,rfl,trivial⟩,rfl,rfl⟩)
  ·refine Run.exit (Jmp.code (Jmp.round (Jmp.here (Run.seq ?_))))
   have hiR:i=11:=by omega
   have ht':(List.range 11).take i=List.range 11:=by rw [hiR];rfl
   rw [← ht'] at h200 hb200
   refine Run.weakT (d:=3) rfl ?_
   have hg0:hget (ownU o'++[(0,some (.cells (tabC z)))]) 0=some (.cells (tabC z)):=by
     cases o' with
     | none=>rfl
     | some j=>exact (hget_tl (by have:=(hi3 j rfl).1;omega)).trans rfl
   refine Run.wide (m:=m) (l':=[(0,some (.cells (tabC z)))]) (Nat.le_refl _) ⟨hg0,trivial⟩ ?_
   refine Run.region (cx_ok _ _ _) (Reg.op rfl (Ope.load rfl rfl ?_))
   refine Reg.op rfl (Ope.mov rfl ?_)
   refine Reg.op rfl (Ope.cf rfl rfl h200 hb200 ?_)
   refine Reg.op0 (Ope.store rfl rfl rfl rfl rfl rfl ?_)
   refine Reg.nil (Run.ret (fin_ret (.cell rfl rfl .nil) rfl ?_))
   (show PV.agg (tabC (byS _ t))=_;rw [ht'];rfl)
end Go.Pv
namespace Go.Pv
open Go.Proofs Go.Am
set_option maxRecDepth 10000
structure Sti where
  r:Int
  a:Int
  b:Int
  c:Int
  d:Int
  e:Int
  f:Int
  g:Int
  h:Int
def Sti.v (s:Sti):PV:=.agg [I s.r,I s.a,I s.b,I s.c,I s.d,I s.e,I s.f,I s.g,I s.h]
abbrev relV (rest:Int) (tl:Tail) (S:List Sti):PV:=.agg [I rest,.sl tl (S.map Sti.v)]
abbrev notV (rest:Int) (tl:Tail) (S:List Sti) (j:Nat):PV:=.agg [I rest,.sl tl (S.map Sti.v),.mp j]
theorem f45 (rest:Int) (tl:Tail) (S:List Sti) (hS:S.length≤1000000) (k:Int):Fn P0 45 [relV rest tl S,I k] (B (decide (0≤k) && decide (k < S.length))):=by
  refine PFun.of (C:=c45) (cx_ok _ _ _) rfl (fn:=Try.f45) (by kernel_rfl) (c:=_) rfl rfl rfl ?_
  refine Run.seq (Run.region (cx_ok _ _ _) (Reg.op rfl (Ope.boxF rfl rfl ?_)))
  refine Reg.op rfl (Ope.asg rfl ?_)
  refine Reg.nil (Run.seq (Run.region (cx_ok _ _ _) (Reg.op rfl (Ope.mov rfl ?_))))
  refine Reg.op rfl (Ope.ge rfl rfl ?_)
  refine Reg.op rfl (Ope.mov rfl ?_)
  refine Reg.splitX rfl rfl (fun hg=>?_) fun hg=>?_
  ·refine Reg.on rfl rfl rfl (Ope.mov rfl ?_)
   refine Reg.on rfl rfl rfl (Ope.fld rfl rfl ?_)
   refine Reg.on rfl rfl rfl (Ope.load rfl rfl ?_)
   refine Reg.on rfl rfl rfl (Ope.len (m:=S.length) rfl (by simp) ?_)
   refine Reg.on rfl rfl rfl (Ope.lt rfl rfl ?_)
   refine Reg.op rfl (Ope.pickT rfl rfl ?_)
   refine Reg.op rfl (Ope.asg rfl ?_)
   refine Reg.nil (Run.ret (fin_ret (.tmp rfl .nil) rfl ?_))
   (simp [*];first | done | rfl)
  ·refine Reg.off rfl rfl rfl (Reg.off rfl rfl rfl (Reg.off rfl rfl rfl (Reg.off rfl rfl rfl (Reg.off rfl rfl rfl (Reg.op rfl (Ope.pickF rfl rfl ?_))))))
   refine Reg.op rfl (Ope.asg rfl ?_)
   refine Reg.nil (Run.ret (fin_ret (.tmp rfl .nil) rfl ?_))
   (simp [*];first | done | rfl)
def frm (S:List Sti) (r:Int):Nat→Option Nat
  | 0=>none
  | i+1=>if (S.map Sti.r)[i]?=some r then some i else frm S r i
def frmV:Option Nat→PV
  | some i=>.tup [I i,B true]
  | none=>.tup [I 0,B false]
theorem f119 (rest:Int) (tl:Tail) (S:List Sti) (j n:Nat) (l:HL) (k:Nat) (hk:k < S.length) (hk5:S.length≤5) :
    PCall P0 119 [notV rest tl S j,I k] (HE n l) (fun v h'=>h'=HE n l∧v=frmV (frm S S[k].r k)) fun _ _=>False:=by
  refine PCall.ofH (C:=c119) (cx_ok _ _ _) rfl (fn:=Try.f119) (by kernel_rfl) (c:=_) rfl rfl rfl (fun hok=>?_)
  refine Run.seq (Run.region (cx_ok _ _ _) (Reg.op rfl (Ope.boxF rfl rfl ?_)))
  refine Reg.op rfl (Ope.asg rfl ?_)
  refine Reg.op rfl (Ope.asg rfl ?_)
  refine Reg.nil (Run.seq (Run.seq (Run.region (cx_ok _ _ _) (Reg.op rfl (Ope.mov rfl ?_)))))
  refine Reg.op rfl (Ope.sub rfl rfl (by omega) ?_)
  refine Reg.op rfl (Ope.asg rfl ?_)
  refine Reg.nil (Run.block (Run.loop (α:=Nat) (fun i=>[(1,I k),(2,.fp (notV rest tl S j)),(6,I ((i:Int) - 1))]) (fun _=>HE n l) (fun i=>i≤k∧frm S S[k].r k=frm S S[k].r i) (fun i=>i) k ⟨rfl,rfl,rfl,trivial⟩ rfl ⟨Nat.le_refl _,rfl⟩ (fun i hi=>?_)))
  obtain ⟨hi1,hi2⟩:=hi
  refine Run.seq (Run.seq (Run.region (cx_ok _ _ _) (Reg.op rfl (Ope.mov rfl ?_))))
  refine Reg.op rfl (Ope.ge rfl rfl ?_)
  refine Reg.nil (Run.condX rfl (fun hc=>?_) fun hc=>?_)
  ·refine Run.skip (Run.seq (Run.block (Run.seq ?_)))
   obtain ⟨q,rfl⟩:∃ q,i=q+1:=⟨i - 1,by omega⟩
   have hqS:q < S.length:=by omega
   have hq1:(((q+1:Nat):Int) - 1)=(q:Int):=by omega
   rw [hq1] at *
   have hget:(S.map Sti.r)[q]?=some S[q].r:=by simp [hqS]
   simp only [frm,hget,Option.some.injEq] at hi2
   refine Run.draw (cx_ok _ _ _) [(0,true),(1,true),(2,true),(3,true),(4,true),(5,true),(6,true),(7,true),(8,true),(9,true),(10,true),(11,true),(12,true),(13,true),(14,true)] (by kernel_rfl) (Dra.op' rfl rfl rfl .sure (Ope.fld rfl rfl ?_))
   refine Dra.op' rfl rfl rfl .sure (Ope.fld rfl rfl ?_)
   refine Dra.op' rfl rfl rfl .sure (Ope.load rfl rfl ?_)
   refine Dra.op' rfl rfl rfl .sure (Ope.mov rfl ?_)
   refine Dra.op' rfl rfl rfl .sure (Ope.idxM (m:=q) (f:=Sti.v) rfl rfl rfl hqS (fun _=>rfl) ?_)
   refine Dra.op' rfl rfl rfl .sure (Ope.fld rfl rfl ?_)
   refine Dra.op' rfl rfl rfl .sure (Ope.load rfl rfl ?_)
   refine Dra.op' rfl rfl rfl .sure (Ope.fld rfl rfl ?_)
   refine Dra.op' rfl rfl rfl .sure (Ope.fld rfl rfl ?_)
   refine Dra.op' rfl rfl rfl .sure (Ope.load rfl rfl ?_)
   refine Dra.op' rfl rfl rfl .sure (Ope.mov rfl ?_)
   refine Dra.op' rfl rfl rfl .sure (Ope.idxM (m:=k) (f:=Sti.v) rfl rfl rfl hk (fun _=>rfl) ?_)
   refine Dra.op' rfl rfl rfl .sure (Ope.fld rfl rfl ?_)
   refine Dra.op' rfl rfl rfl .sure (Ope.load rfl rfl ?_)
   refine Dra.op' rfl rfl rfl .sure (Ope.eq rfl rfl ?_)
   refine Dra.nil (Run.condX rfl (fun hc=>?_) fun hc=>?_)
   ·refine Run.seq (Run.region (cx_ok _ _ _) (Reg.op rfl (Ope.mov rfl ?_)))
    refine Reg.op rfl (Ope.asg rfl ?_)
    refine Reg.op rfl (Ope.asg rfl ?_)
    refine Reg.nil (Run.ret (Jmp.retB (Jmp.code (Jmp.round (Jmp.retB (Jmp.code ?_))))))
    first
    | exact finH_ret (.tmp rfl (.tmp rfl .nil)) (Nat.le_refl _) (fun _ _ h=>h) ⟨rfl,by rw [hi2,if_pos (by omega)];rfl⟩
    | exact finH_ret (.tmp rfl (.tmp rfl .nil)) (Nat.le_refl _) (fun _ _ h=>h) ⟨rfl,by rw [hi2,show i=0 from by omega];rfl⟩
   ·refine Run.skip (Run.bend (Run.region (cx_ok _ _ _) (Reg.op rfl (Ope.mov rfl ?_))))
    refine Reg.op rfl (Ope.sub rfl rfl (by omega) ?_)
    refine Reg.op rfl (Ope.asg rfl ?_)
    exact Reg.nil (Run.lend ⟨q,by omega,⟨by omega,by rw [hi2,if_neg (by omega)]⟩,⟨rfl,rfl,rfl,trivial⟩,rfl,rfl⟩)
  ·refine Run.exit (Jmp.code (Jmp.round (Jmp.here (Run.seq (Run.region (cx_ok _ _ _) (Reg.op rfl (Ope.asg rfl ?_)))))))
   refine Reg.op rfl (Ope.asg rfl ?_)
   refine Reg.nil (Run.ret ?_)
   first
   | exact finH_ret (.tmp rfl (.tmp rfl .nil)) (Nat.le_refl _) (fun _ _ h=>h) ⟨rfl,by rw [hi2,if_pos (by omega)];rfl⟩
   | exact finH_ret (.tmp rfl (.tmp rfl .nil)) (Nat.le_refl _) (fun _ _ h=>h) ⟨rfl,by rw [hi2,show i=0 from by omega];rfl⟩
end Go.Pv
namespace Go.Pv
open Go.Proofs Go.Am
set_option maxRecDepth 10000
def rulV (p:Nat×Nat×Int):PV:=.ifc 139 (.agg [I p.1,I p.2.1,I p.2.2])
def rul1 (k:Nat):List (Nat×Nat×Int):=[(2 * k,10,0),(2 * k+1,2 * k,-1)]
def rul2 (k:Nat):List (Nat×Nat×Int):=if 0 < k then [(2 * k,2 * (k - 1),-1)] else []
def rul3 (k:Nat) (rest:Int):Option Nat→List (Nat×Nat×Int)
  | some f=>[(2 * k,2 * f+1,-rest)]
  | none=>[]
def rules (S:List Sti) (rest:Int) (k:Nat):List (Nat×Nat×Int):=rul1 k++(rul2 k++rul3 k rest (frm S ((S.map Sti.r).getD k 0) k))
theorem frm_lt (S:List Sti) (r:Int):∀ (k f:Nat),frm S r k=some f→f < k
  | 0,f,h=>by simp [frm] at h
  | k + 1, f, h => by
    simp only [frm] at h
    split at h
    · cases h;omega
    · have:=frm_lt S r k f h;omega
theorem f110 (rest : Int) (hr : 0 ≤ rest ∧ rest ≤ 60) (tl : Tail) (htl : tl.isOwn = false) (S : List Sti) (j n : Nat) (hj : j < n) (l : HL) (k : Nat) (hk : k < S.length) (hk5 : S.length ≤ 5) :
    PCall P0 110 [notV rest tl S j,I k] (HE n l) (fun v h'=>∃ m o,n≤m∧(∀ q,o=some q→n≤q∧q < m)∧h'=HE m (ownU o++l)∧v=.sl (tlU o) ((rules S rest k).map rulV)) fun _ _=>False:=by
  have hgd:(S.map Sti.r).getD k 0=S[k].r:=by simp [List.getD,hk]
  have h202:=fun n l=>f119 rest tl S j n l k hk hk5
  rw [← hgd] at h202
  rcases Nat.eq_zero_or_pos k with rfl | hk0
  · have hf : frm S ((S.map Sti.r).getD 0 0) 0 = none := rfl
    simp only [hf] at h202
    refine PCall.ofH (C:=c110) (cx_ok _ _ _) rfl (fn:=Try.f110) (by kernel_rfl) (c:=_) rfl rfl rfl (fun hok=>?_)
    have hn0:hget l n=none:=ok_none hok (Nat.le_refl _)
    have hn1:hget l (n+1)=none:=ok_none hok (by omega)
    refine Run.seq (Run.region (cx_ok _ _ _) (Reg.op rfl (Ope.boxF rfl rfl ?_)))
    refine Reg.op rfl (Ope.asg rfl ?_)
    refine Reg.nil (Run.seq (Run.region (cx_ok _ _ _) (Reg.op rfl (Ope.mov rfl ?_))))
    refine Reg.op rfl (Ope.cf rfl rfl (f48n 0 (by omega)) rfl ?_)
    refine Reg.op rfl (Ope.cf rfl rfl (f118 10 ((2 * 0:Nat):Int) 0 (by decide)) rfl ?_)
    refine Reg.op rfl (Ope.ifc rfl ?_)
    refine Reg.op rfl (Ope.mov rfl ?_)
    refine Reg.op rfl (Ope.cf rfl rfl (f48n 0 (by omega)) rfl ?_)
    refine Reg.op rfl (Ope.mov rfl ?_)
    refine Reg.op rfl (Ope.cf rfl rfl (f52n 0 (by omega)) rfl ?_)
    refine Reg.op rfl (Ope.cf rfl rfl (f118 ((2 * 0:Nat):Int) ((2 * 0+1:Nat):Int) 1 (by decide)) rfl ?_)
    refine Reg.op rfl (Ope.ifc rfl ?_)
    refine Reg.op rfl (Ope.bsl rfl rfl rfl rfl ?_)
    refine Reg.op rfl (Ope.asg rfl ?_)
    refine Reg.nil (Run.seq (Run.seq (Run.region (cx_ok _ _ _) (Reg.op rfl (Ope.mov rfl ?_)))))
    refine Reg.op rfl (Ope.gt rfl rfl ?_)
    refine Reg.nil (Run.condX rfl (fun hc=>?_) fun hc=>?_)
    ·exact absurd hc (by decide)
    ·refine Run.skip (Run.seq (Run.seq (Run.region (cx_ok _ _ _) (Reg.op rfl (Ope.load rfl rfl ?_)))))
     refine Reg.op rfl (Ope.mov rfl ?_)
     refine Reg.op rfl (Ope.callX rfl rfl rfl (h202 _ _) ?_)
     refine Reg.op rfl (Ope.mov rfl ?_)
     refine Reg.op rfl (Ope.ext rfl rfl ?_)
     refine Reg.op rfl (Ope.ext rfl rfl ?_)
     refine Reg.op rfl (Ope.asg rfl ?_)
     refine Reg.op rfl (Ope.asg rfl ?_)
     refine Reg.nil (Run.seq (Run.region (cx_ok _ _ _) (Reg.op rfl (Ope.mov rfl ?_))))
     refine Reg.nil (Run.condX rfl (fun hc=>?_) fun hc=>?_)
     ·exact absurd hc (by decide)
     ·refine Run.skip (Run.seq (Run.region (cx_ok _ _ _) (Reg.op rfl (Ope.mov rfl ?_))))
      refine Reg.op rfl (Ope.asg rfl ?_)
      exact Reg.nil (Run.ret (finH_ret (.tmp rfl .nil) (Nat.le_refl _) (fun _ _ h=>h) ⟨n,none,Nat.le_refl _,(fun q hq=>by cases hq),rfl,rfl⟩))
  · obtain ⟨q, rfl⟩ : ∃ q, k = q + 1 := ⟨k - 1, by omega⟩
    have hq1:(((q+1:Nat):Int) - 1)=(q:Int):=by omega
    cases hf:frm S ((S.map Sti.r).getD (q+1) 0) (q+1) with
    | none =>
      simp only [hf] at h202
      refine PCall.ofH (C:=c110) (cx_ok _ _ _) rfl (fn:=Try.f110) (by kernel_rfl) (c:=_) rfl rfl rfl (fun hok=>?_)
      have hn0:hget l n=none:=ok_none hok (Nat.le_refl _)
      have hn1:hget l (n+1)=none:=ok_none hok (by omega)
      refine Run.seq (Run.region (cx_ok _ _ _) (Reg.op rfl (Ope.boxF rfl rfl ?_)))
      refine Reg.op rfl (Ope.asg rfl ?_)
      refine Reg.nil (Run.seq (Run.region (cx_ok _ _ _) (Reg.op rfl (Ope.mov rfl ?_))))
      refine Reg.op rfl (Ope.cf rfl rfl (f48n (q+1) (by omega)) rfl ?_)
      refine Reg.op rfl (Ope.cf rfl rfl (f118 10 ((2 * (q+1):Nat):Int) 0 (by decide)) rfl ?_)
      refine Reg.op rfl (Ope.ifc rfl ?_)
      refine Reg.op rfl (Ope.mov rfl ?_)
      refine Reg.op rfl (Ope.cf rfl rfl (f48n (q+1) (by omega)) rfl ?_)
      refine Reg.op rfl (Ope.mov rfl ?_)
      refine Reg.op rfl (Ope.cf rfl rfl (f52n (q+1) (by omega)) rfl ?_)
      refine Reg.op rfl (Ope.cf rfl rfl (f118 ((2 * (q+1):Nat):Int) ((2 * (q+1)+1:Nat):Int) 1 (by decide)) rfl ?_)
      refine Reg.op rfl (Ope.ifc rfl ?_)
      refine Reg.op rfl (Ope.bsl rfl rfl rfl rfl ?_)
      refine Reg.op rfl (Ope.asg rfl ?_)
      refine Reg.nil (Run.seq (Run.seq (Run.region (cx_ok _ _ _) (Reg.op rfl (Ope.mov rfl ?_)))))
      refine Reg.op rfl (Ope.gt rfl rfl ?_)
      refine Reg.nil (Run.condX rfl (fun hc=>?_) fun hc=>?_)
      ·refine Run.region (cx_ok _ _ _) (Reg.op rfl (Ope.mov rfl ?_))
       refine Reg.op rfl (Ope.mov rfl ?_)
       refine Reg.op rfl (Ope.sub rfl rfl (by omega) ?_)
       rw [hq1]
       refine Reg.op rfl (Ope.cf rfl rfl (f48n q (by omega)) rfl ?_)
       refine Reg.op rfl (Ope.mov rfl ?_)
       refine Reg.op rfl (Ope.cf rfl rfl (f48n (q+1) (by omega)) rfl ?_)
       refine Reg.op rfl (Ope.cf rfl rfl (f118 ((2 * q:Nat):Int) ((2 * (q+1):Nat):Int) 1 (by decide)) rfl ?_)
       refine Reg.op rfl (Ope.ifc rfl ?_)
       refine Reg.op rfl (Ope.bsl rfl rfl rfl rfl ?_)
       refine Reg.op rfl (Ope.apO rfl rfl (by simp) (by simp) (by simp) (by decide) (by intro v hv;simp only [List.mem_cons,List.not_mem_nil,or_false] at hv;rcases hv with rfl | rfl<;>rfl) (by intro v hv;simp only [List.mem_singleton] at hv;subst hv;exact ⟨rfl,rfl⟩) ?_)
       refine Reg.op rfl (Ope.asg rfl ?_)
       refine Reg.nil (Run.seq (Run.seq (Run.region (cx_ok _ _ _) (Reg.op rfl (Ope.load rfl rfl ?_)))))
       refine Reg.op rfl (Ope.mov rfl ?_)
       refine Reg.op rfl (Ope.callX rfl rfl rfl (h202 _ _) ?_)
       refine Reg.op rfl (Ope.mov rfl ?_)
       refine Reg.op rfl (Ope.ext rfl rfl ?_)
       refine Reg.op rfl (Ope.ext rfl rfl ?_)
       refine Reg.op rfl (Ope.asg rfl ?_)
       refine Reg.op rfl (Ope.asg rfl ?_)
       refine Reg.nil (Run.seq (Run.region (cx_ok _ _ _) (Reg.op rfl (Ope.mov rfl ?_))))
       refine Reg.nil (Run.condX rfl (fun hc=>?_) fun hc=>?_)
       ·exact absurd hc (by decide)
       ·refine Run.skip (Run.seq (Run.region (cx_ok _ _ _) (Reg.op rfl (Ope.mov rfl ?_))))
        refine Reg.op rfl (Ope.asg rfl ?_)
        exact Reg.nil (Run.ret (finH_ret (.tmp rfl .nil) (Nat.le_refl _) (fun _ _ h=>h) ⟨n+1,some n,by omega,(fun q hq=>by cases hq;omega),rfl,by simp only [rules,hf,rul2,Nat.succ_pos,if_pos];rfl⟩))
      ·exfalso;omega
    | some f =>
      have hfk:=frm_lt _ _ _ _ hf
      simp only [hf] at h202
      refine PCall.ofH (C:=c110) (cx_ok _ _ _) rfl (fn:=Try.f110) (by kernel_rfl) (c:=_) rfl rfl rfl (fun hok=>?_)
      have hn0:hget l n=none:=ok_none hok (Nat.le_refl _)
      have hn1:hget l (n+1)=none:=ok_none hok (by omega)
      refine Run.seq (Run.region (cx_ok _ _ _) (Reg.op rfl (Ope.boxF rfl rfl ?_)))
      refine Reg.op rfl (Ope.asg rfl ?_)
      refine Reg.nil (Run.seq (Run.region (cx_ok _ _ _) (Reg.op rfl (Ope.mov rfl ?_))))
      refine Reg.op rfl (Ope.cf rfl rfl (f48n (q+1) (by omega)) rfl ?_)
      refine Reg.op rfl (Ope.cf rfl rfl (f118 10 ((2 * (q+1):Nat):Int) 0 (by decide)) rfl ?_)
      refine Reg.op rfl (Ope.ifc rfl ?_)
      refine Reg.op rfl (Ope.mov rfl ?_)
      refine Reg.op rfl (Ope.cf rfl rfl (f48n (q+1) (by omega)) rfl ?_)
      refine Reg.op rfl (Ope.mov rfl ?_)
      refine Reg.op rfl (Ope.cf rfl rfl (f52n (q+1) (by omega)) rfl ?_)
      refine Reg.op rfl (Ope.cf rfl rfl (f118 ((2 * (q+1):Nat):Int) ((2 * (q+1)+1:Nat):Int) 1 (by decide)) rfl ?_)
      refine Reg.op rfl (Ope.ifc rfl ?_)
      refine Reg.op rfl (Ope.bsl rfl rfl rfl rfl ?_)
      refine Reg.op rfl (Ope.asg rfl ?_)
      refine Reg.nil (Run.seq (Run.seq (Run.region (cx_ok _ _ _) (Reg.op rfl (Ope.mov rfl ?_)))))
      refine Reg.op rfl (Ope.gt rfl rfl ?_)
      refine Reg.nil (Run.condX rfl (fun hc=>?_) fun hc=>?_)
      ·refine Run.region (cx_ok _ _ _) (Reg.op rfl (Ope.mov rfl ?_))
       refine Reg.op rfl (Ope.mov rfl ?_)
       refine Reg.op rfl (Ope.sub rfl rfl (by omega) ?_)
       rw [hq1]
       refine Reg.op rfl (Ope.cf rfl rfl (f48n q (by omega)) rfl ?_)
       refine Reg.op rfl (Ope.mov rfl ?_)
       refine Reg.op rfl (Ope.cf rfl rfl (f48n (q+1) (by omega)) rfl ?_)
       refine Reg.op rfl (Ope.cf rfl rfl (f118 ((2 * q:Nat):Int) ((2 * (q+1):Nat):Int) 1 (by decide)) rfl ?_)
       refine Reg.op rfl (Ope.ifc rfl ?_)
       refine Reg.op rfl (Ope.bsl rfl rfl rfl rfl ?_)
       refine Reg.op rfl (Ope.apO rfl rfl (by simp) (by simp) (by simp) (by decide) (by intro v hv;simp only [List.mem_cons,List.not_mem_nil,or_false] at hv;rcases hv with rfl | rfl<;>rfl) (by intro v hv;simp only [List.mem_singleton] at hv;subst hv;exact ⟨rfl,rfl⟩) ?_)
       refine Reg.op rfl (Ope.asg rfl ?_)
       refine Reg.nil (Run.seq (Run.seq (Run.region (cx_ok _ _ _) (Reg.op rfl (Ope.load rfl rfl ?_)))))
       refine Reg.op rfl (Ope.mov rfl ?_)
       refine Reg.op rfl (Ope.callX rfl rfl rfl (h202 _ _) ?_)
       refine Reg.op rfl (Ope.mov rfl ?_)
       refine Reg.op rfl (Ope.ext rfl rfl ?_)
       refine Reg.op rfl (Ope.ext rfl rfl ?_)
       refine Reg.op rfl (Ope.asg rfl ?_)
       refine Reg.op rfl (Ope.asg rfl ?_)
       refine Reg.nil (Run.seq (Run.region (cx_ok _ _ _) (Reg.op rfl (Ope.mov rfl ?_))))
       refine Reg.nil (Run.condX rfl (fun hc=>?_) fun hc=>?_)
       ·refine Run.draw (cx_ok _ _ _) [(0,true),(1,true),(3,true),(5,true),(6,true),(7,false),(2,true),(4,true),(8,true),(9,true),(10,true),(11,true),(12,true)] (by kernel_rfl) (Dra.op' rfl rfl rfl .sure (Ope.mov rfl ?_))
        refine Dra.op' rfl rfl rfl .sure (Ope.mov rfl ?_)
        refine Dra.op' rfl rfl rfl .sure (Ope.mov rfl ?_)
        refine Dra.op' rfl rfl rfl .sure (Ope.fld rfl rfl ?_)
        refine Dra.op' rfl rfl rfl .sure (Ope.fld rfl rfl ?_)
        refine Dra.op' rfl rfl rfl (.load rfl) (Ope.load rfl rfl ?_)
        refine Dra.op' rfl rfl rfl .sure (Ope.cf rfl rfl (f52n f (by omega)) rfl ?_)
        refine Dra.op' rfl rfl rfl .sure (Ope.cf rfl rfl (f48n (q+1) (by omega)) rfl ?_)
        refine Dra.op' rfl rfl rfl .sure (Ope.cf rfl rfl (f118 ((2 * f+1:Nat):Int) ((2 * (q+1):Nat):Int) rest (by omega)) rfl ?_)
        refine Dra.op' rfl rfl rfl .sure (Ope.ifc rfl ?_)
        refine Dra.op' rfl rfl rfl .sure (Ope.bsl rfl rfl rfl rfl ?_)
        refine Dra.op' rfl rfl rfl .sure (Ope.apP (j:=n) rfl rfl (by simp) (by simp) hget_hd (by simp) (by simp) (by decide) (by intro v hv;simp at hv;rcases hv with rfl | rfl | rfl<;>rfl) (by intro v hv;simp only [List.mem_singleton] at hv;subst hv;exact ⟨rfl,rfl⟩) ?_)
        refine Dra.op' rfl rfl rfl .sure (Ope.asg rfl ?_)
        refine Dra.nil (Run.seq (Run.region (cx_ok _ _ _) (Reg.op rfl (Ope.mov rfl ?_))))
        refine Reg.op rfl (Ope.asg rfl ?_)
        exact Reg.nil (Run.ret (finH_ret (.tmp rfl .nil) (Nat.le_refl _) (hs_keep (hs_skip (hs_skip hs_refl hn0) hn0)) ⟨n+1+1,some (n+1),by omega,(fun q hq=>by cases hq;omega),rfl,by simp only [rules,hf,rul2,Nat.succ_pos,if_pos];rfl⟩))
       ·exact absurd hc (by decide)
      ·exfalso;omega
end Go.Pv
namespace Go.Pv
open Go.Proofs Go.Am
set_option maxRecDepth 10000
theorem f62f (g:Nat) (cap:List PV) (p:Int→Bool) (hb:∀ m,PV.bds 0 (I m::cap)=true) (hq:∀ m,Fn P0 g (I m::cap) (B (p m))) (a b m:Int) (ha:0≤a) (hb6:b≤600) (h1:a≤m) (h2:m≤b) (hp:p m=true) (hn:∀ x,a≤x→x < m→p x=false) :
    Fn P0 62 [.agg [.fn (.func g) [] cap],I a,I b] (I m):=by
  have hbd:PV.bd 0 (.agg [.fn (.func g) [] cap])=true:=by
    have:=hb 0
    simp only [PV.bds,Bool.and_eq_true] at this
    simp only [PV.bd,PV.bds,this.2,Bool.and_self]
  refine PFun.of (C:=c62) (cx_ok _ _ _) rfl (fn:=Try.f62) (by kernel_rfl) (c:=_) rfl rfl rfl ?_
  refine Run.seq (Run.region (cx_ok _ _ _) (Reg.op rfl (Ope.boxF rfl rfl ?_)))
  refine Reg.op rfl (Ope.asg rfl ?_)
  refine Reg.nil (Run.seq (Run.seq (Run.region (cx_ok _ _ _) (Reg.op rfl (Ope.mov rfl ?_)))))
  refine Reg.op rfl (Ope.asg rfl ?_)
  refine Reg.nil (Run.block (Run.loop (α:=Nat) (fun i=>[(2,I b),(3,.fp (.agg [.fn (.func g) [] cap])),(7,I (a+i))]) (fun _=>HE 0 []) (fun i=>a+i≤m) (fun i=>(m - a).toNat - i) 0 ⟨rfl,rfl,congrArg (fun x=>some (I x)) (Int.add_zero a).symm,trivial⟩ rfl (by show a+(0:Nat)≤m;omega) (fun i hi=>?_)))
  refine Run.seq (Run.seq (Run.region (cx_ok _ _ _) (Reg.op rfl (Ope.mov rfl ?_))))
  refine Reg.op rfl (Ope.mov rfl ?_)
  refine Reg.op rfl (Ope.le rfl rfl ?_)
  refine Reg.nil (Run.condX rfl (fun hc=>?_) fun hc=>?_)
  ·refine Run.skip (Run.seq (Run.block (Run.seq (Run.region (cx_ok _ _ _) (Reg.op rfl (Ope.fld rfl rfl ?_))))))
   refine Reg.op rfl (Ope.load rfl rfl ?_)
   refine Reg.op rfl (Ope.mov rfl ?_)
   refine Reg.op rfl (Ope.cf rfl rfl (hq (a+i)) (hb _) ?_)
   refine Reg.nil (Run.condX rfl (fun hc=>?_) fun hc=>?_)
   ·refine Run.seq ?_
    have hm:a+i=m:=by
      rcases Int.lt_or_eq_of_le hi with h | h
      · exact absurd hc (by rw [hn _ (by omega) h];decide)
      · exact h
    refine Run.region (cx_ok _ _ _) (Reg.op rfl (Ope.mov rfl ?_))
    refine Reg.op rfl (Ope.asg rfl ?_)
    refine Reg.nil (Run.ret (Jmp.retB (Jmp.code (Jmp.round (Jmp.retB (Jmp.code (fin_ret (.tmp rfl .nil) rfl ?_)))))))
    (show I (a+(i:Int))=I m;rw [hm])
   ·refine Run.skip (Run.bend ?_)
    have hlt:a+i < m:=by
      rcases Int.lt_or_eq_of_le hi with h | h
      · exact h
      · rw [h,hp] at hc;cases hc
    refine Run.region (cx_ok _ _ _) (Reg.op rfl (Ope.mov rfl ?_))
    refine Reg.op rfl (Ope.add rfl rfl (by omega) ?_)
    refine Reg.op rfl (Ope.asg rfl ?_)
    exact Reg.nil (Run.lend ⟨i+1,by omega,by show a+((i+1:Nat):Int)≤m;omega,⟨rfl,rfl,congrArg (fun x=>some (I x)) (by omega),trivial⟩,rfl,rfl⟩)
  ·exfalso;omega
theorem f66 (t:Tab) (ht:t.bnd) (rest:Int) (tl:Tail) (S:List Sti) (hS:S.length≤5) (m:Int):Fn P0 66 [I m,.fp (.fp (.agg (tabC t))),.fp (relV rest tl S)] (B (t.gap m S.length 0)):=by
  refine PFun.of (C:=c66) (cx_ok _ _ _) rfl (fn:=Try.f66) (by kernel_rfl) (c:=_) rfl rfl rfl ?_
  refine Run.seq (Run.region (cx_ok _ _ _) (Reg.op rfl (Ope.asg rfl ?_)))
  refine Reg.nil (Run.seq (Run.region (cx_ok _ _ _) (Reg.op rfl (Ope.load rfl rfl ?_))))
  refine Reg.op rfl (Ope.fld rfl rfl ?_)
  refine Reg.op rfl (Ope.load rfl rfl ?_)
  refine Reg.op rfl (Ope.len (m:=S.length) rfl (by simp) ?_)
  refine Reg.op rfl (Ope.mov rfl ?_)
  refine Reg.op rfl (Ope.cf rfl rfl (f67 t ht S.length hS m) rfl ?_)
  refine Reg.op rfl (Ope.asg rfl ?_)
  exact Reg.nil (Run.ret (fin_ret (.tmp rfl .nil) rfl rfl))
theorem f60 (t:Tab) (ht:t.bnd) (rest:Int) (tl:Tail) (S:List Sti) (hS:S.length≤5) (m:Int):Fn P0 60 [I m,.fp (.fp (.agg (tabC t))),.fp (relV rest tl S)] (B (t.empty S.length m)):=by
  refine PFun.of (C:=c60) (cx_ok _ _ _) rfl (fn:=Try.f60) (by kernel_rfl) (c:=_) rfl rfl rfl ?_
  refine Run.seq (Run.region (cx_ok _ _ _) (Reg.op rfl (Ope.asg rfl ?_)))
  refine Reg.nil (Run.seq (Run.region (cx_ok _ _ _) (Reg.op rfl (Ope.load rfl rfl ?_))))
  refine Reg.op rfl (Ope.fld rfl rfl ?_)
  refine Reg.op rfl (Ope.load rfl rfl ?_)
  refine Reg.op rfl (Ope.len (m:=S.length) rfl (by simp) ?_)
  refine Reg.op rfl (Ope.mov rfl ?_)
  refine Reg.op rfl (Ope.cf rfl rfl (f61 t ht S.length hS m) rfl ?_)
  refine Reg.op rfl (Ope.asg rfl ?_)
  exact Reg.nil (Run.ret (fin_ret (.tmp rfl .nil) rfl rfl))
end Go.Pv
