/- Parts of the proof: R68, R69, R71, R72, R73, Pv59 -/
import Derived.Test.YtejnfigkngkhjaaP15
import Derived.Test.YtejnfigkngkhjaaP13
set_option linter.unusedVariables false
set_option linter.unusedSimpArgs false
set_option linter.unusedSectionVars false
namespace Go.Pv
open Go.Proofs Go.Am
set_option maxRecDepth 10000
theorem bd_rel (rest:Int) (tl:Tail) (htl:tl.isOwn=false) (S:List Sti):PV.bd 0 (relV rest tl S)=true:=by
  simp only [PV.bd,PV.bds,bd_sl (f:=Sti.v) htl (fun _=>rfl) S,Bool.and_true]
theorem bd_tab (t:Tab):PV.bd 0 (.agg (tabC t))=true:=rfl
theorem f65f (t:Tab) (ht:t.bnd) (rest:Int) (tl:Tail) (htl:tl.isOwn=false) (S:List Sti) (hS:S.length≤5) (a b m:Int) (ha:0≤a) (hb6:b≤600) (h1:a≤m) (h2:m≤b) (hp:t.gap m S.length 0=true) (hn:∀ x,a≤x→x < m→t.gap x S.length 0=false) :
    Fn P0 65 [.fp (.agg (tabC t)),.fp (relV rest tl S),.fp (I a),.fp (I b)] (I m):=by
  have hbc:∀ m,PV.bds 0 (I m::[.fp (.fp (.agg (tabC t))),.fp (relV rest tl S)])=true:=fun m=>by
    have h1:=bd_rel rest tl htl S
    have h2:=bd_tab t
    simp only [PV.bds,PV.bd] at h1 h2 ⊢
    simp only [h2,bd_sl (f:=Sti.v) htl (fun _=>rfl) S,Bool.and_true]
  have h92:=f62f 66 _ (fun x=>t.gap x S.length 0) hbc (fun m=>f66 t ht rest tl S hS m) a b m ha hb6 h1 h2 hp hn
  have hb92:PV.bds 0 [.agg [.fn (.func 66) [] [.fp (.fp (.agg (tabC t))),.fp (relV rest tl S)]],I a,I b]=true:=by
    have h3:=hbc 0
    simp only [PV.bds,Bool.and_eq_true] at h3
    simp only [PV.bds,PV.bd,Bool.and_eq_true] at h3 ⊢
    simp [h3]
  refine PFun.of (C:=c65) (cx_ok _ _ _) rfl (fn:=Try.f65) (by kernel_rfl) (c:=_) rfl rfl rfl ?_
  refine Run.seq (Run.region (cx_ok _ _ _) (Reg.op rfl (Ope.boxF rfl rfl ?_)))
  refine Reg.op rfl (Ope.asg rfl ?_)
  refine Reg.nil (Run.seq (Run.region (cx_ok _ _ _) (Reg.op rfl (Ope.mkf rfl rfl ?_))))
  refine Reg.op rfl (Ope.bld rfl rfl ?_)
  refine Reg.op rfl (Ope.newL rfl ?_)
  refine Reg.op0 (Ope.store rfl rfl rfl rfl rfl rfl ?_)
  refine Reg.nil (Run.seq (Run.region (cx_ok _ _ _) (Reg.op rfl (Ope.load rfl rfl ?_))))
  refine Reg.op rfl (Ope.load rfl rfl ?_)
  refine Reg.op rfl (Ope.load rfl rfl ?_)
  refine Reg.op rfl (Ope.cf rfl rfl h92 hb92 ?_)
  refine Reg.op rfl (Ope.asg rfl ?_)
  exact Reg.nil (Run.ret (fin_ret (.tmp rfl .nil) rfl rfl))
theorem f59f (t:Tab) (ht:t.bnd) (rest:Int) (tl:Tail) (htl:tl.isOwn=false) (S:List Sti) (hS:S.length≤5) (a b m:Int) (ha:0≤a) (hb6:b≤600) (h1:a≤m) (h2:m≤b) (hp:t.empty S.length m=true) (hn:∀ x,a≤x→x < m→t.empty S.length x=false) :
    Fn P0 59 [.fp (.agg (tabC t)),.fp (relV rest tl S),.fp (I a),.fp (I b)] (I m):=by
  have hbc:∀ m,PV.bds 0 (I m::[.fp (.fp (.agg (tabC t))),.fp (relV rest tl S)])=true:=fun m=>by
    have h1:=bd_rel rest tl htl S
    have h2:=bd_tab t
    simp only [PV.bds,PV.bd] at h1 h2 ⊢
    simp only [h2,bd_sl (f:=Sti.v) htl (fun _=>rfl) S,Bool.and_true]
  have h92:=f62f 60 _ (fun x=>t.empty S.length x) hbc (fun m=>f60 t ht rest tl S hS m) a b m ha hb6 h1 h2 hp hn
  have hb92:PV.bds 0 [.agg [.fn (.func 60) [] [.fp (.fp (.agg (tabC t))),.fp (relV rest tl S)]],I a,I b]=true:=by
    have h3:=hbc 0
    simp only [PV.bds,Bool.and_eq_true] at h3
    simp only [PV.bds,PV.bd,Bool.and_eq_true] at h3 ⊢
    simp [h3]
  refine PFun.of (C:=c59) (cx_ok _ _ _) rfl (fn:=Try.f59) (by kernel_rfl) (c:=_) rfl rfl rfl ?_
  refine Run.seq (Run.region (cx_ok _ _ _) (Reg.op rfl (Ope.boxF rfl rfl ?_)))
  refine Reg.op rfl (Ope.asg rfl ?_)
  refine Reg.nil (Run.seq (Run.region (cx_ok _ _ _) (Reg.op rfl (Ope.mkf rfl rfl ?_))))
  refine Reg.op rfl (Ope.bld rfl rfl ?_)
  refine Reg.op rfl (Ope.newL rfl ?_)
  refine Reg.op0 (Ope.store rfl rfl rfl rfl rfl rfl ?_)
  refine Reg.nil (Run.seq (Run.region (cx_ok _ _ _) (Reg.op rfl (Ope.load rfl rfl ?_))))
  refine Reg.op rfl (Ope.load rfl rfl ?_)
  refine Reg.op rfl (Ope.load rfl rfl ?_)
  refine Reg.op rfl (Ope.cf rfl rfl h92 hb92 ?_)
  refine Reg.op rfl (Ope.asg rfl ?_)
  exact Reg.nil (Run.ret (fin_ret (.tmp rfl .nil) rfl rfl))
theorem f51 (t:Tab) (ht:t.bnd) (k:Nat) (hk:k < 5):Fn P0 51 [.fp (.agg (tabC t)),.fp (I k)] (.agg [I (t.min (2 * k+1)).1,I (t.min (2 * k+1)).2]):=by
  refine PFun.of (C:=c51) (cx_ok _ _ _) rfl (fn:=Try.f51) (by kernel_rfl) (c:=_) rfl rfl rfl ?_
  refine Run.seq (Run.region (cx_ok _ _ _) (Reg.op rfl (Ope.newL rfl ?_)))
  refine Reg.nil (Run.seq (Run.region (cx_ok _ _ _) (Reg.op rfl (Ope.mov rfl ?_))))
  refine Reg.op rfl (Ope.load rfl rfl ?_)
  refine Reg.op rfl (Ope.cf rfl rfl (f52n k (by omega)) rfl ?_)
  refine Reg.op rfl (Ope.cf rfl rfl (f47 t ht (2 * k+1) (by omega)) rfl ?_)
  refine Reg.op0 (Ope.store rfl rfl rfl rfl rfl rfl ?_)
  exact Reg.nil (Run.ret (fin_ret (.cell rfl rfl .nil) rfl rfl))
theorem f53 (t:Tab) (ht:t.bnd) (k:Nat) (hk:k < 5):Fn P0 53 [.fp (.agg (tabC t)),.fp (I k)] (.agg [I (t.btw (2 * k) (2 * k+1)).1,I (t.btw (2 * k) (2 * k+1)).2]):=by
  refine PFun.of (C:=c53) (cx_ok _ _ _) rfl (fn:=Try.f53) (by kernel_rfl) (c:=_) rfl rfl rfl ?_
  refine Run.seq (Run.region (cx_ok _ _ _) (Reg.op rfl (Ope.newL rfl ?_)))
  refine Reg.nil (Run.seq (Run.draw (cx_ok _ _ _) [(0,true),(1,true),(3,false),(2,true),(4,true),(5,true),(6,true)] (by kernel_rfl) (Dra.op' rfl rfl rfl .sure (Ope.mov rfl ?_))))
  refine Dra.op' rfl rfl rfl .sure (Ope.load rfl rfl ?_)
  refine Dra.op' rfl rfl rfl (.load rfl) (Ope.load rfl rfl ?_)
  refine Dra.op' rfl rfl rfl .sure (Ope.cf rfl rfl (f48n k (by omega)) rfl ?_)
  refine Dra.op' rfl rfl rfl .sure (Ope.cf rfl rfl (f52n k (by omega)) rfl ?_)
  refine Dra.op' rfl rfl rfl .sure (Ope.cf rfl rfl (f54 t (2 * k) (2 * k+1) (by omega) (by omega) (ht _ _ (by omega) (by omega))) rfl ?_)
  refine Dra.op' rfl rfl rfl .sure (Ope.store rfl rfl rfl rfl rfl rfl ?_)
  exact Dra.nil (Run.ret (fin_ret (.cell rfl rfl .nil) rfl rfl))
end Go.Pv
namespace Go.Pv
open Go.Proofs Go.Am
set_option maxRecDepth 10000
def Sti.j0 (s:Sti):Bool:=minsOk s.a s.b && minsOk s.e s.f
def Sti.j1 (s:Sti):Bool:=minsOk s.c s.d && minsOk s.g s.h
def Sti.ok (s:Sti):Bool:=(decide (s.r=0) || decide (s.r=1)) && (s.j0 && s.j1)
end Go.Pv
namespace Go.Pv
open Go.Proofs Go.Am
set_option maxRecDepth 10000
def Tab.hand (t:Tab) (k:Nat):Int:=if 0≤(t.btw (2 * (k+1)) (2 * k+1)).1 then 2 else if (t.btw (2 * (k+1)) (2 * k+1)).2 < 0 then 0 else 1
theorem f57 (t:Tab) (ht:t.bnd) (k:Nat) (hk:k+1 < 5):Fn P0 57 [.fp (.agg (tabC t)),.fp (I k)] (I (t.hand k)):=by
  have e1:((k:Int)+1)=((k+1:Nat):Int):=by omega
  refine PFun.of (C:=c57) (cx_ok _ _ _) rfl (fn:=Try.f57) (by kernel_rfl) (c:=_) rfl rfl rfl ?_
  refine Run.seq (Run.region (cx_ok _ _ _) (Reg.op rfl (Ope.asg rfl ?_)))
  refine Reg.nil (Run.seq (Run.drawL (cx_ok _ _ _) [[(0,true),(1,true),(2,true),(4,false),(3,true),(5,true),(6,true),(7,true),(8,true)],[(0,true),(1,true),(2,true),(4,false),(3,true),(5,true),(7,true),(6,true),(8,true)],[(0,true),(1,true),(2,true),(4,false),(3,true),(7,true),(5,true),(6,true),(8,true)],[(0,true),(1,false),(2,true),(4,false),(7,true),(3,true),(5,true),(6,true),(8,true)]] (by kernel_rfl) ⟨?_,?_,?_,?_,trivial⟩))
  ·refine Dra.op' rfl rfl rfl .sure (Ope.mov rfl ?_)
   refine Dra.op' rfl rfl rfl .sure (Ope.load rfl rfl ?_)
   refine Dra.op' rfl rfl rfl .sure (Ope.add rfl rfl (by omega) ?_)
   rw [e1]
   refine Dra.op' rfl rfl rfl (.load rfl) (Ope.load rfl rfl ?_)
   refine Dra.op' rfl rfl rfl .sure (Ope.cf rfl rfl (f48n (k+1) (by omega)) rfl ?_)
   refine Dra.op' rfl rfl rfl .sure (Ope.cf rfl rfl (f52n k (by omega)) rfl ?_)
   refine Dra.op' rfl rfl rfl .sure (Ope.cf rfl rfl (f54 t (2 * (k+1)) (2 * k+1) (by omega) (by omega) (ht _ _ (by omega) (by omega))) rfl ?_)
   refine Dra.op' rfl rfl rfl .sure (Ope.newL rfl ?_)
   refine Dra.op' rfl rfl rfl .sure (Ope.store rfl rfl rfl rfl rfl rfl ?_)
   refine Dra.nil (Run.seq (Run.block (Run.seq (Run.region (cx_ok _ _ _) (Reg.op rfl (Ope.fld rfl rfl ?_))))))
   refine Reg.op rfl (Ope.load rfl rfl ?_)
   refine Reg.op rfl (Ope.ge rfl rfl ?_)
   refine Reg.op rfl (Ope.asg rfl ?_)
   refine Reg.nil (Run.condX rfl (fun hc=>?_) fun hc=>?_)
   ·refine Run.seq (Run.region (cx_ok _ _ _) (Reg.op rfl (Ope.asg rfl ?_)))
    refine Reg.nil (Run.ret (Jmp.retB (Jmp.code (fin_ret (.tmp rfl .nil) rfl ?_))))
    first
    | (show I 2=I (t.hand k);unfold Tab.hand;rw [if_pos (by omega)])
    | (show I 0=I (t.hand k);unfold Tab.hand;rw [if_neg (by omega),if_pos (by omega)])
    | (show I 1=I (t.hand k);unfold Tab.hand;rw [if_neg (by omega),if_neg (by omega)])
   ·refine Run.seq (Run.region (cx_ok _ _ _) (Reg.op rfl (Ope.fld rfl rfl ?_)))
    refine Reg.op rfl (Ope.load rfl rfl ?_)
    refine Reg.op rfl (Ope.lt rfl rfl ?_)
    refine Reg.op rfl (Ope.asg rfl ?_)
    refine Reg.nil (Run.condX rfl (fun hc=>?_) fun hc=>?_)
    ·refine Run.seq (Run.region (cx_ok _ _ _) (Reg.op rfl (Ope.asg rfl ?_)))
     refine Reg.nil (Run.ret (Jmp.retB (Jmp.code (fin_ret (.tmp rfl .nil) rfl ?_))))
     first
     | (show I 2=I (t.hand k);unfold Tab.hand;rw [if_pos (by omega)])
     | (show I 0=I (t.hand k);unfold Tab.hand;rw [if_neg (by omega),if_pos (by omega)])
     | (show I 1=I (t.hand k);unfold Tab.hand;rw [if_neg (by omega),if_neg (by omega)])
    ·refine Run.skip (Run.bend (Run.seq (Run.region (cx_ok _ _ _) (Reg.op rfl (Ope.asg rfl ?_)))))
     refine Reg.nil (Run.ret (fin_ret (.tmp rfl .nil) rfl ?_))
     first
     | (show I 2=I (t.hand k);unfold Tab.hand;rw [if_pos (by omega)])
     | (show I 0=I (t.hand k);unfold Tab.hand;rw [if_neg (by omega),if_pos (by omega)])
     | (show I 1=I (t.hand k);unfold Tab.hand;rw [if_neg (by omega),if_neg (by omega)])
  ·refine Dra.op' rfl rfl rfl .sure (Ope.mov rfl ?_)
   refine Dra.op' rfl rfl rfl .sure (Ope.load rfl rfl ?_)
   refine Dra.op' rfl rfl rfl .sure (Ope.add rfl rfl (by omega) ?_)
   rw [e1]
   refine Dra.op' rfl rfl rfl (.load rfl) (Ope.load rfl rfl ?_)
   refine Dra.op' rfl rfl rfl .sure (Ope.cf rfl rfl (f48n (k+1) (by omega)) rfl ?_)
   refine Dra.op' rfl rfl rfl .sure (Ope.cf rfl rfl (f52n k (by omega)) rfl ?_)
   refine Dra.op' rfl rfl rfl .sure (Ope.newL rfl ?_)
   refine Dra.op' rfl rfl rfl .sure (Ope.cf rfl rfl (f54 t (2 * (k+1)) (2 * k+1) (by omega) (by omega) (ht _ _ (by omega) (by omega))) rfl ?_)
   refine Dra.op' rfl rfl rfl .sure (Ope.store rfl rfl rfl rfl rfl rfl ?_)
   refine Dra.nil (Run.seq (Run.block (Run.seq (Run.region (cx_ok _ _ _) (Reg.op rfl (Ope.fld rfl rfl ?_))))))
   refine Reg.op rfl (Ope.load rfl rfl ?_)
   refine Reg.op rfl (Ope.ge rfl rfl ?_)
   refine Reg.op rfl (Ope.asg rfl ?_)
   refine Reg.nil (Run.condX rfl (fun hc=>?_) fun hc=>?_)
   ·refine Run.seq (Run.region (cx_ok _ _ _) (Reg.op rfl (Ope.asg rfl ?_)))
    refine Reg.nil (Run.ret (Jmp.retB (Jmp.code (fin_ret (.tmp rfl .nil) rfl ?_))))
    first
    | (show I 2=I (t.hand k);unfold Tab.hand;rw [if_pos (by omega)])
    | (show I 0=I (t.hand k);unfold Tab.hand;rw [if_neg (by omega),if_pos (by omega)])
    | (show I 1=I (t.hand k);unfold Tab.hand;rw [if_neg (by omega),if_neg (by omega)])
   ·refine Run.seq (Run.region (cx_ok _ _ _) (Reg.op rfl (Ope.fld rfl rfl ?_)))
    refine Reg.op rfl (Ope.load rfl rfl ?_)
    refine Reg.op rfl (Ope.lt rfl rfl ?_)
    refine Reg.op rfl (Ope.asg rfl ?_)
    refine Reg.nil (Run.condX rfl (fun hc=>?_) fun hc=>?_)
    ·refine Run.seq (Run.region (cx_ok _ _ _) (Reg.op rfl (Ope.asg rfl ?_)))
     refine Reg.nil (Run.ret (Jmp.retB (Jmp.code (fin_ret (.tmp rfl .nil) rfl ?_))))
     first
     | (show I 2=I (t.hand k);unfold Tab.hand;rw [if_pos (by omega)])
     | (show I 0=I (t.hand k);unfold Tab.hand;rw [if_neg (by omega),if_pos (by omega)])
     | (show I 1=I (t.hand k);unfold Tab.hand;rw [if_neg (by omega),if_neg (by omega)])
    ·refine Run.skip (Run.bend (Run.seq (Run.region (cx_ok _ _ _) (Reg.op rfl (Ope.asg rfl ?_)))))
     refine Reg.nil (Run.ret (fin_ret (.tmp rfl .nil) rfl ?_))
     first
     | (show I 2=I (t.hand k);unfold Tab.hand;rw [if_pos (by omega)])
     | (show I 0=I (t.hand k);unfold Tab.hand;rw [if_neg (by omega),if_pos (by omega)])
     | (show I 1=I (t.hand k);unfold Tab.hand;rw [if_neg (by omega),if_neg (by omega)])
  ·refine Dra.op' rfl rfl rfl .sure (Ope.mov rfl ?_)
   refine Dra.op' rfl rfl rfl .sure (Ope.load rfl rfl ?_)
   refine Dra.op' rfl rfl rfl .sure (Ope.add rfl rfl (by omega) ?_)
   rw [e1]
   refine Dra.op' rfl rfl rfl (.load rfl) (Ope.load rfl rfl ?_)
   refine Dra.op' rfl rfl rfl .sure (Ope.cf rfl rfl (f48n (k+1) (by omega)) rfl ?_)
   refine Dra.op' rfl rfl rfl .sure (Ope.newL rfl ?_)
   refine Dra.op' rfl rfl rfl .sure (Ope.cf rfl rfl (f52n k (by omega)) rfl ?_)
   refine Dra.op' rfl rfl rfl .sure (Ope.cf rfl rfl (f54 t (2 * (k+1)) (2 * k+1) (by omega) (by omega) (ht _ _ (by omega) (by omega))) rfl ?_)
   refine Dra.op' rfl rfl rfl .sure (Ope.store rfl rfl rfl rfl rfl rfl ?_)
   refine Dra.nil (Run.seq (Run.block (Run.seq (Run.region (cx_ok _ _ _) (Reg.op rfl (Ope.fld rfl rfl ?_))))))
   refine Reg.op rfl (Ope.load rfl rfl ?_)
   refine Reg.op rfl (Ope.ge rfl rfl ?_)
   refine Reg.op rfl (Ope.asg rfl ?_)
   refine Reg.nil (Run.condX rfl (fun hc=>?_) fun hc=>?_)
   ·refine Run.seq (Run.region (cx_ok _ _ _) (Reg.op rfl (Ope.asg rfl ?_)))
    refine Reg.nil (Run.ret (Jmp.retB (Jmp.code (fin_ret (.tmp rfl .nil) rfl ?_))))
    first
    | (show I 2=I (t.hand k);unfold Tab.hand;rw [if_pos (by omega)])
    | (show I 0=I (t.hand k);unfold Tab.hand;rw [if_neg (by omega),if_pos (by omega)])
    | (show I 1=I (t.hand k);unfold Tab.hand;rw [if_neg (by omega),if_neg (by omega)])
   ·refine Run.seq (Run.region (cx_ok _ _ _) (Reg.op rfl (Ope.fld rfl rfl ?_)))
    refine Reg.op rfl (Ope.load rfl rfl ?_)
    refine Reg.op rfl (Ope.lt rfl rfl ?_)
    refine Reg.op rfl (Ope.asg rfl ?_)
    refine Reg.nil (Run.condX rfl (fun hc=>?_) fun hc=>?_)
    ·refine Run.seq (Run.region (cx_ok _ _ _) (Reg.op rfl (Ope.asg rfl ?_)))
     refine Reg.nil (Run.ret (Jmp.retB (Jmp.code (fin_ret (.tmp rfl .nil) rfl ?_))))
     first
     | (show I 2=I (t.hand k);unfold Tab.hand;rw [if_pos (by omega)])
     | (show I 0=I (t.hand k);unfold Tab.hand;rw [if_neg (by omega),if_pos (by omega)])
     | (show I 1=I (t.hand k);unfold Tab.hand;rw [if_neg (by omega),if_neg (by omega)])
    ·refine Run.skip (Run.bend (Run.seq (Run.region (cx_ok _ _ _) (Reg.op rfl (Ope.asg rfl ?_)))))
     refine Reg.nil (Run.ret (fin_ret (.tmp rfl .nil) rfl ?_))
     first
     | (show I 2=I (t.hand k);unfold Tab.hand;rw [if_pos (by omega)])
     | (show I 0=I (t.hand k);unfold Tab.hand;rw [if_neg (by omega),if_pos (by omega)])
     | (show I 1=I (t.hand k);unfold Tab.hand;rw [if_neg (by omega),if_neg (by omega)])
  ·refine Dra.op' rfl rfl rfl .sure (Ope.mov rfl ?_)
   refine Dra.op' rfl rfl rfl (.load rfl) (Ope.load rfl rfl ?_)
   refine Dra.op' rfl rfl rfl .sure (Ope.add rfl rfl (by omega) ?_)
   rw [e1]
   refine Dra.op' rfl rfl rfl (.load rfl) (Ope.load rfl rfl ?_)
   refine Dra.op' rfl rfl rfl .sure (Ope.newL rfl ?_)
   refine Dra.op' rfl rfl rfl .sure (Ope.cf rfl rfl (f48n (k+1) (by omega)) rfl ?_)
   refine Dra.op' rfl rfl rfl .sure (Ope.cf rfl rfl (f52n k (by omega)) rfl ?_)
   refine Dra.op' rfl rfl rfl .sure (Ope.cf rfl rfl (f54 t (2 * (k+1)) (2 * k+1) (by omega) (by omega) (ht _ _ (by omega) (by omega))) rfl ?_)
   refine Dra.op' rfl rfl rfl .sure (Ope.store rfl rfl rfl rfl rfl rfl ?_)
   refine Dra.nil (Run.seq (Run.block (Run.seq (Run.region (cx_ok _ _ _) (Reg.op rfl (Ope.fld rfl rfl ?_))))))
   refine Reg.op rfl (Ope.load rfl rfl ?_)
   refine Reg.op rfl (Ope.ge rfl rfl ?_)
   refine Reg.op rfl (Ope.asg rfl ?_)
   refine Reg.nil (Run.condX rfl (fun hc=>?_) fun hc=>?_)
   ·refine Run.seq (Run.region (cx_ok _ _ _) (Reg.op rfl (Ope.asg rfl ?_)))
    refine Reg.nil (Run.ret (Jmp.retB (Jmp.code (fin_ret (.tmp rfl .nil) rfl ?_))))
    first
    | (show I 2=I (t.hand k);unfold Tab.hand;rw [if_pos (by omega)])
    | (show I 0=I (t.hand k);unfold Tab.hand;rw [if_neg (by omega),if_pos (by omega)])
    | (show I 1=I (t.hand k);unfold Tab.hand;rw [if_neg (by omega),if_neg (by omega)])
   ·refine Run.seq (Run.region (cx_ok _ _ _) (Reg.op rfl (Ope.fld rfl rfl ?_)))
    refine Reg.op rfl (Ope.load rfl rfl ?_)
    refine Reg.op rfl (Ope.lt rfl rfl ?_)
    refine Reg.op rfl (Ope.asg rfl ?_)
    refine Reg.nil (Run.condX rfl (fun hc=>?_) fun hc=>?_)
    ·refine Run.seq (Run.region (cx_ok _ _ _) (Reg.op rfl (Ope.asg rfl ?_)))
     refine Reg.nil (Run.ret (Jmp.retB (Jmp.code (fin_ret (.tmp rfl .nil) rfl ?_))))
     first
     | (show I 2=I (t.hand k);unfold Tab.hand;rw [if_pos (by omega)])
     | (show I 0=I (t.hand k);unfold Tab.hand;rw [if_neg (by omega),if_pos (by omega)])
     | (show I 1=I (t.hand k);unfold Tab.hand;rw [if_neg (by omega),if_neg (by omega)])
    ·refine Run.skip (Run.bend (Run.seq (Run.region (cx_ok _ _ _) (Reg.op rfl (Ope.asg rfl ?_)))))
     refine Reg.nil (Run.ret (fin_ret (.tmp rfl .nil) rfl ?_))
     first
     | (show I 2=I (t.hand k);unfold Tab.hand;rw [if_pos (by omega)])
     | (show I 0=I (t.hand k);unfold Tab.hand;rw [if_neg (by omega),if_pos (by omega)])
     | (show I 1=I (t.hand k);unfold Tab.hand;rw [if_neg (by omega),if_neg (by omega)])
theorem f139 (a b m:Int) (q E:Nat) (hE:E < 2 ^ 62) (hq:q < 40):Fn P0 139 [.agg [I a,I b,I m,I q],I E] (I (if ((E >>> q &&& 1:Nat):Int)=0 then 600 else m)):=by
  have hEq:E >>> q < 2 ^ 62:=Nat.lt_of_le_of_lt (Nat.shiftRight_le _ _) hE
  refine PFun.of (C:=c139) (cx_ok _ _ _) rfl (fn:=Try.f139) (by kernel_rfl) (c:=_) rfl rfl rfl ?_
  refine Run.seq (Run.region (cx_ok _ _ _) (Reg.op rfl (Ope.boxF rfl rfl ?_)))
  refine Reg.op rfl (Ope.asg rfl ?_)
  refine Reg.nil (Run.seq (Run.seq (Run.region (cx_ok _ _ _) (Reg.op rfl (Ope.mov rfl ?_)))))
  refine Reg.op rfl (Ope.fld rfl rfl ?_)
  refine Reg.op rfl (Ope.load rfl rfl ?_)
  refine Reg.op rfl (Ope.shrN (p:=E) (m:=q) rfl rfl rfl rfl (by show q≤64;omega) ?_)
  refine Reg.op rfl (Ope.andN (p:=E >>> q) (q:=1) rfl rfl rfl rfl (by show _ < 2 ^ 64;omega) (by decide) ?_)
  refine Reg.op rfl (Ope.eq rfl rfl ?_)
  refine Reg.nil (Run.condX rfl (fun hc=>?_) fun hc=>?_)
  ·refine Run.seq (Run.region (cx_ok _ _ _) (Reg.op rfl (Ope.asg rfl ?_)))
   refine Reg.nil (Run.ret (Jmp.code (fin_ret (.tmp rfl .nil) rfl ?_)))
   first
   | (rw [if_pos hc];rfl)
   | (rw [if_neg hc];rfl)
  ·refine Run.skip (Run.seq (Run.region (cx_ok _ _ _) (Reg.op rfl (Ope.fld rfl rfl ?_))))
   refine Reg.op rfl (Ope.fld rfl rfl ?_)
   refine Reg.op rfl (Ope.load rfl rfl ?_)
   refine Reg.op rfl (Ope.asg rfl ?_)
   refine Reg.nil (Run.ret (fin_ret (.tmp rfl .nil) rfl ?_))
   first
   | (rw [if_pos hc];rfl)
   | (rw [if_neg hc];rfl)
theorem f34 (a b:Int):Fn P0 34 [I a,I b] (.agg [I a,I b]):=by
  refine PFun.of (C:=c34) (cx_ok _ _ _) rfl (fn:=Try.f34) (by kernel_rfl) (c:=_) rfl rfl rfl ?_
  refine Run.seq (Run.region (cx_ok _ _ _) (Reg.op rfl (Ope.newL rfl ?_)))
  refine Reg.nil (Run.seq (Run.region (cx_ok _ _ _) (Reg.op rfl (Ope.mov rfl ?_))))
  refine Reg.op rfl (Ope.mov rfl ?_)
  refine Reg.op rfl (Ope.bld rfl rfl ?_)
  refine Reg.op0 (Ope.store rfl rfl rfl rfl rfl rfl ?_)
  exact Reg.nil (Run.ret (fin_ret (.cell rfl rfl .nil) rfl rfl))
end Go.Pv
namespace Go.Pv
open Go.Proofs Go.Am
set_option maxRecDepth 10000
theorem d105n {n:Nat} {l:HL} {K:PH→Prop} (hK:K (HE n l)):PDefer A0 P0 105 [.ptr 0 0] (.lit .nilifc) (HE n l) K:=by
  refine PDefer.of (C:=c105) (fd:=Try.f105) (by kernel_rfl) rfl rfl rfl rfl rfl rfl rfl rfl rfl rfl ?_
  refine Run.block (Run.seq (Run.region (cx_ok _ _ _) ?_))
  first | refine Reg.op rfl (Ope.eq rfl rfl ?_) | refine Reg.op rfl (Ope.eqI rfl rfl ?_) | refine Reg.op rfl (Ope.eqN rfl rfl rfl ?_)
  refine Reg.nil (Run.condX rfl (fun hc=>?_) fun hc=>?_)
  ·first
   |exact absurd hc (by decide)
   |refine Run.region (cx_ok _ _ _) (Reg.op rfl (Ope.asg rfl ?_))
    exact Reg.nil (Run.bend (Run.done ⟨.inl rfl,trivial,hK⟩))
  ·first
   |exact absurd hc (by decide)
   |refine Run.seq (Run.region (cx_ok _ _ _) ?_)
    first | refine Reg.op rfl (Ope.tasY rfl rfl ?_) | refine Reg.op rfl (Ope.tasN rfl rfl ?_)
    refine Reg.op rfl (Ope.ext rfl rfl ?_)
    refine Reg.op rfl (Ope.ext rfl rfl ?_)
    refine Reg.nil (Run.condX rfl (fun hc=>?_) fun hc=>?_)
    ·first
     |exact absurd hc (by decide)
     |refine Run.seq (Run.region (cx_ok _ _ _) (Reg.op rfl (Ope.asg rfl ?_)))
      refine Reg.nil (Run.region (cx_ok _ _ _) (Reg.op rfl (Ope.mov rfl ?_)))
      refine Reg.op0 (Ope.store rfl rfl rfl rfl rfl rfl ?_)
      exact Reg.nil (Run.bend (Run.done ⟨.inl rfl,trivial,hK⟩))
    ·first
     |exact absurd hc (by decide)
     |refine Run.seq (Run.region (cx_ok _ _ _) (Reg.op rfl (Ope.asg rfl ?_)))
      refine Reg.nil (Run.region (cx_ok _ _ _) (Reg.op0 (Ope.store rfl rfl rfl rfl rfl rfl ?_)))
      exact Reg.nil (Run.bend (Run.done ⟨.inl rfl,trivial,hK⟩))
theorem d105e {n:Nat} {l:HL} {K:PH→Prop} {k z:Int} (hz:hget l 0=some (.cells [I z])) (hK:K (HE n ((0,some (.cells [I k]))::l))):PDefer A0 P0 105 [.ptr 0 0] (.ifc 29 (I k)) (HE n l) K:=by
  refine PDefer.of (C:=c105) (fd:=Try.f105) (by kernel_rfl) rfl rfl rfl rfl rfl rfl rfl rfl rfl rfl ?_
  refine Run.block (Run.seq (Run.region (cx_ok _ _ _) ?_))
  first | refine Reg.op rfl (Ope.eq rfl rfl ?_) | refine Reg.op rfl (Ope.eqI rfl rfl ?_) | refine Reg.op rfl (Ope.eqN rfl rfl rfl ?_)
  refine Reg.nil (Run.condX rfl (fun hc=>?_) fun hc=>?_)
  ·first
   |exact absurd hc (by decide)
   |refine Run.region (cx_ok _ _ _) (Reg.op rfl (Ope.asg rfl ?_))
    exact Reg.nil (Run.bend (Run.done ⟨.inl rfl,trivial,hK⟩))
  ·first
   |exact absurd hc (by decide)
   |refine Run.seq (Run.region (cx_ok _ _ _) ?_)
    first | refine Reg.op rfl (Ope.tasY rfl rfl ?_) | refine Reg.op rfl (Ope.tasN rfl rfl ?_)
    refine Reg.op rfl (Ope.ext rfl rfl ?_)
    refine Reg.op rfl (Ope.ext rfl rfl ?_)
    refine Reg.nil (Run.condX rfl (fun hc=>?_) fun hc=>?_)
    ·first
     |exact absurd hc (by decide)
     |refine Run.seq (Run.region (cx_ok _ _ _) (Reg.op rfl (Ope.asg rfl ?_)))
      refine Reg.nil (Run.region (cx_ok _ _ _) (Reg.op rfl (Ope.mov rfl ?_)))
      refine Reg.op0 (Ope.store rfl rfl hz rfl rfl rfl ?_)
      exact Reg.nil (Run.bend (Run.done ⟨.inl rfl,trivial,hK⟩))
    ·first
     |exact absurd hc (by decide)
     |refine Run.seq (Run.region (cx_ok _ _ _) (Reg.op rfl (Ope.asg rfl ?_)))
      refine Reg.nil (Run.region (cx_ok _ _ _) (Reg.op0 (Ope.store rfl rfl rfl rfl rfl rfl ?_)))
      exact Reg.nil (Run.bend (Run.done ⟨.inl rfl,trivial,hK⟩))
theorem f91ok {fa:Nat} {caps:List PV} {a:Int} (hf:Fn P0 fa caps (I a)) (hb:PV.bds 0 caps=true):Fn P0 91 [.fn (.func fa) [] caps] (.tup [I a,I 0]):=by
  unfold Fn PFun
  show PCall P0 91 _ (HE 0 []) _ _
  refine PCall.ofT (C:=c91) (cx_ok _ _ _) (fn:=Try.f91) (by kernel_rfl) (c:=_) rfl rfl ?_
  refine Til.seq rfl rfl ?_
  refine Run.region (cx_ok _ _ _) ?_
  refine Reg.op rfl (Ope.asg rfl ?_)
  refine Reg.op rfl (Ope.newL rfl ?_)
  refine Reg.nil ?_
  refine Run.done ⟨rfl,rfl,?_⟩
  refine Til.defer2 (cx_ok _ _ _) rfl rfl (by kernel_rfl) 2 [(2,I 0),(3,.ptr 0 0)] rfl rfl rfl rfl rfl rfl rfl rfl (Ope.mkf rfl rfl ⟨rfl,rfl⟩) rfl rfl ⟨rfl,rfl,trivial⟩ ?_
  refine RegP.op rfl (Ope.mov rfl ?_)
  refine RegP.op rfl (Ope.cf rfl rfl (by simpa using hf) (by simpa using hb) ?_)
  refine RegP.nil ?_
  refine Reg.op rfl (Ope.asg rfl ?_)
  refine Reg.op0 (Ope.store rfl rfl rfl rfl rfl rfl ?_)
  refine Reg.nil ?_
  refine Run.done ⟨rfl,trivial,d105n ?_⟩
  exact ResE.ofF (.tmp rfl (.cell rfl rfl .nil)) rfl rfl
theorem f91er {fa:Nat} {caps:List PV} {k:Int} (hf:Pan P0 fa caps (.ifc 29 (I k))) (hb:PV.bds 0 caps=true):Fn P0 91 [.fn (.func fa) [] caps] (.tup [I 0,I k]):=by
  unfold Fn PFun
  show PCall P0 91 _ (HE 0 []) _ _
  refine PCall.ofT (C:=c91) (cx_ok _ _ _) (fn:=Try.f91) (by kernel_rfl) (c:=_) rfl rfl ?_
  refine Til.seq rfl rfl ?_
  refine Run.region (cx_ok _ _ _) ?_
  refine Reg.op rfl (Ope.asg rfl ?_)
  refine Reg.op rfl (Ope.newL rfl ?_)
  refine Reg.nil ?_
  refine Run.done ⟨rfl,rfl,?_⟩
  refine Til.defer2 (cx_ok _ _ _) rfl rfl (by kernel_rfl) 2 [(2,I 0),(3,.ptr 0 0)] rfl rfl rfl rfl rfl rfl rfl rfl (Ope.mkf rfl rfl ⟨rfl,rfl⟩) rfl rfl ⟨rfl,rfl,trivial⟩ ?_
  refine RegP.op rfl (Ope.mov rfl ?_)
  refine RegP.op rfl (Ope.cp rfl rfl (by simpa using hf) (by simpa using hb) ⟨trivial,d105e rfl ?_⟩)
  exact ResE.ofF (.tmp rfl (.cell rfl rfl .nil)) rfl rfl
theorem d99n {n:Nat} {l:HL} {K:PH→Prop} (hK:K (HE n l)):PDefer A0 P0 99 [.ptr 1 0] (.lit .nilifc) (HE n l) K:=by
  refine PDefer.of (C:=c99) (fd:=Try.f99) (by kernel_rfl) rfl rfl rfl rfl rfl rfl rfl rfl rfl rfl ?_
  refine Run.block (Run.seq (Run.region (cx_ok _ _ _) ?_))
  first | refine Reg.op rfl (Ope.eq rfl rfl ?_) | refine Reg.op rfl (Ope.eqI rfl rfl ?_) | refine Reg.op rfl (Ope.eqN rfl rfl rfl ?_)
  refine Reg.nil (Run.condX rfl (fun hc=>?_) fun hc=>?_)
  ·first
   |exact absurd hc (by decide)
   |refine Run.region (cx_ok _ _ _) (Reg.op rfl (Ope.asg rfl ?_))
    exact Reg.nil (Run.bend (Run.done ⟨.inl rfl,trivial,hK⟩))
  ·first
   |exact absurd hc (by decide)
   |refine Run.seq (Run.region (cx_ok _ _ _) ?_)
    first | refine Reg.op rfl (Ope.tasY rfl rfl ?_) | refine Reg.op rfl (Ope.tasN rfl rfl ?_)
    refine Reg.op rfl (Ope.ext rfl rfl ?_)
    refine Reg.op rfl (Ope.ext rfl rfl ?_)
    refine Reg.nil (Run.condX rfl (fun hc=>?_) fun hc=>?_)
    ·first
     |exact absurd hc (by decide)
     |refine Run.seq (Run.region (cx_ok _ _ _) (Reg.op rfl (Ope.asg rfl ?_)))
      refine Reg.nil (Run.region (cx_ok _ _ _) (Reg.op rfl (Ope.mov rfl ?_)))
      refine Reg.op0 (Ope.store rfl rfl rfl rfl rfl rfl ?_)
      exact Reg.nil (Run.bend (Run.done ⟨.inl rfl,trivial,hK⟩))
    ·first
     |exact absurd hc (by decide)
     |refine Run.seq (Run.region (cx_ok _ _ _) (Reg.op rfl (Ope.asg rfl ?_)))
      refine Reg.nil (Run.region (cx_ok _ _ _) (Reg.op0 (Ope.store rfl rfl rfl rfl rfl rfl ?_)))
      exact Reg.nil (Run.bend (Run.done ⟨.inl rfl,trivial,hK⟩))
theorem d99e {n:Nat} {l:HL} {K:PH→Prop} {k z:Int} (hz:hget l 1=some (.cells [I z])) (hK:K (HE n ((1,some (.cells [I k]))::l))):PDefer A0 P0 99 [.ptr 1 0] (.ifc 29 (I k)) (HE n l) K:=by
  refine PDefer.of (C:=c99) (fd:=Try.f99) (by kernel_rfl) rfl rfl rfl rfl rfl rfl rfl rfl rfl rfl ?_
  refine Run.block (Run.seq (Run.region (cx_ok _ _ _) ?_))
  first | refine Reg.op rfl (Ope.eq rfl rfl ?_) | refine Reg.op rfl (Ope.eqI rfl rfl ?_) | refine Reg.op rfl (Ope.eqN rfl rfl rfl ?_)
  refine Reg.nil (Run.condX rfl (fun hc=>?_) fun hc=>?_)
  ·first
   |exact absurd hc (by decide)
   |refine Run.region (cx_ok _ _ _) (Reg.op rfl (Ope.asg rfl ?_))
    exact Reg.nil (Run.bend (Run.done ⟨.inl rfl,trivial,hK⟩))
  ·first
   |exact absurd hc (by decide)
   |refine Run.seq (Run.region (cx_ok _ _ _) ?_)
    first | refine Reg.op rfl (Ope.tasY rfl rfl ?_) | refine Reg.op rfl (Ope.tasN rfl rfl ?_)
    refine Reg.op rfl (Ope.ext rfl rfl ?_)
    refine Reg.op rfl (Ope.ext rfl rfl ?_)
    refine Reg.nil (Run.condX rfl (fun hc=>?_) fun hc=>?_)
    ·first
     |exact absurd hc (by decide)
     |refine Run.seq (Run.region (cx_ok _ _ _) (Reg.op rfl (Ope.asg rfl ?_)))
      refine Reg.nil (Run.region (cx_ok _ _ _) (Reg.op rfl (Ope.mov rfl ?_)))
      refine Reg.op0 (Ope.store rfl rfl hz rfl rfl rfl ?_)
      exact Reg.nil (Run.bend (Run.done ⟨.inl rfl,trivial,hK⟩))
    ·first
     |exact absurd hc (by decide)
     |refine Run.seq (Run.region (cx_ok _ _ _) (Reg.op rfl (Ope.asg rfl ?_)))
      refine Reg.nil (Run.region (cx_ok _ _ _) (Reg.op0 (Ope.store rfl rfl rfl rfl rfl rfl ?_)))
      exact Reg.nil (Run.bend (Run.done ⟨.inl rfl,trivial,hK⟩))
theorem f80ok {fa:Nat} {caps:List PV} {a b:Int} (hf:Fn P0 fa caps (.agg [I a,I b])) (hb:PV.bds 0 caps=true):Fn P0 80 [.fn (.func fa) [] caps] (.tup [.agg [I a,I b],I 0]):=by
  unfold Fn PFun
  show PCall P0 80 _ (HE 0 []) _ _
  refine PCall.ofT (C:=c80) (cx_ok _ _ _) (fn:=Try.f80) (by kernel_rfl) (c:=_) rfl rfl ?_
  refine Til.seq rfl rfl ?_
  refine Run.region (cx_ok _ _ _) ?_
  refine Reg.op rfl (Ope.newL rfl ?_)
  refine Reg.op rfl (Ope.newL rfl ?_)
  refine Reg.nil ?_
  refine Run.done ⟨rfl,rfl,?_⟩
  refine Til.defer (cx_ok _ _ _) rfl rfl (by kernel_rfl) [(2,.ptr 0 0),(3,.ptr 1 0)] rfl rfl rfl rfl rfl rfl rfl rfl (Ope.mkf rfl rfl ⟨rfl,rfl⟩) rfl rfl ⟨rfl,rfl,trivial⟩ ?_
  refine Reg.op rfl (Ope.mov rfl ?_)
  refine Reg.op rfl (Ope.cf rfl rfl (by simpa using hf) (by simpa using hb) ?_)
  refine Reg.op0 (Ope.store rfl rfl rfl rfl rfl rfl ?_)
  refine Reg.op0 (Ope.store rfl rfl rfl rfl rfl rfl ?_)
  refine Reg.nil ?_
  refine Run.done ⟨rfl,trivial,d99n ?_⟩
  exact ResE.ofF (.cell rfl rfl (.cell rfl rfl .nil)) rfl rfl
theorem f80er {fa:Nat} {caps:List PV} {k:Int} (hf:Pan P0 fa caps (.ifc 29 (I k))) (hb:PV.bds 0 caps=true):Fn P0 80 [.fn (.func fa) [] caps] (.tup [.agg [I 0,I 0],I k]):=by
  unfold Fn PFun
  show PCall P0 80 _ (HE 0 []) _ _
  refine PCall.ofT (C:=c80) (cx_ok _ _ _) (fn:=Try.f80) (by kernel_rfl) (c:=_) rfl rfl ?_
  refine Til.seq rfl rfl ?_
  refine Run.region (cx_ok _ _ _) ?_
  refine Reg.op rfl (Ope.newL rfl ?_)
  refine Reg.op rfl (Ope.newL rfl ?_)
  refine Reg.nil ?_
  refine Run.done ⟨rfl,rfl,?_⟩
  refine Til.defer (cx_ok _ _ _) rfl rfl (by kernel_rfl) [(2,.ptr 0 0),(3,.ptr 1 0)] rfl rfl rfl rfl rfl rfl rfl rfl (Ope.mkf rfl rfl ⟨rfl,rfl⟩) rfl rfl ⟨rfl,rfl,trivial⟩ ?_
  refine Reg.op rfl (Ope.mov rfl ?_)
  refine Reg.op rfl (Ope.cp rfl rfl (by simpa using hf) (by simpa using hb) ⟨trivial,d99e rfl ?_⟩)
  exact ResE.ofF (.cell rfl rfl (.cell rfl rfl .nil)) rfl rfl
end Go.Pv
namespace Go.Pv
open Go.Proofs Go.Am
set_option maxRecDepth 10000
section
variable (rest:Int) (tl:Tail) (htl:tl.isOwn=false) (S:List Sti)
abbrev capT (c:Bool) (g:Nat) (cap:List PV):List PV:=[.fp (relV rest tl S),.fp (B c),.fp (.fn (.func g) [] cap)]
include htl in
theorem bd_ask (f g:Nat) (c:Bool) (cap:List PV) (hc:PV.bds 0 cap=true):PV.bds 0 [.fn (.func f) [] (capT rest tl S c g cap)]=true:=by
  simp only [PV.bds,PV.bd,bd_sl (f:=Sti.v) htl (fun _=>rfl) S,hc,Bool.and_true]
include htl in
theorem bd_told (g:Nat) (c:Bool) (cap:List PV) (hc:PV.bds 0 cap=true):PV.bds 0 [relV rest tl S,B c,.fn (.func g) [] cap]=true:=by
  simp only [PV.bds,PV.bd,bd_sl (f:=Sti.v) htl (fun _=>rfl) S,hc,Bool.and_true]
include htl in
theorem bd_is (k:Int):PV.bds 0 [relV rest tl S,I k]=true:=by
  simp only [PV.bds,PV.bd,bd_sl (f:=Sti.v) htl (fun _=>rfl) S,Bool.and_true]
include htl in
theorem f56 (c:Bool) (g:Nat) (cap:List PV) (hc:PV.bds 0 cap=true) (a e:Int) (hf:Fn P0 91 [.fn (.func 92) [] (capT rest tl S c g cap)] (.tup [I a,I e])):Fn P0 56 [relV rest tl S,B c,.fn (.func g) [] cap] (.tup [I a,I e]):=by
  have hb:=bd_ask rest tl htl S 92 g c cap hc
  refine PFun.of (C:=c56) (cx_ok _ _ _) rfl (fn:=Try.f56) (by kernel_rfl) (c:=_) rfl rfl rfl ?_
  refine Run.seq (Run.region (cx_ok _ _ _) (Reg.op rfl (Ope.boxF rfl rfl ?_)))
  refine Reg.op rfl (Ope.boxF rfl rfl ?_)
  refine Reg.op rfl (Ope.boxF rfl rfl ?_)
  refine Reg.op rfl (Ope.asg rfl ?_)
  refine Reg.op rfl (Ope.asg rfl ?_)
  refine Reg.nil (Run.seq (Run.region (cx_ok _ _ _) (Reg.op rfl (Ope.mkf rfl rfl ?_))))
  refine Reg.op rfl (Ope.cf rfl rfl hf hb ?_)
  refine Reg.op rfl (Ope.ext rfl rfl ?_)
  refine Reg.op rfl (Ope.ext rfl rfl ?_)
  refine Reg.op rfl (Ope.asg rfl ?_)
  refine Reg.op rfl (Ope.asg rfl ?_)
  exact Reg.nil (Run.ret (fin_ret (.tmp rfl (.tmp rfl .nil)) rfl rfl))
include htl in
theorem f44 (c:Bool) (g:Nat) (cap:List PV) (hc:PV.bds 0 cap=true) (a b e:Int) (hf:Fn P0 80 [.fn (.func 81) [] (capT rest tl S c g cap)] (.tup [.agg [I a,I b],I e])):Fn P0 44 [relV rest tl S,B c,.fn (.func g) [] cap] (.tup [.agg [I a,I b],I e]):=by
  have hb:=bd_ask rest tl htl S 81 g c cap hc
  refine PFun.of (C:=c44) (cx_ok _ _ _) rfl (fn:=Try.f44) (by kernel_rfl) (c:=_) rfl rfl rfl ?_
  refine Run.seq (Run.region (cx_ok _ _ _) (Reg.op rfl (Ope.boxF rfl rfl ?_)))
  refine Reg.op rfl (Ope.boxF rfl rfl ?_)
  refine Reg.op rfl (Ope.boxF rfl rfl ?_)
  refine Reg.op rfl (Ope.newL rfl ?_)
  refine Reg.op rfl (Ope.asg rfl ?_)
  refine Reg.nil (Run.seq (Run.region (cx_ok _ _ _) (Reg.op rfl (Ope.mkf rfl rfl ?_))))
  refine Reg.op rfl (Ope.cf rfl rfl hf hb ?_)
  refine Reg.op rfl (Ope.ext rfl rfl ?_)
  refine Reg.op rfl (Ope.ext rfl rfl ?_)
  refine Reg.op0 (Ope.store rfl rfl rfl rfl rfl rfl ?_)
  refine Reg.op rfl (Ope.asg rfl ?_)
  exact Reg.nil (Run.ret (fin_ret (.cell rfl rfl (.tmp rfl .nil)) rfl rfl))
include htl in
theorem bd_cap (a b:Int):PV.bds 0 [.fp (relV rest tl S),.fp (I a),.fp (I b)]=true:=by
  simp only [PV.bds,PV.bd,bd_sl (f:=Sti.v) htl (fun _=>rfl) S,Bool.and_true]
include htl in
theorem f24 (a b m e:Int) (hf:Fn P0 91 [.fn (.func 92) [] (capT rest tl S (minsOk a b) 65 [.fp (relV rest tl S),.fp (I a),.fp (I b)])] (.tup [I m,I e])):Fn P0 24 [relV rest tl S,I a,I b] (.tup [I m,I e]):=by
  have hb:=bd_told rest tl htl S 65 (minsOk a b) _ (bd_cap rest tl htl S a b)
  refine PFun.of (C:=c24) (cx_ok _ _ _) rfl (fn:=Try.f24) (by kernel_rfl) (c:=_) rfl rfl rfl ?_
  refine Run.seq (Run.region (cx_ok _ _ _) (Reg.op rfl (Ope.boxF rfl rfl ?_)))
  refine Reg.op rfl (Ope.boxF rfl rfl ?_)
  refine Reg.op rfl (Ope.boxF rfl rfl ?_)
  refine Reg.op rfl (Ope.asg rfl ?_)
  refine Reg.op rfl (Ope.asg rfl ?_)
  refine Reg.nil (Run.seq (Run.draw (cx_ok _ _ _) [(0,false),(1,true),(2,true),(4,true),(3,true),(5,true),(6,true),(7,true),(8,true),(9,true)] (by kernel_rfl) (Dra.op' rfl rfl rfl (.load rfl) (Ope.load rfl rfl ?_))))
  refine Dra.op' rfl rfl rfl .sure (Ope.load rfl rfl ?_)
  refine Dra.op' rfl rfl rfl .sure (Ope.load rfl rfl ?_)
  refine Dra.op' rfl rfl rfl .sure (Ope.mkf rfl rfl ?_)
  refine Dra.op' rfl rfl rfl .sure (Ope.cf rfl rfl (f58 a b) rfl ?_)
  refine Dra.op' rfl rfl rfl .sure (Ope.cf rfl rfl (f56 rest tl htl S _ _ _ (bd_cap rest tl htl S a b) m e hf) hb ?_)
  refine Dra.op' rfl rfl rfl .sure (Ope.ext rfl rfl ?_)
  refine Dra.op' rfl rfl rfl .sure (Ope.ext rfl rfl ?_)
  refine Dra.op' rfl rfl rfl .sure (Ope.asg rfl ?_)
  refine Dra.op' rfl rfl rfl .sure (Ope.asg rfl ?_)
  exact Dra.nil (Run.ret (fin_ret (.tmp rfl (.tmp rfl .nil)) rfl rfl))
include htl in
theorem f22 (a b m e:Int) (hf:Fn P0 91 [.fn (.func 92) [] (capT rest tl S (minsOk a b) 59 [.fp (relV rest tl S),.fp (I a),.fp (I b)])] (.tup [I m,I e])):Fn P0 22 [relV rest tl S,I a,I b] (.tup [I m,I e]):=by
  have hb:=bd_told rest tl htl S 59 (minsOk a b) _ (bd_cap rest tl htl S a b)
  refine PFun.of (C:=c22) (cx_ok _ _ _) rfl (fn:=Try.f22) (by kernel_rfl) (c:=_) rfl rfl rfl ?_
  refine Run.seq (Run.region (cx_ok _ _ _) (Reg.op rfl (Ope.boxF rfl rfl ?_)))
  refine Reg.op rfl (Ope.boxF rfl rfl ?_)
  refine Reg.op rfl (Ope.boxF rfl rfl ?_)
  refine Reg.op rfl (Ope.asg rfl ?_)
  refine Reg.op rfl (Ope.asg rfl ?_)
  refine Reg.nil (Run.seq (Run.draw (cx_ok _ _ _) [(0,false),(1,true),(2,true),(4,true),(3,true),(5,true),(6,true),(7,true),(8,true),(9,true)] (by kernel_rfl) (Dra.op' rfl rfl rfl (.load rfl) (Ope.load rfl rfl ?_))))
  refine Dra.op' rfl rfl rfl .sure (Ope.load rfl rfl ?_)
  refine Dra.op' rfl rfl rfl .sure (Ope.load rfl rfl ?_)
  refine Dra.op' rfl rfl rfl .sure (Ope.mkf rfl rfl ?_)
  refine Dra.op' rfl rfl rfl .sure (Ope.cf rfl rfl (f58 a b) rfl ?_)
  refine Dra.op' rfl rfl rfl .sure (Ope.cf rfl rfl (f56 rest tl htl S _ _ _ (bd_cap rest tl htl S a b) m e hf) hb ?_)
  refine Dra.op' rfl rfl rfl .sure (Ope.ext rfl rfl ?_)
  refine Dra.op' rfl rfl rfl .sure (Ope.ext rfl rfl ?_)
  refine Dra.op' rfl rfl rfl .sure (Ope.asg rfl ?_)
  refine Dra.op' rfl rfl rfl .sure (Ope.asg rfl ?_)
  exact Dra.nil (Run.ret (fin_ret (.tmp rfl (.tmp rfl .nil)) rfl rfl))
include htl in
theorem f18 (hS:S.length≤1000000) (k a b e:Int) (hf:Fn P0 80 [.fn (.func 81) [] (capT rest tl S (decide (0≤k) && decide (k < S.length)) 53 [.fp (I k)])] (.tup [.agg [I a,I b],I e])):Fn P0 18 [relV rest tl S,I k] (.tup [.agg [I a,I b],I e]):=by
  have hb:=bd_told rest tl htl S 53 (decide (0≤k) && decide (k < S.length)) [.fp (I k)] rfl
  refine PFun.of (C:=c18) (cx_ok _ _ _) rfl (fn:=Try.f18) (by kernel_rfl) (c:=_) rfl rfl rfl ?_
  refine Run.seq (Run.region (cx_ok _ _ _) (Reg.op rfl (Ope.boxF rfl rfl ?_)))
  refine Reg.op rfl (Ope.boxF rfl rfl ?_)
  refine Reg.op rfl (Ope.newL rfl ?_)
  refine Reg.op rfl (Ope.asg rfl ?_)
  refine Reg.nil (Run.seq (Run.draw (cx_ok _ _ _) [(0,false),(1,true),(2,true),(4,true),(3,true),(5,true),(6,true),(7,true),(8,true),(9,true)] (by kernel_rfl) (Dra.op' rfl rfl rfl (.load rfl) (Ope.load rfl rfl ?_))))
  refine Dra.op' rfl rfl rfl .sure (Ope.load rfl rfl ?_)
  refine Dra.op' rfl rfl rfl .sure (Ope.load rfl rfl ?_)
  refine Dra.op' rfl rfl rfl .sure (Ope.mkf rfl rfl ?_)
  refine Dra.op' rfl rfl rfl .sure (Ope.cf rfl rfl (f45 rest tl S hS k) (bd_is rest tl htl S k) ?_)
  refine Dra.op' rfl rfl rfl .sure (Ope.cf rfl rfl (f44 rest tl htl S _ _ _ rfl a b e hf) hb ?_)
  refine Dra.op' rfl rfl rfl .sure (Ope.ext rfl rfl ?_)
  refine Dra.op' rfl rfl rfl .sure (Ope.ext rfl rfl ?_)
  refine Dra.op' rfl rfl rfl .sure (Ope.store rfl rfl rfl rfl rfl rfl ?_)
  refine Dra.op' rfl rfl rfl .sure (Ope.asg rfl ?_)
  exact Dra.nil (Run.ret (fin_ret (.cell rfl rfl (.tmp rfl .nil)) rfl rfl))
include htl in
theorem f16 (hS:S.length≤1000000) (k a b e:Int) (hf:Fn P0 80 [.fn (.func 81) [] (capT rest tl S (decide (0≤k) && decide (k < S.length)) 51 [.fp (I k)])] (.tup [.agg [I a,I b],I e])):Fn P0 16 [relV rest tl S,I k] (.tup [.agg [I a,I b],I e]):=by
  have hb:=bd_told rest tl htl S 51 (decide (0≤k) && decide (k < S.length)) [.fp (I k)] rfl
  refine PFun.of (C:=c16) (cx_ok _ _ _) rfl (fn:=Try.f16) (by kernel_rfl) (c:=_) rfl rfl rfl ?_
  refine Run.seq (Run.region (cx_ok _ _ _) (Reg.op rfl (Ope.boxF rfl rfl ?_)))
  refine Reg.op rfl (Ope.boxF rfl rfl ?_)
  refine Reg.op rfl (Ope.newL rfl ?_)
  refine Reg.op rfl (Ope.asg rfl ?_)
  refine Reg.nil (Run.seq (Run.draw (cx_ok _ _ _) [(0,false),(1,true),(2,true),(4,true),(3,true),(5,true),(6,true),(7,true),(8,true),(9,true)] (by kernel_rfl) (Dra.op' rfl rfl rfl (.load rfl) (Ope.load rfl rfl ?_))))
  refine Dra.op' rfl rfl rfl .sure (Ope.load rfl rfl ?_)
  refine Dra.op' rfl rfl rfl .sure (Ope.load rfl rfl ?_)
  refine Dra.op' rfl rfl rfl .sure (Ope.mkf rfl rfl ?_)
  refine Dra.op' rfl rfl rfl .sure (Ope.cf rfl rfl (f45 rest tl S hS k) (bd_is rest tl htl S k) ?_)
  refine Dra.op' rfl rfl rfl .sure (Ope.cf rfl rfl (f44 rest tl htl S _ _ _ rfl a b e hf) hb ?_)
  refine Dra.op' rfl rfl rfl .sure (Ope.ext rfl rfl ?_)
  refine Dra.op' rfl rfl rfl .sure (Ope.ext rfl rfl ?_)
  refine Dra.op' rfl rfl rfl .sure (Ope.store rfl rfl rfl rfl rfl rfl ?_)
  refine Dra.op' rfl rfl rfl .sure (Ope.asg rfl ?_)
  exact Dra.nil (Run.ret (fin_ret (.cell rfl rfl (.tmp rfl .nil)) rfl rfl))
end
end Go.Pv
namespace Go.Pv
open Go.Am Go.RowKit
def KX (P:Program) (g:Nat) (args:List PV) (j:Nat) (M:PBlk) (R X:PV→Prop):Prop:=PCall P g args (HE (j+1) [(j,some M)]) (fun v h'=>h'=HE (j+1) [(j,some M)]∧R v) fun v h'=>h'=HE (j+1) [(j,some M)]∧X v
section
variable {n m j:Nat} {l:HL} {M:PBlk} {P:Program} {g:Nat} {args:List PV} {R X:PV→Prop}
theorem KX.mono {R' X':PV→Prop} (hc:KX P g args j M R X) (hR:∀ v,R v→R' v) (hX:∀ v,X v→X' v):KX P g args j M R' X' :=
 PCall.mono hc (fun _ _ q=>⟨q.1,hR _ q.2⟩) fun _ _ q=>⟨q.1,hX _ q.2⟩
theorem one_get {a:Option PBlk} {i:Nat} (h:i≠j):hget [(j,a)] i=none:=(hget_tl h).trans rfl
theorem HE_cutJ {a:Option PBlk} (h0:∀ i,i < j→hget l i=none) (h1:hget l j=a):(HE n l).cut (j+1)=HE (j+1) [(j,a)]:=by
 unfold PH.cut HE
 congr 1
 funext i
 by_cases hi:i < j
 ·rw [if_pos (by omega),one_get (by omega)];exact h0 i hi
 ·by_cases hj:i=j
  ·subst hj;rw [if_pos (by omega),hget_hd];exact h1
  ·rw [if_neg (by omega),one_get hj]
theorem okJ (hM:M.bd (j+1)):(HE (j+1) [(j,some M)]).Ok:=by
 intro i b hb
 by_cases hj:i=j
 ·subst hj
  have h2:some M=some b:=hget_hd.symm.trans hb
  cases h2
  exact ⟨by show i < i+1;omega,hM⟩
 ·have h2:(none:Option PBlk)=some b:=(one_get hj).symm.trans hb
  cases h2
theorem KX.call (hc:KX P g args j M R X) (hb:PV.bds (j+1) args=true) (hM:M.bd (j+1)) (h1:hget l j=some M) (ho:∀ i,i < j→∀ b,hget l i=some b→b.isOwn=false) (hn:j+1≤n) :
  PCall P g args (HE n l) (fun v h'=>h'=HE n l∧R v) fun v h'=>h'=HE n l∧X v:=by
 let O:Nat→Bool:=fun i=>decide (i < j) && (hget l i).isSome
 have hO:∀ i,O i=true→∃ b,(HE n l).get i=some b∧b.isOwn=false:=by
  intro i hi
  simp only [O,Bool.and_eq_true,decide_eq_true_eq] at hi
  obtain ⟨b,hb⟩:=Option.isSome_iff_exists.1 hi.2
  exact ⟨b,hb,ho i hi.1 b hb⟩
 have hget0:∀ i,i < j→((HE n l).hide O).get i=none:=by
  intro i hi
  show (if O i=true then none else hget l i)=none
  by_cases hs:(hget l i).isSome=true
  ·rw [if_pos (by simp only [O,hs,decide_eq_true hi];rfl)]
  ·rw [if_neg (by simp only [O,hs];simp)]
   cases hq:hget l i with
   |none=>rfl
   |some b=>rw [hq] at hs;exact absurd rfl hs
 have hgetJ:∀ i,¬ i < j→((HE n l).hide O).get i=hget l i:=by
  intro i hi
  show (if O i=true then none else hget l i)=hget l i
  rw [if_neg (by simp only [O,decide_eq_false hi];simp)]
 have hcut:((HE n l).hide O).cut (j+1)=HE (j+1) [(j,some M)]:=by
  unfold PH.cut
  show PH.mk _ _=PH.mk _ _
  congr 1
  funext i
  by_cases hi:i < j
  ·rw [if_pos (by omega),one_get (by omega)];exact hget0 i hi
  ·by_cases hj:i=j
   ·subst hj;rw [if_pos (by omega),hget_hd,hgetJ i hi];exact h1
   ·rw [if_neg (by omega),one_get hj]
 have hback:((((HE n l).hide O).over (j+1) (HE (j+1) [(j,some M)])).give (HE n l) O)=HE n l:=by
  unfold PH.give PH.over
  show PH.mk _ _=PH.mk _ _
  congr 1
  funext i
  by_cases hi:O i=true
  ·rw [if_pos hi];rfl
  ·rw [if_neg hi]
   show (if i < j+1 then (HE (j+1) [(j,some M)]).get i else ((HE n l).hide O).get i)=hget l i
   by_cases hij:i < j+1
   ·rw [if_pos hij]
    by_cases hj:i=j
    ·subst hj;exact hget_hd.trans h1.symm
    ·rw [show (HE (j+1) [(j,some M)]).get i=none from one_get hj]
     simp only [O,decide_eq_true (show i < j by omega),Bool.true_and] at hi
     cases hq:hget l i with
     |none=>rfl
     |some b=>rw [hq] at hi;exact absurd rfl hi
   ·rw [if_neg hij]
    exact hgetJ i (by omega)
 unfold KX at hc
 refine (PCall.frameO hO (PCall.frame (n:=j+1) (h:=(HE n l).hide O) hn hb (fun _=>by rw [hcut];exact okJ hM) (by rw [hcut];exact hc) ?_ ?_)).mono ?_ ?_
 ·rintro v h' ⟨rfl,_⟩;rfl
 ·rintro v h' ⟨rfl,_⟩;rfl
 ·rintro v h'' ⟨h1',⟨h',⟨rfl,hr⟩,rfl⟩,_,rfl⟩
  exact ⟨hback,hr⟩
 ·rintro v h'' ⟨h1',⟨h',⟨rfl,hr⟩,rfl⟩,_,rfl⟩
  exact ⟨hback,hr⟩
end
section
variable {C:Cx} {F:EQ} {X:EX} {k:List KI} {e:EL} {ds:List Nat} {K:PV→PH→Prop} {n m j:Nat} {l:HL} {M:PBlk} {u:PV} {Rv Xv:PV→Prop}
variable {d:Option Tmp} {type:TypeId} {pos:String} {after:Array Edge} {guard:Option (Nat×Bool)}
theorem Ope.callX2 {f:Operand} {args:Array Operand} {tys:Array TypeId} {g:Nat} {fs as' cp all':List PV} (hf:pev (lget e) f=some (.fn (.func g) fs cp)) (ha:pargs (pev (lget e)) args.toList=some as') (hl:fs++as'++cp=all')
  (hc:KX C.P g all' j M Rv Xv) (hb:PV.bds (j+1) all'=true) (hM:M.bd (j+1)) (h1:hget l j=some M) (ho:∀ i,i < j→∀ b,hget l i=some b→b.isOwn=false) (hn:j+1≤n) (hK:∀ v,Rv v→K v (HE n l)) (hX:∀ v,Xv v→X ds v (HE n l)):Ope C X { dst:=d,op:=.call { callee:=.value f,args,argTypes:=tys },type,pos,after,guard } e ds (HE n l) K :=
 Ope.call hf ha hl ((hc.call hb hM h1 ho hn).mono (fun v _ q=>by obtain ⟨rfl,q2⟩:=q;exact hK v q2) fun v _ q=>by obtain ⟨rfl,q2⟩:=q;exact hX v q2)
theorem finK_ret {fn:Func} {R:PV→PH→Prop} {vs:List PV} (hv:Res C.A e l fn.results.toList vs) (hb:(pone vs).bd (j+1)=true) (hM:M.bd (j+1)) (h0:∀ i,i < j→hget l i=none) (h1:hget l j=some M) (hR:R (pone vs) (HE (j+1) [(j,some M)])) :
  Jmp C (FinH C fn (j+1) R) X [] .ret e [] (HE m l) :=
 finC_ret hv hb (by rw [HE_cutJ h0 h1];exact okJ hM) (by rw [HE_cutJ h0 h1];exact hR)
theorem finK_retD {fn:Func} {R:PV→PH→Prop} {vs:List PV} {i:Nat} (hd:hget l i=some .dfr) (hv:Res C.A e ((i,none)::l) fn.results.toList vs) (hb:(pone vs).bd (j+1)=true) (hM:M.bd (j+1)) (h0:∀ q,q < j→hget ((i,none)::l) q=none) (h1:hget ((i,none)::l) j=some M) (hR:R (pone vs) (HE (j+1) [(j,some M)])) :
  Jmp C (FinH C fn (j+1) R) X [] .ret e [i] (HE m l) :=
 finC_retD hd hv hb (by rw [HE_cutJ h0 h1];exact okJ hM) (by rw [HE_cutJ h0 h1];exact hR)
theorem finK_panic {Y:PV→PH→Prop} (hb:u.bd (j+1)=true) (hM:M.bd (j+1)) (h0:∀ i,i < j→hget l i=none) (h1:hget l j=some M) (hY:Y u (HE (j+1) [(j,some M)])):FinHX (j+1) Y [] u (HE m l) :=
 ⟨trivial,_,_,PGh.cut hb (by show PH.Ok ((HE m l).cut (j+1));rw [HE_cutJ h0 h1];exact okJ hM),by show Y u ((HE m l).cut (j+1));rw [HE_cutJ h0 h1];exact hY⟩
theorem finK_panicD {Y:PV→PH→Prop} {i:Nat} (hd:hget l i=some .dfr) (hb:u.bd (j+1)=true) (hM:M.bd (j+1)) (h0:∀ q,q < j→hget ((i,none)::l) q=none) (h1:hget ((i,none)::l) j=some M) (hY:Y u (HE (j+1) [(j,some M)])):FinHX (j+1) Y [i] u (HE m l):=by
 refine ⟨⟨hd,trivial⟩,(HE m ((i,none)::l)).cut (j+1),u,?_,by rw [HE_cutJ h0 h1];exact hY⟩
 simp only [unds,HE_del]
 exact PGh.cut hb (by rw [HE_cutJ h0 h1];exact okJ hM)
theorem Ope.imP {r:Operand} {name:String} {args:Array Operand} {tys:Array TypeId} {t g:Nat} {h:PH} {w w' v:PV} {as':List PV} (hr:pev (lget e) r=some (.ifc t w)) (ha:pargs (pev (lget e)) args.toList=some as') (hm:pmethod C.A t w name=some (g,w'))
  (hc:Fn C.P g (w'::as') v) (hb:PV.bds 0 (w'::as')=true) (hK:K v h):Ope C X { dst:=d,op:=.call { callee:=.invoke r name,args,argTypes:=tys },type,pos,after,guard } e ds h K:=by
 unfold Ope
 simp only [pop,pkind,pcallO,ha,hr,hm]
 exact hc.call hb hK
theorem Ope.lenM {t kt i:Nat} {z:PV} {x:Operand} {es:List (AV×PV×Nat)} {clock:Nat} {q:Int} [hm:Mpt C.A t kt z] (hx:pev (lget e) x=some (.mp i)) (hg:hget l i=some (.map es clock)) (hq:q=(es.length:Int)) (hK:K (I q) (HE n l)) :
  Ope C X { dst:=d,op:=.call { callee:=.builtin .len,args:=#[x],argTypes:=#[t] },type,pos,after,guard } e ds (HE n l) K:=by
 refine Ope.quiet rfl ?_ hK
 obtain ⟨et,h1,h2⟩:=hm.get
 simp only [pquiet,pargs,hx,plen,h1]
 show (match hget l i with
  |some (.map es _)=>some (PV.lit (.int .i64 (.ofNat es.length)))
  |_=>none)=_
 rw [hg,hq]
 rfl
end
end Go.Pv
