/- Parts of the proof: R108, R102, R109, R127, R100 -/
import Derived.Test.YtejnfigkngkhjaaP22
import Derived.Test.YtejnfigkngkhjaaP25
import Derived.Test.YtejnfigkngkhjaaP16
set_option linter.unusedVariables false
set_option linter.unusedSimpArgs false
set_option linter.unusedSectionVars false
namespace Go.Pv
open Go.Proofs Go.Am
set_option maxRecDepth 10000
section
variable {rest:Int} {tl:Tail} (htl:tl.isOwn=false) {S:List Sti} (hS:S.length≤1000000)
end
end Go.Pv
namespace Go.Pv
open Go.Proofs Go.Am
set_option maxRecDepth 10000
structure Hide (p:Prop):Prop where
  get:p
end Go.Pv
namespace Go.Pv
open Go.Proofs Go.Am
set_option maxRecDepth 10000
section
variable {rest:Int} {tl:Tail} (htl:tl.isOwn=false) {S:List Sti} (hS:S.length≤1000000)
end
end Go.Pv
namespace Go.Pv
open Go.Proofs Go.Am
set_option maxRecDepth 10000
set_option maxHeartbeats 4000000
theorem f93z (rest:Int) (hr:0≤rest∧rest≤60) (tl:Tail) (htl:tl.isOwn=false) (t:Int) (k:Nat):Fn P0 93 [relV rest tl [],I t,I k] (B true):=by
  have hev:=f36 rest tl [] (by decide)
  have hfi:=f89z rest tl 0
  have hru:=f90t rest hr tl [] (by decide)
  have hb1:=bd_is rest tl htl [] ((0:Nat):Int)
  have hb2:=bd_rels rest tl htl []
  have hna:=f88z .ex .no (fun _=>0) (fun _=>0)
  have hb3:PV.bds 0 [.sl .ex (([]:List (Int×Int)).map spV),.sl .no (([]:List Rul).map rulR)]=true:=rfl
  refine PFun.of (C:=c93) (cx_ok _ _ _) rfl (fn:=Try.f93) (by kernel_rfl) (c:=_) rfl rfl rfl ?_
  refine Run.seq (Run.region (cx_ok _ _ _) (Reg.op rfl (Ope.boxF rfl rfl ?_)))
  refine Reg.op rfl (Ope.asg rfl ?_)
  refine Reg.nil (Run.seq (Run.draw (cx_ok _ _ _) [(0,false),(1,true),(2,true),(3,true),(4,true)] (by kernel_rfl) (Dra.op' rfl rfl rfl (.load rfl) (Ope.load rfl rfl ?_))))
  refine Dra.op' rfl rfl rfl .sure (Ope.load rfl rfl ?_)
  refine Dra.op' rfl rfl rfl .sure (Ope.cf rfl rfl hev hb2 ?_)
  refine Dra.op' rfl rfl rfl .sure (Ope.cf rfl rfl hfi hb1 ?_)
  refine Dra.op' rfl rfl rfl .sure (Ope.asg rfl ?_)
  refine Dra.nil (Run.seq (Run.seq (Run.region (cx_ok _ _ _) (Reg.op rfl (Ope.asg rfl ?_)))))
  refine Reg.nil (Run.block (Run.loop (α:=Nat) (fun t0=>[(1,I t),(2,I k),(3,.fp (relV rest tl [])),(7,.sl .ex []),(8,I ((0:Nat):Int))]) (fun t=>HE 0 []) (fun t=>t=0) (fun t=>0) 0 ⟨rfl,rfl,rfl,rfl,rfl,trivial⟩ rfl rfl (fun t0 ht=>?_)))
  refine Run.seq (Run.seq (Run.region (cx_ok _ _ _) (Reg.op rfl (Ope.mov rfl ?_))))
  refine Reg.op rfl (Ope.fld rfl rfl ?_)
  refine Reg.op rfl (Ope.load rfl rfl ?_)
  refine Reg.op rfl (Ope.len (m:=0) rfl rfl ?_)
  refine Reg.op rfl (Ope.lt rfl rfl ?_)
  refine Reg.nil (Run.condX rfl (fun hc=>?_) fun hc=>?_)
  ·exact absurd hc (by decide)
  ·refine Run.exit (Jmp.code (Jmp.round (Jmp.here (Run.seq (Run.region (cx_ok _ _ _) (Reg.op rfl (Ope.mov rfl ?_)))))))
   refine Reg.op rfl (Ope.load rfl rfl ?_)
   refine Reg.op rfl (Ope.cf rfl rfl hru hb2 ?_)
   refine Reg.op rfl (Ope.call rfl rfl rfl (PFun.call hna hb3 (fun v q=>?_) (fun v q=>q.elim)))
   obtain ⟨q,hq,rfl⟩:=q
   have hs:q.isSome=true:=by
     rw [hq.some_iff]
     exact ⟨fun _=>0,fun m hm=>absurd hm (Nat.not_lt_zero _),fun x hx=>by cases hx⟩
   rw [hs]
   refine Reg.op rfl (Ope.mov rfl ?_)
   refine Reg.op rfl (Ope.ext rfl rfl ?_)
   refine Reg.op rfl (Ope.ext rfl rfl ?_)
   refine Reg.op rfl (Ope.asg rfl ?_)
   refine Reg.op rfl (Ope.asg rfl ?_)
   refine Reg.nil (Run.seq (Run.region (cx_ok _ _ _) (Reg.op rfl (Ope.mov rfl ?_))))
   refine Reg.op rfl (Ope.asg rfl ?_)
   exact Reg.nil (Run.ret (fin_ret (.tmp rfl .nil) rfl rfl))
section
variable {rest:Int} {tl:Tail} (htl:tl.isOwn=false) {S:List Sti}
include htl
theorem f93 (hr:relOk rest S=true) (t:Int) (ht:0≤t∧t≤600) (k:Nat) (hk:k≤S.length):Fn P0 93 [relV rest tl S,I t,I k] (B (atB S rest t k)):=by
  obtain ⟨h1,h2,h3⟩:=relOk_of hr
  rcases Nat.eq_zero_or_pos S.length with h0 | h0
  · have : S = [] := List.length_eq_zero_iff.1 h0
    subst this
    have e:atB [] rest t k=true:=atB_iff.2 ⟨fun _=>0,⟨fun m hm=>absurd hm (Nat.not_lt_zero _),fun x hx=>by cases hx⟩,fun i hi=>absurd hi (Nat.not_lt_zero _),fun i hi=>absurd hi (Nat.not_lt_zero _)⟩
    rw [e]
    exact f93z rest h1 tl htl t k
  · exact f93n htl hr h0 t ht k
theorem f68 (hr:relOk rest S=true) (ho:okT (tabA S rest)=true) (t:Int) (ht:0≤t∧t≤600):Fn P0 68 [relV rest tl S,I t] (B ((tabA S rest).gap t S.length 0)):=by
  obtain ⟨h1,h2,h3⟩:=relOk_of hr
  have hat:=fun k hk=>f93 htl hr t ht k hk
  have hb0:=bd_rels rest tl htl S
  have hb3:∀ k:Nat,PV.bds 0 [relV rest tl S,I t,I k]=true:=fun k=>by
    simp only [PV.bds,PV.bd,Bool.and_true] at hb0 ⊢
    exact hb0
  have hfr:=free_iff hr ho t
  have hyes:∀ k,k≤S.length→atB S rest t k=true→(tabA S rest).gap t S.length 0=true:=fun k hk h=>hfr.1 ⟨k,hk,atB_iff.1 h⟩
  have hno:(∀ k,k≤S.length→atB S rest t k=false)→(tabA S rest).gap t S.length 0=false:=fun h=>by
    cases hg:(tabA S rest).gap t S.length 0 with
    | false=>rfl
    | true =>
      obtain ⟨k,hk,h9⟩:=hfr.2 hg
      have h8:=h k hk
      rw [atB_iff.2 h9] at h8
      cases h8
  generalize (tabA S rest).gap t S.length 0=g at *
  generalize atB S rest t=A at *
  refine PFun.of (C:=c68) (cx_ok _ _ _) rfl (fn:=Try.f68) (by kernel_rfl) (c:=_) rfl rfl rfl ?_
  refine Run.seq (Run.region (cx_ok _ _ _) (Reg.op rfl (Ope.boxF rfl rfl ?_)))
  refine Reg.op rfl (Ope.asg rfl ?_)
  refine Reg.nil (Run.seq (Run.seq (Run.region (cx_ok _ _ _) (Reg.op rfl (Ope.asg rfl ?_)))))
  refine Reg.nil (Run.block (Run.loop (α:=Nat) (fun i=>[(1,I t),(2,.fp (relV rest tl S)),(5,I i)]) (fun i=>HE 0 []) (fun i=>i≤S.length+1∧∀ j,j < i→A j=false) (fun i=>S.length+1 - i) 0 ⟨rfl,rfl,rfl,trivial⟩ rfl ⟨Nat.zero_le _,fun j hj=>absurd hj (Nat.not_lt_zero _)⟩ (fun i hi=>?_)))
  obtain ⟨hi,hall⟩:=hi
  refine Run.seq (Run.seq (Run.region (cx_ok _ _ _) (Reg.op rfl (Ope.mov rfl ?_))))
  refine Reg.op rfl (Ope.fld rfl rfl ?_)
  refine Reg.op rfl (Ope.load rfl rfl ?_)
  refine Reg.op rfl (Ope.len (m:=S.length) rfl (by simp) ?_)
  refine Reg.op rfl (Ope.le rfl rfl ?_)
  refine Reg.nil (Run.condX rfl (fun hc=>?_) fun hc=>?_)
  ·refine Run.skip (Run.seq (Run.block (Run.seq ?_)))
   have hlt:i≤S.length:=by omega
   refine Run.region (cx_ok _ _ _) (Reg.op rfl (Ope.load rfl rfl ?_))
   refine Reg.op rfl (Ope.mov rfl ?_)
   refine Reg.op rfl (Ope.mov rfl ?_)
   refine Reg.op rfl (Ope.cf rfl rfl (hat i hlt) (hb3 i) ?_)
   refine Reg.nil (Run.condX rfl (fun hc=>?_) fun hc=>?_)
   ·refine Run.seq (Run.region (cx_ok _ _ _) (Reg.op rfl (Ope.asg rfl ?_)))
    refine Reg.nil (Run.ret (Jmp.retB (Jmp.code (Jmp.round (Jmp.retB (Jmp.code (fin_ret (.tmp rfl .nil) rfl ?_)))))))
    first
    | (rw [hyes i hlt hc];rfl)
    | (rw [hno (fun j hj=>hall j (by omega))];rfl)
   ·refine Run.skip (Run.bend (Run.region (cx_ok _ _ _) (Reg.op rfl (Ope.mov rfl ?_))))
    refine Reg.op rfl (Ope.add rfl rfl (by omega) ?_)
    refine Reg.op rfl (Ope.asg rfl ?_)
    refine Reg.nil ?_
    exact Run.lend ⟨i+1,by omega,⟨by omega,fun j hj=>by
      by_cases hji:j=i
      · subst hji;exact hc
      · exact hall j (by omega)⟩,⟨rfl,rfl,rfl,trivial⟩,rfl,rfl⟩
  ·refine Run.exit (Jmp.code (Jmp.round (Jmp.here (Run.seq (Run.region (cx_ok _ _ _) (Reg.op rfl (Ope.asg rfl ?_)))))))
   refine Reg.nil (Run.ret (fin_ret (.tmp rfl .nil) rfl ?_))
   first
   | (rw [hyes i hlt hc];rfl)
   | (rw [hno (fun j hj=>hall j (by omega))];rfl)
theorem err_same {c:Bool} {e:Int} (h:errT rest S c 0≠0):errT rest S c e=errT rest S c 0:=by
  unfold errT at h ⊢
  split
  · rfl
  · split
    · rfl
    · split
      · rfl
      · next h1 h2 h3=>rw [if_neg h1,if_neg h2,if_neg h3] at h;exact absurd rfl h
theorem f23 (hS : S.length ≤ 1000000) (a b : Int) : Fn P0 23 [relV rest tl S, I a, I b] (.tup [I (minE rest S (nobM rest S a b) a b), I (errT rest S (minsOk a b) (noE (nobM rest S a b)))]) := by
  have hra:=f63 a b
  have hop:=openF (rest:=rest) htl hS (minsOk a b)
  have hb2:=bd_relc (rest:=rest) htl (S:=S) (minsOk a b)
  have hbt:=fun t=>bd_is rest tl htl S t
  have hMy:∀ m,a≤m→m≤b→(tabA S rest).empty S.length m=true→(∀ x,a≤x→x < m→(tabA S rest).empty S.length x=false)→nobM rest S a b=some m:=fun m g1 g2 g3 g4=>firstM_of g1 g2 g3 g4
  have hMn:(∀ x,a≤x→x≤b→(tabA S rest).empty S.length x=false)→nobM rest S a b=none:=fun h=>firstM_no h
  have hmz:∀ o,errT rest S (minsOk a b) 0≠0→minE rest S o a b=0:=fun o h=>by
    unfold minE
    rw [err_same htl h,if_neg h]
  have hmo:∀ o,errT rest S (minsOk a b) 0=0→errT rest S (minsOk a b) (noE o)=noE o∧minE rest S o a b=(if noE o=0 then o.getD 0 else 0):=fun o h=>by
    obtain ⟨g1,g2,g3,_⟩:=err_ok rest S h
    have e:errT rest S (minsOk a b) (noE o)=noE o:=err_at rest S g1 g2 g3
    refine ⟨e,?_⟩
    unfold minE
    rw [e]
  have hF:errT rest S (minsOk a b) 0=0→(0≤a∧a≤b∧b≤600)∧∀ t,0≤t∧t≤600→Fn P0 64 [relV rest tl S,I t] (B (!(tabA S rest).empty S.length t)):=fun h=>by
    obtain ⟨g1,g2,g3,_⟩:=err_ok rest S h
    simp only [minsOk,Bool.and_eq_true,decide_eq_true_eq] at g2
    exact ⟨g2,fun t ht=>f64 htl g1 g3 t ht⟩
  generalize nobM rest S a b=M at *
  refine PFun.of (C:=c23) (cx_ok _ _ _) rfl (fn:=Try.f23) (by kernel_rfl) (c:=_) rfl rfl rfl ?_
  refine Run.seq (Run.region (cx_ok _ _ _) (Reg.op rfl (Ope.boxF rfl rfl ?_)))
  refine Reg.op rfl (Ope.asg rfl ?_)
  refine Reg.op rfl (Ope.asg rfl ?_)
  refine Reg.nil (Run.seq (Run.draw (cx_ok _ _ _) [(0,false),(1,true),(2,true),(3,true),(4,true),(5,true),(6,true),(7,true),(8,true),(9,true)] (by kernel_rfl) (Dra.op' rfl rfl rfl (.load rfl) (Ope.load rfl rfl ?_))))
  refine Dra.op' rfl rfl rfl .sure (Ope.mov rfl ?_)
  refine Dra.op' rfl rfl rfl .sure (Ope.mov rfl ?_)
  refine Dra.op' rfl rfl rfl .sure (Ope.cf rfl rfl hra rfl ?_)
  refine Dra.op' rfl rfl rfl .sure (Ope.cf rfl rfl hop hb2 ?_)
  refine Dra.op' rfl rfl rfl .sure (Ope.mov rfl ?_)
  refine Dra.op' rfl rfl rfl .sure (Ope.ext rfl rfl ?_)
  refine Dra.op' rfl rfl rfl .sure (Ope.ext rfl rfl ?_)
  refine Dra.op' rfl rfl rfl .sure (Ope.asg rfl ?_)
  refine Dra.op' rfl rfl rfl .sure (Ope.asg rfl ?_)
  refine Dra.nil (Run.seq (Run.seq (Run.region (cx_ok _ _ _) (Reg.op rfl (Ope.mov rfl ?_)))))
  refine Reg.op rfl (Ope.ne rfl rfl ?_)
  refine Reg.nil (Run.condX rfl (fun hc=>?_) fun hc=>?_)
  ·refine Run.seq (Run.region (cx_ok _ _ _) (Reg.op rfl (Ope.mov rfl ?_)))
   refine Reg.op rfl (Ope.asg rfl ?_)
   refine Reg.op rfl (Ope.asg rfl ?_)
   refine Reg.nil (Run.ret (Jmp.code (fin_ret (.tmp rfl (.tmp rfl .nil)) rfl ?_)))
   first
   | (have he9 : errT rest S (minsOk a b) 0 ≠ 0 := hc
      have e8:=err_same (e:=noE M) htl he9
      rw [hmz M he9,e8]
      rfl)
   | (have hM := hMy (a + (i : Int)) (by omega) hle (by simpa using hc) hall
      rw [(hmo M he).1,(hmo M he).2,hM]
      rfl)
   | (have hgt : ¬ a + (i : Int) ≤ b := hc
      have hM:=hMn (fun x h1 h2=>hall x h1 (by omega))
      rw [(hmo M he).1,(hmo M he).2,hM]
      rfl)
  ·refine Run.skip (Run.seq (Run.seq ?_))
   have he:errT rest S (minsOk a b) 0=0:=by simpa using hc
   obtain ⟨⟨ha0,hab,hb6⟩,hFt⟩:=hF he
   generalize tabA S rest=T at *
   refine Run.region (cx_ok _ _ _) (Reg.op rfl (Ope.mov rfl ?_))
   refine Reg.op rfl (Ope.asg rfl ?_)
   refine Reg.nil (Run.block (Run.loop (α:=Nat) (fun i=>[(2,I b),(3,.fp (relV rest tl S)),(10,I (a+(i:Int)))]) (fun i=>HE 0 []) (fun i=>a+(i:Int)≤b+1∧∀ x,a≤x→x < a+(i:Int)→T.empty S.length x=false) (fun i=>(b+1 - a).toNat - i) 0 ⟨rfl,rfl,congrArg (fun x=>some (I x)) (by omega),trivial⟩ rfl ⟨by show a+((0:Nat):Int)≤b+1;omega,fun x h1 h2=>by exfalso;omega⟩ (fun i hi=>?_)))
   obtain ⟨hi,hall⟩:=hi
   refine Run.seq (Run.seq (Run.region (cx_ok _ _ _) (Reg.op rfl (Ope.mov rfl ?_))))
   refine Reg.op rfl (Ope.mov rfl ?_)
   refine Reg.op rfl (Ope.le rfl rfl ?_)
   refine Reg.nil (Run.condX rfl (fun hc=>?_) fun hc=>?_)
   ·refine Run.skip (Run.seq (Run.block (Run.seq ?_)))
    have hle:a+(i:Int)≤b:=hc
    refine Run.region (cx_ok _ _ _) (Reg.op rfl (Ope.load rfl rfl ?_))
    refine Reg.op rfl (Ope.mov rfl ?_)
    refine Reg.op rfl (Ope.cf rfl rfl (hFt (a+(i:Int)) (by omega)) (hbt _) ?_)
    refine Reg.op rfl (Ope.not rfl ?_)
    refine Reg.nil (Run.condX rfl (fun hc=>?_) fun hc=>?_)
    ·refine Run.seq (Run.region (cx_ok _ _ _) (Reg.op rfl (Ope.mov rfl ?_)))
     refine Reg.op rfl (Ope.asg rfl ?_)
     refine Reg.op rfl (Ope.asg rfl ?_)
     refine Reg.nil (Run.ret (Jmp.retB (Jmp.code (Jmp.round (Jmp.retB (Jmp.code (fin_ret (.tmp rfl (.tmp rfl .nil)) rfl ?_)))))))
     first
     | (have he9 : errT rest S (minsOk a b) 0 ≠ 0 := hc
        have e8:=err_same (e:=noE M) htl he9
        rw [hmz M he9,e8]
        rfl)
     | (have hM := hMy (a + (i : Int)) (by omega) hle (by simpa using hc) hall
        rw [(hmo M he).1,(hmo M he).2,hM]
        rfl)
     | (have hgt : ¬ a + (i : Int) ≤ b := hc
        have hM:=hMn (fun x h1 h2=>hall x h1 (by omega))
        rw [(hmo M he).1,(hmo M he).2,hM]
        rfl)
    ·refine Run.skip (Run.bend (Run.region (cx_ok _ _ _) (Reg.op rfl (Ope.mov rfl ?_))))
     refine Reg.op rfl (Ope.add rfl rfl (by omega) ?_)
     refine Reg.op rfl (Ope.asg rfl ?_)
     refine Reg.nil ?_
     exact Run.lend ⟨i+1,by omega,⟨by show a+((i+1:Nat):Int)≤b+1;omega,fun x h1 h2=>by
       by_cases hx:x=a+(i:Int)
       · subst hx
         simpa using hc
       · exact hall x h1 (by omega)⟩,⟨rfl,rfl,congrArg (fun x=>some (I x)) (by omega),trivial⟩,rfl,rfl⟩
   ·refine Run.exit (Jmp.code (Jmp.round (Jmp.here (Run.seq (Run.region (cx_ok _ _ _) (Reg.op rfl (Ope.asg rfl ?_)))))))
    refine Reg.op rfl (Ope.asg rfl ?_)
    refine Reg.nil (Run.ret (fin_ret (.tmp rfl (.tmp rfl .nil)) rfl ?_))
    first
    | (have he9 : errT rest S (minsOk a b) 0 ≠ 0 := hc
       have e8:=err_same (e:=noE M) htl he9
       rw [hmz M he9,e8]
       rfl)
    | (have hM := hMy (a + (i : Int)) (by omega) hle (by simpa using hc) hall
       rw [(hmo M he).1,(hmo M he).2,hM]
       rfl)
    | (have hgt : ¬ a + (i : Int) ≤ b := hc
       have hM:=hMn (fun x h1 h2=>hall x h1 (by omega))
       rw [(hmo M he).1,(hmo M he).2,hM]
       rfl)
theorem f25 (hS : S.length ≤ 1000000) (a b : Int) : Fn P0 25 [relV rest tl S, I a, I b] (.tup [I (minE rest S (gapM rest S a b) a b), I (errT rest S (minsOk a b) (noE (gapM rest S a b)))]) := by
  have hra:=f63 a b
  have hop:=openF (rest:=rest) htl hS (minsOk a b)
  have hb2:=bd_relc (rest:=rest) htl (S:=S) (minsOk a b)
  have hbt:=fun t=>bd_is rest tl htl S t
  have hMy:∀ m,a≤m→m≤b→(tabA S rest).gap m S.length 0=true→(∀ x,a≤x→x < m→(tabA S rest).gap x S.length 0=false)→gapM rest S a b=some m:=fun m g1 g2 g3 g4=>firstM_of g1 g2 g3 g4
  have hMn:(∀ x,a≤x→x≤b→(tabA S rest).gap x S.length 0=false)→gapM rest S a b=none:=fun h=>firstM_no h
  have hmz:∀ o,errT rest S (minsOk a b) 0≠0→minE rest S o a b=0:=fun o h=>by
    unfold minE
    rw [err_same htl h,if_neg h]
  have hmo:∀ o,errT rest S (minsOk a b) 0=0→errT rest S (minsOk a b) (noE o)=noE o∧minE rest S o a b=(if noE o=0 then o.getD 0 else 0):=fun o h=>by
    obtain ⟨g1,g2,g3,_⟩:=err_ok rest S h
    have e:errT rest S (minsOk a b) (noE o)=noE o:=err_at rest S g1 g2 g3
    refine ⟨e,?_⟩
    unfold minE
    rw [e]
  have hF:errT rest S (minsOk a b) 0=0→(0≤a∧a≤b∧b≤600)∧∀ t,0≤t∧t≤600→Fn P0 68 [relV rest tl S,I t] (B ((tabA S rest).gap t S.length 0)):=fun h=>by
    obtain ⟨g1,g2,g3,_⟩:=err_ok rest S h
    simp only [minsOk,Bool.and_eq_true,decide_eq_true_eq] at g2
    exact ⟨g2,fun t ht=>f68 htl g1 g3 t ht⟩
  generalize gapM rest S a b=M at *
  refine PFun.of (C:=c25) (cx_ok _ _ _) rfl (fn:=Try.f25) (by kernel_rfl) (c:=_) rfl rfl rfl ?_
  refine Run.seq (Run.region (cx_ok _ _ _) (Reg.op rfl (Ope.boxF rfl rfl ?_)))
  refine Reg.op rfl (Ope.asg rfl ?_)
  refine Reg.op rfl (Ope.asg rfl ?_)
  refine Reg.nil (Run.seq (Run.draw (cx_ok _ _ _) [(0,false),(1,true),(2,true),(3,true),(4,true),(5,true),(6,true),(7,true),(8,true),(9,true)] (by kernel_rfl) (Dra.op' rfl rfl rfl (.load rfl) (Ope.load rfl rfl ?_))))
  refine Dra.op' rfl rfl rfl .sure (Ope.mov rfl ?_)
  refine Dra.op' rfl rfl rfl .sure (Ope.mov rfl ?_)
  refine Dra.op' rfl rfl rfl .sure (Ope.cf rfl rfl hra rfl ?_)
  refine Dra.op' rfl rfl rfl .sure (Ope.cf rfl rfl hop hb2 ?_)
  refine Dra.op' rfl rfl rfl .sure (Ope.mov rfl ?_)
  refine Dra.op' rfl rfl rfl .sure (Ope.ext rfl rfl ?_)
  refine Dra.op' rfl rfl rfl .sure (Ope.ext rfl rfl ?_)
  refine Dra.op' rfl rfl rfl .sure (Ope.asg rfl ?_)
  refine Dra.op' rfl rfl rfl .sure (Ope.asg rfl ?_)
  refine Dra.nil (Run.seq (Run.seq (Run.region (cx_ok _ _ _) (Reg.op rfl (Ope.mov rfl ?_)))))
  refine Reg.op rfl (Ope.ne rfl rfl ?_)
  refine Reg.nil (Run.condX rfl (fun hc=>?_) fun hc=>?_)
  ·refine Run.seq (Run.region (cx_ok _ _ _) (Reg.op rfl (Ope.mov rfl ?_)))
   refine Reg.op rfl (Ope.asg rfl ?_)
   refine Reg.op rfl (Ope.asg rfl ?_)
   refine Reg.nil (Run.ret (Jmp.code (fin_ret (.tmp rfl (.tmp rfl .nil)) rfl ?_)))
   first
   | (have he9 : errT rest S (minsOk a b) 0 ≠ 0 := hc
      have e8:=err_same (e:=noE M) htl he9
      rw [hmz M he9,e8]
      rfl)
   | (have hM := hMy (a + (i : Int)) (by omega) hle (by simpa using hc) hall
      rw [(hmo M he).1,(hmo M he).2,hM]
      rfl)
   | (have hgt : ¬ a + (i : Int) ≤ b := hc
      have hM:=hMn (fun x h1 h2=>hall x h1 (by omega))
      rw [(hmo M he).1,(hmo M he).2,hM]
      rfl)
  ·refine Run.skip (Run.seq (Run.seq ?_))
   have he:errT rest S (minsOk a b) 0=0:=by simpa using hc
   obtain ⟨⟨ha0,hab,hb6⟩,hFt⟩:=hF he
   generalize tabA S rest=T at *
   refine Run.region (cx_ok _ _ _) (Reg.op rfl (Ope.mov rfl ?_))
   refine Reg.op rfl (Ope.asg rfl ?_)
   refine Reg.nil (Run.block (Run.loop (α:=Nat) (fun i=>[(2,I b),(3,.fp (relV rest tl S)),(10,I (a+(i:Int)))]) (fun i=>HE 0 []) (fun i=>a+(i:Int)≤b+1∧∀ x,a≤x→x < a+(i:Int)→T.gap x S.length 0=false) (fun i=>(b+1 - a).toNat - i) 0 ⟨rfl,rfl,congrArg (fun x=>some (I x)) (by omega),trivial⟩ rfl ⟨by show a+((0:Nat):Int)≤b+1;omega,fun x h1 h2=>by exfalso;omega⟩ (fun i hi=>?_)))
   obtain ⟨hi,hall⟩:=hi
   refine Run.seq (Run.seq (Run.region (cx_ok _ _ _) (Reg.op rfl (Ope.mov rfl ?_))))
   refine Reg.op rfl (Ope.mov rfl ?_)
   refine Reg.op rfl (Ope.le rfl rfl ?_)
   refine Reg.nil (Run.condX rfl (fun hc=>?_) fun hc=>?_)
   ·refine Run.skip (Run.seq (Run.block (Run.seq ?_)))
    have hle:a+(i:Int)≤b:=hc
    refine Run.region (cx_ok _ _ _) (Reg.op rfl (Ope.load rfl rfl ?_))
    refine Reg.op rfl (Ope.mov rfl ?_)
    refine Reg.op rfl (Ope.cf rfl rfl (hFt (a+(i:Int)) (by omega)) (hbt _) ?_)
    refine Reg.nil (Run.condX rfl (fun hc=>?_) fun hc=>?_)
    ·refine Run.seq (Run.region (cx_ok _ _ _) (Reg.op rfl (Ope.mov rfl ?_)))
     refine Reg.op rfl (Ope.asg rfl ?_)
     refine Reg.op rfl (Ope.asg rfl ?_)
     refine Reg.nil (Run.ret (Jmp.retB (Jmp.code (Jmp.round (Jmp.retB (Jmp.code (fin_ret (.tmp rfl (.tmp rfl .nil)) rfl ?_)))))))
     first
     | (have he9 : errT rest S (minsOk a b) 0 ≠ 0 := hc
        have e8:=err_same (e:=noE M) htl he9
        rw [hmz M he9,e8]
        rfl)
     | (have hM := hMy (a + (i : Int)) (by omega) hle (by simpa using hc) hall
        rw [(hmo M he).1,(hmo M he).2,hM]
        rfl)
     | (have hgt : ¬ a + (i : Int) ≤ b := hc
        have hM:=hMn (fun x h1 h2=>hall x h1 (by omega))
        rw [(hmo M he).1,(hmo M he).2,hM]
        rfl)
    ·refine Run.skip (Run.bend (Run.region (cx_ok _ _ _) (Reg.op rfl (Ope.mov rfl ?_))))
     refine Reg.op rfl (Ope.add rfl rfl (by omega) ?_)
     refine Reg.op rfl (Ope.asg rfl ?_)
     refine Reg.nil ?_
     exact Run.lend ⟨i+1,by omega,⟨by show a+((i+1:Nat):Int)≤b+1;omega,fun x h1 h2=>by
       by_cases hx:x=a+(i:Int)
       · subst hx
         simpa using hc
       · exact hall x h1 (by omega)⟩,⟨rfl,rfl,congrArg (fun x=>some (I x)) (by omega),trivial⟩,rfl,rfl⟩
   ·refine Run.exit (Jmp.code (Jmp.round (Jmp.here (Run.seq (Run.region (cx_ok _ _ _) (Reg.op rfl (Ope.asg rfl ?_)))))))
    refine Reg.op rfl (Ope.asg rfl ?_)
    refine Reg.nil (Run.ret (fin_ret (.tmp rfl (.tmp rfl .nil)) rfl ?_))
    first
    | (have he9 : errT rest S (minsOk a b) 0 ≠ 0 := hc
       have e8:=err_same (e:=noE M) htl he9
       rw [hmz M he9,e8]
       rfl)
    | (have hM := hMy (a + (i : Int)) (by omega) hle (by simpa using hc) hall
       rw [(hmo M he).1,(hmo M he).2,hM]
       rfl)
    | (have hgt : ¬ a + (i : Int) ≤ b := hc
       have hM:=hMn (fun x h1 h2=>hall x h1 (by omega))
       rw [(hmo M he).1,(hmo M he).2,hM]
       rfl)
end
theorem f4 (rest:Int) (tl:Tail) (htl:tl.isOwn=false) (S:List Sti) (hS:S.length≤40) (x y:Int):Fn P0 4 [relV rest tl S,I x,I y] (B true):=by
  have hbd:=fun k=>bd_is rest tl htl S k
  have hbd2:PV.bds 0 [relV rest tl S,I x,I y]=true:=by
    have:=hbd 0
    simp only [PV.bds,PV.bd,Bool.and_true] at this ⊢
    exact this
  have hS6:S.length≤1000000:=by omega
  have hfar:=f12 rest tl htl S hS6 5 (by decide)
  rw [far5 hS] at hfar
  have p1:=f22t rest tl htl S hS6 x y
  have p2:=f24t rest tl htl S hS6 x y
  have q1:=f23 (rest:=rest) htl hS6 x y
  have q2:=f25 (rest:=rest) htl hS6 x y
  generalize minE rest S (nobM rest S x y) x y=a at *
  generalize minE rest S (gapM rest S x y) x y=b at *
  generalize errT rest S (minsOk x y) (noE (nobM rest S x y))=c at *
  generalize errT rest S (minsOk x y) (noE (gapM rest S x y))=d at *
  refine PFun.of (C:=c4) (cx_ok _ _ _) rfl (fn:=Try.f4) (by kernel_rfl) (c:=_) rfl rfl rfl ?_
  refine Run.seq (Run.region (cx_ok _ _ _) (Reg.op rfl (Ope.boxF rfl rfl ?_)))
  refine Reg.op rfl (Ope.asg rfl ?_)
  refine Reg.nil (Run.seq (Run.seq (Run.region (cx_ok _ _ _) (Reg.op rfl (Ope.load rfl rfl ?_)))))
  refine Reg.op rfl (Ope.cf rfl rfl hfar (hbd 5) ?_)
  refine Reg.nil (Run.condF rfl (Run.skip (Run.seq (Run.region (cx_ok _ _ _) (Reg.op rfl (Ope.load rfl rfl ?_))))))
  refine Reg.op rfl (Ope.mov rfl ?_)
  refine Reg.op rfl (Ope.mov rfl ?_)
  refine Reg.op rfl (Ope.cf rfl rfl p1 hbd2 ?_)
  refine Reg.op rfl (Ope.mov rfl ?_)
  refine Reg.op rfl (Ope.ext rfl rfl ?_)
  refine Reg.op rfl (Ope.ext rfl rfl ?_)
  refine Reg.op rfl (Ope.asg rfl ?_)
  refine Reg.op rfl (Ope.asg rfl ?_)
  refine Reg.nil (Run.seq (Run.region (cx_ok _ _ _) (Reg.op rfl (Ope.load rfl rfl ?_))))
  refine Reg.op rfl (Ope.mov rfl ?_)
  refine Reg.op rfl (Ope.mov rfl ?_)
  refine Reg.op rfl (Ope.cf rfl rfl q1 hbd2 ?_)
  refine Reg.op rfl (Ope.mov rfl ?_)
  refine Reg.op rfl (Ope.ext rfl rfl ?_)
  refine Reg.op rfl (Ope.ext rfl rfl ?_)
  refine Reg.op rfl (Ope.asg rfl ?_)
  refine Reg.op rfl (Ope.asg rfl ?_)
  refine Reg.nil (Run.seq (Run.region (cx_ok _ _ _) (Reg.op rfl (Ope.load rfl rfl ?_))))
  refine Reg.op rfl (Ope.mov rfl ?_)
  refine Reg.op rfl (Ope.mov rfl ?_)
  refine Reg.op rfl (Ope.cf rfl rfl p2 hbd2 ?_)
  refine Reg.op rfl (Ope.mov rfl ?_)
  refine Reg.op rfl (Ope.ext rfl rfl ?_)
  refine Reg.op rfl (Ope.ext rfl rfl ?_)
  refine Reg.op rfl (Ope.asg rfl ?_)
  refine Reg.op rfl (Ope.asg rfl ?_)
  refine Reg.nil (Run.seq (Run.region (cx_ok _ _ _) (Reg.op rfl (Ope.load rfl rfl ?_))))
  refine Reg.op rfl (Ope.mov rfl ?_)
  refine Reg.op rfl (Ope.mov rfl ?_)
  refine Reg.op rfl (Ope.cf rfl rfl q2 hbd2 ?_)
  refine Reg.op rfl (Ope.mov rfl ?_)
  refine Reg.op rfl (Ope.ext rfl rfl ?_)
  refine Reg.op rfl (Ope.ext rfl rfl ?_)
  refine Reg.op rfl (Ope.asg rfl ?_)
  refine Reg.op rfl (Ope.asg rfl ?_)
  refine Reg.nil (Run.seq (Run.region (cx_ok _ _ _) (Reg.op rfl (Ope.mov rfl ?_))))
  refine Reg.op rfl (Ope.mov rfl ?_)
  refine Reg.op rfl (Ope.eqR rfl rfl ?_)
  refine Reg.op rfl (Ope.mov rfl ?_)
  refine Reg.on rfl rfl rfl (Ope.mov rfl ?_)
  refine Reg.on rfl rfl rfl (Ope.mov rfl ?_)
  refine Reg.on rfl rfl rfl (Ope.eqR rfl rfl ?_)
  refine Reg.op rfl (Ope.pickT rfl rfl ?_)
  refine Reg.op rfl (Ope.mov rfl ?_)
  refine Reg.on rfl rfl rfl (Ope.mov rfl ?_)
  refine Reg.on rfl rfl rfl (Ope.mov rfl ?_)
  refine Reg.on rfl rfl rfl (Ope.eqR rfl rfl ?_)
  refine Reg.op rfl (Ope.pickT rfl rfl ?_)
  refine Reg.op rfl (Ope.mov rfl ?_)
  refine Reg.on rfl rfl rfl (Ope.mov rfl ?_)
  refine Reg.on rfl rfl rfl (Ope.mov rfl ?_)
  refine Reg.on rfl rfl rfl (Ope.eqR rfl rfl ?_)
  refine Reg.op rfl (Ope.pickT rfl rfl ?_)
  refine Reg.op rfl (Ope.mov rfl ?_)
  refine Reg.on rfl rfl rfl (Ope.cf rfl rfl awakeF rfl ?_)
  refine Reg.op rfl (Ope.pickT rfl rfl ?_)
  refine Reg.op rfl (Ope.asg rfl ?_)
  exact Reg.nil (Run.ret (fin_ret (.tmp rfl .nil) rfl rfl))
theorem f4l (rest:Int) (tl:Tail) (htl:tl.isOwn=false) (S:List Sti) (hl:40 < S.length) (x y:Int):Fn P0 4 [relV rest tl S,I x,I y] (B true):=by
  have hbd:=fun k=>bd_is rest tl htl S k
  refine PFun.of (C:=c4) (cx_ok _ _ _) rfl (fn:=Try.f4) (by kernel_rfl) (c:=_) rfl rfl rfl ?_
  refine Run.seq (Run.region (cx_ok _ _ _) (Reg.op rfl (Ope.boxF rfl rfl ?_)))
  refine Reg.op rfl (Ope.asg rfl ?_)
  refine Reg.nil (Run.seq (Run.seq (Run.region (cx_ok _ _ _) (Reg.op rfl (Ope.load rfl rfl ?_)))))
  refine Reg.op rfl (Ope.cf rfl rfl (f12l rest tl S hl 5) (hbd 5) ?_)
  refine Reg.nil (Run.condT rfl (Run.seq (Run.region (cx_ok _ _ _) (Reg.op rfl (Ope.cf rfl rfl awakeF rfl ?_)))))
  refine Reg.op rfl (Ope.asg rfl ?_)
  exact Reg.nil (Run.ret (Jmp.code (fin_ret (.tmp rfl .nil) rfl rfl)))
theorem f4a (rest:Int) (tl:Tail) (htl:tl.isOwn=false) (S:List Sti) (x y:Int):Fn P0 4 [relV rest tl S,I x,I y] (B true):=by
  rcases Nat.lt_or_ge 40 S.length with h | h
  · exact f4l rest tl htl S h x y
  · exact f4 rest tl htl S (by omega) x y
end Go.Pv
namespace Go.Pv
open Go.Proofs Go.Am
set_option maxRecDepth 10000
section
variable {H:Type} {enc:TypeId×Value→H} {w:World} {base:Nat} {held:Bool}
theorem reads_int:Reads enc Try.prog w base (fun _=>true) held 3 fun ps=>∃ n:Int,ps=[I n] :=
  (Reads.int Try.underlying3).mono fun ps ⟨n,h,_⟩=>⟨n,h⟩
theorem reads_span:Reads enc Try.prog w base (fun _=>true) held 28 fun ps=>∃ a b:Int,ps=[I a,I b] :=
  (Reads.struct (Qs:=[fun ps=>∃ n:Int,ps=[I n],fun ps=>∃ n:Int,ps=[I n]]) Try.underlying28 (by kernel_rfl) ⟨reads_int,reads_int,trivial⟩).mono fun ps h=>by
    obtain ⟨_,_,rfl,⟨a,rfl⟩,_,_,rfl,⟨b,rfl⟩,rfl⟩:=h
    exact ⟨a,b,rfl⟩
theorem reads_spans:Reads enc Try.prog w base (fun _=>true) held 44 fun ps=>∃ a b c d:Int,ps=[I a,I b,I c,I d] :=
  (Reads.array2 Try.underlying44 (by kernel_rfl) reads_span).mono fun ps h=>by
    obtain ⟨_,_,rfl,⟨a,b,rfl⟩,_,_,rfl,⟨c,d,rfl⟩,rfl⟩:=h
    exact ⟨a,b,c,d,rfl⟩
theorem reads_stint:Reads enc Try.prog w base (fun _=>true) held 46 fun ps=>∃ s:Sti,ps=s.v.cells :=
  (Reads.struct (Qs:=[fun ps=>∃ n:Int,ps=[I n],fun ps=>∃ a b c d:Int,ps=[I a,I b,I c,I d],fun ps=>∃ a b c d:Int,ps=[I a,I b,I c,I d]]) Try.underlying46 (by kernel_rfl) ⟨reads_int,reads_spans,reads_spans,trivial⟩).mono fun ps h=>by
    obtain ⟨_,_,rfl,⟨r,rfl⟩,_,_,rfl,⟨a,b,c,d,rfl⟩,_,_,rfl,⟨e,f,g,h,rfl⟩,rfl⟩:=h
    exact ⟨⟨r,a,b,c,d,e,f,g,h⟩,rfl⟩
theorem cells_stint:Try.prog.cellsOf 46=9:=by kernel_rfl
theorem reads_stints:Reads enc Try.prog w base (fun _=>true) held 22 fun ps=>∃ S:List Sti,ps=[.sl .no (S.map Sti.v)] :=
  (Reads.slice (Q:=fun _=>True) (f:=Sti.v) (fun _=>rfl) Try.underlying22 (by rw [cells_stint];decide) (reads_stint.mono fun ps ⟨s,h⟩=>⟨s,h,by rw [cells_stint];rfl,trivial⟩)).mono fun ps ⟨S,h,_⟩=>⟨S,h⟩
theorem reads_relays:Reads enc Try.prog w base (fun _=>true) held 24 fun ps=>∃ (rest:Int) (S:List Sti),ps=[I rest,.sl .no (S.map Sti.v)] :=
  (Reads.struct (Qs:=[fun ps=>∃ n:Int,ps=[I n],fun ps=>∃ S:List Sti,ps=[.sl .no (S.map Sti.v)]]) Try.underlying24 (by kernel_rfl) ⟨reads_int,reads_stints,trivial⟩).mono fun ps h=>by
    obtain ⟨_,_,rfl,⟨r,rfl⟩,_,_,rfl,⟨S,rfl⟩,rfl⟩:=h
    exact ⟨r,S,rfl⟩
theorem trod_relays {v:Value} {d:DataW H} {ps:List MemPlace} {r:Reach} {b:Nat} (hv:Value.okWide Try.prog w r b 24 v) (h:DataW.Trod enc Try.prog w base (fun _=>true) held 24 v d ps):∃ rest S,RV (St.froz w) (relV rest .no S) v:=by
  obtain ⟨l,h1,rest,S,rfl⟩:=trod_agg Try.underlying24 hv h reads_relays
  exact ⟨rest,S,h1⟩
end
end Go.Pv
