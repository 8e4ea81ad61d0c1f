/- Parts of the proof: T40, T41, T43, T44, Pv55, T45 -/
import Derived.Test.YtabejoodkhlnaaaGreatP18
set_option linter.unusedVariables false
set_option linter.unusedSimpArgs false
namespace Go.Pv
open Go.Proofs Go.Am
set_option maxRecDepth 10000
theorem spn_none (u:Nat) (R:Rst):∀ (k:Nat) (d:Rid),spn u R k d=none↔cnt R k d=0
  | 0,d=>by simp [spn,cnt]
  | k + 1, d => by
    have i0:=spn_none u R k (d.then 0)
    have i1:=spn_none u R k (d.then 1)
    simp only [spn,cnt]
    by_cases c0:R.brk d 0=0<;>by_cases c1:R.brk d 1=0<;>simp only [c0,c1,if_true,if_false]<;>cases m0:spn u R k (d.then 0)<;>cases m1:spn u R k (d.then 1)<;>rw [m0] at i0<;>rw [m1] at i1<;>simp only [reduceCtorEq,true_iff,false_iff] at i0 i1<;>simp only [Option.map_none,Option.map_some,joinS,reduceCtorEq,true_iff,false_iff]<;>omega
structure Cst (A:Ask) (e:Rid→Int) (c:Rid→Int→Int):Prop where
  hE:∀ d,A.E d=(e d,[])
  hS:∀ d x w,A.S d x w=(c d x+w.1,x::w.2)
def fin:Rid→List Int→Rid
  | d,[]=>d
  | d,x::xs=>fin (d.then x) xs
def cw (u:Int):List Int→Int
  | []=>0
  | x::xs=>(if x=u then 1 else 0)+cw u xs
theorem fin_ab : ∀ (xs : List Int) (d : Rid), (∀ x ∈ xs, x = 0 ∨ x = 1) → (fin d xs).a = d.a + cw 0 xs ∧ (fin d xs).b = d.b + cw 1 xs
  | [],d,_=>by simp [fin,cw]
  | x :: xs, d, hx => by
    obtain ⟨h1,h2⟩:=fin_ab xs (d.then x) (fun y hy=>hx y (List.mem_cons_of_mem _ hy))
    rcases hx x (by simp) with rfl | rfl
    · have e1 : (d.then 0).a = d.a + 1 := rfl
      have e2:(d.then 0).b=d.b:=rfl
      have e3:cw 0 (0::xs)=1+cw 0 xs:=rfl
      have e4:cw 1 (0::xs)=0+cw 1 xs:=rfl
      rw [e1] at h1
      rw [e2] at h2
      rw [e3,e4]
      constructor
      · show (fin (d.then 0) xs).a = _
        omega
      · show (fin (d.then 0) xs).b = _
        omega
    · have e1 : (d.then 1).a = d.a := rfl
      have e2:(d.then 1).b=d.b+1:=rfl
      have e3:cw 0 (1::xs)=0+cw 0 xs:=rfl
      have e4:cw 1 (1::xs)=1+cw 1 xs:=rfl
      rw [e1] at h1
      rw [e2] at h2
      rw [e3,e4]
      constructor
      · show (fin (d.then 1) xs).a = _
        omega
      · show (fin (d.then 1) xs).b = _
        omega
theorem cw_sum:∀ (xs:List Int),(∀ x∈xs,x=0∨x=1)→cw 0 xs+cw 1 xs=xs.length
  | [],_=>rfl
  | x :: xs, hx => by
    have:=cw_sum xs (fun y hy=>hx y (List.mem_cons_of_mem _ hy))
    simp only [cw,List.length_cons]
    rcases hx x (by simp) with rfl | rfl<;>simp<;>omega
theorem cw_bnd (u:Int):∀ (xs:List Int),0≤cw u xs∧cw u xs≤xs.length
  | []=>⟨Int.le_refl _,Int.le_refl _⟩
  | x :: xs => by
    have:=cw_bnd u xs
    simp only [cw,List.length_cons]
    split<;>omega
theorem cw_app (u:Int):∀ (xs ys:List Int),cw u (xs++ys)=cw u xs+cw u ys
  | [],ys=>by simp [cw]
  | x :: xs, ys => by
    simp only [List.cons_append,cw,cw_app u xs ys]
    omega
theorem cw_take {u:Int} {xs:List Int} {i:Nat} {x:Int} (hx:xs[i]?=some x):cw u (xs.take (i+1))=cw u (xs.take i)+if x=u then 1 else 0:=by
  obtain ⟨h1,h2⟩:=List.getElem?_eq_some_iff.1 hx
  rw [List.take_succ_eq_append_getElem h1,cw_app,h2]
  simp [cw]
def Right (R:Rst) (k:Nat) (d:Rid) (xs:List Int):Prop:=xs.length=k∧(∀ x∈xs,x=0∨x=1)∧rt R d xs=true
theorem Right.cons {R:Rst} {k:Nat} {d:Rid} {x:Int} {xs:List Int} (h:Right R k (d.then x) xs) (hx:x=0∨x=1) (hb:R.brk d x=0):Right R (k+1) d (x::xs):=by
  refine ⟨by simp [h.1],?_,by simp [rt,hb,h.2.2]⟩
  intro y hy
  rcases List.mem_cons.1 hy with rfl | hy
  · exact hx
  · exact h.2.1 y hy
def SpnOk (u:Nat) (R:Rst) (k:Nat) (d:Rid) (p:Int×Int):Prop :=
  (∃ ys,Right R k d ys∧(fin d ys).tot u=p.1)∧(∃ ys,Right R k d ys∧(fin d ys).tot u=p.2)∧∀ ys,Right R k d ys→p.1≤(fin d ys).tot u∧(fin d ys).tot u≤p.2
theorem spn_ok (u : Nat) (R : Rst) : ∀ (k : Nat) (d : Rid) (p : Int × Int), spn u R k d = some p → SpnOk u R k d p
  | 0, d, p, h => by
    simp only [spn,Option.some.injEq] at h
    subst h
    have h0:Right R 0 d []:=⟨rfl,by simp,rfl⟩
    refine ⟨⟨[],h0,rfl⟩,⟨[],h0,rfl⟩,fun ys hy=>?_⟩
    have:ys=[]:=List.length_eq_zero_iff.1 hy.1
    subst this
    exact ⟨Int.le_refl _,Int.le_refl _⟩
  | k + 1, d, p, h => by
    have key:∀ x:Int,x=0∨x=1→∀ q,(if R.brk d x=0 then (spn u R k (d.then x)).map idS else none)=some q →
        (∃ ys,Right R (k+1) d ys∧(fin d ys).tot u=q.1)∧(∃ ys,Right R (k+1) d ys∧(fin d ys).tot u=q.2)∧∀ ys,Right R (k+1) d (x::ys)→q.1≤(fin d (x::ys)).tot u∧(fin d (x::ys)).tot u≤q.2:=by
      intro x hx q hq
      split at hq
      · next hb =>
        obtain ⟨q',h1,rfl⟩:=Option.map_eq_some_iff.1 hq
        obtain ⟨⟨ys,r1,r2⟩,⟨zs,r3,r4⟩,r5⟩:=spn_ok u R k (d.then x) q' h1
        refine ⟨⟨x::ys,r1.cons hx hb,r2⟩,⟨x::zs,r3.cons hx hb,r4⟩,fun ws hw=>?_⟩
        obtain ⟨w1,w2,w3⟩:=hw
        simp only [rt,Bool.and_eq_true] at w3
        exact r5 ws ⟨by simpa using w1,fun y hy=>w2 y (List.mem_cons_of_mem _ hy),w3.2⟩
      · cases hq
    have nkey:∀ x:Int,(if R.brk d x=0 then (spn u R k (d.then x)).map idS else none)=none→∀ ys,Right R (k+1) d (x::ys)→False:=by
      intro x hv ys hy
      obtain ⟨w1,w2,w3⟩:=hy
      simp only [rt,Bool.and_eq_true,decide_eq_true_eq] at w3
      rw [if_pos w3.1] at hv
      have:=rt_cnt R ys (d.then x) (fun y hy=>w2 y (List.mem_cons_of_mem _ hy)) w3.2
      rw [show ys.length=k by simpa using w1] at this
      have hn:=(spn_none u R k (d.then x)).1 (Option.map_eq_none_iff.1 hv)
      omega
    have all:∀ ys,Right R (k+1) d ys→∃ x ws,(x=0∨x=1)∧ys=x::ws:=by
      intro ys hy
      cases ys with
      | nil=>have:=hy.1;simp at this
      | cons y ys=>exact ⟨y,ys,hy.2.1 y (by simp),rfl⟩
    rw [spn] at h
    cases ha:(if R.brk d 0=0 then (spn u R k (d.then 0)).map idS else none) with
    | none =>
      rw [ha] at h
      obtain ⟨h1,h2,h3⟩:=key 1 (.inr rfl) p h
      refine ⟨h1,h2,fun ys hy=>?_⟩
      obtain ⟨x,ws,hx,rfl⟩:=all ys hy
      rcases hx with rfl | rfl
      · exact (nkey 0 ha ws hy).elim
      · exact h3 ws hy
    | some a =>
      obtain ⟨a1,a2,a3⟩:=key 0 (.inl rfl) a ha
      cases hb:(if R.brk d 1=0 then (spn u R k (d.then 1)).map idS else none) with
      | none =>
        rw [ha,hb] at h
        simp only [joinS,Option.some.injEq] at h
        subst h
        refine ⟨a1,a2,fun ys hy=>?_⟩
        obtain ⟨x,ws,hx,rfl⟩:=all ys hy
        rcases hx with rfl | rfl
        · exact a3 ws hy
        · exact (nkey 1 hb ws hy).elim
      | some b =>
        obtain ⟨b1,b2,b3⟩:=key 1 (.inr rfl) b hb
        rw [ha,hb] at h
        simp only [joinS,hull,Option.some.injEq] at h
        subst h
        refine ⟨?_,?_,fun ys hy=>?_⟩
        · show ∃ ys, Right R (k + 1) d ys ∧ (fin d ys).tot u = min a.1 b.1
          rcases (by omega:min a.1 b.1=a.1∨min a.1 b.1=b.1) with e | e<;>rw [e]<;>assumption
        · show ∃ ys, Right R (k + 1) d ys ∧ (fin d ys).tot u = max a.2 b.2
          rcases (by omega:max a.2 b.2=a.2∨max a.2 b.2=b.2) with e | e<;>rw [e]<;>assumption
        · show min a.1 b.1 ≤ _ ∧ _ ≤ max a.2 b.2
          obtain ⟨x,ws,hx,rfl⟩:=all ys hy
          rcases hx with rfl | rfl
          · have:=a3 ws hy;omega
          · have:=b3 ws hy;omega
theorem fin_tot {xs:List Int} (hx:∀ x∈xs,x=0∨x=1):(fin zeroRid xs).tot 0=cw 0 xs∧(fin zeroRid xs).tot 1=cw 1 xs∧(fin zeroRid xs).a=cw 0 xs∧(fin zeroRid xs).b=cw 1 xs:=by
  obtain ⟨h1,h2⟩:=fin_ab xs zeroRid hx
  rw [show zeroRid.a=0 from rfl,Int.zero_add] at h1
  rw [show zeroRid.b=0 from rfl,Int.zero_add] at h2
  exact ⟨h1,h2,h1,h2⟩
theorem f40 (tl:Tail) (xs:List Int) (hl:xs.length≤16) (u:Int):Fn P0 40 [.sl tl (xs.map I),I u] (I (cw u xs)):=by
  refine PFun.of (C:=c40) (cx_ok _ _ _) rfl (fn:=Tryz.f40) (by kernel_rfl) (c:=_) rfl rfl rfl ?_
  refine Run.seq (Run.region (cx_ok _ _ _) (Reg.op rfl (Ope.asg rfl ?_)))
  refine Reg.nil (Run.seq (Run.region (cx_ok _ _ _) (Reg.op rfl (Ope.asg rfl ?_))))
  refine Reg.nil (Run.seq (Run.seq (Run.region (cx_ok _ _ _) (Reg.op rfl (Ope.asg rfl ?_)))))
  refine Reg.nil (Run.block (Run.loop (α:=Nat×Int) (fun s=>[(0,.sl tl (xs.map I)),(1,I u),(5,I s.2),(6,I s.1)]) (fun _=>HE 0 []) (fun s=>s.1≤xs.length∧s.2=cw u (xs.take s.1)) (fun s=>xs.length - s.1) (0,0) ⟨rfl,rfl,rfl,rfl,trivial⟩ rfl ⟨Nat.zero_le _,rfl⟩ (fun s hs=>?_)))
  obtain ⟨i,v⟩:=s
  obtain ⟨hi,hv⟩:=hs
  simp only at hi hv
  have hv1:=cw_bnd u (xs.take i)
  rw [List.length_take] at hv1
  show Run _ _ _ _ [(0,.sl tl (xs.map I)),(1,I u),(5,I v),(6,I i)] [] (HE 0 [])
  refine Run.seq (Run.seq (Run.region (cx_ok _ _ _) (Reg.op rfl (Ope.mov rfl ?_))))
  refine Reg.op rfl (Ope.mov rfl ?_)
  refine Reg.op rfl (Ope.len (m:=xs.length) rfl (by simp) ?_)
  refine Reg.op rfl (Ope.lt rfl rfl ?_)
  refine Reg.nil (Run.condX rfl (fun hc=>?_) fun hc=>?_)
  ·refine Run.skip (Run.seq (Run.block (Run.seq ?_)))
   have hlt:i < xs.length:=by omega
   have hstep:=cw_take (u:=u) (xs:=xs) (i:=i) (List.getElem?_eq_getElem hlt)
   refine Run.region (cx_ok _ _ _) (Reg.op rfl (Ope.mov rfl ?_))
   refine Reg.op rfl (Ope.mov rfl ?_)
   refine Reg.op rfl (Ope.idxM (m:=i) rfl rfl rfl hlt (fun _=>rfl) ?_)
   refine Reg.op rfl (Ope.load rfl rfl ?_)
   refine Reg.op rfl (Ope.mov rfl ?_)
   refine Reg.op rfl (Ope.eq rfl rfl ?_)
   refine Reg.nil (Run.condX rfl (fun hc=>?_) fun hc=>?_)
   ·refine Run.region (cx_ok _ _ _) (Reg.op rfl (Ope.mov rfl ?_))
    refine Reg.op rfl (Ope.add rfl rfl (by omega) ?_)
    refine Reg.op rfl (Ope.asg rfl ?_)
    refine Reg.nil (Run.bend (Run.region (cx_ok _ _ _) (Reg.op rfl (Ope.mov rfl ?_))))
    refine Reg.op rfl (Ope.add rfl rfl (by omega) ?_)
    refine Reg.op rfl (Ope.asg rfl ?_)
    refine Reg.nil ?_
    first
      | (refine Run.lend ⟨(i + 1, v + 1), by simp only; omega, ⟨by simp only; omega, ?_⟩, ⟨rfl, rfl, rfl, rfl, trivial⟩, rfl, rfl⟩
         show v+1=cw u (xs.take (i+1))
         rw [hstep,hv,if_pos (by simpa using hc)])
      | (refine Run.lend ⟨(i + 1, v), by simp only; omega, ⟨by simp only; omega, ?_⟩, ⟨rfl, rfl, rfl, rfl, trivial⟩, rfl, rfl⟩
         show v=cw u (xs.take (i+1))
         rw [hstep,hv,if_neg (by simpa using hc),Int.add_zero])
   ·refine Run.skip (Run.bend (Run.region (cx_ok _ _ _) (Reg.op rfl (Ope.mov rfl ?_))))
    refine Reg.op rfl (Ope.add rfl rfl (by omega) ?_)
    refine Reg.op rfl (Ope.asg rfl ?_)
    refine Reg.nil ?_
    first
      | (refine Run.lend ⟨(i + 1, v + 1), by simp only; omega, ⟨by simp only; omega, ?_⟩, ⟨rfl, rfl, rfl, rfl, trivial⟩, rfl, rfl⟩
         show v+1=cw u (xs.take (i+1))
         rw [hstep,hv,if_pos (by simpa using hc)])
      | (refine Run.lend ⟨(i + 1, v), by simp only; omega, ⟨by simp only; omega, ?_⟩, ⟨rfl, rfl, rfl, rfl, trivial⟩, rfl, rfl⟩
         show v=cw u (xs.take (i+1))
         rw [hstep,hv,if_neg (by simpa using hc),Int.add_zero])
  ·refine Run.exit (Jmp.code (Jmp.round (Jmp.here (Run.seq (Run.region (cx_ok _ _ _) (Reg.op rfl (Ope.mov rfl ?_)))))))
   refine Reg.op rfl (Ope.asg rfl ?_)
   refine Reg.nil (Run.ret (fin_ret (.tmp rfl .nil) rfl ?_))
   rw [hv,List.take_of_length_le (by omega)];rfl
end Go.Pv
namespace Go.Pv
open Go.Proofs Go.Am
set_option maxRecDepth 10000
theorem f26 (tl tl':Tail) (xs:List Int) (hl:xs.length≤1000):Fn P0 26 [.sl tl (xs.map I),.sl tl' (xs.map I)] (B true):=by
  refine PFun.of (C:=c26) (cx_ok _ _ _) rfl (fn:=Tryz.f26) (by kernel_rfl) (c:=_) rfl rfl rfl ?_
  refine Run.seq (Run.region (cx_ok _ _ _) (Reg.op rfl (Ope.asg rfl ?_)))
  refine Reg.nil (Run.seq (Run.seq (Run.region (cx_ok _ _ _) (Reg.op rfl (Ope.mov rfl ?_)))))
  refine Reg.op rfl (Ope.len (m:=xs.length) rfl (by simp) ?_)
  refine Reg.op rfl (Ope.mov rfl ?_)
  refine Reg.op rfl (Ope.len (m:=xs.length) rfl (by simp) ?_)
  refine Reg.op rfl (Ope.ne rfl rfl ?_)
  refine Reg.nil (Run.condX rfl (fun hc=>?_) fun hc=>?_)
  ·exact absurd hc (by simp)
  ·refine Run.skip (Run.seq (Run.seq (Run.region (cx_ok _ _ _) (Reg.op rfl (Ope.asg rfl ?_)))))
   refine Reg.nil (Run.block (Run.loop (α:=Nat) (fun i=>[(0,.sl tl (xs.map I)),(1,.sl tl' (xs.map I)),(5,I i)]) (fun _=>HE 0 []) (fun i=>i≤xs.length) (fun i=>xs.length - i) 0 ⟨rfl,rfl,rfl,trivial⟩ rfl (Nat.zero_le _) (fun i hi=>?_)))
   refine Run.seq (Run.seq (Run.region (cx_ok _ _ _) (Reg.op rfl (Ope.mov rfl ?_))))
   refine Reg.op rfl (Ope.mov rfl ?_)
   refine Reg.op rfl (Ope.len (m:=xs.length) rfl (by simp) ?_)
   refine Reg.op rfl (Ope.lt rfl rfl ?_)
   refine Reg.nil (Run.condX rfl (fun hc=>?_) fun hc=>?_)
   ·refine Run.skip (Run.seq (Run.block (Run.seq ?_)))
    have hlt:i < xs.length:=by omega
    refine Run.draw (cx_ok _ _ _) [(0,true),(1,true),(2,true),(3,true),(4,true),(5,true),(6,true),(7,true),(8,true)] (by kernel_rfl) (Dra.op' rfl rfl rfl .sure (Ope.mov rfl ?_))
    refine Dra.op' rfl rfl rfl .sure (Ope.mov rfl ?_)
    refine Dra.op' rfl rfl rfl .sure (Ope.idxM (m:=i) rfl rfl rfl hlt (fun _=>rfl) ?_)
    refine Dra.op' rfl rfl rfl .sure (Ope.load rfl rfl ?_)
    refine Dra.op' rfl rfl rfl .sure (Ope.mov rfl ?_)
    refine Dra.op' rfl rfl rfl .sure (Ope.mov rfl ?_)
    refine Dra.op' rfl rfl rfl .sure (Ope.idxM (m:=i) rfl rfl rfl hlt (fun _=>rfl) ?_)
    refine Dra.op' rfl rfl rfl .sure (Ope.load rfl rfl ?_)
    refine Dra.op' rfl rfl rfl .sure (Ope.ne rfl rfl ?_)
    refine Dra.nil (Run.condX rfl (fun hc=>?_) fun hc=>?_)
    ·exact absurd hc (by simp)
    ·refine Run.skip (Run.bend (Run.region (cx_ok _ _ _) (Reg.op rfl (Ope.mov rfl ?_))))
     refine Reg.op rfl (Ope.add rfl rfl (by omega) ?_)
     refine Reg.op rfl (Ope.asg rfl ?_)
     exact Reg.nil (Run.lend ⟨i+1,by omega,by omega,⟨rfl,rfl,rfl,trivial⟩,rfl,rfl⟩)
   ·refine Run.exit (Jmp.code (Jmp.round (Jmp.here (Run.seq (Run.region (cx_ok _ _ _) (Reg.op rfl (Ope.asg rfl ?_)))))))
    refine Reg.nil (Run.ret (fin_ret (.tmp rfl .nil) rfl ?_))
    rfl
theorem f29b' (R:Rst) (hR:R.ok) (hv:validR R.m R.o0 R.t0 R.r0 R.f0 R.o1 R.t1 R.r1 R.f1=true) (hn:R.must=none):Fn P0 29 [.agg R.cells] (.tup [I 0,I 0,I 4]) :=
  f29 _ _ _ _ _ _ _ _ _ _ _ _ (f132er (f133b R hR hv hn) rfl)
theorem f29c' (R:Rst) (hR:R.ok) (hv:validR R.m R.o0 R.t0 R.r0 R.f0 R.o1 R.t1 R.r1 R.f1=true) (p:Nat×Nat) (hn:R.must=some p):Fn P0 29 [.agg R.cells] (.tup [I p.1,I p.2,I 0]) :=
  f29 _ _ _ _ _ _ _ _ _ _ _ _ (f132ok (f133c R hR hv p hn) rfl)
def R6:Rst:=⟨6,4,4,2,1,32,3,2,1⟩
def N6:Rst:=⟨6,4,4,2,1,36,3,2,1⟩
theorem R6_ok:R6.ok:=by unfold Rst.ok R6;decide
theorem N6_ok:N6.ok:=by unfold Rst.ok N6;decide
theorem R6_valid:validR R6.m R6.o0 R6.t0 R6.r0 R6.f0 R6.o1 R6.t1 R6.r1 R6.f1=true:=by decide
theorem N6_valid:validR N6.m N6.o0 N6.t0 N6.r0 N6.f0 N6.o1 N6.t1 N6.r1 N6.f1=true:=by decide
theorem f50f:Fn P0 50 [B false] (.agg R6.cells):=by
  refine PFun.of (C:=c50) (cx_ok _ _ _) rfl (fn:=Tryz.f50) (by kernel_rfl) (c:=_) rfl rfl rfl ?_
  refine Run.seq (Run.region (cx_ok _ _ _) (Reg.op rfl (Ope.newL rfl ?_)))
  refine Reg.nil (Run.seq (Run.region (cx_ok _ _ _) (Reg.op rfl (Ope.bld rfl rfl ?_))))
  refine Reg.op rfl (Ope.bld rfl rfl ?_)
  refine Reg.op rfl (Ope.bld rfl rfl ?_)
  refine Reg.op rfl (Ope.bld rfl rfl ?_)
  refine Reg.op rfl (Ope.newL rfl ?_)
  refine Reg.op0 (Ope.store rfl rfl rfl rfl rfl rfl ?_)
  refine Reg.nil (Run.seq (Run.seq (Run.region (cx_ok _ _ _) (Reg.op rfl (Ope.mov rfl ?_)))))
  refine Reg.nil (Run.condX rfl (fun hc=>?_) fun hc=>?_)
  ·exact absurd hc (by decide)
  ·refine Run.skip (Run.seq (Run.region (cx_ok _ _ _) (Reg.op rfl (Ope.load rfl rfl ?_))))
   refine Reg.op0 (Ope.store rfl rfl rfl rfl rfl rfl ?_)
   exact Reg.nil (Run.ret (fin_ret (.cell rfl rfl .nil) rfl rfl))
theorem f50t:Fn P0 50 [B true] (.agg N6.cells):=by
  refine PFun.of (C:=c50) (cx_ok _ _ _) rfl (fn:=Tryz.f50) (by kernel_rfl) (c:=_) rfl rfl rfl ?_
  refine Run.seq (Run.region (cx_ok _ _ _) (Reg.op rfl (Ope.newL rfl ?_)))
  refine Reg.nil (Run.seq (Run.region (cx_ok _ _ _) (Reg.op rfl (Ope.bld rfl rfl ?_))))
  refine Reg.op rfl (Ope.bld rfl rfl ?_)
  refine Reg.op rfl (Ope.bld rfl rfl ?_)
  refine Reg.op rfl (Ope.bld rfl rfl ?_)
  refine Reg.op rfl (Ope.newL rfl ?_)
  refine Reg.op0 (Ope.store rfl rfl rfl rfl rfl rfl ?_)
  refine Reg.nil (Run.seq (Run.seq (Run.region (cx_ok _ _ _) (Reg.op rfl (Ope.mov rfl ?_)))))
  refine Reg.nil (Run.condX rfl (fun hc=>?_) fun hc=>?_)
  ·refine Run.region (cx_ok _ _ _) (Reg.op rfl (Ope.fld rfl rfl ?_))
   refine Reg.op rfl (Ope.idxA rfl rfl rfl rfl ?_)
   refine Reg.op rfl (Ope.fld rfl rfl ?_)
   refine Reg.op0 (Ope.store rfl rfl rfl rfl rfl rfl ?_)
   refine Reg.nil (Run.seq (Run.region (cx_ok _ _ _) (Reg.op rfl (Ope.load rfl rfl ?_))))
   refine Reg.op0 (Ope.store rfl rfl rfl rfl rfl rfl ?_)
   exact Reg.nil (Run.ret (fin_ret (.cell rfl rfl .nil) rfl rfl))
  ·exact absurd hc (by decide)
theorem f51 (a b:Int):Fn P0 51 [I a,I b] (.agg [I a,I b]):=by
  refine PFun.of (C:=c51) (cx_ok _ _ _) rfl (fn:=Tryz.f51) (by kernel_rfl) (c:=_) rfl rfl rfl ?_
  refine Run.seq (Run.region (cx_ok _ _ _) (Reg.op rfl (Ope.newL rfl ?_)))
  refine Reg.nil (Run.seq (Run.region (cx_ok _ _ _) (Reg.op rfl (Ope.mov rfl ?_))))
  refine Reg.op rfl (Ope.mov rfl ?_)
  refine Reg.op rfl (Ope.bld rfl rfl ?_)
  refine Reg.op0 (Ope.store rfl rfl rfl rfl rfl rfl ?_)
  exact Reg.nil (Run.ret (fin_ret (.cell rfl rfl .nil) rfl rfl))
theorem e16:Fn P0 16 [.agg R6.cells,.sl .ex [I 0,I 1,I 1,I 1,I 0,I 0]] (.tup [I 3,I 3,I 0]):=by
  have h:=check 6 4 4 2 1 32 3 2 1 .ex rfl [0,1,1,1,0,0] (by decide)
  rw [show checkV 6 4 4 2 1 32 3 2 1 [0,1,1,1,0,0]=(3,3,0) by decide +kernel] at h
  exact h
theorem e18:Fn P0 18 [.agg R6.cells] (.tup [I 5,I 0]):=by
  have h:=f18b R6 R6_ok R6_valid
  rw [show R6.many=5 by decide +kernel] at h
  exact h
theorem e22:Fn P0 22 [.agg R6.cells] (.tup [I 2,.sl .no ([0,0,1,1,0,0].map I),I 0]):=f22c R6 R6_ok R6_valid (2,[0,0,1,1,0,0]) (by decide +kernel)
theorem e24:Fn P0 24 [.agg R6.cells] (.tup [I 0,.sl .no ([0,1,1,0,1,0].map I),I 0]):=f24c R6 R6_ok R6_valid (0,[0,1,1,0,1,0]) (by decide +kernel)
theorem e27:Fn P0 27 [.agg R6.cells,I 0] (.tup [.agg [I 3,I 4],I 0]):=f27c 0 (.inl rfl) R6 R6_ok R6_valid (3,4) (by decide +kernel)
theorem e29:Fn P0 29 [.agg R6.cells] (.tup [I 32,I 4,I 0]):=f29c' R6 R6_ok R6_valid (32,4) (by decide +kernel)
theorem e20:Fn P0 20 [.agg N6.cells] (.tup [I 2,I 0]):=by
  have h:=f20b N6 N6_ok N6_valid
  rw [show N6.until=2 by decide +kernel] at h
  exact h
theorem e31:Fn P0 31 [.agg N6.cells] (.tup [I 0,I 2,I 0]):=by
  have h:=f31b N6 N6_ok N6_valid
  rw [show N6.freeV=(0,2,0) by decide +kernel] at h
  exact h
theorem f15 : Fn P0 15 [] (B true) := by
  refine PFun.of (C:=c15) (cx_ok _ _ _) rfl (fn:=Tryz.f15) (by kernel_rfl) (c:=_) rfl rfl rfl ?_
  refine Run.seq (Run.region (cx_ok _ _ _) (Reg.op rfl (Ope.asg rfl ?_)))
  refine Reg.nil (Run.seq (Run.region (cx_ok _ _ _) (Reg.op rfl (Ope.cf rfl rfl (f50f) rfl ?_))))
  refine Reg.op rfl (Ope.bsl rfl rfl rfl rfl ?_)
  refine Reg.op rfl (Ope.cf rfl rfl (e16) rfl ?_)
  refine Reg.op rfl (Ope.mov rfl ?_)
  refine Reg.op rfl (Ope.ext rfl rfl ?_)
  refine Reg.op rfl (Ope.ext rfl rfl ?_)
  refine Reg.op rfl (Ope.ext rfl rfl ?_)
  refine Reg.op rfl (Ope.asg rfl ?_)
  refine Reg.op rfl (Ope.asg rfl ?_)
  refine Reg.op rfl (Ope.asg rfl ?_)
  refine Reg.nil (Run.seq (Run.region (cx_ok _ _ _) (Reg.op rfl (Ope.cf rfl rfl (f50f) rfl ?_))))
  refine Reg.op rfl (Ope.cf rfl rfl (e18) rfl ?_)
  refine Reg.op rfl (Ope.mov rfl ?_)
  refine Reg.op rfl (Ope.ext rfl rfl ?_)
  refine Reg.op rfl (Ope.ext rfl rfl ?_)
  refine Reg.op rfl (Ope.asg rfl ?_)
  refine Reg.op rfl (Ope.asg rfl ?_)
  refine Reg.nil (Run.seq (Run.region (cx_ok _ _ _) (Reg.op rfl (Ope.cf rfl rfl (f50f) rfl ?_))))
  refine Reg.op rfl (Ope.cf rfl rfl (e22) rfl ?_)
  refine Reg.op rfl (Ope.mov rfl ?_)
  refine Reg.op rfl (Ope.ext rfl rfl ?_)
  refine Reg.op rfl (Ope.ext rfl rfl ?_)
  refine Reg.op rfl (Ope.ext rfl rfl ?_)
  refine Reg.op rfl (Ope.asg rfl ?_)
  refine Reg.op rfl (Ope.asg rfl ?_)
  refine Reg.op rfl (Ope.asg rfl ?_)
  refine Reg.nil (Run.seq (Run.region (cx_ok _ _ _) (Reg.op rfl (Ope.cf rfl rfl (f50f) rfl ?_))))
  refine Reg.op rfl (Ope.cf rfl rfl (e24) rfl ?_)
  refine Reg.op rfl (Ope.mov rfl ?_)
  refine Reg.op rfl (Ope.ext rfl rfl ?_)
  refine Reg.op rfl (Ope.ext rfl rfl ?_)
  refine Reg.op rfl (Ope.ext rfl rfl ?_)
  refine Reg.op rfl (Ope.asg rfl ?_)
  refine Reg.op rfl (Ope.asg rfl ?_)
  refine Reg.op rfl (Ope.asg rfl ?_)
  refine Reg.nil (Run.seq (Run.region (cx_ok _ _ _) (Reg.op rfl (Ope.cf rfl rfl (f50f) rfl ?_))))
  refine Reg.op rfl (Ope.cf rfl rfl (e27) rfl ?_)
  refine Reg.op rfl (Ope.mov rfl ?_)
  refine Reg.op rfl (Ope.ext rfl rfl ?_)
  refine Reg.op rfl (Ope.ext rfl rfl ?_)
  refine Reg.op rfl (Ope.newL rfl ?_)
  refine Reg.op0 (Ope.store rfl rfl hget_hd rfl rfl rfl ?_)
  refine Reg.op rfl (Ope.asg rfl ?_)
  refine Reg.nil (Run.seq (Run.region (cx_ok _ _ _) (Reg.op rfl (Ope.cf rfl rfl (f50f) rfl ?_))))
  refine Reg.op rfl (Ope.cf rfl rfl (e29) rfl ?_)
  refine Reg.op rfl (Ope.mov rfl ?_)
  refine Reg.op rfl (Ope.ext rfl rfl ?_)
  refine Reg.op rfl (Ope.ext rfl rfl ?_)
  refine Reg.op rfl (Ope.ext rfl rfl ?_)
  refine Reg.op rfl (Ope.asg rfl ?_)
  refine Reg.op rfl (Ope.asg rfl ?_)
  refine Reg.op rfl (Ope.asg rfl ?_)
  refine Reg.nil (Run.seq (Run.region (cx_ok _ _ _) (Reg.op rfl (Ope.cf rfl rfl (f50t) rfl ?_))))
  refine Reg.op rfl (Ope.cf rfl rfl (e20) rfl ?_)
  refine Reg.op rfl (Ope.mov rfl ?_)
  refine Reg.op rfl (Ope.ext rfl rfl ?_)
  refine Reg.op rfl (Ope.ext rfl rfl ?_)
  refine Reg.op rfl (Ope.asg rfl ?_)
  refine Reg.op rfl (Ope.asg rfl ?_)
  refine Reg.nil (Run.seq (Run.region (cx_ok _ _ _) (Reg.op rfl (Ope.cf rfl rfl (f50t) rfl ?_))))
  refine Reg.op rfl (Ope.cf rfl rfl (e31) rfl ?_)
  refine Reg.op rfl (Ope.mov rfl ?_)
  refine Reg.op rfl (Ope.ext rfl rfl ?_)
  refine Reg.op rfl (Ope.ext rfl rfl ?_)
  refine Reg.op rfl (Ope.ext rfl rfl ?_)
  refine Reg.op rfl (Ope.asg rfl ?_)
  refine Reg.op rfl (Ope.asg rfl ?_)
  refine Reg.op rfl (Ope.asg rfl ?_)
  refine Reg.nil (Run.seq (Run.seq (Run.region (cx_ok _ _ _) (Reg.op rfl (Ope.mov rfl ?_)))))
  refine Reg.op rfl (Ope.ne rfl rfl ?_)
  refine Reg.op rfl (Ope.mov rfl ?_)
  refine Reg.splitX rfl rfl (fun hg=>?_) fun hg=>?_
  ·(exact absurd hg (by decide))
  ·refine Reg.on rfl rfl rfl (Ope.mov rfl ?_)
   refine Reg.on rfl rfl rfl (Ope.ne rfl rfl ?_)
   refine Reg.op rfl (Ope.pickF rfl rfl ?_)
   refine Reg.op rfl (Ope.mov rfl ?_)
   refine Reg.splitX rfl rfl (fun hg=>?_) fun hg=>?_
   ·(exact absurd hg (by decide))
   ·refine Reg.on rfl rfl rfl (Ope.mov rfl ?_)
    refine Reg.on rfl rfl rfl (Ope.ne rfl rfl ?_)
    refine Reg.op rfl (Ope.pickF rfl rfl ?_)
    refine Reg.op rfl (Ope.mov rfl ?_)
    refine Reg.splitX rfl rfl (fun hg=>?_) fun hg=>?_
    ·(exact absurd hg (by decide))
    ·refine Reg.on rfl rfl rfl (Ope.mov rfl ?_)
     refine Reg.on rfl rfl rfl (Ope.ne rfl rfl ?_)
     refine Reg.op rfl (Ope.pickF rfl rfl ?_)
     refine Reg.op rfl (Ope.mov rfl ?_)
     refine Reg.splitX rfl rfl (fun hg=>?_) fun hg=>?_
     ·(exact absurd hg (by decide))
     ·refine Reg.on rfl rfl rfl (Ope.mov rfl ?_)
      refine Reg.on rfl rfl rfl (Ope.ne rfl rfl ?_)
      refine Reg.op rfl (Ope.pickF rfl rfl ?_)
      refine Reg.op rfl (Ope.mov rfl ?_)
      refine Reg.splitX rfl rfl (fun hg=>?_) fun hg=>?_
      ·(exact absurd hg (by decide))
      ·refine Reg.on rfl rfl rfl (Ope.mov rfl ?_)
       refine Reg.on rfl rfl rfl (Ope.ne rfl rfl ?_)
       refine Reg.op rfl (Ope.pickF rfl rfl ?_)
       refine Reg.op rfl (Ope.mov rfl ?_)
       refine Reg.splitX rfl rfl (fun hg=>?_) fun hg=>?_
       ·(exact absurd hg (by decide))
       ·refine Reg.on rfl rfl rfl (Ope.mov rfl ?_)
        refine Reg.on rfl rfl rfl (Ope.bsl rfl rfl rfl rfl ?_)
        refine Reg.on rfl rfl rfl (Ope.cf rfl rfl (f26 .no .ex [0,0,1,1,0,0] (by decide)) rfl ?_)
        refine Reg.on rfl rfl rfl (Ope.not rfl ?_)
        refine Reg.op rfl (Ope.pickF rfl rfl ?_)
        refine Reg.op rfl (Ope.mov rfl ?_)
        refine Reg.splitX rfl rfl (fun hg=>?_) fun hg=>?_
        ·(exact absurd hg (by decide))
        ·refine Reg.on rfl rfl rfl (Ope.mov rfl ?_)
         refine Reg.on rfl rfl rfl (Ope.ne rfl rfl ?_)
         refine Reg.op rfl (Ope.pickF rfl rfl ?_)
         refine Reg.op rfl (Ope.mov rfl ?_)
         refine Reg.splitX rfl rfl (fun hg=>?_) fun hg=>?_
         ·(exact absurd hg (by decide))
         ·refine Reg.on rfl rfl rfl (Ope.mov rfl ?_)
          refine Reg.on rfl rfl rfl (Ope.ne rfl rfl ?_)
          refine Reg.op rfl (Ope.pickF rfl rfl ?_)
          refine Reg.op rfl (Ope.mov rfl ?_)
          refine Reg.splitX rfl rfl (fun hg=>?_) fun hg=>?_
          ·(exact absurd hg (by decide))
          ·refine Reg.on rfl rfl rfl (Ope.mov rfl ?_)
           refine Reg.on rfl rfl rfl (Ope.bsl rfl rfl rfl rfl ?_)
           refine Reg.on rfl rfl rfl (Ope.cf rfl rfl (f26 .no .ex [0,1,1,0,1,0] (by decide)) rfl ?_)
           refine Reg.on rfl rfl rfl (Ope.not rfl ?_)
           refine Reg.op rfl (Ope.pickF rfl rfl ?_)
           refine Reg.op rfl (Ope.mov rfl ?_)
           refine Reg.splitX rfl rfl (fun hg=>?_) fun hg=>?_
           ·(exact absurd hg (by decide))
           ·refine Reg.on rfl rfl rfl (Ope.mov rfl ?_)
            refine Reg.on rfl rfl rfl (Ope.ne rfl rfl ?_)
            refine Reg.op rfl (Ope.pickF rfl rfl ?_)
            refine Reg.nil (Run.condX rfl (fun hc=>?_) fun hc=>?_)
            ·(exact absurd hc (by decide))
            ·refine Run.skip (Run.seq (Run.frz (d := 12) true rfl rfl rfl ?_))
             refine Run.draw (cx_ok _ _ _) [(0,false),(1,true),(2,true),(3,true),(4,true),(5,true),(6,true),(7,true),(8,true),(9,true),(10,true),(11,true),(12,true),(13,true),(14,true),(15,true),(16,true),(17,true),(18,true),(19,true),(20,true),(21,true),(22,true),(23,true),(24,true),(25,true),(26,true),(27,true),(28,true),(29,true),(30,true),(31,true),(32,true),(33,true),(34,true),(35,true),(36,true),(37,true),(38,true),(39,true)] (by kernel_rfl) (Dra.op' rfl rfl rfl (.load rfl) (Ope.load rfl rfl ?_))
             refine Dra.op' rfl rfl rfl .sure (Ope.cf rfl rfl (f51 3 4) rfl ?_)
             refine Dra.op' rfl rfl rfl .sure (Ope.eqV (b:=true) rfl rfl (by kernel_rfl) ?_)
             refine Dra.op' rfl rfl rfl .sure (Ope.mov rfl ?_)
             refine Dra.splitX rfl rfl rfl rfl (fun hg=>?_) fun hg=>?_
             ·refine Dra.on' rfl rfl rfl rfl rfl .sure (Ope.mov rfl ?_)
              refine Dra.on' rfl rfl rfl rfl rfl .sure (Ope.eq rfl rfl ?_)
              refine Dra.op' rfl rfl rfl .sure (Ope.pickT rfl rfl ?_)
              refine Dra.op' rfl rfl rfl .sure (Ope.mov rfl ?_)
              refine Dra.splitX rfl rfl rfl rfl (fun hg=>?_) fun hg=>?_
              ·refine Dra.on' rfl rfl rfl rfl rfl .sure (Ope.mov rfl ?_)
               refine Dra.on' rfl rfl rfl rfl rfl .sure (Ope.eq rfl rfl ?_)
               refine Dra.op' rfl rfl rfl .sure (Ope.pickT rfl rfl ?_)
               refine Dra.op' rfl rfl rfl .sure (Ope.mov rfl ?_)
               refine Dra.splitX rfl rfl rfl rfl (fun hg=>?_) fun hg=>?_
               ·refine Dra.on' rfl rfl rfl rfl rfl .sure (Ope.mov rfl ?_)
                refine Dra.on' rfl rfl rfl rfl rfl .sure (Ope.eq rfl rfl ?_)
                refine Dra.op' rfl rfl rfl .sure (Ope.pickT rfl rfl ?_)
                refine Dra.op' rfl rfl rfl .sure (Ope.mov rfl ?_)
                refine Dra.splitX rfl rfl rfl rfl (fun hg=>?_) fun hg=>?_
                ·refine Dra.on' rfl rfl rfl rfl rfl .sure (Ope.mov rfl ?_)
                 refine Dra.on' rfl rfl rfl rfl rfl .sure (Ope.eq rfl rfl ?_)
                 refine Dra.op' rfl rfl rfl .sure (Ope.pickT rfl rfl ?_)
                 refine Dra.op' rfl rfl rfl .sure (Ope.mov rfl ?_)
                 refine Dra.splitX rfl rfl rfl rfl (fun hg=>?_) fun hg=>?_
                 ·refine Dra.on' rfl rfl rfl rfl rfl .sure (Ope.mov rfl ?_)
                  refine Dra.on' rfl rfl rfl rfl rfl .sure (Ope.eq rfl rfl ?_)
                  refine Dra.op' rfl rfl rfl .sure (Ope.pickT rfl rfl ?_)
                  refine Dra.op' rfl rfl rfl .sure (Ope.mov rfl ?_)
                  refine Dra.splitX rfl rfl rfl rfl (fun hg=>?_) fun hg=>?_
                  ·refine Dra.on' rfl rfl rfl rfl rfl .sure (Ope.mov rfl ?_)
                   refine Dra.on' rfl rfl rfl rfl rfl .sure (Ope.eq rfl rfl ?_)
                   refine Dra.op' rfl rfl rfl .sure (Ope.pickT rfl rfl ?_)
                   refine Dra.op' rfl rfl rfl .sure (Ope.mov rfl ?_)
                   refine Dra.splitX rfl rfl rfl rfl (fun hg=>?_) fun hg=>?_
                   ·refine Dra.on' rfl rfl rfl rfl rfl .sure (Ope.mov rfl ?_)
                    refine Dra.on' rfl rfl rfl rfl rfl .sure (Ope.eq rfl rfl ?_)
                    refine Dra.op' rfl rfl rfl .sure (Ope.pickT rfl rfl ?_)
                    refine Dra.op' rfl rfl rfl .sure (Ope.mov rfl ?_)
                    refine Dra.splitX rfl rfl rfl rfl (fun hg=>?_) fun hg=>?_
                    ·refine Dra.on' rfl rfl rfl rfl rfl .sure (Ope.mov rfl ?_)
                     refine Dra.on' rfl rfl rfl rfl rfl .sure (Ope.eq rfl rfl ?_)
                     refine Dra.op' rfl rfl rfl .sure (Ope.pickT rfl rfl ?_)
                     refine Dra.op' rfl rfl rfl .sure (Ope.mov rfl ?_)
                     refine Dra.splitX rfl rfl rfl rfl (fun hg=>?_) fun hg=>?_
                     ·refine Dra.on' rfl rfl rfl rfl rfl .sure (Ope.mov rfl ?_)
                      refine Dra.on' rfl rfl rfl rfl rfl .sure (Ope.eq rfl rfl ?_)
                      refine Dra.op' rfl rfl rfl .sure (Ope.pickT rfl rfl ?_)
                      refine Dra.op' rfl rfl rfl .sure (Ope.asg rfl ?_)
                      refine Dra.nil (Run.ret (fin_ret (.tmp rfl .nil) rfl ?_))
                      rfl
                     ·(exact absurd hg (by decide))
                    ·(exact absurd hg (by decide))
                   ·(exact absurd hg (by decide))
                  ·(exact absurd hg (by decide))
                 ·(exact absurd hg (by decide))
                ·(exact absurd hg (by decide))
               ·(exact absurd hg (by decide))
              ·(exact absurd hg (by decide))
             ·(exact absurd hg (by decide))
theorem awakeF:Clo P0 15 true:=fun hp X=>PFun.call f15 rfl (fun v e=>⟨e,rfl⟩) (fun _ h=>h.elim)
end Go.Pv
namespace Go.Pv
open Go.Proofs Go.Am
set_option maxRecDepth 10000
structure Lax (R X:Rst):Prop where
  m:X.m=R.m
  b:∀ (d:Rid) (x:Int),x=0∨x=1→R.brk d x=0→X.brk d x=0
theorem Lax.cnt {R X:Rst} (h:Lax R X):∀ (k:Nat) (d:Rid),Go.Pv.cnt R k d≤Go.Pv.cnt X k d
  | 0,d=>Nat.le_refl _
  | k + 1, d => by
    have i0:=h.cnt k (d.then 0)
    have i1:=h.cnt k (d.then 1)
    have h0:=h.b d 0 (.inl rfl)
    have h1:=h.b d 1 (.inr rfl)
    simp only [Go.Pv.cnt]
    by_cases c0:R.brk d 0=0<;>by_cases c1:R.brk d 1=0<;>simp only [c0,c1,if_true,if_false,h0,h1]<;>(try rw [if_pos (h0 c0)])<;>(try rw [if_pos (h1 c1)])<;>omega
theorem Lax.rt {R X:Rst} (h:Lax R X):∀ (xs:List Int) (d:Rid),(∀ x∈xs,x=0∨x=1)→Go.Pv.rt R d xs=true→Go.Pv.rt X d xs=true
  | [],_,_,_=>rfl
  | x :: xs, d, hx, hr => by
    simp only [Go.Pv.rt,Bool.and_eq_true,decide_eq_true_eq] at hr ⊢
    exact ⟨h.b d x (hx x (by simp)) hr.1,h.rt xs (d.then x) (fun y hy=>hx y (List.mem_cons_of_mem _ hy)) hr.2⟩
theorem Lax.out {R X : Rst} (h : Lax R X) {x : Nat} (hx : x = 0 ∨ x = 1) (i : Nat) : Lax (R.out x i) (X.out x i) := by
  refine ⟨?_,fun d y hy hb=>?_⟩
  · rcases hx with rfl | rfl<;>exact h.m
  · by_cases hc : (d.a + d.b).toNat ≠ i ∨ y ≠ x
    · rw [out_brk hx hy hc] at hb ⊢
      exact h.b d y hy hb
    · have e1 : (d.a + d.b).toNat = i := by
        by_cases e:(d.a+d.b).toNat=i
        · exact e
        · exact absurd (.inl e) hc
      have e2:y=x:=by
        by_cases e:y=x
        · exact e
        · exact absurd (.inr e) hc
      subst e2
      exact absurd hb (out_same hx e1)
theorem sub_zero {p q : Nat} (hp : p < 2 ^ 63) (hpq : ∀ i, p.testBit i = true → q.testBit i = true) : p &&& (2 ^ 64 - 1 - q) = 0 := by
  apply Nat.eq_of_testBit_eq
  intro i
  rw [Nat.zero_testBit,Nat.testBit_and]
  cases hb:p.testBit i with
  | false=>rfl
  | true =>
    have hq:=hpq i hb
    have hi:i < 64:=by
      by_cases hi:i < 64
      · exact hi
      · have := Nat.testBit_lt_two_pow (x := p) (i := i) (Nat.lt_of_lt_of_le hp (Nat.pow_le_pow_right (by decide) (by omega)))
        rw [this] at hb
        cases hb
    rw [show 2 ^ 64 - 1 - q=2 ^ 64 - (q+1) from by omega]
    by_cases hq64:q < 2 ^ 64
    · rw [Nat.testBit_two_pow_sub_succ hq64]
      simp [hq]
    · rw [show 2 ^ 64 - (q + 1) = 0 from by omega, Nat.zero_testBit]
      rfl
theorem Lax.must {R X:Rst} (h:Lax R X) (hm16:R.m≤16) {p:Nat×Nat} (hp:R.must=some p):∃ q,X.must=some q∧q.1 &&& (2 ^ 64 - 1 - p.1)=0∧q.2 &&& (2 ^ 64 - 1 - p.2)=0:=by
  cases hq:X.must with
  | none =>
    have h0:=must_none.1 hq
    have h1:R.many≠0:=by rw [Ne,← must_none,hp];simp
    have h2:=h.cnt R.m zeroRid
    unfold Rst.many at h0 h1
    rw [h.m] at h0
    omega
  | some q =>
    have hl:=must_lt hq
    rw [h.m] at hl
    have hpw:=pow16 hm16
    have hcn:∀ x i:Nat,x=0∨x=1→(X.out x i).many=0→(R.out x i).many=0:=by
      intro x i hx h0
      rw [out_many] at h0 ⊢
      have:=(h.out hx i).cnt R.m zeroRid
      rw [h.m] at h0
      omega
    refine ⟨q,rfl,sub_zero (by omega) fun i hi=>?_,sub_zero (by omega) fun i hi=>?_⟩
    · exact (must_bit hp i).1.2 ⟨by have:=((must_bit hq i).1.1 hi).1;rw [h.m] at this;exact this,hcn 0 i (.inl rfl) ((must_bit hq i).1.1 hi).2⟩
    · exact (must_bit hp i).2.2 ⟨by have:=((must_bit hq i).2.1 hi).1;rw [h.m] at this;exact this,hcn 1 i (.inr rfl) ((must_bit hq i).2.1 hi).2⟩
end Go.Pv
namespace Go.Pv
open Go.Proofs Go.Am
set_option maxRecDepth 10000
structure MoreV (R X:Rst):Prop where
  ok:X.ok
  v:validR X.m X.o0 X.t0 X.r0 X.f0 X.o1 X.t1 X.r1 X.f1=true
  lax:Lax R X
structure MoreT (R X:Rst):Prop where
  count:∃ n k:Nat,Fn P0 18 [.agg R.cells] (.tup [I n,I 0])∧Fn P0 18 [.agg X.cells] (.tup [I k,I 0])∧n≤k
  unt:∃ n k:Nat,Fn P0 20 [.agg R.cells] (.tup [I n,I 0])∧Fn P0 20 [.agg X.cells] (.tup [I k,I 0])∧n≤k
  rest:∃ (k l m n:Int) (a b c d:PV) (i j o p:Int),Fn P0 22 [.agg R.cells] (.tup [I k,a,I i])∧Fn P0 22 [.agg X.cells] (.tup [I l,b,I j])∧Fn P0 24 [.agg R.cells] (.tup [I m,c,I o])∧Fn P0 24 [.agg X.cells] (.tup [I n,d,I p])∧(i=0→j=0∧l≤k∧o=0∧p=0∧n≤m)
  must:∃ (s t u v:Nat) (q w:Int),Fn P0 29 [.agg R.cells] (.tup [I s,I t,I q])∧Fn P0 29 [.agg X.cells] (.tup [I u,I v,I w])∧(s < 65536∧t < 65536∧u < 65536∧v < 65536)∧(q=0→w=0∧u &&& (2 ^ 64 - 1 - s)=0∧v &&& (2 ^ 64 - 1 - t)=0)
end Go.Pv
namespace Go.Pv
open Go.Am Go.RowKit
theorem PCall.wide {P:Program} {g:FuncId} {args args':List PV} {h h':PH} {R X:PV→PH→Prop} (hn:h.next≤h'.next) (hs:∀ i b,h'.get i=some b→h.get i=some b) (ha:∀ (s:St) (xs:List Value),RVs s args xs→RVs s args' xs) (hp:PCall P g args' h' R X):PCall P g args h R X:=by
 refine ⟨hp.1,fun w0 s xs hw hh hx=>?_⟩
 subst hh
 have hx2:=Ext.wide (s:=s) hn
 refine (hp.2 w0 (s.wide h') xs (hw.wide hn hs) rfl ((R2s.ext hx2 _).1 _ (ha s _ hx))).mono fun e w' he=>?_
 obtain ⟨s',e1,e2,e3,e4⟩:=he
 exact ⟨s',e1,e2,hx2.trans e3,e4⟩
section
variable {C:Cx} {F:EQ} {X:EX} {e:EL} {ds:List Nat} {n m m':Nat} {l l':HL} {K:PV→PH→Prop}
variable {d:Option Tmp} {type:TypeId} {pos:String} {after:Array Edge} {guard:Option (Nat×Bool)}
theorem Ope.callW {f:Operand} {args:Array Operand} {tys:Array TypeId} {g:Nat} {fs ar cp args':List PV} {R:PV→PH→Prop} (hf:pev (lget e) f=some (.fn (.func g) fs cp)) (ha:pargs (pev (lget e)) args.toList=some ar)
  (hw:∀ (s:St) (xs:List Value),RVs s (fs++ar++cp) xs→RVs s args' xs) (hn:n≤m) (hs:∀ i b,hget l' i=some b→hget l i=some b) (hc:PCall C.P g args' (HE m l') R fun _ _=>False) (hK:∀ v h',R v h'→K v h') :
  Ope C X { dst:=d,op:=.call { callee:=.value f,args,argTypes:=tys },type,pos,after,guard } e ds (HE n l) K:=by
 refine Ope.call hf ha rfl ?_
 refine (PCall.wide (h:=HE n l) (h':=HE m l') hn hs hw hc).mono hK ?_
 intro v h' hx
 exact hx.elim
end
end Go.Pv
namespace Go.Pv
open Go.Proofs Go.Am
set_option maxRecDepth 10000
def Sync (L : List Int) (k : Nat) (d : Rid) : Prop :=
  d.a = (hst L 0 k).1 ∧ d.b = (hst L 1 k).1 ∧ d.a + d.b = k ∧
    ((k = 0 ∧ d.r = 0 ∧ d.n = 0) ∨ (1 ≤ k ∧ ∃ w o, ((w = 0 ∧ o = 1) ∨ (w = 1 ∧ o = 0)) ∧ d.r = w ∧ 1 ≤ d.n ∧ 0 < (hst L w k).1 ∧ (hst L w k).2.2 = d.n ∧ (hst L w k).2.1 = (k : Int) - 1 ∧ (hst L o k).2.2 = 0 ∧
      (((hst L o k).1=0∧(hst L o k).2.1=-1)∨(0 < (hst L o k).1∧(hst L o k).2.1=(k:Int) - 1 - d.n∧0≤(k:Int) - 1 - d.n))))
theorem sync_zero (L:List Int):Sync L 0 zeroRid:=by
  refine ⟨rfl,rfl,rfl,.inl ⟨rfl,rfl,rfl⟩⟩
theorem hst_yes {L:List Int} {k:Nat} {w:Int} (h:L.getD k 0=w):hst L w (k+1)=((hst L w k).1+1,(k:Int),(hst L w k).2.2+1):=by
  simp only [hst]
  rw [if_pos h]
theorem hst_not {L:List Int} {k:Nat} {w:Int} (h:L.getD k 0≠w):hst L w (k+1)=((hst L w k).1,(hst L w k).2.1,0):=by
  simp only [hst]
  rw [if_neg h]
theorem sync_step {L : List Int} {k : Nat} {d : Rid} (hs : Sync L k d) {x : Int} (hx : L.getD k 0 = x) (h01 : x = 0 ∨ x = 1) : Sync L (k + 1) (d.then x) := by
  obtain ⟨h1,h2,h3,h4⟩:=hs
  have hb0:=hst_bound L 0 k
  have hb1:=hst_bound L 1 k
  rcases h01 with rfl | rfl
  · have e0 := hst_yes hx
    have e1:hst L 1 (k+1)=_:=hst_not (by rw [hx];decide)
    refine ⟨by rw [e0];simp [Rid.then,h1],by rw [e1];simp [Rid.then,h2],by simp [Rid.then];omega,.inr ⟨by omega,0,1,.inl ⟨rfl,rfl⟩,rfl,?_⟩⟩
    rw [e0,e1]
    rcases h4 with ⟨rfl,h5,h6⟩ | ⟨hk,w,o,hwo,h5,h6,h7,h8,h9,h10,h11⟩
    · simp [Rid.then,h5,h6,hst]
    · rcases hwo with ⟨rfl, rfl⟩ | ⟨rfl, rfl⟩
      · simp only [Rid.then, h5, if_true]
        refine ⟨by omega,by omega,by omega,by omega,trivial,?_⟩
        rcases h11 with h11 | h11
        · left;omega
        · right;omega
      · simp only [Rid.then, h5, show ¬ (0 : Int) = 1 from by decide, if_false]
        refine ⟨by omega,by omega,by omega,by omega,trivial,?_⟩
        right;omega
  · have e1 := hst_yes hx
    have e0:hst L 0 (k+1)=_:=hst_not (by rw [hx];decide)
    refine ⟨by rw [e0];simp [Rid.then,h1],by rw [e1];simp [Rid.then,h2],by simp [Rid.then];omega,.inr ⟨by omega,1,0,.inr ⟨rfl,rfl⟩,rfl,?_⟩⟩
    rw [e0,e1]
    rcases h4 with ⟨rfl,h5,h6⟩ | ⟨hk,w,o,hwo,h5,h6,h7,h8,h9,h10,h11⟩
    · simp [Rid.then,h5,h6,hst]
    · rcases hwo with ⟨rfl, rfl⟩ | ⟨rfl, rfl⟩
      · simp only [Rid.then, h5, show ¬ (1 : Int) = 0 from by decide, if_false]
        refine ⟨by omega,by omega,by omega,by omega,trivial,?_⟩
        right;omega
      · simp only [Rid.then, h5, if_true]
        refine ⟨by omega,by omega,by omega,by omega,trivial,?_⟩
        rcases h11 with h11 | h11
        · left;omega
        · right;omega
theorem brk_eq {o : Nat} {t r f : Int} {L : List Int} {k : Nat} {d : Rid} (hs : Sync L k d) {x : Int} (h01 : x = 0 ∨ x = 1) :
    (if viol o t r f d x 0 then (1:Int) else if viol o t r f d x 1 then 2 else if viol o t r f d x 2 then 3 else if viol o t r f d x 3 then 4 else 0)=lawBrk o t r f k (hst L x k):=by
  obtain ⟨h1,h2,h3,h4⟩:=hs
  have htn:(d.a+d.b).toNat=k:=by omega
  have hb0:=hst_bound L 0 k
  have hb1:=hst_bound L 1 k
  have hv1:viol o t r f d x 1=decide (t < (hst L x k).1+1):=by
    simp only [viol,decide_eq_decide]
    rcases h01 with rfl | rfl<;>simp [Rid.then]<;>omega
  have other:∀ w o':Int,(w=0∧o'=1)∨(w=1∧o'=0)→x≠w→x=o':=by
    intro w o' hwo hne
    rcases h01 with hx | hx<;>rcases hwo with ⟨hw,ho⟩ | ⟨hw,ho⟩<;>omega
  have hv2:viol o t r f d x 2=decide (r < (hst L x k).2.2+1):=by
    simp only [viol,decide_eq_decide]
    have hn:(d.then x).n=if x=d.r then d.n+1 else 1:=rfl
    rcases h4 with ⟨hk0,h5,h6⟩ | ⟨hk,w,o',hwo,h5,h6,h7,h8,h9,h10,h11⟩
    · have hz : (hst L x k).2.2 = 0 := by rw [hk0]; rfl
      by_cases hxr:x=d.r
      · rw [if_pos hxr] at hn;omega
      · rw [if_neg hxr] at hn;omega
    · by_cases hxr : x = d.r
      · rw [if_pos hxr] at hn
        rw [← hxr.trans h5] at h8
        omega
      · rw [if_neg hxr] at hn
        rw [← other w o' hwo (fun e=>hxr (e.trans h5.symm))] at h10
        omega
  have hcnt:(if x=0 then d.a else d.b)=(hst L x k).1:=by
    rcases h01 with hx | hx
    · rw [if_pos hx,hx];exact h1
    · rw [if_neg (by omega),hx];exact h2
  have hv3:viol o t r f d x 3=decide (0≤(hst L x k).2.1∧(hst L x k).2.1 < (k:Int) - 1∧(k:Int) - 1 - (hst L x k).2.1 < f):=by
    simp only [viol,decide_eq_decide,hcnt]
    rcases h4 with ⟨hk0,h5,h6⟩ | ⟨hk,w,o',hwo,h5,h6,h7,h8,h9,h10,h11⟩
    · have hz : (hst L x k).2.1 = -1 := by rw [hk0]; rfl
      rw [if_neg (by simp;omega)]
      omega
    · by_cases hxr : x = d.r
      · rw [if_neg (by simp [hxr])]
        rw [← hxr.trans h5] at h9
        omega
      · rw [← other w o' hwo (fun e => hxr (e.trans h5.symm))] at h11
        by_cases hc:0 < (hst L x k).1
        · rw [if_pos (by simp [hxr, hc]; omega)]
          omega
        · rw [if_neg (by simp [hc])]
          omega
  rw [hv1,hv2,hv3]
  simp only [viol,htn,lawBrk,decide_eq_true_eq]
theorem brk_law {R:Rst} {L:List Int} {k:Nat} {d:Rid} (hs:Sync L k d) {x:Int} (hx:L.getD k 0=x) (h01:x=0∨x=1):R.brk d x=R.law L k:=by
  unfold Rst.law
  rw [hx]
  rcases h01 with rfl | rfl
  · rw [if_pos rfl, ← brk_eq hs (.inl rfl)]
    simp only [Rst.brk,Rst.viol,if_true]
  · rw [if_neg (by decide), ← brk_eq hs (.inr rfl)]
    simp only [Rst.brk,Rst.viol,show ¬ (1:Int)=0 from by decide,if_false]
theorem brk_range (R : Rst) (d : Rid) (x : Int) (h : R.brk d x ≠ 0) : 1 ≤ R.brk d x ∧ R.brk d x ≤ 4 := by
  unfold Rst.brk at h ⊢
  split
  · decide
  · split
    · decide
    · split
      · decide
      · split
        · decide
        · simp_all
theorem fault_law {R : Rst} {L : List Int} (h01 : ∀ x ∈ L, x = 0 ∨ x = 1) : ∀ (n k : Nat) (d : Rid), L.length = k + n → Sync L k d →
    (faultV R d (L.drop k)=(0,0)∧∀ i,k≤i→i < L.length→R.law L i=0) ∨
      ∃ hh:Nat,k≤hh∧hh < L.length∧faultV R d (L.drop k)=((hh:Int),R.law L hh)∧(1≤R.law L hh∧R.law L hh≤4)∧∀ i,k≤i→i < hh→R.law L i=0
  | 0, k, d, hn, _ => by
    left
    rw [List.drop_eq_nil_of_le (by omega)]
    exact ⟨rfl,fun i h1 h2=>by omega⟩
  | n + 1, k, d, hn, hs => by
    have hlt:k < L.length:=by omega
    have hg:L.getD k 0=L[k]:=by simp [List.getD,hlt]
    have hx:=h01 L[k] (List.getElem_mem _)
    have hb:R.brk d L[k]=R.law L k:=brk_law hs hg hx
    rw [List.drop_eq_getElem_cons hlt]
    simp only [faultV]
    by_cases h0:R.brk d L[k]=0
    · rw [if_pos h0]
      rcases fault_law h01 n (k+1) (d.then L[k]) (by omega) (sync_step hs hg hx) with ⟨h1,h2⟩ | ⟨hh,h1,h2,h3,h4,h5⟩
      · left
        refine ⟨h1,fun i hi1 hi2=>?_⟩
        rcases Nat.eq_or_lt_of_le hi1 with rfl | h
        · rw [← hb];exact h0
        · exact h2 i h hi2
      · right
        refine ⟨hh,by omega,h2,h3,h4,fun i hi1 hi2=>?_⟩
        rcases Nat.eq_or_lt_of_le hi1 with rfl | h
        · rw [← hb];exact h0
        · exact h5 i h hi2
    · rw [if_neg h0]
      right
      refine ⟨k,Nat.le_refl _,hlt,?_,?_,fun i h1 h2=>by omega⟩
      · rw [hb,hs.2.2.1]
      · rw [← hb];exact brk_range R d _ h0
theorem rt_law {R:Rst} {L:List Int} (h01:∀ x∈L,x=0∨x=1):rt R zeroRid L=true↔∀ i,i < L.length→R.law L i=0:=by
  have hf:=rt_fault R L zeroRid
  rcases fault_law (R:=R) h01 L.length 0 zeroRid (by omega) (sync_zero L) with ⟨h1,h2⟩ | ⟨hh,h1,h2,h3,h4,h5⟩
  · rw [List.drop_zero] at h1
    rw [hf,h1]
    exact ⟨fun _ i hi=>h2 i (Nat.zero_le _) hi,fun _=>by decide⟩
  · rw [List.drop_zero] at h3
    rw [hf,h3]
    constructor
    · intro h
      exact absurd (show 0 < R.law L hh by omega) h
    · intro h
      have:=h hh h2
      omega
end Go.Pv
