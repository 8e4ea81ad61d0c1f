/- Parts of the proof: T40, T41, T42 -/
import Derived.Test.YtabejoodkhlnaaaGreatP18
set_option linter.unusedVariables false
set_option linter.unusedSimpArgs false
namespace Go.Pv
open Go.Proofs Go.Am
set_option maxRecDepth 10000
theorem fewA_none (A:Ask) (R:Rst):∀ (k:Nat) (d:Rid),few A R k d=none↔cnt R k d=0
  | 0,d=>by simp [few,cnt]
  | k + 1, d => by
    have i0:=fewA_none A R k (d.then 0)
    have i1:=fewA_none A R k (d.then 1)
    simp only [few,cnt]
    by_cases c0:R.brk d 0=0<;>by_cases c1:R.brk d 1=0<;>simp only [c0,c1,if_true,if_false]<;>cases m0:few A R k (d.then 0)<;>cases m1:few A R k (d.then 1)<;>rw [m0] at i0<;>rw [m1] at i1<;>simp only [reduceCtorEq,true_iff,false_iff] at i0 i1<;>simp only [Option.map_none,Option.map_some,joinW,reduceCtorEq,true_iff,false_iff]<;>omega
theorem spn_none (u:Nat) (R:Rst):∀ (k:Nat) (d:Rid),spn u R k d=none↔cnt R k d=0
  | 0,d=>by simp [spn,cnt]
  | k + 1, d => by
    have i0:=spn_none u R k (d.then 0)
    have i1:=spn_none u R k (d.then 1)
    simp only [spn,cnt]
    by_cases c0:R.brk d 0=0<;>by_cases c1:R.brk d 1=0<;>simp only [c0,c1,if_true,if_false]<;>cases m0:spn u R k (d.then 0)<;>cases m1:spn u R k (d.then 1)<;>rw [m0] at i0<;>rw [m1] at i1<;>simp only [reduceCtorEq,true_iff,false_iff] at i0 i1<;>simp only [Option.map_none,Option.map_some,joinS,reduceCtorEq,true_iff,false_iff]<;>omega
def gco (e:Rid→Int) (c:Rid→Int→Int):Rid→List Int→Int
  | d,[]=>e d
  | d,x::xs=>c d x+gco e c (d.then x) xs
structure Cst (A:Ask) (e:Rid→Int) (c:Rid→Int→Int):Prop where
  hE:∀ d,A.E d=(e d,[])
  hS:∀ d x w,A.S d x w=(c d x+w.1,x::w.2)
def BestA (e:Rid→Int) (c:Rid→Int→Int) (R:Rst) (k:Nat) (d:Rid) (w:Int×List Int):Prop :=
  w.2.length=k∧(∀ x∈w.2,x=0∨x=1)∧rt R d w.2=true∧w.1=gco e c d w.2∧∀ ys:List Int,ys.length=k→(∀ y∈ys,y=0∨y=1)→rt R d ys=true→w.1≤gco e c d ys∧(w.1=gco e c d ys→lexle w.2 ys)
theorem fewA_best {A : Ask} {e : Rid → Int} {c : Rid → Int → Int} (hA : Cst A e c) (R : Rst) : ∀ (k : Nat) (d : Rid) (w : Int × List Int), few A R k d = some w → BestA e c R k d w
  | 0, d, w, h => by
    have h':w=(e d,[]):=by
      simp only [few,Option.some.injEq] at h
      rw [← h,hA.hE]
    subst h'
    refine ⟨rfl,by simp,rfl,rfl,fun ys hl _ _=>?_⟩
    have:ys=[]:=List.length_eq_zero_iff.1 hl
    subst this
    exact ⟨Int.le_refl _,fun _=>trivial⟩
  | k + 1, d, w, h => by
    -- what is so of one ride
    have key:∀ x:Int,x=0∨x=1→∀ v,(if R.brk d x=0 then (few A R k (d.then x)).map (A.S d x) else none)=some v →
        v.2.length=k+1∧(∀ z∈v.2,z=0∨z=1)∧rt R d v.2=true∧v.1=gco e c d v.2∧(∃ t,v.2=x::t) ∧
        ∀ ys:List Int,ys.length=k→(∀ y∈ys,y=0∨y=1)→rt R d (x::ys)=true→v.1≤gco e c d (x::ys)∧(v.1=gco e c d (x::ys)→lexle v.2 (x::ys)):=by
      intro x hx v hv
      split at hv
      · next hb =>
        obtain ⟨u,hu,rfl⟩:=Option.map_eq_some_iff.1 hv
        obtain ⟨g1,g2,g3,g4,g5⟩:=fewA_best hA R k (d.then x) u hu
        rw [hA.hS]
        refine ⟨by simp [g1],?_,?_,?_,⟨u.2,rfl⟩,?_⟩
        · intro z hz
          rcases List.mem_cons.1 hz with rfl | hz
          · exact hx
          · exact g2 z hz
        · simp [rt,hb,g3]
        · simp only [gco];rw [g4]
        · intro ys hl hy hr
          simp only [rt,Bool.and_eq_true,decide_eq_true_eq] at hr
          obtain ⟨q1,q2⟩:=g5 ys hl hy hr.2
          simp only [gco]
          exact ⟨by omega,fun e=>.inr ⟨rfl,q2 (by omega)⟩⟩
      · cases hv
    have nkey:∀ x:Int,(if R.brk d x=0 then (few A R k (d.then x)).map (A.S d x) else none)=none→∀ ys:List Int,ys.length=k→(∀ y∈ys,y=0∨y=1)→rt R d (x::ys)=true→False:=by
      intro x hv ys hl hy hr
      simp only [rt,Bool.and_eq_true,decide_eq_true_eq] at hr
      rw [if_pos hr.1] at hv
      have:=rt_cnt R ys (d.then x) hy hr.2
      rw [hl] at this
      have hn:=(fewA_none A R k (d.then x)).1 (Option.map_eq_none_iff.1 hv)
      omega
    rw [few] at h
    have fin:∀ (x x':Int),(x=0∧x'=1)∨(x=1∧x'=0)→∀ v,(if R.brk d x=0 then (few A R k (d.then x)).map (A.S d x) else none)=some v →
        (∀ ys:List Int,ys.length=k→(∀ y∈ys,y=0∨y=1)→rt R d (x'::ys)=true→v.1≤gco e c d (x'::ys)∧(v.1=gco e c d (x'::ys)→x < x'))→BestA e c R (k+1) d v:=by
      intro x x' hxx v hv hoth
      obtain ⟨g1,g2,g3,g4,⟨t,g5⟩,g6⟩:=key x (by omega) v hv
      refine ⟨g1,g2,g3,g4,fun ys hl hy hr=>?_⟩
      cases ys with
      | nil=>simp at hl
      | cons y ys =>
        simp only [List.length_cons,Nat.add_right_cancel_iff] at hl
        have hy':=fun z hz=>hy z (List.mem_cons_of_mem _ hz)
        rcases (by have:=hy y (by simp);omega:y=x∨y=x') with rfl | rfl
        · exact g6 ys hl hy' hr
        · obtain ⟨q1, q2⟩ := hoth ys hl hy' hr
          refine ⟨q1,fun e=>?_⟩
          rw [g5]
          exact .inl (q2 e)
    cases ha:(if R.brk d 0=0 then (few A R k (d.then 0)).map (A.S d 0) else none) with
    | none =>
      rw [ha] at h
      exact fin 1 0 (.inr ⟨rfl,rfl⟩) w h fun ys hl hy hr=>(nkey 0 ha ys hl hy hr).elim
    | some a =>
      cases hb:(if R.brk d 1=0 then (few A R k (d.then 1)).map (A.S d 1) else none) with
      | none =>
        rw [ha,hb] at h
        simp only [joinW,Option.some.injEq] at h
        subst h
        exact fin 0 1 (.inl ⟨rfl,rfl⟩) a ha fun ys hl hy hr=>(nkey 1 hb ys hl hy hr).elim
      | some b =>
        rw [ha,hb] at h
        obtain ⟨_,_,_,_,_,ga⟩:=key 0 (.inl rfl) a ha
        obtain ⟨_,_,_,_,_,gb⟩:=key 1 (.inr rfl) b hb
        simp only [joinW,bestW,Option.some.injEq] at h
        split at h
        · next hlt =>
          subst h
          refine fin 1 0 (.inr ⟨rfl,rfl⟩) b hb fun ys hl hy hr=>?_
          have:=(ga ys hl hy hr).1
          exact ⟨by omega,fun e=>by omega⟩
        · next hlt =>
          subst h
          refine fin 0 1 (.inl ⟨rfl,rfl⟩) a ha fun ys hl hy hr=>?_
          have:=(gb ys hl hy hr).1
          exact ⟨by omega,fun _=>by decide⟩
theorem cstE:Cst askE dif (fun _ _=>0):=⟨fun _=>rfl,fun d x w=>by show (w.1,x::w.2)=(0+w.1,x::w.2);rw [Int.zero_add]⟩
def fin:Rid→List Int→Rid
  | d,[]=>d
  | d,x::xs=>fin (d.then x) xs
def cw (u:Int):List Int→Int
  | []=>0
  | x::xs=>(if x=u then 1 else 0)+cw u xs
theorem gcoE:∀ (xs:List Int) (d:Rid),gco dif (fun _ _=>0) d xs=dif (fin d xs)
  | [],_=>rfl
  | x :: xs, d => by
    show 0+gco dif (fun _ _=>0) (d.then x) xs=_
    rw [gcoE xs,Int.zero_add]
    rfl
theorem fin_ab : ∀ (xs : List Int) (d : Rid), (∀ x ∈ xs, x = 0 ∨ x = 1) → (fin d xs).a = d.a + cw 0 xs ∧ (fin d xs).b = d.b + cw 1 xs
  | [],d,_=>by simp [fin,cw]
  | x :: xs, d, hx => by
    obtain ⟨h1,h2⟩:=fin_ab xs (d.then x) (fun y hy=>hx y (List.mem_cons_of_mem _ hy))
    rcases hx x (by simp) with rfl | rfl
    · have e1 : (d.then 0).a = d.a + 1 := rfl
      have e2:(d.then 0).b=d.b:=rfl
      have e3:cw 0 (0::xs)=1+cw 0 xs:=rfl
      have e4:cw 1 (0::xs)=0+cw 1 xs:=rfl
      rw [e1] at h1
      rw [e2] at h2
      rw [e3,e4]
      constructor
      · show (fin (d.then 0) xs).a = _
        omega
      · show (fin (d.then 0) xs).b = _
        omega
    · have e1 : (d.then 1).a = d.a := rfl
      have e2:(d.then 1).b=d.b+1:=rfl
      have e3:cw 0 (1::xs)=0+cw 0 xs:=rfl
      have e4:cw 1 (1::xs)=1+cw 1 xs:=rfl
      rw [e1] at h1
      rw [e2] at h2
      rw [e3,e4]
      constructor
      · show (fin (d.then 1) xs).a = _
        omega
      · show (fin (d.then 1) xs).b = _
        omega
theorem cw_sum:∀ (xs:List Int),(∀ x∈xs,x=0∨x=1)→cw 0 xs+cw 1 xs=xs.length
  | [],_=>rfl
  | x :: xs, hx => by
    have:=cw_sum xs (fun y hy=>hx y (List.mem_cons_of_mem _ hy))
    simp only [cw,List.length_cons]
    rcases hx x (by simp) with rfl | rfl<;>simp<;>omega
theorem cw_bnd (u:Int):∀ (xs:List Int),0≤cw u xs∧cw u xs≤xs.length
  | []=>⟨Int.le_refl _,Int.le_refl _⟩
  | x :: xs => by
    have:=cw_bnd u xs
    simp only [cw,List.length_cons]
    split<;>omega
theorem cw_app (u:Int):∀ (xs ys:List Int),cw u (xs++ys)=cw u xs+cw u ys
  | [],ys=>by simp [cw]
  | x :: xs, ys => by
    simp only [List.cons_append,cw,cw_app u xs ys]
    omega
theorem cw_take {u:Int} {xs:List Int} {i:Nat} {x:Int} (hx:xs[i]?=some x):cw u (xs.take (i+1))=cw u (xs.take i)+if x=u then 1 else 0:=by
  obtain ⟨h1,h2⟩:=List.getElem?_eq_some_iff.1 hx
  rw [List.take_succ_eq_append_getElem h1,cw_app,h2]
  simp [cw]
theorem tot_le (R : Rst) : ∀ (xs : List Int) (d : Rid), (∀ x ∈ xs, x = 0 ∨ x = 1) → rt R d xs = true → ((fin d xs).a = d.a ∨ (fin d xs).a ≤ R.t0) ∧ ((fin d xs).b = d.b ∨ (fin d xs).b ≤ R.t1)
  | [],_,_,_=>⟨.inl rfl,.inl rfl⟩
  | x :: xs, d, hx, hr => by
    simp only [rt,Bool.and_eq_true,decide_eq_true_eq] at hr
    obtain ⟨h1,h2⟩:=tot_le R xs (d.then x) (fun y hy=>hx y (List.mem_cons_of_mem _ hy)) hr.2
    have hv:R.viol d x 1=false:=by
      cases hv:R.viol d x 1 with
      | false=>rfl
      | true =>
        have hb:=hr.1
        unfold Rst.brk at hb
        rw [hv] at hb
        split at hb<;>simp at hb
    show ((fin (d.then x) xs).a=d.a∨_)∧((fin (d.then x) xs).b=d.b∨_)
    rcases hx x (by simp) with rfl | rfl
    · have hv : decide (0 < (d.a + 1) - R.t0) = false := hv
      have ha:(d.then 0).a=d.a+1:=rfl
      have hb:(d.then 0).b=d.b:=rfl
      have:=of_decide_eq_false hv
      rw [ha] at h1
      rw [hb] at h2
      exact ⟨.inr (by show (fin (d.then 0) xs).a≤_;omega),h2⟩
    · have hv : decide (0 < (d.b + 1) - R.t1) = false := hv
      have ha:(d.then 1).a=d.a:=rfl
      have hb:(d.then 1).b=d.b+1:=rfl
      have:=of_decide_eq_false hv
      rw [ha] at h1
      rw [hb] at h2
      exact ⟨h1,.inr (by show (fin (d.then 1) xs).b≤_;omega)⟩
def Right (R:Rst) (k:Nat) (d:Rid) (xs:List Int):Prop:=xs.length=k∧(∀ x∈xs,x=0∨x=1)∧rt R d xs=true
theorem Right.cons {R:Rst} {k:Nat} {d:Rid} {x:Int} {xs:List Int} (h:Right R k (d.then x) xs) (hx:x=0∨x=1) (hb:R.brk d x=0):Right R (k+1) d (x::xs):=by
  refine ⟨by simp [h.1],?_,by simp [rt,hb,h.2.2]⟩
  intro y hy
  rcases List.mem_cons.1 hy with rfl | hy
  · exact hx
  · exact h.2.1 y hy
def SpnOk (u:Nat) (R:Rst) (k:Nat) (d:Rid) (p:Int×Int):Prop :=
  (∃ ys,Right R k d ys∧(fin d ys).tot u=p.1)∧(∃ ys,Right R k d ys∧(fin d ys).tot u=p.2)∧∀ ys,Right R k d ys→p.1≤(fin d ys).tot u∧(fin d ys).tot u≤p.2
theorem spn_ok (u : Nat) (R : Rst) : ∀ (k : Nat) (d : Rid) (p : Int × Int), spn u R k d = some p → SpnOk u R k d p
  | 0, d, p, h => by
    simp only [spn,Option.some.injEq] at h
    subst h
    have h0:Right R 0 d []:=⟨rfl,by simp,rfl⟩
    refine ⟨⟨[],h0,rfl⟩,⟨[],h0,rfl⟩,fun ys hy=>?_⟩
    have:ys=[]:=List.length_eq_zero_iff.1 hy.1
    subst this
    exact ⟨Int.le_refl _,Int.le_refl _⟩
  | k + 1, d, p, h => by
    have key:∀ x:Int,x=0∨x=1→∀ q,(if R.brk d x=0 then (spn u R k (d.then x)).map idS else none)=some q →
        (∃ ys,Right R (k+1) d ys∧(fin d ys).tot u=q.1)∧(∃ ys,Right R (k+1) d ys∧(fin d ys).tot u=q.2)∧∀ ys,Right R (k+1) d (x::ys)→q.1≤(fin d (x::ys)).tot u∧(fin d (x::ys)).tot u≤q.2:=by
      intro x hx q hq
      split at hq
      · next hb =>
        obtain ⟨q',h1,rfl⟩:=Option.map_eq_some_iff.1 hq
        obtain ⟨⟨ys,r1,r2⟩,⟨zs,r3,r4⟩,r5⟩:=spn_ok u R k (d.then x) q' h1
        refine ⟨⟨x::ys,r1.cons hx hb,r2⟩,⟨x::zs,r3.cons hx hb,r4⟩,fun ws hw=>?_⟩
        obtain ⟨w1,w2,w3⟩:=hw
        simp only [rt,Bool.and_eq_true] at w3
        exact r5 ws ⟨by simpa using w1,fun y hy=>w2 y (List.mem_cons_of_mem _ hy),w3.2⟩
      · cases hq
    have nkey:∀ x:Int,(if R.brk d x=0 then (spn u R k (d.then x)).map idS else none)=none→∀ ys,Right R (k+1) d (x::ys)→False:=by
      intro x hv ys hy
      obtain ⟨w1,w2,w3⟩:=hy
      simp only [rt,Bool.and_eq_true,decide_eq_true_eq] at w3
      rw [if_pos w3.1] at hv
      have:=rt_cnt R ys (d.then x) (fun y hy=>w2 y (List.mem_cons_of_mem _ hy)) w3.2
      rw [show ys.length=k by simpa using w1] at this
      have hn:=(spn_none u R k (d.then x)).1 (Option.map_eq_none_iff.1 hv)
      omega
    have all:∀ ys,Right R (k+1) d ys→∃ x ws,(x=0∨x=1)∧ys=x::ws:=by
      intro ys hy
      cases ys with
      | nil=>have:=hy.1;simp at this
      | cons y ys=>exact ⟨y,ys,hy.2.1 y (by simp),rfl⟩
    rw [spn] at h
    cases ha:(if R.brk d 0=0 then (spn u R k (d.then 0)).map idS else none) with
    | none =>
      rw [ha] at h
      obtain ⟨h1,h2,h3⟩:=key 1 (.inr rfl) p h
      refine ⟨h1,h2,fun ys hy=>?_⟩
      obtain ⟨x,ws,hx,rfl⟩:=all ys hy
      rcases hx with rfl | rfl
      · exact (nkey 0 ha ws hy).elim
      · exact h3 ws hy
    | some a =>
      obtain ⟨a1,a2,a3⟩:=key 0 (.inl rfl) a ha
      cases hb:(if R.brk d 1=0 then (spn u R k (d.then 1)).map idS else none) with
      | none =>
        rw [ha,hb] at h
        simp only [joinS,Option.some.injEq] at h
        subst h
        refine ⟨a1,a2,fun ys hy=>?_⟩
        obtain ⟨x,ws,hx,rfl⟩:=all ys hy
        rcases hx with rfl | rfl
        · exact a3 ws hy
        · exact (nkey 1 hb ws hy).elim
      | some b =>
        obtain ⟨b1,b2,b3⟩:=key 1 (.inr rfl) b hb
        rw [ha,hb] at h
        simp only [joinS,hull,Option.some.injEq] at h
        subst h
        refine ⟨?_,?_,fun ys hy=>?_⟩
        · show ∃ ys, Right R (k + 1) d ys ∧ (fin d ys).tot u = min a.1 b.1
          rcases (by omega:min a.1 b.1=a.1∨min a.1 b.1=b.1) with e | e<;>rw [e]<;>assumption
        · show ∃ ys, Right R (k + 1) d ys ∧ (fin d ys).tot u = max a.2 b.2
          rcases (by omega:max a.2 b.2=a.2∨max a.2 b.2=b.2) with e | e<;>rw [e]<;>assumption
        · show min a.1 b.1 ≤ _ ∧ _ ≤ max a.2 b.2
          obtain ⟨x,ws,hx,rfl⟩:=all ys hy
          rcases hx with rfl | rfl
          · have:=a3 ws hy;omega
          · have:=b3 ws hy;omega
theorem fin_tot {xs:List Int} (hx:∀ x∈xs,x=0∨x=1):(fin zeroRid xs).tot 0=cw 0 xs∧(fin zeroRid xs).tot 1=cw 1 xs∧(fin zeroRid xs).a=cw 0 xs∧(fin zeroRid xs).b=cw 1 xs:=by
  obtain ⟨h1,h2⟩:=fin_ab xs zeroRid hx
  rw [show zeroRid.a=0 from rfl,Int.zero_add] at h1
  rw [show zeroRid.b=0 from rfl,Int.zero_add] at h2
  exact ⟨h1,h2,h1,h2⟩
theorem spans {R:Rst} {p q:Int×Int} (hp:spn 0 R R.m zeroRid=some p) (hq:spn 1 R R.m zeroRid=some q) (ht0:0≤R.t0) (ht1:0≤R.t1) :
    0≤p.1∧p.1≤p.2∧p.1+q.2=R.m∧p.2+q.1=R.m∧p.2≤R.t0∧q.2≤R.t1∧∀ ys,Right R R.m zeroRid ys→p.1≤cw 0 ys∧cw 0 ys≤p.2:=by
  obtain ⟨⟨a,a1,a2⟩,⟨b,b1,b2⟩,hh⟩:=spn_ok 0 R R.m zeroRid p hp
  obtain ⟨⟨a',a1',a2'⟩,⟨b',b1',b2'⟩,hh'⟩:=spn_ok 1 R R.m zeroRid q hq
  have g:∀ ys,Right R R.m zeroRid ys→(p.1≤cw 0 ys∧cw 0 ys≤p.2)∧(q.1≤cw 1 ys∧cw 1 ys≤q.2)∧cw 0 ys+cw 1 ys=R.m∧0≤cw 0 ys∧0≤cw 1 ys∧cw 0 ys≤R.t0∧cw 1 ys≤R.t1:=by
    intro ys hy
    have h1:=hh ys hy
    have h2:=hh' ys hy
    obtain ⟨t1,t2,t3,t4⟩:=fin_tot hy.2.1
    rw [t1] at h1
    rw [t2] at h2
    have h3:=cw_sum ys hy.2.1
    rw [hy.1] at h3
    have h4:=tot_le R ys zeroRid hy.2.1 hy.2.2
    rw [t3,t4,show zeroRid.a=0 from rfl,show zeroRid.b=0 from rfl] at h4
    exact ⟨h1,h2,h3,(cw_bnd 0 ys).1,(cw_bnd 1 ys).1,by omega,by omega⟩
  rw [(fin_tot a1.2.1).1] at a2
  rw [(fin_tot b1.2.1).1] at b2
  rw [(fin_tot a1'.2.1).2.1] at a2'
  rw [(fin_tot b1'.2.1).2.1] at b2'
  have ga:=g a a1
  have gb:=g b b1
  have ga':=g a' a1'
  have gb':=g b' b1'
  exact ⟨by omega,by omega,by omega,by omega,by omega,by omega,fun ys hy=>(g ys hy).1⟩
theorem f40 (tl:Tail) (xs:List Int) (hl:xs.length≤16) (u:Int):Fn P0 40 [.sl tl (xs.map I),I u] (I (cw u xs)):=by
  refine PFun.of (C:=c40) (cx_ok _ _ _) rfl (fn:=Tryz.f40) (by kernel_rfl) (c:=_) rfl rfl rfl ?_
  refine Run.seq (Run.region (cx_ok _ _ _) (Reg.op rfl (Ope.asg rfl ?_)))
  refine Reg.nil (Run.seq (Run.region (cx_ok _ _ _) (Reg.op rfl (Ope.asg rfl ?_))))
  refine Reg.nil (Run.seq (Run.seq (Run.region (cx_ok _ _ _) (Reg.op rfl (Ope.asg rfl ?_)))))
  refine Reg.nil (Run.block (Run.loop (α:=Nat×Int) (fun s=>[(0,.sl tl (xs.map I)),(1,I u),(5,I s.2),(6,I s.1)]) (fun _=>HE 0 []) (fun s=>s.1≤xs.length∧s.2=cw u (xs.take s.1)) (fun s=>xs.length - s.1) (0,0) ⟨rfl,rfl,rfl,rfl,trivial⟩ rfl ⟨Nat.zero_le _,rfl⟩ (fun s hs=>?_)))
  obtain ⟨i,v⟩:=s
  obtain ⟨hi,hv⟩:=hs
  simp only at hi hv
  have hv1:=cw_bnd u (xs.take i)
  rw [List.length_take] at hv1
  show Run _ _ _ _ [(0,.sl tl (xs.map I)),(1,I u),(5,I v),(6,I i)] [] (HE 0 [])
  refine Run.seq (Run.seq (Run.region (cx_ok _ _ _) (Reg.op rfl (Ope.mov rfl ?_))))
  refine Reg.op rfl (Ope.mov rfl ?_)
  refine Reg.op rfl (Ope.len (m:=xs.length) rfl (by simp) ?_)
  refine Reg.op rfl (Ope.lt rfl rfl ?_)
  refine Reg.nil (Run.condX rfl (fun hc=>?_) fun hc=>?_)
  ·refine Run.skip (Run.seq (Run.block (Run.seq ?_)))
   have hlt:i < xs.length:=by omega
   have hstep:=cw_take (u:=u) (xs:=xs) (i:=i) (List.getElem?_eq_getElem hlt)
   refine Run.region (cx_ok _ _ _) (Reg.op rfl (Ope.mov rfl ?_))
   refine Reg.op rfl (Ope.mov rfl ?_)
   refine Reg.op rfl (Ope.idxM (m:=i) rfl rfl rfl hlt (fun _=>rfl) ?_)
   refine Reg.op rfl (Ope.load rfl rfl ?_)
   refine Reg.op rfl (Ope.mov rfl ?_)
   refine Reg.op rfl (Ope.eq rfl rfl ?_)
   refine Reg.nil (Run.condX rfl (fun hc=>?_) fun hc=>?_)
   ·refine Run.region (cx_ok _ _ _) (Reg.op rfl (Ope.mov rfl ?_))
    refine Reg.op rfl (Ope.add rfl rfl (by omega) ?_)
    refine Reg.op rfl (Ope.asg rfl ?_)
    refine Reg.nil (Run.bend (Run.region (cx_ok _ _ _) (Reg.op rfl (Ope.mov rfl ?_))))
    refine Reg.op rfl (Ope.add rfl rfl (by omega) ?_)
    refine Reg.op rfl (Ope.asg rfl ?_)
    refine Reg.nil ?_
    first
      | (refine Run.lend ⟨(i + 1, v + 1), by simp only; omega, ⟨by simp only; omega, ?_⟩, ⟨rfl, rfl, rfl, rfl, trivial⟩, rfl, rfl⟩
         show v+1=cw u (xs.take (i+1))
         rw [hstep,hv,if_pos (by simpa using hc)])
      | (refine Run.lend ⟨(i + 1, v), by simp only; omega, ⟨by simp only; omega, ?_⟩, ⟨rfl, rfl, rfl, rfl, trivial⟩, rfl, rfl⟩
         show v=cw u (xs.take (i+1))
         rw [hstep,hv,if_neg (by simpa using hc),Int.add_zero])
   ·refine Run.skip (Run.bend (Run.region (cx_ok _ _ _) (Reg.op rfl (Ope.mov rfl ?_))))
    refine Reg.op rfl (Ope.add rfl rfl (by omega) ?_)
    refine Reg.op rfl (Ope.asg rfl ?_)
    refine Reg.nil ?_
    first
      | (refine Run.lend ⟨(i + 1, v + 1), by simp only; omega, ⟨by simp only; omega, ?_⟩, ⟨rfl, rfl, rfl, rfl, trivial⟩, rfl, rfl⟩
         show v+1=cw u (xs.take (i+1))
         rw [hstep,hv,if_pos (by simpa using hc)])
      | (refine Run.lend ⟨(i + 1, v), by simp only; omega, ⟨by simp only; omega, ?_⟩, ⟨rfl, rfl, rfl, rfl, trivial⟩, rfl, rfl⟩
         show v=cw u (xs.take (i+1))
         rw [hstep,hv,if_neg (by simpa using hc),Int.add_zero])
  ·refine Run.exit (Jmp.code (Jmp.round (Jmp.here (Run.seq (Run.region (cx_ok _ _ _) (Reg.op rfl (Ope.mov rfl ?_)))))))
   refine Reg.op rfl (Ope.asg rfl ?_)
   refine Reg.nil (Run.ret (fin_ret (.tmp rfl .nil) rfl ?_))
   rw [hv,List.take_of_length_le (by omega)];rfl
theorem f39 (tl:Tail) (htl:tl.isOwn=false) (xs:List Int) (hl:xs.length≤16):Fn P0 39 [.sl tl (xs.map I)] (I (max (cw 0 xs - cw 1 xs) (cw 1 xs - cw 0 xs))):=by
  have h0:=cw_bnd 0 xs
  have h1:=cw_bnd 1 xs
  have hb:∀ u:Int,PV.bds 0 [.sl tl (xs.map I),I u]=true:=by
    intro u
    simp only [PV.bds,bd_sl (f:=I) htl (fun _=>rfl) xs,Bool.true_and]
    rfl
  refine PFun.of (C:=c39) (cx_ok _ _ _) rfl (fn:=Tryz.f39) (by kernel_rfl) (c:=_) rfl rfl rfl ?_
  refine Run.seq (Run.region (cx_ok _ _ _) (Reg.op rfl (Ope.asg rfl ?_)))
  refine Reg.nil (Run.seq (Run.region (cx_ok _ _ _) (Reg.op rfl (Ope.mov rfl ?_))))
  refine Reg.op rfl (Ope.cf rfl rfl (f40 tl xs hl 0) (hb 0) ?_)
  refine Reg.op rfl (Ope.mov rfl ?_)
  refine Reg.op rfl (Ope.cf rfl rfl (f40 tl xs hl 1) (hb 1) ?_)
  refine Reg.op rfl (Ope.asg rfl ?_)
  refine Reg.op rfl (Ope.asg rfl ?_)
  refine Reg.nil (Run.seq (Run.region (cx_ok _ _ _) (Reg.op rfl (Ope.mov rfl ?_))))
  refine Reg.op rfl (Ope.mov rfl ?_)
  refine Reg.op rfl (Ope.sub rfl rfl (by omega) ?_)
  refine Reg.op rfl (Ope.mov rfl ?_)
  refine Reg.op rfl (Ope.mov rfl ?_)
  refine Reg.op rfl (Ope.sub rfl rfl (by omega) ?_)
  refine Reg.op rfl (Ope.maxI rfl rfl ?_)
  refine Reg.op rfl (Ope.asg rfl ?_)
  refine Reg.nil (Run.ret (fin_ret (.tmp rfl .nil) rfl ?_))
  rfl
end Go.Pv
namespace Go.Pv
open Go.Proofs Go.Am
set_option maxRecDepth 10000
theorem f26 (tl tl':Tail) (xs:List Int) (hl:xs.length≤1000):Fn P0 26 [.sl tl (xs.map I),.sl tl' (xs.map I)] (B true):=by
  refine PFun.of (C:=c26) (cx_ok _ _ _) rfl (fn:=Tryz.f26) (by kernel_rfl) (c:=_) rfl rfl rfl ?_
  refine Run.seq (Run.region (cx_ok _ _ _) (Reg.op rfl (Ope.asg rfl ?_)))
  refine Reg.nil (Run.seq (Run.seq (Run.region (cx_ok _ _ _) (Reg.op rfl (Ope.mov rfl ?_)))))
  refine Reg.op rfl (Ope.len (m:=xs.length) rfl (by simp) ?_)
  refine Reg.op rfl (Ope.mov rfl ?_)
  refine Reg.op rfl (Ope.len (m:=xs.length) rfl (by simp) ?_)
  refine Reg.op rfl (Ope.ne rfl rfl ?_)
  refine Reg.nil (Run.condX rfl (fun hc=>?_) fun hc=>?_)
  ·exact absurd hc (by simp)
  ·refine Run.skip (Run.seq (Run.seq (Run.region (cx_ok _ _ _) (Reg.op rfl (Ope.asg rfl ?_)))))
   refine Reg.nil (Run.block (Run.loop (α:=Nat) (fun i=>[(0,.sl tl (xs.map I)),(1,.sl tl' (xs.map I)),(5,I i)]) (fun _=>HE 0 []) (fun i=>i≤xs.length) (fun i=>xs.length - i) 0 ⟨rfl,rfl,rfl,trivial⟩ rfl (Nat.zero_le _) (fun i hi=>?_)))
   refine Run.seq (Run.seq (Run.region (cx_ok _ _ _) (Reg.op rfl (Ope.mov rfl ?_))))
   refine Reg.op rfl (Ope.mov rfl ?_)
   refine Reg.op rfl (Ope.len (m:=xs.length) rfl (by simp) ?_)
   refine Reg.op rfl (Ope.lt rfl rfl ?_)
   refine Reg.nil (Run.condX rfl (fun hc=>?_) fun hc=>?_)
   ·refine Run.skip (Run.seq (Run.block (Run.seq ?_)))
    have hlt:i < xs.length:=by omega
    refine Run.draw (cx_ok _ _ _) [(0,true),(1,true),(2,true),(3,true),(4,true),(5,true),(6,true),(7,true),(8,true)] (by kernel_rfl) (Dra.op' rfl rfl rfl .sure (Ope.mov rfl ?_))
    refine Dra.op' rfl rfl rfl .sure (Ope.mov rfl ?_)
    refine Dra.op' rfl rfl rfl .sure (Ope.idxM (m:=i) rfl rfl rfl hlt (fun _=>rfl) ?_)
    refine Dra.op' rfl rfl rfl .sure (Ope.load rfl rfl ?_)
    refine Dra.op' rfl rfl rfl .sure (Ope.mov rfl ?_)
    refine Dra.op' rfl rfl rfl .sure (Ope.mov rfl ?_)
    refine Dra.op' rfl rfl rfl .sure (Ope.idxM (m:=i) rfl rfl rfl hlt (fun _=>rfl) ?_)
    refine Dra.op' rfl rfl rfl .sure (Ope.load rfl rfl ?_)
    refine Dra.op' rfl rfl rfl .sure (Ope.ne rfl rfl ?_)
    refine Dra.nil (Run.condX rfl (fun hc=>?_) fun hc=>?_)
    ·exact absurd hc (by simp)
    ·refine Run.skip (Run.bend (Run.region (cx_ok _ _ _) (Reg.op rfl (Ope.mov rfl ?_))))
     refine Reg.op rfl (Ope.add rfl rfl (by omega) ?_)
     refine Reg.op rfl (Ope.asg rfl ?_)
     exact Reg.nil (Run.lend ⟨i+1,by omega,by omega,⟨rfl,rfl,rfl,trivial⟩,rfl,rfl⟩)
   ·refine Run.exit (Jmp.code (Jmp.round (Jmp.here (Run.seq (Run.region (cx_ok _ _ _) (Reg.op rfl (Ope.asg rfl ?_)))))))
    refine Reg.nil (Run.ret (fin_ret (.tmp rfl .nil) rfl ?_))
    rfl
theorem byL_b (n p:Nat):∀ x∈byL n p,x=0∨x=1:=by
  intro x hx
  obtain ⟨i,_,rfl⟩:=List.mem_map.1 hx
  have:=and_one_lt (p >>> i)
  omega
theorem f29c' (R:Rst) (hR:R.ok) (hv:validR R.m R.o0 R.t0 R.r0 R.f0 R.o1 R.t1 R.r1 R.f1=true) (p:Nat×Nat) (hn:R.must=some p):Fn P0 29 [.agg R.cells] (.tup [I p.1,I p.2,I 0]) :=
  f29 _ _ _ _ _ _ _ _ _ _ _ _ (f132ok (f133c R hR hv p hn) rfl)
def R6:Rst:=⟨6,4,4,2,1,32,3,2,1⟩
def N6:Rst:=⟨6,4,4,2,1,36,3,2,1⟩
theorem R6_ok:R6.ok:=by unfold Rst.ok R6;decide
theorem N6_ok:N6.ok:=by unfold Rst.ok N6;decide
theorem R6_valid:validR R6.m R6.o0 R6.t0 R6.r0 R6.f0 R6.o1 R6.t1 R6.r1 R6.f1=true:=by decide
theorem N6_valid:validR N6.m N6.o0 N6.t0 N6.r0 N6.f0 N6.o1 N6.t1 N6.r1 N6.f1=true:=by decide
theorem f50f:Fn P0 50 [B false] (.agg R6.cells):=by
  refine PFun.of (C:=c50) (cx_ok _ _ _) rfl (fn:=Tryz.f50) (by kernel_rfl) (c:=_) rfl rfl rfl ?_
  refine Run.seq (Run.region (cx_ok _ _ _) (Reg.op rfl (Ope.newL rfl ?_)))
  refine Reg.nil (Run.seq (Run.region (cx_ok _ _ _) (Reg.op rfl (Ope.bld rfl rfl ?_))))
  refine Reg.op rfl (Ope.bld rfl rfl ?_)
  refine Reg.op rfl (Ope.bld rfl rfl ?_)
  refine Reg.op rfl (Ope.bld rfl rfl ?_)
  refine Reg.op rfl (Ope.newL rfl ?_)
  refine Reg.op0 (Ope.store rfl rfl rfl rfl rfl rfl ?_)
  refine Reg.nil (Run.seq (Run.seq (Run.region (cx_ok _ _ _) (Reg.op rfl (Ope.mov rfl ?_)))))
  refine Reg.nil (Run.condX rfl (fun hc=>?_) fun hc=>?_)
  ·exact absurd hc (by decide)
  ·refine Run.skip (Run.seq (Run.region (cx_ok _ _ _) (Reg.op rfl (Ope.load rfl rfl ?_))))
   refine Reg.op0 (Ope.store rfl rfl rfl rfl rfl rfl ?_)
   exact Reg.nil (Run.ret (fin_ret (.cell rfl rfl .nil) rfl rfl))
theorem f50t:Fn P0 50 [B true] (.agg N6.cells):=by
  refine PFun.of (C:=c50) (cx_ok _ _ _) rfl (fn:=Tryz.f50) (by kernel_rfl) (c:=_) rfl rfl rfl ?_
  refine Run.seq (Run.region (cx_ok _ _ _) (Reg.op rfl (Ope.newL rfl ?_)))
  refine Reg.nil (Run.seq (Run.region (cx_ok _ _ _) (Reg.op rfl (Ope.bld rfl rfl ?_))))
  refine Reg.op rfl (Ope.bld rfl rfl ?_)
  refine Reg.op rfl (Ope.bld rfl rfl ?_)
  refine Reg.op rfl (Ope.bld rfl rfl ?_)
  refine Reg.op rfl (Ope.newL rfl ?_)
  refine Reg.op0 (Ope.store rfl rfl rfl rfl rfl rfl ?_)
  refine Reg.nil (Run.seq (Run.seq (Run.region (cx_ok _ _ _) (Reg.op rfl (Ope.mov rfl ?_)))))
  refine Reg.nil (Run.condX rfl (fun hc=>?_) fun hc=>?_)
  ·refine Run.region (cx_ok _ _ _) (Reg.op rfl (Ope.fld rfl rfl ?_))
   refine Reg.op rfl (Ope.idxA rfl rfl rfl rfl ?_)
   refine Reg.op rfl (Ope.fld rfl rfl ?_)
   refine Reg.op0 (Ope.store rfl rfl rfl rfl rfl rfl ?_)
   refine Reg.nil (Run.seq (Run.region (cx_ok _ _ _) (Reg.op rfl (Ope.load rfl rfl ?_))))
   refine Reg.op0 (Ope.store rfl rfl rfl rfl rfl rfl ?_)
   exact Reg.nil (Run.ret (fin_ret (.cell rfl rfl .nil) rfl rfl))
  ·exact absurd hc (by decide)
theorem f51 (a b:Int):Fn P0 51 [I a,I b] (.agg [I a,I b]):=by
  refine PFun.of (C:=c51) (cx_ok _ _ _) rfl (fn:=Tryz.f51) (by kernel_rfl) (c:=_) rfl rfl rfl ?_
  refine Run.seq (Run.region (cx_ok _ _ _) (Reg.op rfl (Ope.newL rfl ?_)))
  refine Reg.nil (Run.seq (Run.region (cx_ok _ _ _) (Reg.op rfl (Ope.mov rfl ?_))))
  refine Reg.op rfl (Ope.mov rfl ?_)
  refine Reg.op rfl (Ope.bld rfl rfl ?_)
  refine Reg.op0 (Ope.store rfl rfl rfl rfl rfl rfl ?_)
  exact Reg.nil (Run.ret (fin_ret (.cell rfl rfl .nil) rfl rfl))
theorem e16:Fn P0 16 [.agg R6.cells,.sl .ex [I 0,I 1,I 1,I 1,I 0,I 0]] (.tup [I 3,I 3,I 0]):=by
  have h:=check 6 4 4 2 1 32 3 2 1 .ex rfl [0,1,1,1,0,0] (by decide)
  rw [show checkV 6 4 4 2 1 32 3 2 1 [0,1,1,1,0,0]=(3,3,0) by decide +kernel] at h
  exact h
theorem e18:Fn P0 18 [.agg R6.cells] (.tup [I 5,I 0]):=by
  have h:=f18b R6 R6_ok R6_valid
  rw [show R6.many=5 by decide +kernel] at h
  exact h
theorem e22:Fn P0 22 [.agg R6.cells] (.tup [I 2,.sl .no ([0,0,1,1,0,0].map I),I 0]):=f22c R6 R6_ok R6_valid (2,[0,0,1,1,0,0]) (by decide +kernel)
theorem e24:Fn P0 24 [.agg R6.cells] (.tup [I 0,.sl .no ([0,1,1,0,1,0].map I),I 0]):=f24c R6 R6_ok R6_valid (0,[0,1,1,0,1,0]) (by decide +kernel)
theorem e27:Fn P0 27 [.agg R6.cells,I 0] (.tup [.agg [I 3,I 4],I 0]):=f27c 0 (.inl rfl) R6 R6_ok R6_valid (3,4) (by decide +kernel)
theorem e29:Fn P0 29 [.agg R6.cells] (.tup [I 32,I 4,I 0]):=f29c' R6 R6_ok R6_valid (32,4) (by decide +kernel)
theorem e20:Fn P0 20 [.agg N6.cells] (.tup [I 2,I 0]):=by
  have h:=f20b N6 N6_ok N6_valid
  rw [show N6.until=2 by decide +kernel] at h
  exact h
theorem e31:Fn P0 31 [.agg N6.cells] (.tup [I 0,I 2,I 0]):=by
  have h:=f31b N6 N6_ok N6_valid
  rw [show N6.freeV=(0,2,0) by decide +kernel] at h
  exact h
theorem f15 : Fn P0 15 [] (B true) := by
  refine PFun.of (C:=c15) (cx_ok _ _ _) rfl (fn:=Tryz.f15) (by kernel_rfl) (c:=_) rfl rfl rfl ?_
  refine Run.seq (Run.region (cx_ok _ _ _) (Reg.op rfl (Ope.asg rfl ?_)))
  refine Reg.nil (Run.seq (Run.region (cx_ok _ _ _) (Reg.op rfl (Ope.cf rfl rfl (f50f) rfl ?_))))
  refine Reg.op rfl (Ope.bsl rfl rfl rfl rfl ?_)
  refine Reg.op rfl (Ope.cf rfl rfl (e16) rfl ?_)
  refine Reg.op rfl (Ope.mov rfl ?_)
  refine Reg.op rfl (Ope.ext rfl rfl ?_)
  refine Reg.op rfl (Ope.ext rfl rfl ?_)
  refine Reg.op rfl (Ope.ext rfl rfl ?_)
  refine Reg.op rfl (Ope.asg rfl ?_)
  refine Reg.op rfl (Ope.asg rfl ?_)
  refine Reg.op rfl (Ope.asg rfl ?_)
  refine Reg.nil (Run.seq (Run.region (cx_ok _ _ _) (Reg.op rfl (Ope.cf rfl rfl (f50f) rfl ?_))))
  refine Reg.op rfl (Ope.cf rfl rfl (e18) rfl ?_)
  refine Reg.op rfl (Ope.mov rfl ?_)
  refine Reg.op rfl (Ope.ext rfl rfl ?_)
  refine Reg.op rfl (Ope.ext rfl rfl ?_)
  refine Reg.op rfl (Ope.asg rfl ?_)
  refine Reg.op rfl (Ope.asg rfl ?_)
  refine Reg.nil (Run.seq (Run.region (cx_ok _ _ _) (Reg.op rfl (Ope.cf rfl rfl (f50f) rfl ?_))))
  refine Reg.op rfl (Ope.cf rfl rfl (e22) rfl ?_)
  refine Reg.op rfl (Ope.mov rfl ?_)
  refine Reg.op rfl (Ope.ext rfl rfl ?_)
  refine Reg.op rfl (Ope.ext rfl rfl ?_)
  refine Reg.op rfl (Ope.ext rfl rfl ?_)
  refine Reg.op rfl (Ope.asg rfl ?_)
  refine Reg.op rfl (Ope.asg rfl ?_)
  refine Reg.op rfl (Ope.asg rfl ?_)
  refine Reg.nil (Run.seq (Run.region (cx_ok _ _ _) (Reg.op rfl (Ope.cf rfl rfl (f50f) rfl ?_))))
  refine Reg.op rfl (Ope.cf rfl rfl (e24) rfl ?_)
  refine Reg.op rfl (Ope.mov rfl ?_)
  refine Reg.op rfl (Ope.ext rfl rfl ?_)
  refine Reg.op rfl (Ope.ext rfl rfl ?_)
  refine Reg.op rfl (Ope.ext rfl rfl ?_)
  refine Reg.op rfl (Ope.asg rfl ?_)
  refine Reg.op rfl (Ope.asg rfl ?_)
  refine Reg.op rfl (Ope.asg rfl ?_)
  refine Reg.nil (Run.seq (Run.region (cx_ok _ _ _) (Reg.op rfl (Ope.cf rfl rfl (f50f) rfl ?_))))
  refine Reg.op rfl (Ope.cf rfl rfl (e27) rfl ?_)
  refine Reg.op rfl (Ope.mov rfl ?_)
  refine Reg.op rfl (Ope.ext rfl rfl ?_)
  refine Reg.op rfl (Ope.ext rfl rfl ?_)
  refine Reg.op rfl (Ope.newL rfl ?_)
  refine Reg.op0 (Ope.store rfl rfl hget_hd rfl rfl rfl ?_)
  refine Reg.op rfl (Ope.asg rfl ?_)
  refine Reg.nil (Run.seq (Run.region (cx_ok _ _ _) (Reg.op rfl (Ope.cf rfl rfl (f50f) rfl ?_))))
  refine Reg.op rfl (Ope.cf rfl rfl (e29) rfl ?_)
  refine Reg.op rfl (Ope.mov rfl ?_)
  refine Reg.op rfl (Ope.ext rfl rfl ?_)
  refine Reg.op rfl (Ope.ext rfl rfl ?_)
  refine Reg.op rfl (Ope.ext rfl rfl ?_)
  refine Reg.op rfl (Ope.asg rfl ?_)
  refine Reg.op rfl (Ope.asg rfl ?_)
  refine Reg.op rfl (Ope.asg rfl ?_)
  refine Reg.nil (Run.seq (Run.region (cx_ok _ _ _) (Reg.op rfl (Ope.cf rfl rfl (f50t) rfl ?_))))
  refine Reg.op rfl (Ope.cf rfl rfl (e20) rfl ?_)
  refine Reg.op rfl (Ope.mov rfl ?_)
  refine Reg.op rfl (Ope.ext rfl rfl ?_)
  refine Reg.op rfl (Ope.ext rfl rfl ?_)
  refine Reg.op rfl (Ope.asg rfl ?_)
  refine Reg.op rfl (Ope.asg rfl ?_)
  refine Reg.nil (Run.seq (Run.region (cx_ok _ _ _) (Reg.op rfl (Ope.cf rfl rfl (f50t) rfl ?_))))
  refine Reg.op rfl (Ope.cf rfl rfl (e31) rfl ?_)
  refine Reg.op rfl (Ope.mov rfl ?_)
  refine Reg.op rfl (Ope.ext rfl rfl ?_)
  refine Reg.op rfl (Ope.ext rfl rfl ?_)
  refine Reg.op rfl (Ope.ext rfl rfl ?_)
  refine Reg.op rfl (Ope.asg rfl ?_)
  refine Reg.op rfl (Ope.asg rfl ?_)
  refine Reg.op rfl (Ope.asg rfl ?_)
  refine Reg.nil (Run.seq (Run.seq (Run.region (cx_ok _ _ _) (Reg.op rfl (Ope.mov rfl ?_)))))
  refine Reg.op rfl (Ope.ne rfl rfl ?_)
  refine Reg.op rfl (Ope.mov rfl ?_)
  refine Reg.splitX rfl rfl (fun hg=>?_) fun hg=>?_
  ·(exact absurd hg (by decide))
  ·refine Reg.on rfl rfl rfl (Ope.mov rfl ?_)
   refine Reg.on rfl rfl rfl (Ope.ne rfl rfl ?_)
   refine Reg.op rfl (Ope.pickF rfl rfl ?_)
   refine Reg.op rfl (Ope.mov rfl ?_)
   refine Reg.splitX rfl rfl (fun hg=>?_) fun hg=>?_
   ·(exact absurd hg (by decide))
   ·refine Reg.on rfl rfl rfl (Ope.mov rfl ?_)
    refine Reg.on rfl rfl rfl (Ope.ne rfl rfl ?_)
    refine Reg.op rfl (Ope.pickF rfl rfl ?_)
    refine Reg.op rfl (Ope.mov rfl ?_)
    refine Reg.splitX rfl rfl (fun hg=>?_) fun hg=>?_
    ·(exact absurd hg (by decide))
    ·refine Reg.on rfl rfl rfl (Ope.mov rfl ?_)
     refine Reg.on rfl rfl rfl (Ope.ne rfl rfl ?_)
     refine Reg.op rfl (Ope.pickF rfl rfl ?_)
     refine Reg.op rfl (Ope.mov rfl ?_)
     refine Reg.splitX rfl rfl (fun hg=>?_) fun hg=>?_
     ·(exact absurd hg (by decide))
     ·refine Reg.on rfl rfl rfl (Ope.mov rfl ?_)
      refine Reg.on rfl rfl rfl (Ope.ne rfl rfl ?_)
      refine Reg.op rfl (Ope.pickF rfl rfl ?_)
      refine Reg.op rfl (Ope.mov rfl ?_)
      refine Reg.splitX rfl rfl (fun hg=>?_) fun hg=>?_
      ·(exact absurd hg (by decide))
      ·refine Reg.on rfl rfl rfl (Ope.mov rfl ?_)
       refine Reg.on rfl rfl rfl (Ope.ne rfl rfl ?_)
       refine Reg.op rfl (Ope.pickF rfl rfl ?_)
       refine Reg.op rfl (Ope.mov rfl ?_)
       refine Reg.splitX rfl rfl (fun hg=>?_) fun hg=>?_
       ·(exact absurd hg (by decide))
       ·refine Reg.on rfl rfl rfl (Ope.mov rfl ?_)
        refine Reg.on rfl rfl rfl (Ope.bsl rfl rfl rfl rfl ?_)
        refine Reg.on rfl rfl rfl (Ope.cf rfl rfl (f26 .no .ex [0,0,1,1,0,0] (by decide)) rfl ?_)
        refine Reg.on rfl rfl rfl (Ope.not rfl ?_)
        refine Reg.op rfl (Ope.pickF rfl rfl ?_)
        refine Reg.op rfl (Ope.mov rfl ?_)
        refine Reg.splitX rfl rfl (fun hg=>?_) fun hg=>?_
        ·(exact absurd hg (by decide))
        ·refine Reg.on rfl rfl rfl (Ope.mov rfl ?_)
         refine Reg.on rfl rfl rfl (Ope.ne rfl rfl ?_)
         refine Reg.op rfl (Ope.pickF rfl rfl ?_)
         refine Reg.op rfl (Ope.mov rfl ?_)
         refine Reg.splitX rfl rfl (fun hg=>?_) fun hg=>?_
         ·(exact absurd hg (by decide))
         ·refine Reg.on rfl rfl rfl (Ope.mov rfl ?_)
          refine Reg.on rfl rfl rfl (Ope.ne rfl rfl ?_)
          refine Reg.op rfl (Ope.pickF rfl rfl ?_)
          refine Reg.op rfl (Ope.mov rfl ?_)
          refine Reg.splitX rfl rfl (fun hg=>?_) fun hg=>?_
          ·(exact absurd hg (by decide))
          ·refine Reg.on rfl rfl rfl (Ope.mov rfl ?_)
           refine Reg.on rfl rfl rfl (Ope.bsl rfl rfl rfl rfl ?_)
           refine Reg.on rfl rfl rfl (Ope.cf rfl rfl (f26 .no .ex [0,1,1,0,1,0] (by decide)) rfl ?_)
           refine Reg.on rfl rfl rfl (Ope.not rfl ?_)
           refine Reg.op rfl (Ope.pickF rfl rfl ?_)
           refine Reg.op rfl (Ope.mov rfl ?_)
           refine Reg.splitX rfl rfl (fun hg=>?_) fun hg=>?_
           ·(exact absurd hg (by decide))
           ·refine Reg.on rfl rfl rfl (Ope.mov rfl ?_)
            refine Reg.on rfl rfl rfl (Ope.ne rfl rfl ?_)
            refine Reg.op rfl (Ope.pickF rfl rfl ?_)
            refine Reg.nil (Run.condX rfl (fun hc=>?_) fun hc=>?_)
            ·(exact absurd hc (by decide))
            ·refine Run.skip (Run.seq (Run.frz (d := 12) true rfl rfl rfl ?_))
             refine Run.draw (cx_ok _ _ _) [(0,false),(1,true),(2,true),(3,true),(4,true),(5,true),(6,true),(7,true),(8,true),(9,true),(10,true),(11,true),(12,true),(13,true),(14,true),(15,true),(16,true),(17,true),(18,true),(19,true),(20,true),(21,true),(22,true),(23,true),(24,true),(25,true),(26,true),(27,true),(28,true),(29,true),(30,true),(31,true),(32,true),(33,true),(34,true),(35,true),(36,true),(37,true),(38,true),(39,true)] (by kernel_rfl) (Dra.op' rfl rfl rfl (.load rfl) (Ope.load rfl rfl ?_))
             refine Dra.op' rfl rfl rfl .sure (Ope.cf rfl rfl (f51 3 4) rfl ?_)
             refine Dra.op' rfl rfl rfl .sure (Ope.eqV (b:=true) rfl rfl (by kernel_rfl) ?_)
             refine Dra.op' rfl rfl rfl .sure (Ope.mov rfl ?_)
             refine Dra.splitX rfl rfl rfl rfl (fun hg=>?_) fun hg=>?_
             ·refine Dra.on' rfl rfl rfl rfl rfl .sure (Ope.mov rfl ?_)
              refine Dra.on' rfl rfl rfl rfl rfl .sure (Ope.eq rfl rfl ?_)
              refine Dra.op' rfl rfl rfl .sure (Ope.pickT rfl rfl ?_)
              refine Dra.op' rfl rfl rfl .sure (Ope.mov rfl ?_)
              refine Dra.splitX rfl rfl rfl rfl (fun hg=>?_) fun hg=>?_
              ·refine Dra.on' rfl rfl rfl rfl rfl .sure (Ope.mov rfl ?_)
               refine Dra.on' rfl rfl rfl rfl rfl .sure (Ope.eq rfl rfl ?_)
               refine Dra.op' rfl rfl rfl .sure (Ope.pickT rfl rfl ?_)
               refine Dra.op' rfl rfl rfl .sure (Ope.mov rfl ?_)
               refine Dra.splitX rfl rfl rfl rfl (fun hg=>?_) fun hg=>?_
               ·refine Dra.on' rfl rfl rfl rfl rfl .sure (Ope.mov rfl ?_)
                refine Dra.on' rfl rfl rfl rfl rfl .sure (Ope.eq rfl rfl ?_)
                refine Dra.op' rfl rfl rfl .sure (Ope.pickT rfl rfl ?_)
                refine Dra.op' rfl rfl rfl .sure (Ope.mov rfl ?_)
                refine Dra.splitX rfl rfl rfl rfl (fun hg=>?_) fun hg=>?_
                ·refine Dra.on' rfl rfl rfl rfl rfl .sure (Ope.mov rfl ?_)
                 refine Dra.on' rfl rfl rfl rfl rfl .sure (Ope.eq rfl rfl ?_)
                 refine Dra.op' rfl rfl rfl .sure (Ope.pickT rfl rfl ?_)
                 refine Dra.op' rfl rfl rfl .sure (Ope.mov rfl ?_)
                 refine Dra.splitX rfl rfl rfl rfl (fun hg=>?_) fun hg=>?_
                 ·refine Dra.on' rfl rfl rfl rfl rfl .sure (Ope.mov rfl ?_)
                  refine Dra.on' rfl rfl rfl rfl rfl .sure (Ope.eq rfl rfl ?_)
                  refine Dra.op' rfl rfl rfl .sure (Ope.pickT rfl rfl ?_)
                  refine Dra.op' rfl rfl rfl .sure (Ope.mov rfl ?_)
                  refine Dra.splitX rfl rfl rfl rfl (fun hg=>?_) fun hg=>?_
                  ·refine Dra.on' rfl rfl rfl rfl rfl .sure (Ope.mov rfl ?_)
                   refine Dra.on' rfl rfl rfl rfl rfl .sure (Ope.eq rfl rfl ?_)
                   refine Dra.op' rfl rfl rfl .sure (Ope.pickT rfl rfl ?_)
                   refine Dra.op' rfl rfl rfl .sure (Ope.mov rfl ?_)
                   refine Dra.splitX rfl rfl rfl rfl (fun hg=>?_) fun hg=>?_
                   ·refine Dra.on' rfl rfl rfl rfl rfl .sure (Ope.mov rfl ?_)
                    refine Dra.on' rfl rfl rfl rfl rfl .sure (Ope.eq rfl rfl ?_)
                    refine Dra.op' rfl rfl rfl .sure (Ope.pickT rfl rfl ?_)
                    refine Dra.op' rfl rfl rfl .sure (Ope.mov rfl ?_)
                    refine Dra.splitX rfl rfl rfl rfl (fun hg=>?_) fun hg=>?_
                    ·refine Dra.on' rfl rfl rfl rfl rfl .sure (Ope.mov rfl ?_)
                     refine Dra.on' rfl rfl rfl rfl rfl .sure (Ope.eq rfl rfl ?_)
                     refine Dra.op' rfl rfl rfl .sure (Ope.pickT rfl rfl ?_)
                     refine Dra.op' rfl rfl rfl .sure (Ope.mov rfl ?_)
                     refine Dra.splitX rfl rfl rfl rfl (fun hg=>?_) fun hg=>?_
                     ·refine Dra.on' rfl rfl rfl rfl rfl .sure (Ope.mov rfl ?_)
                      refine Dra.on' rfl rfl rfl rfl rfl .sure (Ope.eq rfl rfl ?_)
                      refine Dra.op' rfl rfl rfl .sure (Ope.pickT rfl rfl ?_)
                      refine Dra.op' rfl rfl rfl .sure (Ope.asg rfl ?_)
                      refine Dra.nil (Run.ret (fin_ret (.tmp rfl .nil) rfl ?_))
                      rfl
                     ·(exact absurd hg (by decide))
                    ·(exact absurd hg (by decide))
                   ·(exact absurd hg (by decide))
                  ·(exact absurd hg (by decide))
                 ·(exact absurd hg (by decide))
                ·(exact absurd hg (by decide))
               ·(exact absurd hg (by decide))
              ·(exact absurd hg (by decide))
             ·(exact absurd hg (by decide))
theorem awakeF:Clo P0 15 true:=fun hp X=>PFun.call f15 rfl (fun v e=>⟨e,rfl⟩) (fun _ h=>h.elim)
end Go.Pv
namespace Go.Pv
open Go.Proofs Go.Am
set_option maxRecDepth 10000
theorem f8a (h a0 b0 c0 d0 a1 b1 c1 d1:Int) (p:Nat) (hv:validR h a0 b0 c0 d0 a1 b1 c1 d1=false):Fn P0 8 [.agg [I h,I a0,I b0,I c0,I d0,I a1,I b1,I c1,I d1],.lit (.int .u16 (p:Int))] (B true):=by
  have h33:=f33 h a0 b0 c0 d0 a1 b1 c1 d1
  rw [hv] at h33
  refine PFun.of (C:=c8) (cx_ok _ _ _) rfl (fn:=Tryz.f8) (by kernel_rfl) (c:=_) rfl rfl rfl ?_
  refine Run.seq (Run.region (cx_ok _ _ _) (Reg.op rfl (Ope.boxF rfl rfl ?_)))
  refine Reg.op rfl (Ope.asg rfl ?_)
  refine Reg.nil (Run.seq (Run.seq (Run.region (cx_ok _ _ _) (Reg.op rfl (Ope.load rfl rfl ?_)))))
  refine Reg.op rfl (Ope.cf rfl rfl (h33) rfl ?_)
  refine Reg.op rfl (Ope.not rfl ?_)
  refine Reg.nil (Run.condX rfl (fun hc=>?_) fun hc=>?_)
  ·refine Run.seq (Run.region (cx_ok _ _ _) (Reg.op rfl (Ope.clo rfl rfl awakeF ?_)))
   refine Reg.op rfl (Ope.asg rfl ?_)
   refine Reg.nil (Run.ret (Jmp.code (fin_ret (.tmp rfl .nil) rfl ?_)))
   rfl
  ·exact absurd hc (by decide)
theorem f8n (R : Rst) (hR : R.ok) (p : Nat) (hv : validR R.m R.o0 R.t0 R.r0 R.f0 R.o1 R.t1 R.r1 R.f1 = true) (hz : cnt R R.m zeroRid = 0) : Fn P0 8 [.agg R.cells, .lit (.int .u16 (p : Int))] (B true) := by
  have h33:=f33 R.m R.o0 R.t0 R.r0 R.f0 R.o1 R.t1 R.r1 R.f1
  rw [hv] at h33
  refine PFun.of (C:=c8) (cx_ok _ _ _) rfl (fn:=Tryz.f8) (by kernel_rfl) (c:=_) rfl rfl rfl ?_
  refine Run.seq (Run.region (cx_ok _ _ _) (Reg.op rfl (Ope.boxF rfl rfl ?_)))
  refine Reg.op rfl (Ope.asg rfl ?_)
  refine Reg.nil (Run.seq (Run.seq (Run.region (cx_ok _ _ _) (Reg.op rfl (Ope.load rfl rfl ?_)))))
  refine Reg.op rfl (Ope.cf rfl rfl (h33) rfl ?_)
  refine Reg.op rfl (Ope.not rfl ?_)
  refine Reg.nil (Run.condX rfl (fun hc=>?_) fun hc=>?_)
  ·((exfalso;(exact absurd hc (by decide))))
  ·refine Run.skip (Run.seq (Run.region (cx_ok _ _ _) (Reg.op rfl (Ope.load rfl rfl ?_))))
   refine Reg.op rfl (Ope.cf rfl rfl (f24b R hR hv ((fewA_none askE R R.m zeroRid).2 hz)) rfl ?_)
   refine Reg.op rfl (Ope.mov rfl ?_)
   refine Reg.op rfl (Ope.ext rfl rfl ?_)
   refine Reg.op rfl (Ope.ext rfl rfl ?_)
   refine Reg.op rfl (Ope.ext rfl rfl ?_)
   refine Reg.op rfl (Ope.asg rfl ?_)
   refine Reg.op rfl (Ope.asg rfl ?_)
   refine Reg.op rfl (Ope.asg rfl ?_)
   refine Reg.nil (Run.seq (Run.region (cx_ok _ _ _) (Reg.op rfl (Ope.load rfl rfl ?_))))
   refine Reg.op rfl (Ope.cf rfl rfl (f27b 0 (.inl rfl) R hR hv ((spn_none 0 R R.m zeroRid).2 hz)) rfl ?_)
   refine Reg.op rfl (Ope.mov rfl ?_)
   refine Reg.op rfl (Ope.ext rfl rfl ?_)
   refine Reg.op rfl (Ope.ext rfl rfl ?_)
   refine Reg.op rfl (Ope.newL rfl ?_)
   refine Reg.op0 (Ope.store rfl rfl rfl rfl rfl rfl ?_)
   refine Reg.op rfl (Ope.asg rfl ?_)
   refine Reg.nil (Run.seq (Run.region (cx_ok _ _ _) (Reg.op rfl (Ope.load rfl rfl ?_))))
   refine Reg.op rfl (Ope.cf rfl rfl (f27b 1 (.inr rfl) R hR hv ((spn_none 1 R R.m zeroRid).2 hz)) rfl ?_)
   refine Reg.op rfl (Ope.mov rfl ?_)
   refine Reg.op rfl (Ope.ext rfl rfl ?_)
   refine Reg.op rfl (Ope.ext rfl rfl ?_)
   refine Reg.op rfl (Ope.newL rfl ?_)
   refine Reg.op0 (Ope.store rfl rfl rfl rfl rfl rfl ?_)
   refine Reg.op rfl (Ope.asg rfl ?_)
   refine Reg.nil (Run.seq (Run.region (cx_ok _ _ _) (Reg.op rfl (Ope.load rfl rfl ?_))))
   refine Reg.op rfl (Ope.cf rfl rfl (f22b R hR hv ((fewA_none askF R R.m zeroRid).2 hz)) rfl ?_)
   refine Reg.op rfl (Ope.mov rfl ?_)
   refine Reg.op rfl (Ope.ext rfl rfl ?_)
   refine Reg.op rfl (Ope.ext rfl rfl ?_)
   refine Reg.op rfl (Ope.ext rfl rfl ?_)
   refine Reg.op rfl (Ope.asg rfl ?_)
   refine Reg.op rfl (Ope.asg rfl ?_)
   refine Reg.op rfl (Ope.asg rfl ?_)
   refine Reg.nil (Run.seq (Run.seq (Run.region (cx_ok _ _ _) (Reg.op rfl (Ope.mov rfl ?_)))))
   refine Reg.op rfl (Ope.mov rfl ?_)
   refine Reg.op rfl (Ope.ne rfl rfl ?_)
   refine Reg.op rfl (Ope.mov rfl ?_)
   refine Reg.splitX rfl rfl (fun hg=>?_) fun hg=>?_
   ·((exfalso;omega))
   ·refine Reg.on rfl rfl rfl (Ope.mov rfl ?_)
    refine Reg.on rfl rfl rfl (Ope.mov rfl ?_)
    refine Reg.on rfl rfl rfl (Ope.ne rfl rfl ?_)
    refine Reg.op rfl (Ope.pickF rfl rfl ?_)
    refine Reg.op rfl (Ope.mov rfl ?_)
    refine Reg.splitX rfl rfl (fun hg=>?_) fun hg=>?_
    ·((exfalso;omega))
    ·refine Reg.on rfl rfl rfl (Ope.mov rfl ?_)
     refine Reg.on rfl rfl rfl (Ope.mov rfl ?_)
     refine Reg.on rfl rfl rfl (Ope.ne rfl rfl ?_)
     refine Reg.op rfl (Ope.pickF rfl rfl ?_)
     refine Reg.nil (Run.condX rfl (fun hc=>?_) fun hc=>?_)
     ·((exfalso;omega))
     ·refine Run.skip (Run.seq (Run.seq (Run.region (cx_ok _ _ _) (Reg.op rfl (Ope.mov rfl ?_)))))
      refine Reg.op rfl (Ope.ne rfl rfl ?_)
      refine Reg.nil (Run.condX rfl (fun hc=>?_) fun hc=>?_)
      ·refine Run.seq (Run.region (cx_ok _ _ _) (Reg.op rfl (Ope.mov rfl ?_)))
       refine Reg.op rfl (Ope.eq rfl rfl ?_)
       refine Reg.op rfl (Ope.mov rfl ?_)
       refine Reg.splitX rfl rfl (fun hg=>?_) fun hg=>?_
       ·refine Reg.on rfl rfl rfl (Ope.mov rfl ?_)
        refine Reg.on rfl rfl rfl (Ope.eq rfl rfl ?_)
        refine Reg.op rfl (Ope.pickT rfl rfl ?_)
        refine Reg.op rfl (Ope.mov rfl ?_)
        refine Reg.splitX rfl rfl (fun hg=>?_) fun hg=>?_
        ·refine Reg.on rfl rfl rfl (Ope.mov rfl ?_)
         refine Reg.on rfl rfl rfl (Ope.len (m:=0) rfl rfl ?_)
         refine Reg.on rfl rfl rfl (Ope.eq rfl rfl ?_)
         refine Reg.op rfl (Ope.pickT rfl rfl ?_)
         refine Reg.op rfl (Ope.mov rfl ?_)
         refine Reg.splitX rfl rfl (fun hg=>?_) fun hg=>?_
         ·refine Reg.on rfl rfl rfl (Ope.load rfl rfl ?_)
          refine Reg.on rfl rfl rfl (Ope.bld rfl rfl ?_)
          refine Reg.on rfl rfl rfl (Ope.eqV (b:=true) rfl rfl (by kernel_rfl) ?_)
          refine Reg.op rfl (Ope.pickT rfl rfl ?_)
          refine Reg.op rfl (Ope.mov rfl ?_)
          refine Reg.splitX rfl rfl (fun hg=>?_) fun hg=>?_
          ·refine Reg.on rfl rfl rfl (Ope.load rfl rfl ?_)
           refine Reg.on rfl rfl rfl (Ope.bld rfl rfl ?_)
           refine Reg.on rfl rfl rfl (Ope.eqV (b:=true) rfl rfl (by kernel_rfl) ?_)
           refine Reg.op rfl (Ope.pickT rfl rfl ?_)
           refine Reg.op rfl (Ope.mov rfl ?_)
           refine Reg.splitX rfl rfl (fun hg=>?_) fun hg=>?_
           ·refine Reg.on rfl rfl rfl (Ope.clo rfl rfl awakeF ?_)
            refine Reg.op rfl (Ope.pickT rfl rfl ?_)
            refine Reg.op rfl (Ope.asg rfl ?_)
            refine Reg.nil (Run.ret (Jmp.code (fin_ret (.tmp rfl .nil) rfl ?_)))
            rfl
           ·((exfalso;(exact absurd hg (by decide))))
          ·((exfalso;(exact absurd hg (by decide))))
         ·((exfalso;omega))
        ·((exfalso;omega))
       ·((exfalso;omega))
      ·((exfalso;omega))
set_option maxHeartbeats 4000000 in
theorem f8s (R : Rst) (hR : R.ok) (p : Nat) (hp : p < 65536) (hv : validR R.m R.o0 R.t0 R.r0 R.f0 R.o1 R.t1 R.r1 R.f1 = true) (n : Nat) (xs : List Int) (hn : R.best askE = some ((n : Int), xs)) (s q : Int × Int) (hs : R.hrs 0 = some s) (hq : R.hrs 1 = some q) (w : Int × List Int) (hF : R.best askF = some w)
    (L:List Int) (hLe:L=byL R.m p) (hx:∀ x∈L,x=0∨x=1) (hlen:L.length=R.m):Fn P0 8 [.agg R.cells,.lit (.int .u16 (p:Int))] (B true):=by
  have h33:=f33 R.m R.o0 R.t0 R.r0 R.f0 R.o1 R.t1 R.r1 R.f1
  rw [hv] at h33
  obtain ⟨g1,g2,g3,g4,g5⟩:=fewA_best cstE R R.m zeroRid ((n:Int),xs) hn
  change xs.length=R.m at g1
  change ∀ x∈xs,x=0∨x=1 at g2
  change rt R zeroRid xs=true at g3
  change (n:Int)=gco dif (fun _ _=>0) zeroRid xs at g4
  have hdif:∀ ys:List Int,(∀ y∈ys,y=0∨y=1)→gco dif (fun _ _=>0) zeroRid ys=max (cw 0 ys) (cw 1 ys) - min (cw 0 ys) (cw 1 ys):=by
    intro ys hy
    rw [gcoE]
    unfold dif
    rw [(fin_tot hy).2.2.1,(fin_tot hy).2.2.2]
  rw [hdif xs g2] at g4
  have hm16:=hR.1
  obtain ⟨-,-,-,ht0,-,-,ht1,-,-⟩:=(⟨hR.1,hR.2⟩:R.ok)
  obtain ⟨s1,s2,s3,s4,s5,s6,s7⟩:=spans hs hq hR.2.2.2.1.1 hR.2.2.2.2.2.2.1.1
  have sx:=s7 xs ⟨g1,g2,g3⟩
  have sumx:=cw_sum xs g2
  rw [g1] at sumx
  have sumL:=cw_sum L hx
  rw [hlen] at sumL
  have bx0:=(cw_bnd 0 xs).1
  have bx1:=(cw_bnd 1 xs).1
  have bL0:=(cw_bnd 0 L).1
  have bL1:=(cw_bnd 1 L).1
  have h34:=f34 R.m p hm16 hp
  rw [← hLe] at h34
  have h36L:=f36 R hv .no rfl L hx hlen
  have h36x:=f36 R hv (wt xs) (wt_own xs) xs g2 g1
  rw [g3] at h36x
  have h39x:=f39 (wt xs) (wt_own xs) xs (by omega)
  have h39L:=f39 .no rfl L (by omega)
  have h40x:=f40 (wt xs) xs (by omega) 0
  have h40L:=f40 .no L (by omega) 0
  have hbL:PV.bds 0 [.agg R.cells,.sl .no (L.map I)]=true:=by
    simp only [PV.bds,bd_sl (f:=I) (tl:=.no) rfl (fun _=>rfl) L,Bool.and_true]
    rfl
  have hbx:PV.bds 0 [.agg R.cells,.sl (wt xs) (xs.map I)]=true:=by
    simp only [PV.bds,bd_sl (f:=I) (wt_own xs) (fun _=>rfl) xs,Bool.and_true]
    rfl
  have hbL1:PV.bds 0 [.sl .no (L.map I)]=true:=by
    simp only [PV.bds,bd_sl (f:=I) (tl:=.no) rfl (fun _=>rfl) L,Bool.and_true]
  have hbx1:PV.bds 0 [.sl (wt xs) (xs.map I)]=true:=by
    simp only [PV.bds,bd_sl (f:=I) (wt_own xs) (fun _=>rfl) xs,Bool.and_true]
  have hbL2:PV.bds 0 [.sl .no (L.map I),I 0]=true:=by
    simp only [PV.bds,bd_sl (f:=I) (tl:=.no) rfl (fun _=>rfl) L,Bool.true_and]
    rfl
  have hbx2:PV.bds 0 [.sl (wt xs) (xs.map I),I 0]=true:=by
    simp only [PV.bds,bd_sl (f:=I) (wt_own xs) (fun _=>rfl) xs,Bool.true_and]
    rfl
  have hmin:rt R zeroRid L=true→((n:Int)≤max (cw 0 L) (cw 1 L) - min (cw 0 L) (cw 1 L)∧((n:Int)=max (cw 0 L) (cw 1 L) - min (cw 0 L) (cw 1 L)→lexle xs L))∧s.1≤cw 0 L∧cw 0 L≤s.2:=by
    intro hr
    have:=g5 L hlen hx hr
    rw [hdif L hx] at this
    exact ⟨this,s7 L ⟨hlen,hx,hr⟩⟩
  generalize hx0:cw 0 xs=x0 at *
  generalize hx1:cw 1 xs=x1 at *
  generalize hL0:cw 0 L=l0 at *
  generalize hL1:cw 1 L=l1 at *
  obtain ⟨a1,a2⟩:=s
  obtain ⟨b1,b2⟩:=q
  simp only at s1 s2 s3 s4 s5 s6 sx hmin
  refine PFun.of (C:=c8) (cx_ok _ _ _) rfl (fn:=Tryz.f8) (by kernel_rfl) (c:=_) rfl rfl rfl ?_
  refine Run.seq (Run.region (cx_ok _ _ _) (Reg.op rfl (Ope.boxF rfl rfl ?_)))
  refine Reg.op rfl (Ope.asg rfl ?_)
  refine Reg.nil (Run.seq (Run.seq (Run.region (cx_ok _ _ _) (Reg.op rfl (Ope.load rfl rfl ?_)))))
  refine Reg.op rfl (Ope.cf rfl rfl (h33) rfl ?_)
  refine Reg.op rfl (Ope.not rfl ?_)
  refine Reg.nil (Run.condX rfl (fun hc=>?_) fun hc=>?_)
  ·((exfalso;(exact absurd hc (by decide))))
  ·refine Run.skip (Run.seq (Run.region (cx_ok _ _ _) (Reg.op rfl (Ope.load rfl rfl ?_))))
   refine Reg.op rfl (Ope.cf rfl rfl (f24c R hR hv (n,xs) hn) rfl ?_)
   refine Reg.op rfl (Ope.mov rfl ?_)
   refine Reg.op rfl (Ope.ext rfl rfl ?_)
   refine Reg.op rfl (Ope.ext rfl rfl ?_)
   refine Reg.op rfl (Ope.ext rfl rfl ?_)
   refine Reg.op rfl (Ope.asg rfl ?_)
   refine Reg.op rfl (Ope.asg rfl ?_)
   refine Reg.op rfl (Ope.asg rfl ?_)
   refine Reg.nil (Run.seq (Run.region (cx_ok _ _ _) (Reg.op rfl (Ope.load rfl rfl ?_))))
   refine Reg.op rfl (Ope.cf rfl rfl (f27c 0 (.inl rfl) R hR hv (a1,a2) hs) rfl ?_)
   refine Reg.op rfl (Ope.mov rfl ?_)
   refine Reg.op rfl (Ope.ext rfl rfl ?_)
   refine Reg.op rfl (Ope.ext rfl rfl ?_)
   refine Reg.op rfl (Ope.newL rfl ?_)
   refine Reg.op0 (Ope.store rfl rfl hget_hd rfl rfl rfl ?_)
   refine Reg.op rfl (Ope.asg rfl ?_)
   refine Reg.nil (Run.seq (Run.region (cx_ok _ _ _) (Reg.op rfl (Ope.load rfl rfl ?_))))
   refine Reg.op rfl (Ope.cf rfl rfl (f27c 1 (.inr rfl) R hR hv (b1,b2) hq) rfl ?_)
   refine Reg.op rfl (Ope.mov rfl ?_)
   refine Reg.op rfl (Ope.ext rfl rfl ?_)
   refine Reg.op rfl (Ope.ext rfl rfl ?_)
   refine Reg.op rfl (Ope.newL rfl ?_)
   refine Reg.op0 (Ope.store rfl rfl hget_hd rfl rfl rfl ?_)
   refine Reg.op rfl (Ope.asg rfl ?_)
   refine Reg.nil (Run.seq (Run.region (cx_ok _ _ _) (Reg.op rfl (Ope.load rfl rfl ?_))))
   refine Reg.op rfl (Ope.cf rfl rfl (f22c R hR hv w hF) rfl ?_)
   refine Reg.op rfl (Ope.mov rfl ?_)
   refine Reg.op rfl (Ope.ext rfl rfl ?_)
   refine Reg.op rfl (Ope.ext rfl rfl ?_)
   refine Reg.op rfl (Ope.ext rfl rfl ?_)
   refine Reg.op rfl (Ope.asg rfl ?_)
   refine Reg.op rfl (Ope.asg rfl ?_)
   refine Reg.op rfl (Ope.asg rfl ?_)
   refine Reg.nil (Run.seq (Run.seq (Run.region (cx_ok _ _ _) (Reg.op rfl (Ope.mov rfl ?_)))))
   refine Reg.op rfl (Ope.mov rfl ?_)
   refine Reg.op rfl (Ope.ne rfl rfl ?_)
   refine Reg.op rfl (Ope.mov rfl ?_)
   refine Reg.splitX rfl rfl (fun hg=>?_) fun hg=>?_
   ·((exfalso;omega))
   ·refine Reg.on rfl rfl rfl (Ope.mov rfl ?_)
    refine Reg.on rfl rfl rfl (Ope.mov rfl ?_)
    refine Reg.on rfl rfl rfl (Ope.ne rfl rfl ?_)
    refine Reg.op rfl (Ope.pickF rfl rfl ?_)
    refine Reg.op rfl (Ope.mov rfl ?_)
    refine Reg.splitX rfl rfl (fun hg=>?_) fun hg=>?_
    ·((exfalso;omega))
    ·refine Reg.on rfl rfl rfl (Ope.mov rfl ?_)
     refine Reg.on rfl rfl rfl (Ope.mov rfl ?_)
     refine Reg.on rfl rfl rfl (Ope.ne rfl rfl ?_)
     refine Reg.op rfl (Ope.pickF rfl rfl ?_)
     refine Reg.nil (Run.condX rfl (fun hc=>?_) fun hc=>?_)
     ·((exfalso;omega))
     ·refine Run.skip (Run.seq (Run.seq (Run.region (cx_ok _ _ _) (Reg.op rfl (Ope.mov rfl ?_)))))
      refine Reg.op rfl (Ope.ne rfl rfl ?_)
      refine Reg.nil (Run.condX rfl (fun hc=>?_) fun hc=>?_)
      ·((exfalso;omega))
      ·refine Run.skip (Run.seq (Run.seq (Run.region (cx_ok _ _ _) (Reg.op rfl (Ope.load rfl rfl ?_)))))
       refine Reg.op rfl (Ope.mov rfl ?_)
       refine Reg.op rfl (Ope.cf rfl rfl (f37 R (wt xs) xs g2 g1 hm16) hbx ?_)
       refine Reg.op rfl (Ope.not rfl ?_)
       refine Reg.op rfl (Ope.mov rfl ?_)
       refine Reg.splitX rfl rfl (fun hg=>?_) fun hg=>?_
       ·((exfalso;(exact absurd hg (by decide))))
       ·refine Reg.on rfl rfl rfl (Ope.load rfl rfl ?_)
        refine Reg.on rfl rfl rfl (Ope.mov rfl ?_)
        refine Reg.on rfl rfl rfl (Ope.cf rfl rfl h36x hbx ?_)
        refine Reg.on rfl rfl rfl (Ope.not rfl ?_)
        refine Reg.op rfl (Ope.pickF rfl rfl ?_)
        refine Reg.op rfl (Ope.mov rfl ?_)
        refine Reg.splitX rfl rfl (fun hg=>?_) fun hg=>?_
        ·((exfalso;(exact absurd hg (by decide))))
        ·refine Reg.on rfl rfl rfl (Ope.mov rfl ?_)
         refine Reg.on rfl rfl rfl (Ope.cf rfl rfl h39x hbx1 ?_)
         refine Reg.on rfl rfl rfl (Ope.mov rfl ?_)
         refine Reg.on rfl rfl rfl (Ope.ne rfl rfl ?_)
         refine Reg.op rfl (Ope.pickF rfl rfl ?_)
         refine Reg.op rfl (Ope.mov rfl ?_)
         refine Reg.splitX rfl rfl (fun hg=>?_) fun hg=>?_
         ·((exfalso;omega))
         ·refine Reg.on rfl rfl rfl (Ope.mov rfl ?_)
          refine Reg.on rfl rfl rfl (Ope.lt rfl rfl ?_)
          refine Reg.op rfl (Ope.pickF rfl rfl ?_)
          refine Reg.nil (Run.condX rfl (fun hc=>?_) fun hc=>?_)
          ·((exfalso;omega))
          ·refine Run.skip (Run.seq (Run.seq (Run.region (cx_ok _ _ _) (Reg.op rfl (Ope.fld rfl rfl ?_)))))
           refine Reg.op rfl (Ope.load rfl rfl ?_)
           refine Reg.op rfl (Ope.lt rfl rfl ?_)
           refine Reg.op rfl (Ope.mov rfl ?_)
           refine Reg.splitX rfl rfl (fun hg=>?_) fun hg=>?_
           ·((exfalso;omega))
           ·refine Reg.on rfl rfl rfl (Ope.fld rfl rfl ?_)
            refine Reg.on rfl rfl rfl (Ope.load rfl rfl ?_)
            refine Reg.on rfl rfl rfl (Ope.fld rfl rfl ?_)
            refine Reg.on rfl rfl rfl (Ope.load rfl rfl ?_)
            refine Reg.on rfl rfl rfl (Ope.gt rfl rfl ?_)
            refine Reg.op rfl (Ope.pickF rfl rfl ?_)
            refine Reg.op rfl (Ope.mov rfl ?_)
            refine Reg.splitX rfl rfl (fun hg=>?_) fun hg=>?_
            ·((exfalso;omega))
            ·refine Reg.on rfl rfl rfl (Ope.fld rfl rfl ?_)
             refine Reg.on rfl rfl rfl (Ope.load rfl rfl ?_)
             refine Reg.on rfl rfl rfl (Ope.fld rfl rfl ?_)
             refine Reg.on rfl rfl rfl (Ope.load rfl rfl ?_)
             refine Reg.on rfl rfl rfl (Ope.add rfl rfl (by omega) ?_)
             refine Reg.on rfl rfl rfl (Ope.fld rfl rfl ?_)
             refine Reg.on rfl rfl rfl (Ope.load rfl rfl ?_)
             refine Reg.on rfl rfl rfl (Ope.ne rfl rfl ?_)
             refine Reg.op rfl (Ope.pickF rfl rfl ?_)
             refine Reg.op rfl (Ope.mov rfl ?_)
             refine Reg.splitX rfl rfl (fun hg=>?_) fun hg=>?_
             ·((exfalso;omega))
             ·refine Reg.on rfl rfl rfl (Ope.fld rfl rfl ?_)
              refine Reg.on rfl rfl rfl (Ope.load rfl rfl ?_)
              refine Reg.on rfl rfl rfl (Ope.fld rfl rfl ?_)
              refine Reg.on rfl rfl rfl (Ope.load rfl rfl ?_)
              refine Reg.on rfl rfl rfl (Ope.add rfl rfl (by omega) ?_)
              refine Reg.on rfl rfl rfl (Ope.fld rfl rfl ?_)
              refine Reg.on rfl rfl rfl (Ope.load rfl rfl ?_)
              refine Reg.on rfl rfl rfl (Ope.ne rfl rfl ?_)
              refine Reg.op rfl (Ope.pickF rfl rfl ?_)
              refine Reg.op rfl (Ope.mov rfl ?_)
              refine Reg.splitX rfl rfl (fun hg=>?_) fun hg=>?_
              ·((exfalso;omega))
              ·refine Reg.on rfl rfl rfl (Ope.fld rfl rfl ?_)
               refine Reg.on rfl rfl rfl (Ope.load rfl rfl ?_)
               refine Reg.on rfl rfl rfl (Ope.gt rfl rfl ?_)
               refine Reg.on rfl rfl rfl (Ope.mov rfl ?_)
               refine Reg.splitX rfl rfl (fun hg=>?_) fun hg=>?_
               ·refine Reg.on rfl rfl rfl (Ope.fld rfl rfl ?_)
                refine Reg.on rfl rfl rfl (Ope.load rfl rfl ?_)
                refine Reg.on rfl rfl rfl (Ope.fld rfl rfl ?_)
                refine Reg.on rfl rfl rfl (Ope.idxA rfl rfl rfl rfl ?_)
                refine Reg.on rfl rfl rfl (Ope.fld rfl rfl ?_)
                refine Reg.on rfl rfl rfl (Ope.load rfl rfl ?_)
                refine Reg.on rfl rfl rfl (Ope.gt rfl rfl ?_)
                refine Reg.on rfl rfl rfl (Ope.mov rfl ?_)
                refine Reg.splitX rfl rfl (fun hg=>?_) fun hg=>?_
                ·((exfalso;omega))
                ·refine Reg.on rfl rfl rfl (Ope.fld rfl rfl ?_)
                 refine Reg.on rfl rfl rfl (Ope.load rfl rfl ?_)
                 refine Reg.on rfl rfl rfl (Ope.fld rfl rfl ?_)
                 refine Reg.on rfl rfl rfl (Ope.idxA rfl rfl rfl rfl ?_)
                 refine Reg.on rfl rfl rfl (Ope.fld rfl rfl ?_)
                 refine Reg.on rfl rfl rfl (Ope.load rfl rfl ?_)
                 refine Reg.on rfl rfl rfl (Ope.gt rfl rfl ?_)
                 refine Reg.on rfl rfl rfl (Ope.pickF rfl rfl ?_)
                 refine Reg.on rfl rfl rfl (Ope.pickT rfl rfl ?_)
                 refine Reg.op rfl (Ope.pickF rfl rfl ?_)
                 refine Reg.nil (Run.condX rfl (fun hc=>?_) fun hc=>?_)
                 ·((exfalso;omega))
                 ·refine Run.skip (Run.seq (Run.region (cx_ok _ _ _) (Reg.op rfl (Ope.mov rfl ?_))))
                  refine Reg.op rfl (Ope.cf rfl rfl h40x hbx2 ?_)
                  refine Reg.op rfl (Ope.asg rfl ?_)
                  refine Reg.nil (Run.seq (Run.seq (Run.region (cx_ok _ _ _) (Reg.op rfl (Ope.mov rfl ?_)))))
                  refine Reg.op rfl (Ope.fld rfl rfl ?_)
                  refine Reg.op rfl (Ope.load rfl rfl ?_)
                  refine Reg.op rfl (Ope.lt rfl rfl ?_)
                  refine Reg.op rfl (Ope.mov rfl ?_)
                  refine Reg.splitX rfl rfl (fun hg=>?_) fun hg=>?_
                  ·((exfalso;omega))
                  ·refine Reg.on rfl rfl rfl (Ope.mov rfl ?_)
                   refine Reg.on rfl rfl rfl (Ope.fld rfl rfl ?_)
                   refine Reg.on rfl rfl rfl (Ope.load rfl rfl ?_)
                   refine Reg.on rfl rfl rfl (Ope.gt rfl rfl ?_)
                   refine Reg.op rfl (Ope.pickF rfl rfl ?_)
                   refine Reg.op rfl (Ope.mov rfl ?_)
                   refine Reg.splitX rfl rfl (fun hg=>?_) fun hg=>?_
                   ·((exfalso;omega))
                   ·refine Reg.on rfl rfl rfl (Ope.fld rfl rfl ?_)
                    refine Reg.on rfl rfl rfl (Ope.load rfl rfl ?_)
                    refine Reg.on rfl rfl rfl (Ope.mul rfl rfl (by omega) ?_)
                    refine Reg.on rfl rfl rfl (Ope.fld rfl rfl ?_)
                    refine Reg.on rfl rfl rfl (Ope.load rfl rfl ?_)
                    refine Reg.on rfl rfl rfl (Ope.gt rfl rfl ?_)
                    refine Reg.on rfl rfl rfl (Ope.mov rfl ?_)
                    refine Reg.splitX rfl rfl (fun hg=>?_) fun hg=>?_
                    ·refine Reg.on rfl rfl rfl (Ope.fld rfl rfl ?_)
                     refine Reg.on rfl rfl rfl (Ope.load rfl rfl ?_)
                     refine Reg.on rfl rfl rfl (Ope.mul rfl rfl (by omega) ?_)
                     refine Reg.on rfl rfl rfl (Ope.fld rfl rfl ?_)
                     refine Reg.on rfl rfl rfl (Ope.load rfl rfl ?_)
                     refine Reg.on rfl rfl rfl (Ope.sub rfl rfl (by omega) ?_)
                     refine Reg.on rfl rfl rfl (Ope.mov rfl ?_)
                     refine Reg.on rfl rfl rfl (Ope.gt rfl rfl ?_)
                     refine Reg.on rfl rfl rfl (Ope.pickT rfl rfl ?_)
                     refine Reg.op rfl (Ope.pickF rfl rfl ?_)
                     refine Reg.op rfl (Ope.mov rfl ?_)
                     refine Reg.splitX rfl rfl (fun hg=>?_) fun hg=>?_
                     ·((exfalso;omega))
                     ·refine Reg.on rfl rfl rfl (Ope.fld rfl rfl ?_)
                      refine Reg.on rfl rfl rfl (Ope.load rfl rfl ?_)
                      refine Reg.on rfl rfl rfl (Ope.mul rfl rfl (by omega) ?_)
                      refine Reg.on rfl rfl rfl (Ope.fld rfl rfl ?_)
                      refine Reg.on rfl rfl rfl (Ope.load rfl rfl ?_)
                      refine Reg.on rfl rfl rfl (Ope.lt rfl rfl ?_)
                      refine Reg.on rfl rfl rfl (Ope.mov rfl ?_)
                      refine Reg.splitX rfl rfl (fun hg=>?_) fun hg=>?_
                      ·((exfalso;omega))
                      ·refine Reg.off rfl rfl rfl (Reg.off rfl rfl rfl (Reg.off rfl rfl rfl (Reg.off rfl rfl rfl (Reg.off rfl rfl rfl (Reg.off rfl rfl rfl (Reg.off rfl rfl rfl (Reg.off rfl rfl rfl (Reg.on rfl rfl rfl (Ope.pickF rfl rfl ?_)))))))))
                       refine Reg.op rfl (Ope.pickF rfl rfl ?_)
                       refine Reg.op rfl (Ope.mov rfl ?_)
                       refine Reg.on rfl rfl rfl (Ope.mov rfl ?_)
                       refine Reg.on rfl rfl rfl (Ope.fld rfl rfl ?_)
                       refine Reg.on rfl rfl rfl (Ope.load rfl rfl ?_)
                       refine Reg.on rfl rfl rfl (Ope.add rfl rfl (by omega) ?_)
                       refine Reg.on rfl rfl rfl (Ope.remN (p:=n+R.m) (q:=2) rfl rfl (by omega) rfl (by decide) ?_)
                       refine Reg.on rfl rfl rfl (Ope.ne rfl rfl ?_)
                       refine Reg.op rfl (Ope.pickF rfl rfl ?_)
                       refine Reg.nil (Run.condX rfl (fun hc=>?_) fun hc=>?_)
                       ·((exfalso;omega))
                       ·refine Run.skip (Run.seq (Run.region (cx_ok _ _ _) (Reg.op rfl (Ope.fld rfl rfl ?_))))
                        refine Reg.op rfl (Ope.load rfl rfl ?_)
                        refine Reg.op rfl (Ope.mov rfl ?_)
                        refine Reg.op rfl (Ope.cf rfl rfl (h34) rfl ?_)
                        refine Reg.op rfl (Ope.asg rfl ?_)
                        refine Reg.nil (Run.seq (Run.seq (Run.region (cx_ok _ _ _) (Reg.op rfl (Ope.load rfl rfl ?_)))))
                        refine Reg.op rfl (Ope.mov rfl ?_)
                        refine Reg.op rfl (Ope.cf rfl rfl h36L hbL ?_)
                        refine Reg.op rfl (Ope.not rfl ?_)
                        refine Reg.nil (Run.condX rfl (fun hc=>?_) fun hc=>?_)
                        ·refine Run.seq (Run.region (cx_ok _ _ _) (Reg.op rfl (Ope.clo rfl rfl awakeF ?_)))
                         refine Reg.op rfl (Ope.asg rfl ?_)
                         refine Reg.nil (Run.ret (Jmp.code (fin_ret (.tmp rfl .nil) rfl ?_)))
                         rfl
                        ·refine Run.skip (Run.seq ?_)
                         have hrt:rt R zeroRid L=true:=by simpa using hc
                         obtain ⟨⟨m1,m2⟩,m3,m4⟩:=hmin hrt
                         refine Run.region (cx_ok _ _ _) (Reg.op rfl (Ope.mov rfl ?_))
                         refine Reg.op rfl (Ope.cf rfl rfl h39L hbL1 ?_)
                         refine Reg.op rfl (Ope.mov rfl ?_)
                         refine Reg.op rfl (Ope.cf rfl rfl h40L hbL2 ?_)
                         refine Reg.op rfl (Ope.asg rfl ?_)
                         refine Reg.op rfl (Ope.asg rfl ?_)
                         refine Reg.nil (Run.seq (Run.seq (Run.region (cx_ok _ _ _) (Reg.op rfl (Ope.mov rfl ?_)))))
                         refine Reg.op rfl (Ope.mov rfl ?_)
                         refine Reg.op rfl (Ope.lt rfl rfl ?_)
                         refine Reg.op rfl (Ope.mov rfl ?_)
                         refine Reg.splitX rfl rfl (fun hg=>?_) fun hg=>?_
                         ·((exfalso;omega))
                         ·refine Reg.on rfl rfl rfl (Ope.mov rfl ?_)
                          refine Reg.on rfl rfl rfl (Ope.fld rfl rfl ?_)
                          refine Reg.on rfl rfl rfl (Ope.load rfl rfl ?_)
                          refine Reg.on rfl rfl rfl (Ope.lt rfl rfl ?_)
                          refine Reg.op rfl (Ope.pickF rfl rfl ?_)
                          refine Reg.op rfl (Ope.mov rfl ?_)
                          refine Reg.splitX rfl rfl (fun hg=>?_) fun hg=>?_
                          ·((exfalso;omega))
                          ·refine Reg.on rfl rfl rfl (Ope.mov rfl ?_)
                           refine Reg.on rfl rfl rfl (Ope.fld rfl rfl ?_)
                           refine Reg.on rfl rfl rfl (Ope.load rfl rfl ?_)
                           refine Reg.on rfl rfl rfl (Ope.gt rfl rfl ?_)
                           refine Reg.op rfl (Ope.pickF rfl rfl ?_)
                           refine Reg.nil (Run.condX rfl (fun hc=>?_) fun hc=>?_)
                           ·((exfalso;omega))
                           ·refine Run.skip (Run.seq (Run.seq (Run.region (cx_ok _ _ _) (Reg.op rfl (Ope.mov rfl ?_)))))
                            refine Reg.op rfl (Ope.len (m:=xs.length) rfl (by simp) ?_)
                            refine Reg.op rfl (Ope.mov rfl ?_)
                            refine Reg.nil (Run.block (Run.wide (m:=2) (l':=[]) (Nat.le_refl _) trivial ?_))
                            refine Run.loop (α:=Nat) (fun i=>[(5,I n),(6,.sl (wt xs) (xs.map I)),(16,.sl .no (L.map I)),(17,I (max (l0 - l1) (l1 - l0))),(243,I xs.length),(244,I i)]) (fun _=>HE 2 []) (fun i=>i≤xs.length∧((n:Int)=max (l0 - l1) (l1 - l0)→∀ j,j < i→xs[j]?=L[j]?)) (fun i=>xs.length - i) 0 ⟨rfl,rfl,rfl,rfl,rfl,rfl,trivial⟩ rfl ⟨Nat.zero_le _,fun _ j hj=>by omega⟩ (fun i hi=>?_)
                            obtain ⟨hi1,hi2⟩:=hi
                            refine Run.seq (Run.region (cx_ok _ _ _) (Reg.op rfl (Ope.lt rfl rfl ?_)))
                            refine Reg.nil (Run.seq (Run.condX rfl (fun hc=>?_) fun hc=>?_))
                            ·refine Run.skip (Run.seq (Run.block (Run.seq ?_)))
                             have hlt:i < xs.length:=by omega
                             have hltL:i < L.length:=by omega
                             have hlex:∀ e:(n:Int)=max (l0 - l1) (l1 - l0),xs[i]≠L[i]→xs[i] < L[i]:=fun e hne=>lexle_at xs L i (m2 (by omega)) (hi2 e) _ _ (List.getElem?_eq_getElem hlt) (List.getElem?_eq_getElem hltL) hne
                             refine Run.region (cx_ok _ _ _) (Reg.op rfl (Ope.mov rfl ?_))
                             refine Reg.op rfl (Ope.asg rfl ?_)
                             refine Reg.nil (Run.seq (Run.draw (cx_ok _ _ _) [(0,true),(1,true),(2,true),(3,true),(4,true),(5,true),(6,true),(7,true),(8,true),(9,true),(10,true),(11,true),(12,true),(13,true)] (by kernel_rfl) (Dra.op' rfl rfl rfl .sure (Ope.mov rfl ?_))))
                             refine Dra.op' rfl rfl rfl .sure (Ope.mov rfl ?_)
                             refine Dra.op' rfl rfl rfl .sure (Ope.eq rfl rfl ?_)
                             refine Dra.op' rfl rfl rfl .sure (Ope.mov rfl ?_)
                             refine Dra.splitX rfl rfl rfl rfl (fun hg=>?_) fun hg=>?_
                             ·refine Dra.on' rfl rfl rfl rfl rfl .sure (Ope.mov rfl ?_)
                              refine Dra.on' rfl rfl rfl rfl rfl .sure (Ope.mov rfl ?_)
                              refine Dra.on' rfl rfl rfl rfl rfl .sure (Ope.idxM (m:=i) rfl rfl rfl hlt (fun _=>rfl) ?_)
                              refine Dra.on' rfl rfl rfl rfl rfl .sure (Ope.load rfl rfl ?_)
                              refine Dra.on' rfl rfl rfl rfl rfl .sure (Ope.mov rfl ?_)
                              refine Dra.on' rfl rfl rfl rfl rfl .sure (Ope.mov rfl ?_)
                              refine Dra.on' rfl rfl rfl rfl rfl .sure (Ope.idxM (m:=i) rfl rfl rfl hltL (fun _=>rfl) ?_)
                              refine Dra.on' rfl rfl rfl rfl rfl .sure (Ope.load rfl rfl ?_)
                              refine Dra.on' rfl rfl rfl rfl rfl .sure (Ope.ne rfl rfl ?_)
                              refine Dra.op' rfl rfl rfl .sure (Ope.pickT rfl rfl ?_)
                              refine Dra.nil (Run.condX rfl (fun hc=>?_) fun hc=>?_)
                              ·refine Run.seq (Run.draw (cx_ok _ _ _) [(0,true),(1,true),(2,true),(3,true),(4,true),(5,true),(6,true),(7,true),(8,true),(9,true),(10,true),(11,true),(12,true)] (by kernel_rfl) (Dra.op' rfl rfl rfl .sure (Ope.mov rfl ?_)))
                               refine Dra.op' rfl rfl rfl .sure (Ope.mov rfl ?_)
                               refine Dra.op' rfl rfl rfl .sure (Ope.idxM (m:=i) rfl rfl rfl hlt (fun _=>rfl) ?_)
                               refine Dra.op' rfl rfl rfl .sure (Ope.load rfl rfl ?_)
                               refine Dra.op' rfl rfl rfl .sure (Ope.mov rfl ?_)
                               refine Dra.op' rfl rfl rfl .sure (Ope.mov rfl ?_)
                               refine Dra.op' rfl rfl rfl .sure (Ope.idxM (m:=i) rfl rfl rfl hltL (fun _=>rfl) ?_)
                               refine Dra.op' rfl rfl rfl .sure (Ope.load rfl rfl ?_)
                               refine Dra.op' rfl rfl rfl .sure (Ope.lt rfl rfl ?_)
                               refine Dra.op' rfl rfl rfl .sure (Ope.mov rfl ?_)
                               refine Dra.splitX rfl rfl rfl rfl (fun hg=>?_) fun hg=>?_
                               ·refine Dra.on' rfl rfl rfl rfl rfl .sure (Ope.clo rfl rfl awakeF ?_)
                                refine Dra.op' rfl rfl rfl .sure (Ope.pickT rfl rfl ?_)
                                refine Dra.op' rfl rfl rfl .sure (Ope.asg rfl ?_)
                                refine Dra.nil (Run.ret (Jmp.retB (Jmp.code (Jmp.round (Jmp.retB (Jmp.code (fin_ret (.tmp rfl .nil) rfl ?_)))))))
                                rfl
                               ·((exfalso;omega))
                              ·refine Run.skip (Run.bend (Run.region (cx_ok _ _ _) (Reg.op rfl (Ope.add rfl rfl (by omega) ?_))))
                               refine Reg.op rfl (Ope.mov rfl ?_)
                               refine Reg.nil ?_
                               exact Run.lend ⟨i+1,by omega,⟨by omega,fun e j hj=>by
                                 by_cases hji:j < i
                                 · exact hi2 e j hji
                                 · have : j = i := by omega
                                   subst this
                                   rw [List.getElem?_eq_getElem hlt,List.getElem?_eq_getElem hltL]
                                   exact congrArg some (by omega)⟩,⟨rfl,rfl,rfl,rfl,rfl,rfl,trivial⟩,rfl,rfl⟩
                             ·refine Dra.off' rfl rfl rfl (.inl rfl) rfl (Dra.off' rfl rfl rfl (.inl rfl) rfl (Dra.off' rfl rfl rfl (.inl rfl) rfl (Dra.off' rfl rfl rfl (.inl rfl) rfl (Dra.off' rfl rfl rfl (.inl rfl) rfl (Dra.off' rfl rfl rfl (.inl rfl) rfl (Dra.off' rfl rfl rfl (.inl rfl) rfl (Dra.off' rfl rfl rfl (.inl rfl) rfl (Dra.off' rfl rfl rfl (.inl rfl) rfl (Dra.op' rfl rfl rfl .sure (Ope.pickF rfl rfl ?_))))))))))
                              refine Dra.nil (Run.condF rfl (Run.skip (Run.bend (Run.region (cx_ok _ _ _) (Reg.op rfl (Ope.add rfl rfl (by omega) ?_))))))
                              refine Reg.op rfl (Ope.mov rfl ?_)
                              refine Reg.nil ?_
                              exact Run.lend ⟨i+1,by omega,⟨by omega,fun e=>absurd e (by omega)⟩,⟨rfl,rfl,rfl,rfl,rfl,rfl,trivial⟩,rfl,rfl⟩
                            ·refine Run.exit (Jmp.code (Jmp.round (Jmp.here (Run.seq (Run.region (cx_ok _ _ _) (Reg.op rfl (Ope.clo rfl rfl awakeF ?_)))))))
                             refine Reg.op rfl (Ope.asg rfl ?_)
                             refine Reg.nil (Run.ret (fin_ret (.tmp rfl .nil) rfl ?_))
                             rfl
                    ·refine Reg.off rfl rfl rfl (Reg.off rfl rfl rfl (Reg.off rfl rfl rfl (Reg.off rfl rfl rfl (Reg.off rfl rfl rfl (Reg.off rfl rfl rfl (Reg.off rfl rfl rfl (Reg.off rfl rfl rfl (Reg.on rfl rfl rfl (Ope.pickF rfl rfl ?_)))))))))
                     refine Reg.op rfl (Ope.pickF rfl rfl ?_)
                     refine Reg.op rfl (Ope.mov rfl ?_)
                     refine Reg.on rfl rfl rfl (Ope.fld rfl rfl ?_)
                     refine Reg.on rfl rfl rfl (Ope.load rfl rfl ?_)
                     refine Reg.on rfl rfl rfl (Ope.mul rfl rfl (by omega) ?_)
                     refine Reg.on rfl rfl rfl (Ope.fld rfl rfl ?_)
                     refine Reg.on rfl rfl rfl (Ope.load rfl rfl ?_)
                     refine Reg.on rfl rfl rfl (Ope.lt rfl rfl ?_)
                     refine Reg.on rfl rfl rfl (Ope.mov rfl ?_)
                     refine Reg.splitX rfl rfl (fun hg=>?_) fun hg=>?_
                     ·refine Reg.on rfl rfl rfl (Ope.fld rfl rfl ?_)
                      refine Reg.on rfl rfl rfl (Ope.load rfl rfl ?_)
                      refine Reg.on rfl rfl rfl (Ope.fld rfl rfl ?_)
                      refine Reg.on rfl rfl rfl (Ope.load rfl rfl ?_)
                      refine Reg.on rfl rfl rfl (Ope.mul rfl rfl (by omega) ?_)
                      refine Reg.on rfl rfl rfl (Ope.sub rfl rfl (by omega) ?_)
                      refine Reg.on rfl rfl rfl (Ope.mov rfl ?_)
                      refine Reg.on rfl rfl rfl (Ope.gt rfl rfl ?_)
                      refine Reg.on rfl rfl rfl (Ope.pickT rfl rfl ?_)
                      refine Reg.op rfl (Ope.pickF rfl rfl ?_)
                      refine Reg.op rfl (Ope.mov rfl ?_)
                      refine Reg.splitX rfl rfl (fun hg=>?_) fun hg=>?_
                      ·((exfalso;omega))
                      ·refine Reg.on rfl rfl rfl (Ope.mov rfl ?_)
                       refine Reg.on rfl rfl rfl (Ope.fld rfl rfl ?_)
                       refine Reg.on rfl rfl rfl (Ope.load rfl rfl ?_)
                       refine Reg.on rfl rfl rfl (Ope.add rfl rfl (by omega) ?_)
                       refine Reg.on rfl rfl rfl (Ope.remN (p:=n+R.m) (q:=2) rfl rfl (by omega) rfl (by decide) ?_)
                       refine Reg.on rfl rfl rfl (Ope.ne rfl rfl ?_)
                       refine Reg.op rfl (Ope.pickF rfl rfl ?_)
                       refine Reg.nil (Run.condX rfl (fun hc=>?_) fun hc=>?_)
                       ·((exfalso;omega))
                       ·refine Run.skip (Run.seq (Run.region (cx_ok _ _ _) (Reg.op rfl (Ope.fld rfl rfl ?_))))
                        refine Reg.op rfl (Ope.load rfl rfl ?_)
                        refine Reg.op rfl (Ope.mov rfl ?_)
                        refine Reg.op rfl (Ope.cf rfl rfl (h34) rfl ?_)
                        refine Reg.op rfl (Ope.asg rfl ?_)
                        refine Reg.nil (Run.seq (Run.seq (Run.region (cx_ok _ _ _) (Reg.op rfl (Ope.load rfl rfl ?_)))))
                        refine Reg.op rfl (Ope.mov rfl ?_)
                        refine Reg.op rfl (Ope.cf rfl rfl h36L hbL ?_)
                        refine Reg.op rfl (Ope.not rfl ?_)
                        refine Reg.nil (Run.condX rfl (fun hc=>?_) fun hc=>?_)
                        ·refine Run.seq (Run.region (cx_ok _ _ _) (Reg.op rfl (Ope.clo rfl rfl awakeF ?_)))
                         refine Reg.op rfl (Ope.asg rfl ?_)
                         refine Reg.nil (Run.ret (Jmp.code (fin_ret (.tmp rfl .nil) rfl ?_)))
                         rfl
                        ·refine Run.skip (Run.seq ?_)
                         have hrt:rt R zeroRid L=true:=by simpa using hc
                         obtain ⟨⟨m1,m2⟩,m3,m4⟩:=hmin hrt
                         refine Run.region (cx_ok _ _ _) (Reg.op rfl (Ope.mov rfl ?_))
                         refine Reg.op rfl (Ope.cf rfl rfl h39L hbL1 ?_)
                         refine Reg.op rfl (Ope.mov rfl ?_)
                         refine Reg.op rfl (Ope.cf rfl rfl h40L hbL2 ?_)
                         refine Reg.op rfl (Ope.asg rfl ?_)
                         refine Reg.op rfl (Ope.asg rfl ?_)
                         refine Reg.nil (Run.seq (Run.seq (Run.region (cx_ok _ _ _) (Reg.op rfl (Ope.mov rfl ?_)))))
                         refine Reg.op rfl (Ope.mov rfl ?_)
                         refine Reg.op rfl (Ope.lt rfl rfl ?_)
                         refine Reg.op rfl (Ope.mov rfl ?_)
                         refine Reg.splitX rfl rfl (fun hg=>?_) fun hg=>?_
                         ·((exfalso;omega))
                         ·refine Reg.on rfl rfl rfl (Ope.mov rfl ?_)
                          refine Reg.on rfl rfl rfl (Ope.fld rfl rfl ?_)
                          refine Reg.on rfl rfl rfl (Ope.load rfl rfl ?_)
                          refine Reg.on rfl rfl rfl (Ope.lt rfl rfl ?_)
                          refine Reg.op rfl (Ope.pickF rfl rfl ?_)
                          refine Reg.op rfl (Ope.mov rfl ?_)
                          refine Reg.splitX rfl rfl (fun hg=>?_) fun hg=>?_
                          ·((exfalso;omega))
                          ·refine Reg.on rfl rfl rfl (Ope.mov rfl ?_)
                           refine Reg.on rfl rfl rfl (Ope.fld rfl rfl ?_)
                           refine Reg.on rfl rfl rfl (Ope.load rfl rfl ?_)
                           refine Reg.on rfl rfl rfl (Ope.gt rfl rfl ?_)
                           refine Reg.op rfl (Ope.pickF rfl rfl ?_)
                           refine Reg.nil (Run.condX rfl (fun hc=>?_) fun hc=>?_)
                           ·((exfalso;omega))
                           ·refine Run.skip (Run.seq (Run.seq (Run.region (cx_ok _ _ _) (Reg.op rfl (Ope.mov rfl ?_)))))
                            refine Reg.op rfl (Ope.len (m:=xs.length) rfl (by simp) ?_)
                            refine Reg.op rfl (Ope.mov rfl ?_)
                            refine Reg.nil (Run.block (Run.wide (m:=2) (l':=[]) (Nat.le_refl _) trivial ?_))
                            refine Run.loop (α:=Nat) (fun i=>[(5,I n),(6,.sl (wt xs) (xs.map I)),(16,.sl .no (L.map I)),(17,I (max (l0 - l1) (l1 - l0))),(243,I xs.length),(244,I i)]) (fun _=>HE 2 []) (fun i=>i≤xs.length∧((n:Int)=max (l0 - l1) (l1 - l0)→∀ j,j < i→xs[j]?=L[j]?)) (fun i=>xs.length - i) 0 ⟨rfl,rfl,rfl,rfl,rfl,rfl,trivial⟩ rfl ⟨Nat.zero_le _,fun _ j hj=>by omega⟩ (fun i hi=>?_)
                            obtain ⟨hi1,hi2⟩:=hi
                            refine Run.seq (Run.region (cx_ok _ _ _) (Reg.op rfl (Ope.lt rfl rfl ?_)))
                            refine Reg.nil (Run.seq (Run.condX rfl (fun hc=>?_) fun hc=>?_))
                            ·refine Run.skip (Run.seq (Run.block (Run.seq ?_)))
                             have hlt:i < xs.length:=by omega
                             have hltL:i < L.length:=by omega
                             have hlex:∀ e:(n:Int)=max (l0 - l1) (l1 - l0),xs[i]≠L[i]→xs[i] < L[i]:=fun e hne=>lexle_at xs L i (m2 (by omega)) (hi2 e) _ _ (List.getElem?_eq_getElem hlt) (List.getElem?_eq_getElem hltL) hne
                             refine Run.region (cx_ok _ _ _) (Reg.op rfl (Ope.mov rfl ?_))
                             refine Reg.op rfl (Ope.asg rfl ?_)
                             refine Reg.nil (Run.seq (Run.draw (cx_ok _ _ _) [(0,true),(1,true),(2,true),(3,true),(4,true),(5,true),(6,true),(7,true),(8,true),(9,true),(10,true),(11,true),(12,true),(13,true)] (by kernel_rfl) (Dra.op' rfl rfl rfl .sure (Ope.mov rfl ?_))))
                             refine Dra.op' rfl rfl rfl .sure (Ope.mov rfl ?_)
                             refine Dra.op' rfl rfl rfl .sure (Ope.eq rfl rfl ?_)
                             refine Dra.op' rfl rfl rfl .sure (Ope.mov rfl ?_)
                             refine Dra.splitX rfl rfl rfl rfl (fun hg=>?_) fun hg=>?_
                             ·refine Dra.on' rfl rfl rfl rfl rfl .sure (Ope.mov rfl ?_)
                              refine Dra.on' rfl rfl rfl rfl rfl .sure (Ope.mov rfl ?_)
                              refine Dra.on' rfl rfl rfl rfl rfl .sure (Ope.idxM (m:=i) rfl rfl rfl hlt (fun _=>rfl) ?_)
                              refine Dra.on' rfl rfl rfl rfl rfl .sure (Ope.load rfl rfl ?_)
                              refine Dra.on' rfl rfl rfl rfl rfl .sure (Ope.mov rfl ?_)
                              refine Dra.on' rfl rfl rfl rfl rfl .sure (Ope.mov rfl ?_)
                              refine Dra.on' rfl rfl rfl rfl rfl .sure (Ope.idxM (m:=i) rfl rfl rfl hltL (fun _=>rfl) ?_)
                              refine Dra.on' rfl rfl rfl rfl rfl .sure (Ope.load rfl rfl ?_)
                              refine Dra.on' rfl rfl rfl rfl rfl .sure (Ope.ne rfl rfl ?_)
                              refine Dra.op' rfl rfl rfl .sure (Ope.pickT rfl rfl ?_)
                              refine Dra.nil (Run.condX rfl (fun hc=>?_) fun hc=>?_)
                              ·refine Run.seq (Run.draw (cx_ok _ _ _) [(0,true),(1,true),(2,true),(3,true),(4,true),(5,true),(6,true),(7,true),(8,true),(9,true),(10,true),(11,true),(12,true)] (by kernel_rfl) (Dra.op' rfl rfl rfl .sure (Ope.mov rfl ?_)))
                               refine Dra.op' rfl rfl rfl .sure (Ope.mov rfl ?_)
                               refine Dra.op' rfl rfl rfl .sure (Ope.idxM (m:=i) rfl rfl rfl hlt (fun _=>rfl) ?_)
                               refine Dra.op' rfl rfl rfl .sure (Ope.load rfl rfl ?_)
                               refine Dra.op' rfl rfl rfl .sure (Ope.mov rfl ?_)
                               refine Dra.op' rfl rfl rfl .sure (Ope.mov rfl ?_)
                               refine Dra.op' rfl rfl rfl .sure (Ope.idxM (m:=i) rfl rfl rfl hltL (fun _=>rfl) ?_)
                               refine Dra.op' rfl rfl rfl .sure (Ope.load rfl rfl ?_)
                               refine Dra.op' rfl rfl rfl .sure (Ope.lt rfl rfl ?_)
                               refine Dra.op' rfl rfl rfl .sure (Ope.mov rfl ?_)
                               refine Dra.splitX rfl rfl rfl rfl (fun hg=>?_) fun hg=>?_
                               ·refine Dra.on' rfl rfl rfl rfl rfl .sure (Ope.clo rfl rfl awakeF ?_)
                                refine Dra.op' rfl rfl rfl .sure (Ope.pickT rfl rfl ?_)
                                refine Dra.op' rfl rfl rfl .sure (Ope.asg rfl ?_)
                                refine Dra.nil (Run.ret (Jmp.retB (Jmp.code (Jmp.round (Jmp.retB (Jmp.code (fin_ret (.tmp rfl .nil) rfl ?_)))))))
                                rfl
                               ·((exfalso;omega))
                              ·refine Run.skip (Run.bend (Run.region (cx_ok _ _ _) (Reg.op rfl (Ope.add rfl rfl (by omega) ?_))))
                               refine Reg.op rfl (Ope.mov rfl ?_)
                               refine Reg.nil ?_
                               exact Run.lend ⟨i+1,by omega,⟨by omega,fun e j hj=>by
                                 by_cases hji:j < i
                                 · exact hi2 e j hji
                                 · have : j = i := by omega
                                   subst this
                                   rw [List.getElem?_eq_getElem hlt,List.getElem?_eq_getElem hltL]
                                   exact congrArg some (by omega)⟩,⟨rfl,rfl,rfl,rfl,rfl,rfl,trivial⟩,rfl,rfl⟩
                             ·refine Dra.off' rfl rfl rfl (.inl rfl) rfl (Dra.off' rfl rfl rfl (.inl rfl) rfl (Dra.off' rfl rfl rfl (.inl rfl) rfl (Dra.off' rfl rfl rfl (.inl rfl) rfl (Dra.off' rfl rfl rfl (.inl rfl) rfl (Dra.off' rfl rfl rfl (.inl rfl) rfl (Dra.off' rfl rfl rfl (.inl rfl) rfl (Dra.off' rfl rfl rfl (.inl rfl) rfl (Dra.off' rfl rfl rfl (.inl rfl) rfl (Dra.op' rfl rfl rfl .sure (Ope.pickF rfl rfl ?_))))))))))
                              refine Dra.nil (Run.condF rfl (Run.skip (Run.bend (Run.region (cx_ok _ _ _) (Reg.op rfl (Ope.add rfl rfl (by omega) ?_))))))
                              refine Reg.op rfl (Ope.mov rfl ?_)
                              refine Reg.nil ?_
                              exact Run.lend ⟨i+1,by omega,⟨by omega,fun e=>absurd e (by omega)⟩,⟨rfl,rfl,rfl,rfl,rfl,rfl,trivial⟩,rfl,rfl⟩
                            ·refine Run.exit (Jmp.code (Jmp.round (Jmp.here (Run.seq (Run.region (cx_ok _ _ _) (Reg.op rfl (Ope.clo rfl rfl awakeF ?_)))))))
                             refine Reg.op rfl (Ope.asg rfl ?_)
                             refine Reg.nil (Run.ret (fin_ret (.tmp rfl .nil) rfl ?_))
                             rfl
                     ·refine Reg.off rfl rfl rfl (Reg.off rfl rfl rfl (Reg.off rfl rfl rfl (Reg.off rfl rfl rfl (Reg.off rfl rfl rfl (Reg.off rfl rfl rfl (Reg.off rfl rfl rfl (Reg.off rfl rfl rfl (Reg.on rfl rfl rfl (Ope.pickF rfl rfl ?_)))))))))
                      refine Reg.op rfl (Ope.pickF rfl rfl ?_)
                      refine Reg.op rfl (Ope.mov rfl ?_)
                      refine Reg.on rfl rfl rfl (Ope.mov rfl ?_)
                      refine Reg.on rfl rfl rfl (Ope.fld rfl rfl ?_)
                      refine Reg.on rfl rfl rfl (Ope.load rfl rfl ?_)
                      refine Reg.on rfl rfl rfl (Ope.add rfl rfl (by omega) ?_)
                      refine Reg.on rfl rfl rfl (Ope.remN (p:=n+R.m) (q:=2) rfl rfl (by omega) rfl (by decide) ?_)
                      refine Reg.on rfl rfl rfl (Ope.ne rfl rfl ?_)
                      refine Reg.op rfl (Ope.pickF rfl rfl ?_)
                      refine Reg.nil (Run.condX rfl (fun hc=>?_) fun hc=>?_)
                      ·((exfalso;omega))
                      ·refine Run.skip (Run.seq (Run.region (cx_ok _ _ _) (Reg.op rfl (Ope.fld rfl rfl ?_))))
                       refine Reg.op rfl (Ope.load rfl rfl ?_)
                       refine Reg.op rfl (Ope.mov rfl ?_)
                       refine Reg.op rfl (Ope.cf rfl rfl (h34) rfl ?_)
                       refine Reg.op rfl (Ope.asg rfl ?_)
                       refine Reg.nil (Run.seq (Run.seq (Run.region (cx_ok _ _ _) (Reg.op rfl (Ope.load rfl rfl ?_)))))
                       refine Reg.op rfl (Ope.mov rfl ?_)
                       refine Reg.op rfl (Ope.cf rfl rfl h36L hbL ?_)
                       refine Reg.op rfl (Ope.not rfl ?_)
                       refine Reg.nil (Run.condX rfl (fun hc=>?_) fun hc=>?_)
                       ·refine Run.seq (Run.region (cx_ok _ _ _) (Reg.op rfl (Ope.clo rfl rfl awakeF ?_)))
                        refine Reg.op rfl (Ope.asg rfl ?_)
                        refine Reg.nil (Run.ret (Jmp.code (fin_ret (.tmp rfl .nil) rfl ?_)))
                        rfl
                       ·refine Run.skip (Run.seq ?_)
                        have hrt:rt R zeroRid L=true:=by simpa using hc
                        obtain ⟨⟨m1,m2⟩,m3,m4⟩:=hmin hrt
                        refine Run.region (cx_ok _ _ _) (Reg.op rfl (Ope.mov rfl ?_))
                        refine Reg.op rfl (Ope.cf rfl rfl h39L hbL1 ?_)
                        refine Reg.op rfl (Ope.mov rfl ?_)
                        refine Reg.op rfl (Ope.cf rfl rfl h40L hbL2 ?_)
                        refine Reg.op rfl (Ope.asg rfl ?_)
                        refine Reg.op rfl (Ope.asg rfl ?_)
                        refine Reg.nil (Run.seq (Run.seq (Run.region (cx_ok _ _ _) (Reg.op rfl (Ope.mov rfl ?_)))))
                        refine Reg.op rfl (Ope.mov rfl ?_)
                        refine Reg.op rfl (Ope.lt rfl rfl ?_)
                        refine Reg.op rfl (Ope.mov rfl ?_)
                        refine Reg.splitX rfl rfl (fun hg=>?_) fun hg=>?_
                        ·((exfalso;omega))
                        ·refine Reg.on rfl rfl rfl (Ope.mov rfl ?_)
                         refine Reg.on rfl rfl rfl (Ope.fld rfl rfl ?_)
                         refine Reg.on rfl rfl rfl (Ope.load rfl rfl ?_)
                         refine Reg.on rfl rfl rfl (Ope.lt rfl rfl ?_)
                         refine Reg.op rfl (Ope.pickF rfl rfl ?_)
                         refine Reg.op rfl (Ope.mov rfl ?_)
                         refine Reg.splitX rfl rfl (fun hg=>?_) fun hg=>?_
                         ·((exfalso;omega))
                         ·refine Reg.on rfl rfl rfl (Ope.mov rfl ?_)
                          refine Reg.on rfl rfl rfl (Ope.fld rfl rfl ?_)
                          refine Reg.on rfl rfl rfl (Ope.load rfl rfl ?_)
                          refine Reg.on rfl rfl rfl (Ope.gt rfl rfl ?_)
                          refine Reg.op rfl (Ope.pickF rfl rfl ?_)
                          refine Reg.nil (Run.condX rfl (fun hc=>?_) fun hc=>?_)
                          ·((exfalso;omega))
                          ·refine Run.skip (Run.seq (Run.seq (Run.region (cx_ok _ _ _) (Reg.op rfl (Ope.mov rfl ?_)))))
                           refine Reg.op rfl (Ope.len (m:=xs.length) rfl (by simp) ?_)
                           refine Reg.op rfl (Ope.mov rfl ?_)
                           refine Reg.nil (Run.block (Run.wide (m:=2) (l':=[]) (Nat.le_refl _) trivial ?_))
                           refine Run.loop (α:=Nat) (fun i=>[(5,I n),(6,.sl (wt xs) (xs.map I)),(16,.sl .no (L.map I)),(17,I (max (l0 - l1) (l1 - l0))),(243,I xs.length),(244,I i)]) (fun _=>HE 2 []) (fun i=>i≤xs.length∧((n:Int)=max (l0 - l1) (l1 - l0)→∀ j,j < i→xs[j]?=L[j]?)) (fun i=>xs.length - i) 0 ⟨rfl,rfl,rfl,rfl,rfl,rfl,trivial⟩ rfl ⟨Nat.zero_le _,fun _ j hj=>by omega⟩ (fun i hi=>?_)
                           obtain ⟨hi1,hi2⟩:=hi
                           refine Run.seq (Run.region (cx_ok _ _ _) (Reg.op rfl (Ope.lt rfl rfl ?_)))
                           refine Reg.nil (Run.seq (Run.condX rfl (fun hc=>?_) fun hc=>?_))
                           ·refine Run.skip (Run.seq (Run.block (Run.seq ?_)))
                            have hlt:i < xs.length:=by omega
                            have hltL:i < L.length:=by omega
                            have hlex:∀ e:(n:Int)=max (l0 - l1) (l1 - l0),xs[i]≠L[i]→xs[i] < L[i]:=fun e hne=>lexle_at xs L i (m2 (by omega)) (hi2 e) _ _ (List.getElem?_eq_getElem hlt) (List.getElem?_eq_getElem hltL) hne
                            refine Run.region (cx_ok _ _ _) (Reg.op rfl (Ope.mov rfl ?_))
                            refine Reg.op rfl (Ope.asg rfl ?_)
                            refine Reg.nil (Run.seq (Run.draw (cx_ok _ _ _) [(0,true),(1,true),(2,true),(3,true),(4,true),(5,true),(6,true),(7,true),(8,true),(9,true),(10,true),(11,true),(12,true),(13,true)] (by kernel_rfl) (Dra.op' rfl rfl rfl .sure (Ope.mov rfl ?_))))
                            refine Dra.op' rfl rfl rfl .sure (Ope.mov rfl ?_)
                            refine Dra.op' rfl rfl rfl .sure (Ope.eq rfl rfl ?_)
                            refine Dra.op' rfl rfl rfl .sure (Ope.mov rfl ?_)
                            refine Dra.splitX rfl rfl rfl rfl (fun hg=>?_) fun hg=>?_
                            ·refine Dra.on' rfl rfl rfl rfl rfl .sure (Ope.mov rfl ?_)
                             refine Dra.on' rfl rfl rfl rfl rfl .sure (Ope.mov rfl ?_)
                             refine Dra.on' rfl rfl rfl rfl rfl .sure (Ope.idxM (m:=i) rfl rfl rfl hlt (fun _=>rfl) ?_)
                             refine Dra.on' rfl rfl rfl rfl rfl .sure (Ope.load rfl rfl ?_)
                             refine Dra.on' rfl rfl rfl rfl rfl .sure (Ope.mov rfl ?_)
                             refine Dra.on' rfl rfl rfl rfl rfl .sure (Ope.mov rfl ?_)
                             refine Dra.on' rfl rfl rfl rfl rfl .sure (Ope.idxM (m:=i) rfl rfl rfl hltL (fun _=>rfl) ?_)
                             refine Dra.on' rfl rfl rfl rfl rfl .sure (Ope.load rfl rfl ?_)
                             refine Dra.on' rfl rfl rfl rfl rfl .sure (Ope.ne rfl rfl ?_)
                             refine Dra.op' rfl rfl rfl .sure (Ope.pickT rfl rfl ?_)
                             refine Dra.nil (Run.condX rfl (fun hc=>?_) fun hc=>?_)
                             ·refine Run.seq (Run.draw (cx_ok _ _ _) [(0,true),(1,true),(2,true),(3,true),(4,true),(5,true),(6,true),(7,true),(8,true),(9,true),(10,true),(11,true),(12,true)] (by kernel_rfl) (Dra.op' rfl rfl rfl .sure (Ope.mov rfl ?_)))
                              refine Dra.op' rfl rfl rfl .sure (Ope.mov rfl ?_)
                              refine Dra.op' rfl rfl rfl .sure (Ope.idxM (m:=i) rfl rfl rfl hlt (fun _=>rfl) ?_)
                              refine Dra.op' rfl rfl rfl .sure (Ope.load rfl rfl ?_)
                              refine Dra.op' rfl rfl rfl .sure (Ope.mov rfl ?_)
                              refine Dra.op' rfl rfl rfl .sure (Ope.mov rfl ?_)
                              refine Dra.op' rfl rfl rfl .sure (Ope.idxM (m:=i) rfl rfl rfl hltL (fun _=>rfl) ?_)
                              refine Dra.op' rfl rfl rfl .sure (Ope.load rfl rfl ?_)
                              refine Dra.op' rfl rfl rfl .sure (Ope.lt rfl rfl ?_)
                              refine Dra.op' rfl rfl rfl .sure (Ope.mov rfl ?_)
                              refine Dra.splitX rfl rfl rfl rfl (fun hg=>?_) fun hg=>?_
                              ·refine Dra.on' rfl rfl rfl rfl rfl .sure (Ope.clo rfl rfl awakeF ?_)
                               refine Dra.op' rfl rfl rfl .sure (Ope.pickT rfl rfl ?_)
                               refine Dra.op' rfl rfl rfl .sure (Ope.asg rfl ?_)
                               refine Dra.nil (Run.ret (Jmp.retB (Jmp.code (Jmp.round (Jmp.retB (Jmp.code (fin_ret (.tmp rfl .nil) rfl ?_)))))))
                               rfl
                              ·((exfalso;omega))
                             ·refine Run.skip (Run.bend (Run.region (cx_ok _ _ _) (Reg.op rfl (Ope.add rfl rfl (by omega) ?_))))
                              refine Reg.op rfl (Ope.mov rfl ?_)
                              refine Reg.nil ?_
                              exact Run.lend ⟨i+1,by omega,⟨by omega,fun e j hj=>by
                                by_cases hji:j < i
                                · exact hi2 e j hji
                                · have : j = i := by omega
                                  subst this
                                  rw [List.getElem?_eq_getElem hlt,List.getElem?_eq_getElem hltL]
                                  exact congrArg some (by omega)⟩,⟨rfl,rfl,rfl,rfl,rfl,rfl,trivial⟩,rfl,rfl⟩
                            ·refine Dra.off' rfl rfl rfl (.inl rfl) rfl (Dra.off' rfl rfl rfl (.inl rfl) rfl (Dra.off' rfl rfl rfl (.inl rfl) rfl (Dra.off' rfl rfl rfl (.inl rfl) rfl (Dra.off' rfl rfl rfl (.inl rfl) rfl (Dra.off' rfl rfl rfl (.inl rfl) rfl (Dra.off' rfl rfl rfl (.inl rfl) rfl (Dra.off' rfl rfl rfl (.inl rfl) rfl (Dra.off' rfl rfl rfl (.inl rfl) rfl (Dra.op' rfl rfl rfl .sure (Ope.pickF rfl rfl ?_))))))))))
                             refine Dra.nil (Run.condF rfl (Run.skip (Run.bend (Run.region (cx_ok _ _ _) (Reg.op rfl (Ope.add rfl rfl (by omega) ?_))))))
                             refine Reg.op rfl (Ope.mov rfl ?_)
                             refine Reg.nil ?_
                             exact Run.lend ⟨i+1,by omega,⟨by omega,fun e=>absurd e (by omega)⟩,⟨rfl,rfl,rfl,rfl,rfl,rfl,trivial⟩,rfl,rfl⟩
                           ·refine Run.exit (Jmp.code (Jmp.round (Jmp.here (Run.seq (Run.region (cx_ok _ _ _) (Reg.op rfl (Ope.clo rfl rfl awakeF ?_)))))))
                            refine Reg.op rfl (Ope.asg rfl ?_)
                            refine Reg.nil (Run.ret (fin_ret (.tmp rfl .nil) rfl ?_))
                            rfl
               ·refine Reg.off rfl rfl rfl (Reg.off rfl rfl rfl (Reg.off rfl rfl rfl (Reg.off rfl rfl rfl (Reg.off rfl rfl rfl (Reg.off rfl rfl rfl (Reg.off rfl rfl rfl (Reg.off rfl rfl rfl (Reg.past rfl rfl rfl (Reg.past rfl rfl rfl (Reg.past rfl rfl rfl (Reg.past rfl rfl rfl (Reg.past rfl rfl rfl (Reg.past rfl rfl rfl (Reg.past rfl rfl rfl (Reg.off rfl rfl rfl (Reg.on rfl rfl rfl (Ope.pickF rfl rfl ?_)))))))))))))))))
                refine Reg.op rfl (Ope.pickF rfl rfl ?_)
                refine Reg.nil (Run.condF rfl (Run.skip (Run.seq (Run.region (cx_ok _ _ _) (Reg.op rfl (Ope.mov rfl ?_))))))
                refine Reg.op rfl (Ope.cf rfl rfl h40x hbx2 ?_)
                refine Reg.op rfl (Ope.asg rfl ?_)
                refine Reg.nil (Run.seq (Run.seq (Run.region (cx_ok _ _ _) (Reg.op rfl (Ope.mov rfl ?_)))))
                refine Reg.op rfl (Ope.fld rfl rfl ?_)
                refine Reg.op rfl (Ope.load rfl rfl ?_)
                refine Reg.op rfl (Ope.lt rfl rfl ?_)
                refine Reg.op rfl (Ope.mov rfl ?_)
                refine Reg.splitX rfl rfl (fun hg=>?_) fun hg=>?_
                ·((exfalso;omega))
                ·refine Reg.on rfl rfl rfl (Ope.mov rfl ?_)
                 refine Reg.on rfl rfl rfl (Ope.fld rfl rfl ?_)
                 refine Reg.on rfl rfl rfl (Ope.load rfl rfl ?_)
                 refine Reg.on rfl rfl rfl (Ope.gt rfl rfl ?_)
                 refine Reg.op rfl (Ope.pickF rfl rfl ?_)
                 refine Reg.op rfl (Ope.mov rfl ?_)
                 refine Reg.splitX rfl rfl (fun hg=>?_) fun hg=>?_
                 ·((exfalso;omega))
                 ·refine Reg.on rfl rfl rfl (Ope.fld rfl rfl ?_)
                  refine Reg.on rfl rfl rfl (Ope.load rfl rfl ?_)
                  refine Reg.on rfl rfl rfl (Ope.mul rfl rfl (by omega) ?_)
                  refine Reg.on rfl rfl rfl (Ope.fld rfl rfl ?_)
                  refine Reg.on rfl rfl rfl (Ope.load rfl rfl ?_)
                  refine Reg.on rfl rfl rfl (Ope.gt rfl rfl ?_)
                  refine Reg.on rfl rfl rfl (Ope.mov rfl ?_)
                  refine Reg.splitX rfl rfl (fun hg=>?_) fun hg=>?_
                  ·((exfalso;omega))
                  ·refine Reg.off rfl rfl rfl (Reg.off rfl rfl rfl (Reg.off rfl rfl rfl (Reg.off rfl rfl rfl (Reg.off rfl rfl rfl (Reg.off rfl rfl rfl (Reg.off rfl rfl rfl (Reg.off rfl rfl rfl (Reg.on rfl rfl rfl (Ope.pickF rfl rfl ?_)))))))))
                   refine Reg.op rfl (Ope.pickF rfl rfl ?_)
                   refine Reg.op rfl (Ope.mov rfl ?_)
                   refine Reg.on rfl rfl rfl (Ope.fld rfl rfl ?_)
                   refine Reg.on rfl rfl rfl (Ope.load rfl rfl ?_)
                   refine Reg.on rfl rfl rfl (Ope.mul rfl rfl (by omega) ?_)
                   refine Reg.on rfl rfl rfl (Ope.fld rfl rfl ?_)
                   refine Reg.on rfl rfl rfl (Ope.load rfl rfl ?_)
                   refine Reg.on rfl rfl rfl (Ope.lt rfl rfl ?_)
                   refine Reg.on rfl rfl rfl (Ope.mov rfl ?_)
                   refine Reg.splitX rfl rfl (fun hg=>?_) fun hg=>?_
                   ·((exfalso;omega))
                   ·refine Reg.off rfl rfl rfl (Reg.off rfl rfl rfl (Reg.off rfl rfl rfl (Reg.off rfl rfl rfl (Reg.off rfl rfl rfl (Reg.off rfl rfl rfl (Reg.off rfl rfl rfl (Reg.off rfl rfl rfl (Reg.on rfl rfl rfl (Ope.pickF rfl rfl ?_)))))))))
                    refine Reg.op rfl (Ope.pickF rfl rfl ?_)
                    refine Reg.op rfl (Ope.mov rfl ?_)
                    refine Reg.on rfl rfl rfl (Ope.mov rfl ?_)
                    refine Reg.on rfl rfl rfl (Ope.fld rfl rfl ?_)
                    refine Reg.on rfl rfl rfl (Ope.load rfl rfl ?_)
                    refine Reg.on rfl rfl rfl (Ope.add rfl rfl (by omega) ?_)
                    refine Reg.on rfl rfl rfl (Ope.remN (p:=n+R.m) (q:=2) rfl rfl (by omega) rfl (by decide) ?_)
                    refine Reg.on rfl rfl rfl (Ope.ne rfl rfl ?_)
                    refine Reg.op rfl (Ope.pickF rfl rfl ?_)
                    refine Reg.nil (Run.condX rfl (fun hc=>?_) fun hc=>?_)
                    ·((exfalso;omega))
                    ·refine Run.skip (Run.seq (Run.region (cx_ok _ _ _) (Reg.op rfl (Ope.fld rfl rfl ?_))))
                     refine Reg.op rfl (Ope.load rfl rfl ?_)
                     refine Reg.op rfl (Ope.mov rfl ?_)
                     refine Reg.op rfl (Ope.cf rfl rfl (h34) rfl ?_)
                     refine Reg.op rfl (Ope.asg rfl ?_)
                     refine Reg.nil (Run.seq (Run.seq (Run.region (cx_ok _ _ _) (Reg.op rfl (Ope.load rfl rfl ?_)))))
                     refine Reg.op rfl (Ope.mov rfl ?_)
                     refine Reg.op rfl (Ope.cf rfl rfl h36L hbL ?_)
                     refine Reg.op rfl (Ope.not rfl ?_)
                     refine Reg.nil (Run.condX rfl (fun hc=>?_) fun hc=>?_)
                     ·refine Run.seq (Run.region (cx_ok _ _ _) (Reg.op rfl (Ope.clo rfl rfl awakeF ?_)))
                      refine Reg.op rfl (Ope.asg rfl ?_)
                      refine Reg.nil (Run.ret (Jmp.code (fin_ret (.tmp rfl .nil) rfl ?_)))
                      rfl
                     ·refine Run.skip (Run.seq ?_)
                      have hrt:rt R zeroRid L=true:=by simpa using hc
                      obtain ⟨⟨m1,m2⟩,m3,m4⟩:=hmin hrt
                      refine Run.region (cx_ok _ _ _) (Reg.op rfl (Ope.mov rfl ?_))
                      refine Reg.op rfl (Ope.cf rfl rfl h39L hbL1 ?_)
                      refine Reg.op rfl (Ope.mov rfl ?_)
                      refine Reg.op rfl (Ope.cf rfl rfl h40L hbL2 ?_)
                      refine Reg.op rfl (Ope.asg rfl ?_)
                      refine Reg.op rfl (Ope.asg rfl ?_)
                      refine Reg.nil (Run.seq (Run.seq (Run.region (cx_ok _ _ _) (Reg.op rfl (Ope.mov rfl ?_)))))
                      refine Reg.op rfl (Ope.mov rfl ?_)
                      refine Reg.op rfl (Ope.lt rfl rfl ?_)
                      refine Reg.op rfl (Ope.mov rfl ?_)
                      refine Reg.splitX rfl rfl (fun hg=>?_) fun hg=>?_
                      ·((exfalso;omega))
                      ·refine Reg.on rfl rfl rfl (Ope.mov rfl ?_)
                       refine Reg.on rfl rfl rfl (Ope.fld rfl rfl ?_)
                       refine Reg.on rfl rfl rfl (Ope.load rfl rfl ?_)
                       refine Reg.on rfl rfl rfl (Ope.lt rfl rfl ?_)
                       refine Reg.op rfl (Ope.pickF rfl rfl ?_)
                       refine Reg.op rfl (Ope.mov rfl ?_)
                       refine Reg.splitX rfl rfl (fun hg=>?_) fun hg=>?_
                       ·((exfalso;omega))
                       ·refine Reg.on rfl rfl rfl (Ope.mov rfl ?_)
                        refine Reg.on rfl rfl rfl (Ope.fld rfl rfl ?_)
                        refine Reg.on rfl rfl rfl (Ope.load rfl rfl ?_)
                        refine Reg.on rfl rfl rfl (Ope.gt rfl rfl ?_)
                        refine Reg.op rfl (Ope.pickF rfl rfl ?_)
                        refine Reg.nil (Run.condX rfl (fun hc=>?_) fun hc=>?_)
                        ·((exfalso;omega))
                        ·refine Run.skip (Run.seq (Run.seq (Run.region (cx_ok _ _ _) (Reg.op rfl (Ope.mov rfl ?_)))))
                         refine Reg.op rfl (Ope.len (m:=xs.length) rfl (by simp) ?_)
                         refine Reg.op rfl (Ope.mov rfl ?_)
                         refine Reg.nil (Run.block (Run.wide (m:=2) (l':=[]) (Nat.le_refl _) trivial ?_))
                         refine Run.loop (α:=Nat) (fun i=>[(5,I n),(6,.sl (wt xs) (xs.map I)),(16,.sl .no (L.map I)),(17,I (max (l0 - l1) (l1 - l0))),(243,I xs.length),(244,I i)]) (fun _=>HE 2 []) (fun i=>i≤xs.length∧((n:Int)=max (l0 - l1) (l1 - l0)→∀ j,j < i→xs[j]?=L[j]?)) (fun i=>xs.length - i) 0 ⟨rfl,rfl,rfl,rfl,rfl,rfl,trivial⟩ rfl ⟨Nat.zero_le _,fun _ j hj=>by omega⟩ (fun i hi=>?_)
                         obtain ⟨hi1,hi2⟩:=hi
                         refine Run.seq (Run.region (cx_ok _ _ _) (Reg.op rfl (Ope.lt rfl rfl ?_)))
                         refine Reg.nil (Run.seq (Run.condX rfl (fun hc=>?_) fun hc=>?_))
                         ·((exfalso;omega))
                         ·refine Run.exit (Jmp.code (Jmp.round (Jmp.here (Run.seq (Run.region (cx_ok _ _ _) (Reg.op rfl (Ope.clo rfl rfl awakeF ?_)))))))
                          refine Reg.op rfl (Ope.asg rfl ?_)
                          refine Reg.nil (Run.ret (fin_ret (.tmp rfl .nil) rfl ?_))
                          rfl
theorem f8 (h a0 b0 c0 d0 a1 b1 c1 d1 : Int) (p : Nat) (hp : p < 65536) : Fn P0 8 [.agg [I h, I a0, I b0, I c0, I d0, I a1, I b1, I c1, I d1], .lit (.int .u16 (p : Int))] (B true) := by
  by_cases hv:validR h a0 b0 c0 d0 a1 b1 c1 d1=true
  · obtain ⟨hok, ⟨e1, e2, e3⟩, h16⟩ := rstOf_ok hv
    have hcells:(rstOf h a0 b0 c0 d0 a1 b1 c1 d1).cells=[I h,I a0,I b0,I c0,I d0,I a1,I b1,I c1,I d1]:=by
      show [I (h.toNat:Int),I (a0.toNat:Int),I b0,I c0,I d0,I (a1.toNat:Int),I b1,I c1,I d1]=_
      rw [← e1,← e2,← e3]
    rw [← hcells]
    generalize hR:rstOf h a0 b0 c0 d0 a1 b1 c1 d1=R at *
    have hv':validR R.m R.o0 R.t0 R.r0 R.f0 R.o1 R.t1 R.r1 R.f1=true:=by
      rw [← hR]
      show validR (h.toNat:Int) (a0.toNat:Int) b0 c0 d0 (a1.toNat:Int) b1 c1 d1=true
      rw [← e1,← e2,← e3]
      exact hv
    by_cases hz:cnt R R.m zeroRid=0
    · exact f8n R hok p hv' hz
    · cases hn : R.best askE with
      | none=>exact absurd ((fewA_none askE R R.m zeroRid).1 hn) hz
      | some w =>
        cases hF:R.best askF with
        | none=>exact absurd ((fewA_none askF R R.m zeroRid).1 hF) hz
        | some v =>
          cases hs:R.hrs 0 with
          | none=>exact absurd ((spn_none 0 R R.m zeroRid).1 hs) hz
          | some s =>
            cases hq:R.hrs 1 with
            | none=>exact absurd ((spn_none 1 R R.m zeroRid).1 hq) hz
            | some q =>
              obtain ⟨n,xs⟩:=w
              obtain ⟨k,rfl⟩:∃ k:Nat,n=(k:Int):=by
                have h4:=(fewA_best cstE R R.m zeroRid (n,xs) hn).2.2.2.1
                have h4:n=gco dif (fun _ _=>0) zeroRid xs:=h4
                rw [gcoE] at h4
                unfold dif at h4
                exact ⟨n.toNat,by omega⟩
              exact f8s R hok p hp hv' k xs hn s q hs hq v hF (byL R.m p) rfl (byL_b R.m p) (byL_length R.m p)
  · exact f8a _ _ _ _ _ _ _ _ _ p (by simpa using hv)
end Go.Pv
