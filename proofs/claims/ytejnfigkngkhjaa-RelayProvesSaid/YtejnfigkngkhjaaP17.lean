/- Parts of the proof: R74, R75, R76, R77, R70, R78 -/
import Derived.Test.YtejnfigkngkhjaaP16
import Derived.Test.YtejnfigkngkhjaaP15
set_option linter.unusedVariables false
set_option linter.unusedSimpArgs false
set_option linter.unusedSectionVars false
namespace Go.Pv
open Go.Proofs Go.Am
set_option maxRecDepth 10000
instance:Mpt A0 93 113 (.agg [I 0,I 0]):=⟨by kernel_rfl⟩
def chainB (a b : Bool) : Option Bool :=
  match some a with
  | some true => match some b with
    | some true=>some true
    | some false=>some false
    | none=>none
  | some false=>some false
  | none=>none
def keyE (m j:Int):AV:=.agg [.int .i64 m,.int .i64 j]
theorem keyE_check (m j:Int):acheck A0 20 113 (keyE m j)=true:=by kernel_rfl
theorem keyE_chain (m j m' j':Int):aeqv A0 E0 20 113 (keyE m j) (keyE m' j')=chainB (m == m') (j == j'):=by kernel_rfl
theorem keyE_ne {m j m' j':Int} (h:m'≠m∨j'≠j):aeqv A0 E0 20 113 (keyE m j) (keyE m' j')=some false:=by
  rw [keyE_chain]
  by_cases h1:m=m'
  · have h2 : ¬ j = j' := fun e => by rcases h with h | h <;> exact h (by simp_all)
    have e1:(m == m')=true:=by simp [h1]
    have e2:(j == j')=false:=beq_eq_false_iff_ne.2 h2
    rw [e1,e2];rfl
  · have e1 : (m == m') = false := beq_eq_false_iff_ne.2 h1
    rw [e1];rfl
theorem keyE_same (m j:Int):aeqv A0 E0 20 113 (keyE m j) (keyE m j)=some true:=by
  rw [keyE_chain]
  have e1:(m == m)=true:=by simp
  have e2:(j == j)=true:=by simp
  rw [e1,e2];rfl
def NoKey (m j:Int) (es:List (AV×PV×Nat)):Prop:=∀ e∈es,∃ m' j',e.1=keyE m' j'∧(m'≠m∨j'≠j)
theorem NoKey.nil {m j:Int}:NoKey m j []:=fun _ h=>by cases h
theorem NoKey.app {m j m' j':Int} {es:List (AV×PV×Nat)} {v:PV} {c:Nat} (h:NoKey m j es) (hk:m'≠m∨j'≠j):NoKey m j (es++[(keyE m' j',v,c)]):=by
  intro e he
  rcases List.mem_append.1 he with he | he
  · exact h e he
  · simp only [List.mem_singleton] at he
    subst he
    exact ⟨m',j',rfl,hk⟩
theorem NoKey.cons {m j m' j':Int} {es:List (AV×PV×Nat)} {v:PV} {c:Nat} (hk:m'≠m∨j'≠j) (h:NoKey m j es):NoKey m j ((keyE m' j',v,c)::es):=by
  intro e he
  rcases List.mem_cons.1 he with rfl | he
  · exact ⟨m',j',rfl,hk⟩
  · exact h e he
theorem find_skip {m j:Int}:∀ (xs ys:List (AV×PV×Nat)) (i:Nat),NoKey m j xs→pfind A0 E0 113 (keyE m j) (xs++ys) i=pfind A0 E0 113 (keyE m j) ys (i+xs.length)
  | [],ys,i,_=>rfl
  | x :: xs, ys, i, h => by
    obtain ⟨m',j',h1,h2⟩:=h x (by simp)
    have ih:=find_skip xs ys (i+1) fun e he=>h e (List.mem_cons_of_mem _ he)
    simp only [List.cons_append,pfind,h1,keyE_ne h2,ih,List.length_cons]
    rw [show i+1+xs.length=i+(xs.length+1) from by omega]
theorem find_no {m j:Int} {es:List (AV×PV×Nat)} (h:NoKey m j es):pfind A0 E0 113 (keyE m j) es 0=some none:=by
  have:=find_skip es [] 0 h
  rw [List.append_nil] at this
  rw [this]
  rfl
theorem find_hd {m j:Int} {es:List (AV×PV×Nat)} {v:PV} {c i:Nat}:pfind A0 E0 113 (keyE m j) ((keyE m j,v,c)::es) i=some (some (i,v)):=by
  simp only [pfind,keyE_same]
abbrev spV (p:Int×Int):PV:=.agg [I p.1,I p.2]
def Sti.ent (s:Sti):Nat→Nat→Int×Int
  | 0,0=>(s.a,s.b)
  | 0,_=>(s.c,s.d)
  | _,0=>(s.e,s.f)
  | _,_=>(s.g,s.h)
def stE (i:Nat) (s:Sti):List (AV×PV×Nat):=[(keyE ((2 * i:Nat):Int) 0,spV (s.a,s.b),4 * i),(keyE ((2 * i+1:Nat):Int) 0,spV (s.e,s.f),4 * i+1),(keyE ((2 * i:Nat):Int) 1,spV (s.c,s.d),4 * i+1+1),(keyE ((2 * i+1:Nat):Int) 1,spV (s.g,s.h),4 * i+1+1+1)]
def mapE:Nat→List Sti→List (AV×PV×Nat)
  | _,[]=>[]
  | i,s::S=>stE i s++mapE (i+1) S
theorem mapE_app:∀ (S T:List Sti) (i:Nat),mapE i (S++T)=mapE i S++mapE (i+S.length) T
  | [],T,i=>rfl
  | s :: S, T, i => by
    simp only [List.cons_append,mapE,mapE_app S T (i+1),List.append_assoc,List.length_cons]
    rw [show i+1+S.length=i+(S.length+1) from by omega]
theorem mapE_len:∀ (S:List Sti) (i:Nat),(mapE i S).length=4 * S.length
  | [],_=>rfl
  | s :: S, i => by
    simp only [mapE,List.length_append,mapE_len S,stE,List.length_cons,List.length_nil]
    omega
theorem mapE_no {m j:Int}:∀ (S:List Sti) (i:Nat),(m < ((2 * i:Nat):Int)∨((2 * (i+S.length):Nat):Int)≤m)→NoKey m j (mapE i S)
  | [],_,_=>.nil
  | s :: S, i, h => by
    have hl:((2 * (i+(s::S).length):Nat):Int)=((2 * (i+1+S.length):Nat):Int):=by simp only [List.length_cons];omega
    rw [hl] at h
    have ih:=mapE_no (m:=m) (j:=j) S (i+1) (by omega)
    simp only [mapE,stE,List.cons_append,List.nil_append]
    exact .cons (by omega) (.cons (by omega) (.cons (by omega) (.cons (by omega) ih)))
theorem mapE_at {S:List Sti} {k:Nat} (hk:k < S.length):mapE 0 S=mapE 0 (S.take k)++(stE k S[k]++mapE (k+1) (S.drop (k+1))):=by
  have h:S=S.take k++(S[k]::S.drop (k+1)):=by
    rw [← List.drop_eq_getElem_cons hk,List.take_append_drop]
  have h2:=congrArg (mapE 0) h
  rw [mapE_app] at h2
  simp only [mapE,List.length_take,Nat.min_eq_left (Nat.le_of_lt hk),Nat.zero_add] at h2
  exact h2
theorem mapE_take {S:List Sti} {k:Nat} (hk:k < S.length):mapE 0 (S.take (k+1))=mapE 0 (S.take k)++stE k S[k]:=by
  rw [List.take_succ_eq_append_getElem hk,mapE_app]
  simp only [mapE,List.length_take,Nat.min_eq_left (Nat.le_of_lt hk),Nat.zero_add,List.append_nil]
theorem map_find {S:List Sti} {k o j:Nat} (hk:k < S.length) (ho:o < 2) (hj:j < 2):∃ p,pfind A0 E0 113 (keyE ((2 * k+o:Nat):Int) (j:Int)) (mapE 0 S) 0=some (some (p,spV (S[k].ent o j))):=by
  rw [mapE_at hk,find_skip _ _ _ (mapE_no _ _ (.inr (by simp only [List.length_take];omega)))]
  generalize 0+(mapE 0 (S.take k)).length=q
  rcases (by omega:o=0∨o=1) with rfl | rfl<;>rcases (by omega:j=0∨j=1) with rfl | rfl
  · exact ⟨q,find_hd⟩
  · refine ⟨q + 2, ?_⟩
    rw [show stE k S[k]++mapE (k+1) (S.drop (k+1))=[(keyE ((2 * k:Nat):Int) 0,spV (S[k].a,S[k].b),4 * k),(keyE ((2 * k+1:Nat):Int) 0,spV (S[k].e,S[k].f),4 * k+1)]++((keyE ((2 * k:Nat):Int) 1,spV (S[k].c,S[k].d),4 * k+1+1)::(keyE ((2 * k+1:Nat):Int) 1,spV (S[k].g,S[k].h),4 * k+1+1+1)::mapE (k+1) (S.drop (k+1))) from rfl,
      find_skip _ _ _ (.cons (by omega) (.cons (by omega) .nil))]
    exact find_hd
  · refine ⟨q + 1, ?_⟩
    rw [show stE k S[k]++mapE (k+1) (S.drop (k+1))=[(keyE ((2 * k:Nat):Int) 0,spV (S[k].a,S[k].b),4 * k)]++((keyE ((2 * k+1:Nat):Int) 0,spV (S[k].e,S[k].f),4 * k+1)::(keyE ((2 * k:Nat):Int) 1,spV (S[k].c,S[k].d),4 * k+1+1)::(keyE ((2 * k+1:Nat):Int) 1,spV (S[k].g,S[k].h),4 * k+1+1+1)::mapE (k+1) (S.drop (k+1))) from rfl,
      find_skip _ _ _ (.cons (by omega) .nil)]
    exact find_hd
  · refine ⟨q + 3, ?_⟩
    rw [show stE k S[k]++mapE (k+1) (S.drop (k+1))=[(keyE ((2 * k:Nat):Int) 0,spV (S[k].a,S[k].b),4 * k),(keyE ((2 * k+1:Nat):Int) 0,spV (S[k].e,S[k].f),4 * k+1),(keyE ((2 * k:Nat):Int) 1,spV (S[k].c,S[k].d),4 * k+1+1)]++((keyE ((2 * k+1:Nat):Int) 1,spV (S[k].g,S[k].h),4 * k+1+1+1)::mapE (k+1) (S.drop (k+1))) from rfl,
      find_skip _ _ _ (.cons (by omega) (.cons (by omega) (.cons (by omega) .nil)))]
    exact find_hd
theorem mapE_bd (n:Nat):∀ (S:List Sti) (i:Nat),∀ e∈mapE i S,e.2.1.bd n=true
  | [],_,e,h=>by cases h
  | s :: S, i, e, h => by
    rcases List.mem_append.1 h with h | h
    · simp only [stE, List.mem_cons, List.not_mem_nil, or_false] at h
      rcases h with rfl | rfl | rfl | rfl<;>rfl
    · exact mapE_bd n S (i+1) e h
abbrev mapB (S:List Sti):PBlk:=.map (mapE 0 S) (4 * S.length)
theorem mapB_bd (S:List Sti) (n:Nat):(mapB S).bd n:=mapE_bd n S 0
def stQ (es:List (AV×PV×Nat)) (i:Nat) (s:Sti):Nat→List (AV×PV×Nat)
  | 0=>es
  | 1=>es++[(keyE ((2 * i:Nat):Int) 0,spV (s.a,s.b),4 * i)]++[(keyE ((2 * i+1:Nat):Int) 0,spV (s.e,s.f),4 * i+1)]
  | _=>es++[(keyE ((2 * i:Nat):Int) 0,spV (s.a,s.b),4 * i)]++[(keyE ((2 * i+1:Nat):Int) 0,spV (s.e,s.f),4 * i+1)]++[(keyE ((2 * i:Nat):Int) 1,spV (s.c,s.d),4 * i+1+1)]++[(keyE ((2 * i+1:Nat):Int) 1,spV (s.g,s.h),4 * i+1+1+1)]
def ckQ (c:Nat):Nat→Nat
  | 0=>c
  | 1=>c+1+1
  | _=>c+1+1+1+1
theorem stQ_all (es:List (AV×PV×Nat)) (i:Nat) (s:Sti):stQ es i s 2=es++stE i s:=by
  simp only [stQ,stE,List.append_assoc,List.cons_append,List.nil_append]
theorem f84j1 (cs:List PV) (rest:Int) (tl:Tail) (htl:tl.isOwn=false) (S:List Sti) (hS:S.length≤5) :
    PCall P0 84 [relV rest tl S] (HE 0 []) (fun v h'=>∃ m,2≤m∧h'=HE m [(1,some (mapB S))]∧v=notV rest tl S 1) fun _ _=>False:=by
  refine PCall.ofH (C:=c84) (cx_ok _ _ _) rfl (fn:=Try.f84) (by kernel_rfl) (c:=_) rfl rfl rfl (fun hok=>?_)
  refine Run.seq (Run.region (cx_ok _ _ _) (Reg.op rfl (Ope.boxF rfl rfl ?_)))
  refine Reg.op rfl (Ope.newL rfl ?_)
  refine Reg.nil (Run.seq (Run.region (cx_ok _ _ _) (Reg.op rfl (Ope.mmap ?_))))
  refine Reg.op rfl (Ope.asg rfl ?_)
  refine Reg.nil (Run.seq (Run.seq (Run.region (cx_ok _ _ _) (Reg.op rfl (Ope.fld rfl rfl ?_)))))
  refine Reg.op rfl (Ope.load rfl rfl ?_)
  refine Reg.op rfl (Ope.len (m:=S.length) rfl (by simp) ?_)
  refine Reg.op rfl (Ope.mov rfl ?_)
  refine Reg.nil (Run.block (Run.wide (m:=2) (l':=[(1,some (.map (mapE 0 (S.take 0)) (4 * 0))),(0,some (.cells [I 0,.sl .ex [],.lit .nilmap]))]) (Nat.le_refl _) ⟨rfl,rfl,trivial⟩ ?_))
  refine Run.loop (α:=Nat×Nat) (fun s=>[(1,.fp (relV rest tl S)),(2,.ptr 0 0),(3,.mp 1),(9,.sl tl (S.map Sti.v)),(10,I S.length),(11,I s.1)]) (fun s=>HE s.2 [(1,some (.map (mapE 0 (S.take s.1)) (4 * s.1))),(0,some (.cells [I 0,.sl .ex [],.lit .nilmap]))]) (fun s=>s.1≤S.length∧2≤s.2) (fun s=>S.length - s.1) (0,2) ⟨rfl,rfl,rfl,rfl,rfl,rfl,trivial⟩ rfl ⟨Nat.zero_le _,Nat.le_refl _⟩ (fun s hs=>?_)
  obtain ⟨i,m⟩:=s
  obtain ⟨hi,hm⟩:=hs
  simp only at hi hm
  refine Run.seq (Run.region (cx_ok _ _ _) (Reg.op rfl (Ope.lt rfl rfl ?_)))
  refine Reg.nil (Run.seq (Run.condX rfl (fun hc=>?_) fun hc=>?_))
  ·refine Run.skip (Run.seq (Run.block (Run.seq ?_)))
   have hlt:i < S.length:=by omega
   have hno:∀ o j:Int,0≤o→NoKey (((2 * i:Nat):Int)+o) j (mapE 0 (S.take i)):=fun o j ho=>mapE_no _ _ (.inr (by simp only [List.length_take];omega))
   have hA:∀ j:Int,NoKey ((2 * i:Nat):Int) j (mapE 0 (S.take i)):=fun j=>by have:=hno 0 j (by decide);rwa [Int.add_zero] at this
   have hB:∀ j:Int,NoKey ((2 * i+1:Nat):Int) j (mapE 0 (S.take i)):=fun j=>hno 1 j (by decide)
   have hall:=stQ_all (mapE 0 (S.take i)) i S[i]
   rw [← mapE_take hlt] at hall
   have hck:ckQ (4 * i) 2=4 * (i+1):=by simp only [ckQ];omega
   generalize hes:mapE 0 (S.take i)=es at *
   refine Run.region (cx_ok _ _ _) (Reg.op rfl (Ope.mov rfl ?_))
   refine Reg.op rfl (Ope.idxM (m:=i) (f:=Sti.v) rfl rfl rfl hlt (fun _=>rfl) ?_)
   refine Reg.op rfl (Ope.load rfl rfl ?_)
   refine Reg.op rfl (Ope.newL rfl ?_)
   refine Reg.op rfl (Ope.asg rfl ?_)
   refine Reg.op0 (Ope.store rfl rfl hget_hd rfl rfl rfl ?_)
   refine Reg.nil (Run.seq (Run.frz (d:=5) true rfl hget_hd rfl ?_))
   refine Run.wide (m:=m+1) (l':=[(1,some (.map (stQ es i S[i] 0) (ckQ (4 * i) 0))),(0,some (.cells [I 0,.sl .ex [],.lit .nilmap]))]) (Nat.le_refl _) ⟨(hget_tl (by omega)).trans ((hget_tl (by omega)).trans ((hget_tl (by omega)).trans rfl)),(hget_tl (by omega)).trans ((hget_tl (by omega)).trans ((hget_tl (by omega)).trans rfl)),trivial⟩ ?_
   refine Run.region (cx_ok _ _ _) (Reg.op rfl (Ope.mov rfl ?_))
   refine Reg.nil (Run.block (Run.loop (α:=Nat) (fun j=>[(1,.fp (relV rest tl S)),(2,.ptr 0 0),(3,.mp 1),(9,.sl tl (S.map Sti.v)),(10,I S.length),(11,I i),(4,I i),(5,.fp S[i].v),(16,I j)]) (fun j=>HE (m+1) [(1,some (.map (stQ es i S[i] j) (ckQ (4 * i) j))),(0,some (.cells [I 0,.sl .ex [],.lit .nilmap]))]) (fun j=>j≤2) (fun j=>2 - j) 0 ⟨rfl,rfl,rfl,rfl,rfl,rfl,rfl,rfl,rfl,trivial⟩ rfl (Nat.zero_le _) (fun j hj=>?_)))
   rcases (by omega:j=0∨j=1∨j=2) with rfl | rfl | rfl
   ·refine Run.seq (Run.region (cx_ok _ _ _) (Reg.op rfl (Ope.lt rfl rfl ?_)))
    refine Reg.nil (Run.seq (Run.condX rfl (fun hc=>?_) fun hc=>?_))
    ·refine Run.skip (Run.seq (Run.block (Run.seq (Run.region (cx_ok _ _ _) (Reg.op rfl (Ope.mov rfl ?_))))))
     refine Reg.op rfl (Ope.asg rfl ?_)
     refine Reg.nil (Run.seq (Run.draw (cx_ok _ _ _) [(0,true),(1,true),(3,true),(5,true),(6,true),(7,true),(8,false),(2,true),(4,true),(9,true)] (by kernel_rfl) (Dra.op' rfl rfl rfl .sure (Ope.mov rfl ?_))))
     refine Dra.op' rfl rfl rfl .sure (Ope.mov rfl ?_)
     refine Dra.op' rfl rfl rfl .sure (Ope.mov rfl ?_)
     refine Dra.op' rfl rfl rfl .sure (Ope.mov rfl ?_)
     refine Dra.op' rfl rfl rfl .sure (Ope.fld rfl rfl ?_)
     refine Dra.op' rfl rfl rfl .sure (Ope.idxA rfl rfl rfl rfl ?_)
     refine Dra.op' rfl rfl rfl (.load rfl) (Ope.load rfl rfl ?_)
     refine Dra.op' rfl rfl rfl .sure (Ope.cf rfl rfl (f48n i (by omega)) rfl ?_)
     refine Dra.op' rfl rfl rfl .sure (Ope.bld rfl rfl ?_)
     first
       | refine Dra.op' rfl rfl rfl .sure (Ope.mset (ka:=keyE ((2 * i:Nat):Int) 0) (r:=none) rfl rfl rfl rfl rfl (keyE_check _ _) (find_no (hA 0)) (fun _ _ h=>by cases h) (fun _ _ h=>by cases h) (fun _=>?_))
       | refine Dra.op' rfl rfl rfl .sure (Ope.mset (ka:=keyE ((2 * i:Nat):Int) 1) (r:=none) rfl rfl rfl rfl rfl (keyE_check _ _) (find_no (((hA 1).app (by omega)).app (by omega))) (fun _ _ h=>by cases h) (fun _ _ h=>by cases h) (fun _=>?_))
     refine Dra.nil (Run.draw (cx_ok _ _ _) [(0,true),(1,true),(3,true),(5,true),(6,true),(7,true),(8,false),(2,true),(4,true),(9,true)] (by kernel_rfl) (Dra.op' rfl rfl rfl .sure (Ope.mov rfl ?_)))
     refine Dra.op' rfl rfl rfl .sure (Ope.mov rfl ?_)
     refine Dra.op' rfl rfl rfl .sure (Ope.mov rfl ?_)
     refine Dra.op' rfl rfl rfl .sure (Ope.mov rfl ?_)
     refine Dra.op' rfl rfl rfl .sure (Ope.fld rfl rfl ?_)
     refine Dra.op' rfl rfl rfl .sure (Ope.idxA rfl rfl rfl rfl ?_)
     refine Dra.op' rfl rfl rfl (.load rfl) (Ope.load rfl rfl ?_)
     refine Dra.op' rfl rfl rfl .sure (Ope.cf rfl rfl (f52n i (by omega)) rfl ?_)
     refine Dra.op' rfl rfl rfl .sure (Ope.bld rfl rfl ?_)
     first
       | refine Dra.op' rfl rfl rfl .sure (Ope.mset (ka:=keyE ((2 * i+1:Nat):Int) 0) (r:=none) rfl rfl rfl rfl hget_hd (keyE_check _ _) (find_no ((hB 0).app (by omega))) (fun _ _ h=>by cases h) (fun _ _ h=>by cases h) (fun _=>?_))
       | refine Dra.op' rfl rfl rfl .sure (Ope.mset (ka:=keyE ((2 * i+1:Nat):Int) 1) (r:=none) rfl rfl rfl rfl hget_hd (keyE_check _ _) (find_no ((((hB 1).app (by omega)).app (by omega)).app (by omega))) (fun _ _ h=>by cases h) (fun _ _ h=>by cases h) (fun _=>?_))
     refine Dra.nil (Run.bend ?_)
     first
       | refine Run.wide (m:=m+1) (l':=[(1,some (.map (stQ es i S[i] 1) (ckQ (4 * i) 1))),(0,some (.cells [I 0,.sl .ex [],.lit .nilmap]))]) (Nat.le_refl _) ⟨rfl,rfl,trivial⟩ ?_
       | refine Run.wide (m:=m+1) (l':=[(1,some (.map (stQ es i S[i] 2) (ckQ (4 * i) 2))),(0,some (.cells [I 0,.sl .ex [],.lit .nilmap]))]) (Nat.le_refl _) ⟨rfl,rfl,trivial⟩ ?_
     refine Run.region (cx_ok _ _ _) (Reg.op rfl (Ope.add rfl rfl (by omega) ?_))
     refine Reg.op rfl (Ope.mov rfl ?_)
     refine Reg.nil ?_
     first | exact Run.lend ⟨1,by omega,by omega,⟨rfl,rfl,rfl,rfl,rfl,rfl,rfl,rfl,rfl,trivial⟩,rfl,rfl⟩ | exact Run.lend ⟨2,by omega,by omega,⟨rfl,rfl,rfl,rfl,rfl,rfl,rfl,rfl,rfl,trivial⟩,rfl,rfl⟩
    ·(first | (exfalso;omega))
   ·refine Run.seq (Run.region (cx_ok _ _ _) (Reg.op rfl (Ope.lt rfl rfl ?_)))
    refine Reg.nil (Run.seq (Run.condX rfl (fun hc=>?_) fun hc=>?_))
    ·refine Run.skip (Run.seq (Run.block (Run.seq (Run.region (cx_ok _ _ _) (Reg.op rfl (Ope.mov rfl ?_))))))
     refine Reg.op rfl (Ope.asg rfl ?_)
     refine Reg.nil (Run.seq (Run.draw (cx_ok _ _ _) [(0,true),(1,true),(3,true),(5,true),(6,true),(7,true),(8,false),(2,true),(4,true),(9,true)] (by kernel_rfl) (Dra.op' rfl rfl rfl .sure (Ope.mov rfl ?_))))
     refine Dra.op' rfl rfl rfl .sure (Ope.mov rfl ?_)
     refine Dra.op' rfl rfl rfl .sure (Ope.mov rfl ?_)
     refine Dra.op' rfl rfl rfl .sure (Ope.mov rfl ?_)
     refine Dra.op' rfl rfl rfl .sure (Ope.fld rfl rfl ?_)
     refine Dra.op' rfl rfl rfl .sure (Ope.idxA rfl rfl rfl rfl ?_)
     refine Dra.op' rfl rfl rfl (.load rfl) (Ope.load rfl rfl ?_)
     refine Dra.op' rfl rfl rfl .sure (Ope.cf rfl rfl (f48n i (by omega)) rfl ?_)
     refine Dra.op' rfl rfl rfl .sure (Ope.bld rfl rfl ?_)
     first
       | refine Dra.op' rfl rfl rfl .sure (Ope.mset (ka:=keyE ((2 * i:Nat):Int) 0) (r:=none) rfl rfl rfl rfl rfl (keyE_check _ _) (find_no (hA 0)) (fun _ _ h=>by cases h) (fun _ _ h=>by cases h) (fun _=>?_))
       | refine Dra.op' rfl rfl rfl .sure (Ope.mset (ka:=keyE ((2 * i:Nat):Int) 1) (r:=none) rfl rfl rfl rfl rfl (keyE_check _ _) (find_no (((hA 1).app (by omega)).app (by omega))) (fun _ _ h=>by cases h) (fun _ _ h=>by cases h) (fun _=>?_))
     refine Dra.nil (Run.draw (cx_ok _ _ _) [(0,true),(1,true),(3,true),(5,true),(6,true),(7,true),(8,false),(2,true),(4,true),(9,true)] (by kernel_rfl) (Dra.op' rfl rfl rfl .sure (Ope.mov rfl ?_)))
     refine Dra.op' rfl rfl rfl .sure (Ope.mov rfl ?_)
     refine Dra.op' rfl rfl rfl .sure (Ope.mov rfl ?_)
     refine Dra.op' rfl rfl rfl .sure (Ope.mov rfl ?_)
     refine Dra.op' rfl rfl rfl .sure (Ope.fld rfl rfl ?_)
     refine Dra.op' rfl rfl rfl .sure (Ope.idxA rfl rfl rfl rfl ?_)
     refine Dra.op' rfl rfl rfl (.load rfl) (Ope.load rfl rfl ?_)
     refine Dra.op' rfl rfl rfl .sure (Ope.cf rfl rfl (f52n i (by omega)) rfl ?_)
     refine Dra.op' rfl rfl rfl .sure (Ope.bld rfl rfl ?_)
     first
       | refine Dra.op' rfl rfl rfl .sure (Ope.mset (ka:=keyE ((2 * i+1:Nat):Int) 0) (r:=none) rfl rfl rfl rfl hget_hd (keyE_check _ _) (find_no ((hB 0).app (by omega))) (fun _ _ h=>by cases h) (fun _ _ h=>by cases h) (fun _=>?_))
       | refine Dra.op' rfl rfl rfl .sure (Ope.mset (ka:=keyE ((2 * i+1:Nat):Int) 1) (r:=none) rfl rfl rfl rfl hget_hd (keyE_check _ _) (find_no ((((hB 1).app (by omega)).app (by omega)).app (by omega))) (fun _ _ h=>by cases h) (fun _ _ h=>by cases h) (fun _=>?_))
     refine Dra.nil (Run.bend ?_)
     first
       | refine Run.wide (m:=m+1) (l':=[(1,some (.map (stQ es i S[i] 1) (ckQ (4 * i) 1))),(0,some (.cells [I 0,.sl .ex [],.lit .nilmap]))]) (Nat.le_refl _) ⟨rfl,rfl,trivial⟩ ?_
       | refine Run.wide (m:=m+1) (l':=[(1,some (.map (stQ es i S[i] 2) (ckQ (4 * i) 2))),(0,some (.cells [I 0,.sl .ex [],.lit .nilmap]))]) (Nat.le_refl _) ⟨rfl,rfl,trivial⟩ ?_
     refine Run.region (cx_ok _ _ _) (Reg.op rfl (Ope.add rfl rfl (by omega) ?_))
     refine Reg.op rfl (Ope.mov rfl ?_)
     refine Reg.nil ?_
     first | exact Run.lend ⟨1,by omega,by omega,⟨rfl,rfl,rfl,rfl,rfl,rfl,rfl,rfl,rfl,trivial⟩,rfl,rfl⟩ | exact Run.lend ⟨2,by omega,by omega,⟨rfl,rfl,rfl,rfl,rfl,rfl,rfl,rfl,rfl,trivial⟩,rfl,rfl⟩
    ·(first | (exfalso;omega))
   ·refine Run.seq (Run.region (cx_ok _ _ _) (Reg.op rfl (Ope.lt rfl rfl ?_)))
    refine Reg.nil (Run.seq (Run.condX rfl (fun hc=>?_) fun hc=>?_))
    ·(first | (exfalso;omega))
    ·refine Run.exit (Jmp.code (Jmp.round (Jmp.here (Run.bend (Run.wide (m:=m+1) (l':=[(1,some (.map (mapE 0 (S.take (i+1))) (4 * (i+1)))),(0,some (.cells [I 0,.sl .ex [],.lit .nilmap]))]) (Nat.le_refl _) ⟨congrArg some (congr (congrArg PBlk.map hall) hck),rfl,trivial⟩ ?_)))))
     refine Run.region (cx_ok _ _ _) (Reg.op rfl (Ope.add rfl rfl (by omega) ?_))
     refine Reg.op rfl (Ope.mov rfl ?_)
     exact Reg.nil (Run.lend ⟨(i+1,m+1),by show S.length - (i+1) < S.length - i;omega,⟨by show i+1≤S.length;omega,by show 2≤m+1;omega⟩,⟨rfl,rfl,rfl,rfl,rfl,rfl,trivial⟩,rfl,rfl⟩)
  ·refine Run.exit (Jmp.code (Jmp.round (Jmp.here (Run.seq ?_))))
   obtain rfl:i=S.length:=by omega
   rw [List.take_length]
   refine Run.region (cx_ok _ _ _) (Reg.op rfl (Ope.load rfl rfl ?_))
   refine Reg.op rfl (Ope.mov rfl ?_)
   refine Reg.op rfl (Ope.bld rfl rfl ?_)
   refine Reg.op0 (Ope.store rfl rfl rfl rfl rfl rfl ?_)
   exact Reg.nil (Run.ret (finH_ret (.cell rfl rfl .nil) (Nat.le_refl _) (l':=[(1,some (mapB S))]) (hs_skip (hs_keep (hs_skip hs_refl rfl)) rfl) ⟨m,hm,rfl,rfl⟩))
theorem f84j2 (cs:List PV) (rest:Int) (tl:Tail) (htl:tl.isOwn=false) (S:List Sti) (hS:S.length≤5) :
    PCall P0 84 [relV rest tl S] (HE 1 [(0,some (.cells cs))]) (fun v h'=>∃ m,3≤m∧h'=HE m [(2,some (mapB S)),(0,some (.cells cs))]∧v=notV rest tl S 2) fun _ _=>False:=by
  refine PCall.ofH (C:=c84) (cx_ok _ _ _) rfl (fn:=Try.f84) (by kernel_rfl) (c:=_) rfl rfl rfl (fun hok=>?_)
  refine Run.seq (Run.region (cx_ok _ _ _) (Reg.op rfl (Ope.boxF rfl rfl ?_)))
  refine Reg.op rfl (Ope.newL rfl ?_)
  refine Reg.nil (Run.seq (Run.region (cx_ok _ _ _) (Reg.op rfl (Ope.mmap ?_))))
  refine Reg.op rfl (Ope.asg rfl ?_)
  refine Reg.nil (Run.seq (Run.seq (Run.region (cx_ok _ _ _) (Reg.op rfl (Ope.fld rfl rfl ?_)))))
  refine Reg.op rfl (Ope.load rfl rfl ?_)
  refine Reg.op rfl (Ope.len (m:=S.length) rfl (by simp) ?_)
  refine Reg.op rfl (Ope.mov rfl ?_)
  refine Reg.nil (Run.block (Run.wide (m:=3) (l':=[(2,some (.map (mapE 0 (S.take 0)) (4 * 0))),(1,some (.cells [I 0,.sl .ex [],.lit .nilmap])),(0,some (.cells cs))]) (Nat.le_refl _) ⟨rfl,rfl,rfl,trivial⟩ ?_))
  refine Run.loop (α:=Nat×Nat) (fun s=>[(1,.fp (relV rest tl S)),(2,.ptr 1 0),(3,.mp 2),(9,.sl tl (S.map Sti.v)),(10,I S.length),(11,I s.1)]) (fun s=>HE s.2 [(2,some (.map (mapE 0 (S.take s.1)) (4 * s.1))),(1,some (.cells [I 0,.sl .ex [],.lit .nilmap])),(0,some (.cells cs))]) (fun s=>s.1≤S.length∧3≤s.2) (fun s=>S.length - s.1) (0,3) ⟨rfl,rfl,rfl,rfl,rfl,rfl,trivial⟩ rfl ⟨Nat.zero_le _,Nat.le_refl _⟩ (fun s hs=>?_)
  obtain ⟨i,m⟩:=s
  obtain ⟨hi,hm⟩:=hs
  simp only at hi hm
  refine Run.seq (Run.region (cx_ok _ _ _) (Reg.op rfl (Ope.lt rfl rfl ?_)))
  refine Reg.nil (Run.seq (Run.condX rfl (fun hc=>?_) fun hc=>?_))
  ·first
   |(first | (exfalso;omega))
   |refine Run.skip (Run.seq (Run.block (Run.seq ?_)))
    have hlt:i < S.length:=by omega
    have hno:∀ o j:Int,0≤o→NoKey (((2 * i:Nat):Int)+o) j (mapE 0 (S.take i)):=fun o j ho=>mapE_no _ _ (.inr (by simp only [List.length_take];omega))
    have hA:∀ j:Int,NoKey ((2 * i:Nat):Int) j (mapE 0 (S.take i)):=fun j=>by have:=hno 0 j (by decide);rwa [Int.add_zero] at this
    have hB:∀ j:Int,NoKey ((2 * i+1:Nat):Int) j (mapE 0 (S.take i)):=fun j=>hno 1 j (by decide)
    have hall:=stQ_all (mapE 0 (S.take i)) i S[i]
    rw [← mapE_take hlt] at hall
    have hck:ckQ (4 * i) 2=4 * (i+1):=by simp only [ckQ];omega
    generalize hes:mapE 0 (S.take i)=es at *
    refine Run.region (cx_ok _ _ _) (Reg.op rfl (Ope.mov rfl ?_))
    refine Reg.op rfl (Ope.idxM (m:=i) (f:=Sti.v) rfl rfl rfl hlt (fun _=>rfl) ?_)
    refine Reg.op rfl (Ope.load rfl rfl ?_)
    refine Reg.op rfl (Ope.newL rfl ?_)
    refine Reg.op rfl (Ope.asg rfl ?_)
    refine Reg.op0 (Ope.store rfl rfl hget_hd rfl rfl rfl ?_)
    refine Reg.nil (Run.seq (Run.frz (d:=5) true rfl hget_hd rfl ?_))
    refine Run.wide (m:=m+1) (l':=[(2,some (.map (stQ es i S[i] 0) (ckQ (4 * i) 0))),(1,some (.cells [I 0,.sl .ex [],.lit .nilmap])),(0,some (.cells cs))]) (Nat.le_refl _) ⟨(hget_tl (by omega)).trans ((hget_tl (by omega)).trans ((hget_tl (by omega)).trans rfl)),(hget_tl (by omega)).trans ((hget_tl (by omega)).trans ((hget_tl (by omega)).trans rfl)),(hget_tl (by omega)).trans ((hget_tl (by omega)).trans ((hget_tl (by omega)).trans rfl)),trivial⟩ ?_
    refine Run.region (cx_ok _ _ _) (Reg.op rfl (Ope.mov rfl ?_))
    refine Reg.nil (Run.block (Run.loop (α:=Nat) (fun j=>[(1,.fp (relV rest tl S)),(2,.ptr 1 0),(3,.mp 2),(9,.sl tl (S.map Sti.v)),(10,I S.length),(11,I i),(4,I i),(5,.fp S[i].v),(16,I j)]) (fun j=>HE (m+1) [(2,some (.map (stQ es i S[i] j) (ckQ (4 * i) j))),(1,some (.cells [I 0,.sl .ex [],.lit .nilmap])),(0,some (.cells cs))]) (fun j=>j≤2) (fun j=>2 - j) 0 ⟨rfl,rfl,rfl,rfl,rfl,rfl,rfl,rfl,rfl,trivial⟩ rfl (Nat.zero_le _) (fun j hj=>?_)))
    rcases (by omega:j=0∨j=1∨j=2) with rfl | rfl | rfl
    ·refine Run.seq (Run.region (cx_ok _ _ _) (Reg.op rfl (Ope.lt rfl rfl ?_)))
     refine Reg.nil (Run.seq (Run.condX rfl (fun hc=>?_) fun hc=>?_))
     ·first
      |(first | (exfalso;omega))
      |refine Run.skip (Run.seq (Run.block (Run.seq (Run.region (cx_ok _ _ _) (Reg.op rfl (Ope.mov rfl ?_))))))
       refine Reg.op rfl (Ope.asg rfl ?_)
       refine Reg.nil (Run.seq (Run.draw (cx_ok _ _ _) [(0,true),(1,true),(3,true),(5,true),(6,true),(7,true),(8,false),(2,true),(4,true),(9,true)] (by kernel_rfl) (Dra.op' rfl rfl rfl .sure (Ope.mov rfl ?_))))
       refine Dra.op' rfl rfl rfl .sure (Ope.mov rfl ?_)
       refine Dra.op' rfl rfl rfl .sure (Ope.mov rfl ?_)
       refine Dra.op' rfl rfl rfl .sure (Ope.mov rfl ?_)
       refine Dra.op' rfl rfl rfl .sure (Ope.fld rfl rfl ?_)
       refine Dra.op' rfl rfl rfl .sure (Ope.idxA rfl rfl rfl rfl ?_)
       refine Dra.op' rfl rfl rfl (.load rfl) (Ope.load rfl rfl ?_)
       refine Dra.op' rfl rfl rfl .sure (Ope.cf rfl rfl (f48n i (by omega)) rfl ?_)
       refine Dra.op' rfl rfl rfl .sure (Ope.bld rfl rfl ?_)
       first
         | refine Dra.op' rfl rfl rfl .sure (Ope.mset (ka:=keyE ((2 * i:Nat):Int) 0) (r:=none) rfl rfl rfl rfl rfl (keyE_check _ _) (find_no (hA 0)) (fun _ _ h=>by cases h) (fun _ _ h=>by cases h) (fun _=>?_))
         | refine Dra.op' rfl rfl rfl .sure (Ope.mset (ka:=keyE ((2 * i:Nat):Int) 1) (r:=none) rfl rfl rfl rfl rfl (keyE_check _ _) (find_no (((hA 1).app (by omega)).app (by omega))) (fun _ _ h=>by cases h) (fun _ _ h=>by cases h) (fun _=>?_))
       refine Dra.nil (Run.draw (cx_ok _ _ _) [(0,true),(1,true),(3,true),(5,true),(6,true),(7,true),(8,false),(2,true),(4,true),(9,true)] (by kernel_rfl) (Dra.op' rfl rfl rfl .sure (Ope.mov rfl ?_)))
       refine Dra.op' rfl rfl rfl .sure (Ope.mov rfl ?_)
       refine Dra.op' rfl rfl rfl .sure (Ope.mov rfl ?_)
       refine Dra.op' rfl rfl rfl .sure (Ope.mov rfl ?_)
       refine Dra.op' rfl rfl rfl .sure (Ope.fld rfl rfl ?_)
       refine Dra.op' rfl rfl rfl .sure (Ope.idxA rfl rfl rfl rfl ?_)
       refine Dra.op' rfl rfl rfl (.load rfl) (Ope.load rfl rfl ?_)
       refine Dra.op' rfl rfl rfl .sure (Ope.cf rfl rfl (f52n i (by omega)) rfl ?_)
       refine Dra.op' rfl rfl rfl .sure (Ope.bld rfl rfl ?_)
       first
         | refine Dra.op' rfl rfl rfl .sure (Ope.mset (ka:=keyE ((2 * i+1:Nat):Int) 0) (r:=none) rfl rfl rfl rfl hget_hd (keyE_check _ _) (find_no ((hB 0).app (by omega))) (fun _ _ h=>by cases h) (fun _ _ h=>by cases h) (fun _=>?_))
         | refine Dra.op' rfl rfl rfl .sure (Ope.mset (ka:=keyE ((2 * i+1:Nat):Int) 1) (r:=none) rfl rfl rfl rfl hget_hd (keyE_check _ _) (find_no ((((hB 1).app (by omega)).app (by omega)).app (by omega))) (fun _ _ h=>by cases h) (fun _ _ h=>by cases h) (fun _=>?_))
       refine Dra.nil (Run.bend ?_)
       first
         | refine Run.wide (m:=m+1) (l':=[(2,some (.map (stQ es i S[i] 1) (ckQ (4 * i) 1))),(1,some (.cells [I 0,.sl .ex [],.lit .nilmap])),(0,some (.cells cs))]) (Nat.le_refl _) ⟨rfl,rfl,rfl,trivial⟩ ?_
         | refine Run.wide (m:=m+1) (l':=[(2,some (.map (stQ es i S[i] 2) (ckQ (4 * i) 2))),(1,some (.cells [I 0,.sl .ex [],.lit .nilmap])),(0,some (.cells cs))]) (Nat.le_refl _) ⟨rfl,rfl,rfl,trivial⟩ ?_
       refine Run.region (cx_ok _ _ _) (Reg.op rfl (Ope.add rfl rfl (by omega) ?_))
       refine Reg.op rfl (Ope.mov rfl ?_)
       refine Reg.nil ?_
       first | exact Run.lend ⟨1,by omega,by omega,⟨rfl,rfl,rfl,rfl,rfl,rfl,rfl,rfl,rfl,trivial⟩,rfl,rfl⟩ | exact Run.lend ⟨2,by omega,by omega,⟨rfl,rfl,rfl,rfl,rfl,rfl,rfl,rfl,rfl,trivial⟩,rfl,rfl⟩
     ·first
      |(first | (exfalso;omega))
      |refine Run.exit (Jmp.code (Jmp.round (Jmp.here (Run.bend (Run.wide (m:=m+1) (l':=[(2,some (.map (mapE 0 (S.take (i+1))) (4 * (i+1)))),(1,some (.cells [I 0,.sl .ex [],.lit .nilmap])),(0,some (.cells cs))]) (Nat.le_refl _) ⟨congrArg some (congr (congrArg PBlk.map hall) hck),rfl,rfl,trivial⟩ ?_)))))
       refine Run.region (cx_ok _ _ _) (Reg.op rfl (Ope.add rfl rfl (by omega) ?_))
       refine Reg.op rfl (Ope.mov rfl ?_)
       exact Reg.nil (Run.lend ⟨(i+1,m+1),by show S.length - (i+1) < S.length - i;omega,⟨by show i+1≤S.length;omega,by show 3≤m+1;omega⟩,⟨rfl,rfl,rfl,rfl,rfl,rfl,trivial⟩,rfl,rfl⟩)
    ·refine Run.seq (Run.region (cx_ok _ _ _) (Reg.op rfl (Ope.lt rfl rfl ?_)))
     refine Reg.nil (Run.seq (Run.condX rfl (fun hc=>?_) fun hc=>?_))
     ·first
      |(first | (exfalso;omega))
      |refine Run.skip (Run.seq (Run.block (Run.seq (Run.region (cx_ok _ _ _) (Reg.op rfl (Ope.mov rfl ?_))))))
       refine Reg.op rfl (Ope.asg rfl ?_)
       refine Reg.nil (Run.seq (Run.draw (cx_ok _ _ _) [(0,true),(1,true),(3,true),(5,true),(6,true),(7,true),(8,false),(2,true),(4,true),(9,true)] (by kernel_rfl) (Dra.op' rfl rfl rfl .sure (Ope.mov rfl ?_))))
       refine Dra.op' rfl rfl rfl .sure (Ope.mov rfl ?_)
       refine Dra.op' rfl rfl rfl .sure (Ope.mov rfl ?_)
       refine Dra.op' rfl rfl rfl .sure (Ope.mov rfl ?_)
       refine Dra.op' rfl rfl rfl .sure (Ope.fld rfl rfl ?_)
       refine Dra.op' rfl rfl rfl .sure (Ope.idxA rfl rfl rfl rfl ?_)
       refine Dra.op' rfl rfl rfl (.load rfl) (Ope.load rfl rfl ?_)
       refine Dra.op' rfl rfl rfl .sure (Ope.cf rfl rfl (f48n i (by omega)) rfl ?_)
       refine Dra.op' rfl rfl rfl .sure (Ope.bld rfl rfl ?_)
       first
         | refine Dra.op' rfl rfl rfl .sure (Ope.mset (ka:=keyE ((2 * i:Nat):Int) 0) (r:=none) rfl rfl rfl rfl rfl (keyE_check _ _) (find_no (hA 0)) (fun _ _ h=>by cases h) (fun _ _ h=>by cases h) (fun _=>?_))
         | refine Dra.op' rfl rfl rfl .sure (Ope.mset (ka:=keyE ((2 * i:Nat):Int) 1) (r:=none) rfl rfl rfl rfl rfl (keyE_check _ _) (find_no (((hA 1).app (by omega)).app (by omega))) (fun _ _ h=>by cases h) (fun _ _ h=>by cases h) (fun _=>?_))
       refine Dra.nil (Run.draw (cx_ok _ _ _) [(0,true),(1,true),(3,true),(5,true),(6,true),(7,true),(8,false),(2,true),(4,true),(9,true)] (by kernel_rfl) (Dra.op' rfl rfl rfl .sure (Ope.mov rfl ?_)))
       refine Dra.op' rfl rfl rfl .sure (Ope.mov rfl ?_)
       refine Dra.op' rfl rfl rfl .sure (Ope.mov rfl ?_)
       refine Dra.op' rfl rfl rfl .sure (Ope.mov rfl ?_)
       refine Dra.op' rfl rfl rfl .sure (Ope.fld rfl rfl ?_)
       refine Dra.op' rfl rfl rfl .sure (Ope.idxA rfl rfl rfl rfl ?_)
       refine Dra.op' rfl rfl rfl (.load rfl) (Ope.load rfl rfl ?_)
       refine Dra.op' rfl rfl rfl .sure (Ope.cf rfl rfl (f52n i (by omega)) rfl ?_)
       refine Dra.op' rfl rfl rfl .sure (Ope.bld rfl rfl ?_)
       first
         | refine Dra.op' rfl rfl rfl .sure (Ope.mset (ka:=keyE ((2 * i+1:Nat):Int) 0) (r:=none) rfl rfl rfl rfl hget_hd (keyE_check _ _) (find_no ((hB 0).app (by omega))) (fun _ _ h=>by cases h) (fun _ _ h=>by cases h) (fun _=>?_))
         | refine Dra.op' rfl rfl rfl .sure (Ope.mset (ka:=keyE ((2 * i+1:Nat):Int) 1) (r:=none) rfl rfl rfl rfl hget_hd (keyE_check _ _) (find_no ((((hB 1).app (by omega)).app (by omega)).app (by omega))) (fun _ _ h=>by cases h) (fun _ _ h=>by cases h) (fun _=>?_))
       refine Dra.nil (Run.bend ?_)
       first
         | refine Run.wide (m:=m+1) (l':=[(2,some (.map (stQ es i S[i] 1) (ckQ (4 * i) 1))),(1,some (.cells [I 0,.sl .ex [],.lit .nilmap])),(0,some (.cells cs))]) (Nat.le_refl _) ⟨rfl,rfl,rfl,trivial⟩ ?_
         | refine Run.wide (m:=m+1) (l':=[(2,some (.map (stQ es i S[i] 2) (ckQ (4 * i) 2))),(1,some (.cells [I 0,.sl .ex [],.lit .nilmap])),(0,some (.cells cs))]) (Nat.le_refl _) ⟨rfl,rfl,rfl,trivial⟩ ?_
       refine Run.region (cx_ok _ _ _) (Reg.op rfl (Ope.add rfl rfl (by omega) ?_))
       refine Reg.op rfl (Ope.mov rfl ?_)
       refine Reg.nil ?_
       first | exact Run.lend ⟨1,by omega,by omega,⟨rfl,rfl,rfl,rfl,rfl,rfl,rfl,rfl,rfl,trivial⟩,rfl,rfl⟩ | exact Run.lend ⟨2,by omega,by omega,⟨rfl,rfl,rfl,rfl,rfl,rfl,rfl,rfl,rfl,trivial⟩,rfl,rfl⟩
     ·first
      |(first | (exfalso;omega))
      |refine Run.exit (Jmp.code (Jmp.round (Jmp.here (Run.bend (Run.wide (m:=m+1) (l':=[(2,some (.map (mapE 0 (S.take (i+1))) (4 * (i+1)))),(1,some (.cells [I 0,.sl .ex [],.lit .nilmap])),(0,some (.cells cs))]) (Nat.le_refl _) ⟨congrArg some (congr (congrArg PBlk.map hall) hck),rfl,rfl,trivial⟩ ?_)))))
       refine Run.region (cx_ok _ _ _) (Reg.op rfl (Ope.add rfl rfl (by omega) ?_))
       refine Reg.op rfl (Ope.mov rfl ?_)
       exact Reg.nil (Run.lend ⟨(i+1,m+1),by show S.length - (i+1) < S.length - i;omega,⟨by show i+1≤S.length;omega,by show 3≤m+1;omega⟩,⟨rfl,rfl,rfl,rfl,rfl,rfl,trivial⟩,rfl,rfl⟩)
    ·refine Run.seq (Run.region (cx_ok _ _ _) (Reg.op rfl (Ope.lt rfl rfl ?_)))
     refine Reg.nil (Run.seq (Run.condX rfl (fun hc=>?_) fun hc=>?_))
     ·first
      |(first | (exfalso;omega))
      |refine Run.skip (Run.seq (Run.block (Run.seq (Run.region (cx_ok _ _ _) (Reg.op rfl (Ope.mov rfl ?_))))))
       refine Reg.op rfl (Ope.asg rfl ?_)
       refine Reg.nil (Run.seq (Run.draw (cx_ok _ _ _) [(0,true),(1,true),(3,true),(5,true),(6,true),(7,true),(8,false),(2,true),(4,true),(9,true)] (by kernel_rfl) (Dra.op' rfl rfl rfl .sure (Ope.mov rfl ?_))))
       refine Dra.op' rfl rfl rfl .sure (Ope.mov rfl ?_)
       refine Dra.op' rfl rfl rfl .sure (Ope.mov rfl ?_)
       refine Dra.op' rfl rfl rfl .sure (Ope.mov rfl ?_)
       refine Dra.op' rfl rfl rfl .sure (Ope.fld rfl rfl ?_)
       refine Dra.op' rfl rfl rfl .sure (Ope.idxA rfl rfl rfl rfl ?_)
       refine Dra.op' rfl rfl rfl (.load rfl) (Ope.load rfl rfl ?_)
       refine Dra.op' rfl rfl rfl .sure (Ope.cf rfl rfl (f48n i (by omega)) rfl ?_)
       refine Dra.op' rfl rfl rfl .sure (Ope.bld rfl rfl ?_)
       first
         | refine Dra.op' rfl rfl rfl .sure (Ope.mset (ka:=keyE ((2 * i:Nat):Int) 0) (r:=none) rfl rfl rfl rfl rfl (keyE_check _ _) (find_no (hA 0)) (fun _ _ h=>by cases h) (fun _ _ h=>by cases h) (fun _=>?_))
         | refine Dra.op' rfl rfl rfl .sure (Ope.mset (ka:=keyE ((2 * i:Nat):Int) 1) (r:=none) rfl rfl rfl rfl rfl (keyE_check _ _) (find_no (((hA 1).app (by omega)).app (by omega))) (fun _ _ h=>by cases h) (fun _ _ h=>by cases h) (fun _=>?_))
       refine Dra.nil (Run.draw (cx_ok _ _ _) [(0,true),(1,true),(3,true),(5,true),(6,true),(7,true),(8,false),(2,true),(4,true),(9,true)] (by kernel_rfl) (Dra.op' rfl rfl rfl .sure (Ope.mov rfl ?_)))
       refine Dra.op' rfl rfl rfl .sure (Ope.mov rfl ?_)
       refine Dra.op' rfl rfl rfl .sure (Ope.mov rfl ?_)
       refine Dra.op' rfl rfl rfl .sure (Ope.mov rfl ?_)
       refine Dra.op' rfl rfl rfl .sure (Ope.fld rfl rfl ?_)
       refine Dra.op' rfl rfl rfl .sure (Ope.idxA rfl rfl rfl rfl ?_)
       refine Dra.op' rfl rfl rfl (.load rfl) (Ope.load rfl rfl ?_)
       refine Dra.op' rfl rfl rfl .sure (Ope.cf rfl rfl (f52n i (by omega)) rfl ?_)
       refine Dra.op' rfl rfl rfl .sure (Ope.bld rfl rfl ?_)
       first
         | refine Dra.op' rfl rfl rfl .sure (Ope.mset (ka:=keyE ((2 * i+1:Nat):Int) 0) (r:=none) rfl rfl rfl rfl hget_hd (keyE_check _ _) (find_no ((hB 0).app (by omega))) (fun _ _ h=>by cases h) (fun _ _ h=>by cases h) (fun _=>?_))
         | refine Dra.op' rfl rfl rfl .sure (Ope.mset (ka:=keyE ((2 * i+1:Nat):Int) 1) (r:=none) rfl rfl rfl rfl hget_hd (keyE_check _ _) (find_no ((((hB 1).app (by omega)).app (by omega)).app (by omega))) (fun _ _ h=>by cases h) (fun _ _ h=>by cases h) (fun _=>?_))
       refine Dra.nil (Run.bend ?_)
       first
         | refine Run.wide (m:=m+1) (l':=[(2,some (.map (stQ es i S[i] 1) (ckQ (4 * i) 1))),(1,some (.cells [I 0,.sl .ex [],.lit .nilmap])),(0,some (.cells cs))]) (Nat.le_refl _) ⟨rfl,rfl,rfl,trivial⟩ ?_
         | refine Run.wide (m:=m+1) (l':=[(2,some (.map (stQ es i S[i] 2) (ckQ (4 * i) 2))),(1,some (.cells [I 0,.sl .ex [],.lit .nilmap])),(0,some (.cells cs))]) (Nat.le_refl _) ⟨rfl,rfl,rfl,trivial⟩ ?_
       refine Run.region (cx_ok _ _ _) (Reg.op rfl (Ope.add rfl rfl (by omega) ?_))
       refine Reg.op rfl (Ope.mov rfl ?_)
       refine Reg.nil ?_
       first | exact Run.lend ⟨1,by omega,by omega,⟨rfl,rfl,rfl,rfl,rfl,rfl,rfl,rfl,rfl,trivial⟩,rfl,rfl⟩ | exact Run.lend ⟨2,by omega,by omega,⟨rfl,rfl,rfl,rfl,rfl,rfl,rfl,rfl,rfl,trivial⟩,rfl,rfl⟩
     ·first
      |(first | (exfalso;omega))
      |refine Run.exit (Jmp.code (Jmp.round (Jmp.here (Run.bend (Run.wide (m:=m+1) (l':=[(2,some (.map (mapE 0 (S.take (i+1))) (4 * (i+1)))),(1,some (.cells [I 0,.sl .ex [],.lit .nilmap])),(0,some (.cells cs))]) (Nat.le_refl _) ⟨congrArg some (congr (congrArg PBlk.map hall) hck),rfl,rfl,trivial⟩ ?_)))))
       refine Run.region (cx_ok _ _ _) (Reg.op rfl (Ope.add rfl rfl (by omega) ?_))
       refine Reg.op rfl (Ope.mov rfl ?_)
       exact Reg.nil (Run.lend ⟨(i+1,m+1),by show S.length - (i+1) < S.length - i;omega,⟨by show i+1≤S.length;omega,by show 3≤m+1;omega⟩,⟨rfl,rfl,rfl,rfl,rfl,rfl,trivial⟩,rfl,rfl⟩)
  ·first
   |(first | (exfalso;omega))
   |refine Run.exit (Jmp.code (Jmp.round (Jmp.here (Run.seq ?_))))
    obtain rfl:i=S.length:=by omega
    rw [List.take_length]
    refine Run.region (cx_ok _ _ _) (Reg.op rfl (Ope.load rfl rfl ?_))
    refine Reg.op rfl (Ope.mov rfl ?_)
    refine Reg.op rfl (Ope.bld rfl rfl ?_)
    refine Reg.op0 (Ope.store rfl rfl rfl rfl rfl rfl ?_)
    exact Reg.nil (Run.ret (finH_ret (.cell rfl rfl .nil) (Nat.le_refl _) (l':=[(2,some (mapB S)),(0,some (.cells cs))]) (hs_skip (hs_keep (hs_skip hs_refl rfl)) rfl) ⟨m,hm,rfl,rfl⟩))
end Go.Pv
namespace Go.Pv
open Go.Proofs Go.Am
set_option maxRecDepth 10000
def wriV (w:Nat×Nat×Int×Nat):PV:=.ifc 145 (.agg [I w.1,I w.2.1,I w.2.2.1,I w.2.2.2])
def entW (k:Nat) (s:Sti) (o j:Nat):List (Nat×Nat×Int×Nat):=[(2 * k+o,10,-(s.ent o j).1,2 * (2 * k+o)+j),(10,2 * k+o,(s.ent o j).2,2 * (2 * k+o)+j)]
def entJ (k:Nat) (s:Sti) (o:Nat):Nat→List (Nat×Nat×Int×Nat)
  | 0=>[]
  | j+1=>entJ k s o j++entW k s o j
def entO (k:Nat) (s:Sti):Nat→List (Nat×Nat×Int×Nat)
  | 0=>[]
  | o+1=>entO k s o++entJ k s o 2
theorem entJ_len (k:Nat) (s:Sti) (o:Nat):∀ j,(entJ k s o j).length=2 * j
  | 0=>rfl
  | j + 1 => by
    simp only [entJ,List.length_append,entJ_len k s o j,entW,List.length_cons,List.length_nil]
    omega
theorem entO_len (k:Nat) (s:Sti):∀ o,(entO k s o).length=4 * o
  | 0=>rfl
  | o + 1 => by
    simp only [entO,List.length_append,entO_len k s o,entJ_len]
    omega
theorem ent_bnd {s:Sti} (h:s.ok=true) {o j:Nat} (ho:o < 2) (hj:j < 2):0≤(s.ent o j).1∧(s.ent o j).1≤(s.ent o j).2∧(s.ent o j).2≤600:=by
  obtain ⟨hr5,h0,h1⟩:(s.r=0∨s.r=1)∧s.j0=true∧s.j1=true:=by simpa [Sti.ok] using h
  obtain ⟨h00,h01⟩:minsOk s.a s.b=true∧minsOk s.e s.f=true:=by simpa [Sti.j0] using h0
  obtain ⟨h10,h11⟩:minsOk s.c s.d=true∧minsOk s.g s.h=true:=by simpa [Sti.j1] using h1
  simp only [minsOk,Bool.and_eq_true,decide_eq_true_eq] at h00 h01 h10 h11
  rcases (by omega:o=0∨o=1) with rfl | rfl<;>rcases (by omega:j=0∨j=1) with rfl | rfl
  · exact h00
  · exact h10
  · exact h01
  · exact h11
theorem f120n (m j:Nat) (h:m≤1000) (hj:j≤1):Fn P0 120 [.agg [I m,I j]] (I ((2 * m+j:Nat):Int)):=by
  rw [show ((2 * m+j:Nat):Int)=2 * (m:Int)+(j:Int) from by omega]
  exact f120 m j ⟨by omega,by omega⟩ ⟨by omega,by omega⟩
theorem ent_ne {k:Nat} {s:Sti} {o j:Nat} (h:(entO k s o++entJ k s o j).map wriV=[]):o=0∧j=0:=by
  have:=congrArg List.length h
  simp only [List.length_map,List.length_append,entO_len,entJ_len,List.length_nil] at this
  omega
section
variable {o:Option Nat} {n m:Nat} {l:HL}
theorem noneU (h:∀ q,o=some q→q < m) (hl:∀ q,n≤q→hget l q=none) (hn:n≤m) {x:Nat} (hx:m≤x):hget (ownU o++l) x=none:=by
  cases o with
  | none=>exact hl x (by omega)
  | some q=>exact (hget_tl (by have:=h q rfl;omega)).trans (hl x (by omega))
theorem getU {i:Nat} (h:∀ q,o=some q→q≠i):hget (ownU o++l) i=hget l i:=by
  cases o with
  | none=>rfl
  | some q=>exact hget_tl (by have:=h q rfl;omega)
theorem hsU (h:∀ q,o=some q→hget l q=none):∀ i b,hget l i=some b→hget (ownU o++l) i=some b:=by
  intro i b hb
  rw [getU]
  · exact hb
  · intro q hq e
    subst e
    rw [h _ hq] at hb
    cases hb
end
theorem f111 (rest:Int) (tl:Tail) (S:List Sti) (hS:S.length≤5) (hv:∀ s∈S,s.ok=true) (k:Nat) (hk:k < S.length) (mj n:Nat) (l:HL) (hM:hget l mj=some (mapB S)) :
    Sam P0 111 [notV rest tl S mj,I k] n l (.sl .no ((entO k S[k] 2).map wriV)):=by
  have hsok:=hv _ (List.getElem_mem hk)
  have key:∀ {o j:Nat},o < 2→j < 2→∃ p,pfind A0 E0 113 (keyE ((2 * k+o:Nat):Int) (j:Int)) (mapE 0 S) 0=some (some (p,spV (S[k].ent o j))):=fun ho hj=>map_find hk ho hj
  have hbnd:=fun {o j:Nat} (ho:o < 2) (hj:j < 2)=>ent_bnd hsok ho hj
  generalize S[k]=s at *
  unfold Sam
  refine PCall.ofH (C:=c111) (cx_ok _ _ _) rfl (fn:=Try.f111) (by kernel_rfl) (c:=_) rfl rfl rfl (fun hok=>?_)
  have hl0:∀ q,n≤q→hget l q=none:=fun q hq=>ok_none hok hq
  have hn1:mj < n:=(hok mj _ hM).1
  refine Run.seq (Run.region (cx_ok _ _ _) (Reg.op rfl (Ope.boxF rfl rfl ?_)))
  refine Reg.op rfl (Ope.asg rfl ?_)
  refine Reg.nil (Run.seq (Run.region (cx_ok _ _ _) (Reg.op rfl (Ope.asg rfl ?_))))
  refine Reg.nil (Run.seq (Run.seq (Run.region (cx_ok _ _ _) (Reg.op rfl (Ope.mov rfl ?_)))))
  refine Reg.op rfl (Ope.cf rfl rfl (f48n k (by omega)) rfl ?_)
  refine Reg.op rfl (Ope.mov rfl ?_)
  refine Reg.op rfl (Ope.cf rfl rfl (f52n k (by omega)) rfl ?_)
  refine Reg.op rfl (Ope.bld rfl rfl ?_)
  refine Reg.op rfl (Ope.mov rfl ?_)
  refine Reg.nil (Run.block (Run.loop (α:=Nat×Option Nat×Nat) (fun t=>[(2,.fp (notV rest tl S mj)),(5,.sl (tlU t.2.1) ((entO k s t.1).map wriV)),(15,.agg [I ((2 * k:Nat):Int),I ((2 * k+1:Nat):Int)]),(16,I t.1)]) (fun t=>HE t.2.2 (ownU t.2.1++l)) (fun t=>t.1≤2∧(t.2.1=none↔t.1=0)∧(∀ j,t.2.1=some j→n≤j∧j < t.2.2)∧n≤t.2.2) (fun t=>2 - t.1) (0,none,n) ⟨rfl,rfl,rfl,rfl,trivial⟩ rfl ⟨Nat.zero_le _,by simp,by simp,Nat.le_refl _⟩ (fun t ht=>?_)))
  obtain ⟨o,o',m⟩:=t
  obtain ⟨ho1,ho2,ho3,ho4⟩:=ht
  simp only at ho1 ho2 ho3 ho4
  rcases (by omega:o=0∨o=1∨o=2) with rfl | rfl | rfl
  ·refine Run.seq (Run.region (cx_ok _ _ _) (Reg.op rfl (Ope.lt rfl rfl ?_)))
   refine Reg.nil (Run.seq (Run.condX rfl (fun hc=>?_) fun hc=>?_))
   ·refine Run.skip (Run.seq (Run.block (Run.seq (Run.region (cx_ok _ _ _) (Reg.op rfl (Ope.idx rfl rfl rfl rfl rfl ?_))))))
    refine Reg.op rfl (Ope.asg rfl ?_)
    refine Reg.nil (Run.seq (Run.region (cx_ok _ _ _) (Reg.op rfl (Ope.mov rfl ?_))))
    refine Reg.nil (Run.block ?_)
    first
      | refine Run.loop (α:=Nat×Option Nat×Nat) (fun t=>[(2,.fp (notV rest tl S mj)),(5,.sl (tlU t.2.1) ((entO k s 0++entJ k s 0 t.1).map wriV)),(7,I ((2 * k+0:Nat):Int)),(15,.agg [I ((2 * k:Nat):Int),I ((2 * k+1:Nat):Int)]),(16,I ((0:Nat):Int)),(19,I t.1)]) (fun t=>HE t.2.2 (ownU t.2.1++l)) (fun t=>t.1≤2∧(t.2.1=none↔0=0∧t.1=0)∧(∀ j,t.2.1=some j→n≤j∧j < t.2.2)∧n≤t.2.2) (fun t=>2 - t.1) (0,o',m) ⟨rfl,congrArg (fun l=>some (PV.sl (tlU o') l)) (by rw [entJ,List.append_nil]),rfl,rfl,rfl,rfl,trivial⟩ rfl ⟨Nat.zero_le _,⟨fun h=>⟨rfl,rfl⟩,fun _=>ho2.2 rfl⟩,ho3,ho4⟩ (fun t ht=>?_)
      | refine Run.loop (α:=Nat×Option Nat×Nat) (fun t=>[(2,.fp (notV rest tl S mj)),(5,.sl (tlU t.2.1) ((entO k s 1++entJ k s 1 t.1).map wriV)),(7,I ((2 * k+1:Nat):Int)),(15,.agg [I ((2 * k:Nat):Int),I ((2 * k+1:Nat):Int)]),(16,I ((1:Nat):Int)),(19,I t.1)]) (fun t=>HE t.2.2 (ownU t.2.1++l)) (fun t=>t.1≤2∧(t.2.1=none↔1=0∧t.1=0)∧(∀ j,t.2.1=some j→n≤j∧j < t.2.2)∧n≤t.2.2) (fun t=>2 - t.1) (0,o',m) ⟨rfl,congrArg (fun l=>some (PV.sl (tlU o') l)) (by rw [entJ,List.append_nil]),rfl,rfl,rfl,rfl,trivial⟩ rfl ⟨Nat.zero_le _,⟨fun h=>by have:=ho2.1 h;omega,fun h=>by omega⟩,ho3,ho4⟩ (fun t ht=>?_)
    obtain ⟨j,o'',m'⟩:=t
    obtain ⟨hj1,hj2,hj3,hj4⟩:=ht
    simp only at hj1 hj2 hj3 hj4
    refine Run.seq (Run.region (cx_ok _ _ _) (Reg.op rfl (Ope.lt rfl rfl ?_)))
    refine Reg.nil (Run.seq (Run.condX rfl (fun hc=>?_) fun hc=>?_))
    ·refine Run.skip (Run.seq (Run.block (Run.seq ?_)))
     have hjlt:j < 2:=by omega
     obtain ⟨p0,hp0⟩:=key (o:=0) (by decide) hjlt
     obtain ⟨p1,hp1⟩:=key (o:=1) (by decide) hjlt
     have hb0:=hbnd (o:=0) (by decide) hjlt
     have hb1:=hbnd (o:=1) (by decide) hjlt
     have hN:∀ x,m'≤x→hget (ownU o''++l) x=none:=fun x hx=>noneU (fun q hq=>(hj3 q hq).2) hl0 hj4 hx
     have hg1:hget (ownU o''++l) mj=some (mapB S):=(getU fun q hq=>by have:=(hj3 q hq).1;omega).trans hM
     refine Run.region (cx_ok _ _ _) (Reg.op rfl (Ope.mov rfl ?_))
     refine Reg.op rfl (Ope.asg rfl ?_)
     refine Reg.nil (Run.seq (Run.region (cx_ok _ _ _) (Reg.op rfl (Ope.mov rfl ?_))))
     refine Reg.op rfl (Ope.mov rfl ?_)
     refine Reg.op rfl (Ope.bld rfl rfl ?_)
     refine Reg.op rfl (Ope.newL rfl ?_)
     refine Reg.op0 (Ope.store rfl rfl hget_hd rfl rfl rfl ?_)
     refine Reg.nil (Run.seq (Run.frz (d:=9) true rfl hget_hd rfl ?_))
     refine Run.wideS (m:=m'+1) (l':=ownU o''++l) (Nat.le_refl _) (hs_skip (hs_skip (hs_skip hs_refl (hN _ (Nat.le_refl _))) (hN _ (Nat.le_refl _))) (hN _ (Nat.le_refl _))) ?_
     refine Run.region (cx_ok _ _ _) (Reg.op rfl (Ope.fld rfl rfl ?_))
     refine Reg.op rfl (Ope.load rfl rfl ?_)
     refine Reg.op rfl (Ope.load rfl rfl ?_)
     first
       | refine Reg.op rfl (Ope.look (ka:=keyE ((2 * k+0:Nat):Int) (j:Int)) rfl rfl rfl hg1 (keyE_check _ _) hp0 ?_)
       | refine Reg.op rfl (Ope.look (ka:=keyE ((2 * k+1:Nat):Int) (j:Int)) rfl rfl rfl hg1 (keyE_check _ _) hp1 ?_)
     refine Reg.op rfl (Ope.newL rfl ?_)
     refine Reg.op0 (Ope.store rfl rfl hget_hd rfl rfl rfl ?_)
     refine Reg.nil (Run.frz (d:=10) true rfl hget_hd rfl ?_)
     refine Run.wideS (m:=m'+1+1) (l':=ownU o''++l) (Nat.le_refl _) (hs_skip (hs_skip (hs_skip hs_refl (hN _ (Nat.le_succ _))) (hN _ (Nat.le_succ _))) (hN _ (Nat.le_succ _))) ?_
     refine Run.draw (cx_ok _ _ _) [(0,true),(1,true),(2,true),(3,true),(5,false),(9,true),(10,true),(11,false),(13,false),(4,true),(6,true),(7,true),(8,true),(12,true),(14,true),(15,true),(16,true),(17,true),(18,true),(19,true)] (by kernel_rfl) (Dra.op' rfl rfl rfl .sure (Ope.mov rfl ?_))
     refine Dra.op' rfl rfl rfl .sure (Ope.mov rfl ?_)
     refine Dra.op' rfl rfl rfl .sure (Ope.fld rfl rfl ?_)
     refine Dra.op' rfl rfl rfl .sure (Ope.load rfl rfl ?_)
     refine Dra.op' rfl rfl rfl (.load rfl) (Ope.load rfl rfl ?_)
     refine Dra.op' rfl rfl rfl .sure (Ope.mov rfl ?_)
     refine Dra.op' rfl rfl rfl .sure (Ope.fld rfl rfl ?_)
     refine Dra.op' rfl rfl rfl (.load rfl) (Ope.load rfl rfl ?_)
     refine Dra.op' rfl rfl rfl (.load rfl) (Ope.load rfl rfl ?_)
     first | refine Dra.op' rfl rfl rfl .sure (Ope.cf rfl rfl (f118 10 ((2 * k+0:Nat):Int) (s.ent 0 j).1 (by omega)) rfl ?_) | refine Dra.op' rfl rfl rfl .sure (Ope.cf rfl rfl (f118 10 ((2 * k+1:Nat):Int) (s.ent 1 j).1 (by omega)) rfl ?_)
     first | refine Dra.op' rfl rfl rfl .sure (Ope.cf rfl rfl (f120n (2 * k+0) j (by omega) (by omega)) rfl ?_) | refine Dra.op' rfl rfl rfl .sure (Ope.cf rfl rfl (f120n (2 * k+1) j (by omega) (by omega)) rfl ?_)
     refine Dra.op' rfl rfl rfl .sure (Ope.bld rfl rfl ?_)
     refine Dra.op' rfl rfl rfl .sure (Ope.ifc rfl ?_)
     first | refine Dra.op' rfl rfl rfl .sure (Ope.cf rfl rfl (f121 10 ((2 * k+0:Nat):Int) (s.ent 0 j).2) rfl ?_) | refine Dra.op' rfl rfl rfl .sure (Ope.cf rfl rfl (f121 10 ((2 * k+1:Nat):Int) (s.ent 1 j).2) rfl ?_)
     first | refine Dra.op' rfl rfl rfl .sure (Ope.cf rfl rfl (f120n (2 * k+0) j (by omega) (by omega)) rfl ?_) | refine Dra.op' rfl rfl rfl .sure (Ope.cf rfl rfl (f120n (2 * k+1) j (by omega) (by omega)) rfl ?_)
     refine Dra.op' rfl rfl rfl .sure (Ope.bld rfl rfl ?_)
     refine Dra.op' rfl rfl rfl .sure (Ope.ifc rfl ?_)
     refine Dra.op' rfl rfl rfl .sure (Ope.bsl rfl rfl rfl rfl ?_)
     first
       | refine Dra.op' rfl rfl rfl .sure (Ope.apU (o':=o'') (vs:=(entO k s 0++entJ k s 0 j).map wriV) (ws:=(entW k s 0 j).map wriV) rfl rfl (by simp [entW]) (fun q hq=>⟨fun e0=>(by have z:=ent_ne e0;have hz:o''=none:=(by first | exact hj2.2 ⟨trivial,z.2⟩ | exact hj2.2 z | exact absurd z.1 (by decide));rw [hz] at hq;cases hq),hl0 q (hj3 q hq).1⟩) (by simp only [List.length_map,List.length_append,entO_len,entJ_len,entW,List.length_cons,List.length_nil];omega) (by simp only [List.length_map,List.length_append,entO_len,entJ_len,entW,List.length_cons,List.length_nil];omega) (by decide) (by intro v hv;obtain ⟨_,_,rfl⟩:=List.mem_map.1 hv;rfl) (by intro v hv;obtain ⟨_,_,rfl⟩:=List.mem_map.1 hv;exact ⟨rfl,rfl⟩) ?_)
       | refine Dra.op' rfl rfl rfl .sure (Ope.apU (o':=o'') (vs:=(entO k s 1++entJ k s 1 j).map wriV) (ws:=(entW k s 1 j).map wriV) rfl rfl (by simp [entW]) (fun q hq=>⟨fun e0=>(by have z:=ent_ne e0;have hz:o''=none:=(by first | exact hj2.2 ⟨trivial,z.2⟩ | exact hj2.2 z | exact absurd z.1 (by decide));rw [hz] at hq;cases hq),hl0 q (hj3 q hq).1⟩) (by simp only [List.length_map,List.length_append,entO_len,entJ_len,entW,List.length_cons,List.length_nil];omega) (by simp only [List.length_map,List.length_append,entO_len,entJ_len,entW,List.length_cons,List.length_nil];omega) (by decide) (by intro v hv;obtain ⟨_,_,rfl⟩:=List.mem_map.1 hv;rfl) (by intro v hv;obtain ⟨_,_,rfl⟩:=List.mem_map.1 hv;exact ⟨rfl,rfl⟩) ?_)
     refine Dra.op' rfl rfl rfl .sure (Ope.asg rfl ?_)
     refine Dra.nil (Run.bend (Run.region (cx_ok _ _ _) (Reg.op rfl (Ope.add rfl rfl (by omega) ?_))))
     refine Reg.op rfl (Ope.mov rfl ?_)
     refine Reg.nil ?_
     first
       | exact Run.lend ⟨(j+1,some (m'+1+1),m'+1+1+1),by show 2 - (j+1) < 2 - j;omega,⟨by show j+1≤2;omega,by simp,fun q hq=>by cases hq;exact ⟨by omega,Nat.lt_succ_self _⟩,by show n≤m'+1+1+1;omega⟩,⟨rfl,congrArg (fun l=>some (PV.sl (.own (m'+1+1)) l)) (show _=(entO k s 0++entJ k s 0 (j+1)).map wriV by rw [entJ,← List.append_assoc];simp only [List.map_append]),rfl,rfl,rfl,rfl,trivial⟩,rfl,rfl⟩
       | exact Run.lend ⟨(j+1,some (m'+1+1),m'+1+1+1),by show 2 - (j+1) < 2 - j;omega,⟨by show j+1≤2;omega,by simp,fun q hq=>by cases hq;exact ⟨by omega,Nat.lt_succ_self _⟩,by show n≤m'+1+1+1;omega⟩,⟨rfl,congrArg (fun l=>some (PV.sl (.own (m'+1+1)) l)) (show _=(entO k s 1++entJ k s 1 (j+1)).map wriV by rw [entJ,← List.append_assoc];simp only [List.map_append]),rfl,rfl,rfl,rfl,trivial⟩,rfl,rfl⟩
    ·refine Run.exit (Jmp.code (Jmp.round (Jmp.here (Run.bend ?_))))
     obtain rfl:j=2:=by omega
     refine Run.region (cx_ok _ _ _) (Reg.op rfl (Ope.add rfl rfl (by omega) ?_))
     refine Reg.op rfl (Ope.mov rfl ?_)
     refine Reg.nil ?_
     first
       | exact Run.lend ⟨(1,o'',m'),by show 2 - 1 < 2 - 0;decide,⟨by show 1≤2;decide,⟨fun h=>by have:=hj2.1 h;simp at this,fun h=>absurd (show (1:Nat)=0 from h) (by decide)⟩,hj3,hj4⟩,⟨rfl,rfl,rfl,rfl,trivial⟩,rfl,rfl⟩
       | exact Run.lend ⟨(2,o'',m'),by show 2 - 2 < 2 - 1;decide,⟨by show 2≤2;decide,⟨fun h=>by have:=hj2.1 h;simp at this,fun h=>absurd (show (2:Nat)=0 from h) (by decide)⟩,hj3,hj4⟩,⟨rfl,rfl,rfl,rfl,trivial⟩,rfl,rfl⟩
   ·(first | (exfalso;omega))
  ·refine Run.seq (Run.region (cx_ok _ _ _) (Reg.op rfl (Ope.lt rfl rfl ?_)))
   refine Reg.nil (Run.seq (Run.condX rfl (fun hc=>?_) fun hc=>?_))
   ·refine Run.skip (Run.seq (Run.block (Run.seq (Run.region (cx_ok _ _ _) (Reg.op rfl (Ope.idx rfl rfl rfl rfl rfl ?_))))))
    refine Reg.op rfl (Ope.asg rfl ?_)
    refine Reg.nil (Run.seq (Run.region (cx_ok _ _ _) (Reg.op rfl (Ope.mov rfl ?_))))
    refine Reg.nil (Run.block ?_)
    first
      | refine Run.loop (α:=Nat×Option Nat×Nat) (fun t=>[(2,.fp (notV rest tl S mj)),(5,.sl (tlU t.2.1) ((entO k s 0++entJ k s 0 t.1).map wriV)),(7,I ((2 * k+0:Nat):Int)),(15,.agg [I ((2 * k:Nat):Int),I ((2 * k+1:Nat):Int)]),(16,I ((0:Nat):Int)),(19,I t.1)]) (fun t=>HE t.2.2 (ownU t.2.1++l)) (fun t=>t.1≤2∧(t.2.1=none↔0=0∧t.1=0)∧(∀ j,t.2.1=some j→n≤j∧j < t.2.2)∧n≤t.2.2) (fun t=>2 - t.1) (0,o',m) ⟨rfl,congrArg (fun l=>some (PV.sl (tlU o') l)) (by rw [entJ,List.append_nil]),rfl,rfl,rfl,rfl,trivial⟩ rfl ⟨Nat.zero_le _,⟨fun h=>⟨rfl,rfl⟩,fun _=>ho2.2 rfl⟩,ho3,ho4⟩ (fun t ht=>?_)
      | refine Run.loop (α:=Nat×Option Nat×Nat) (fun t=>[(2,.fp (notV rest tl S mj)),(5,.sl (tlU t.2.1) ((entO k s 1++entJ k s 1 t.1).map wriV)),(7,I ((2 * k+1:Nat):Int)),(15,.agg [I ((2 * k:Nat):Int),I ((2 * k+1:Nat):Int)]),(16,I ((1:Nat):Int)),(19,I t.1)]) (fun t=>HE t.2.2 (ownU t.2.1++l)) (fun t=>t.1≤2∧(t.2.1=none↔1=0∧t.1=0)∧(∀ j,t.2.1=some j→n≤j∧j < t.2.2)∧n≤t.2.2) (fun t=>2 - t.1) (0,o',m) ⟨rfl,congrArg (fun l=>some (PV.sl (tlU o') l)) (by rw [entJ,List.append_nil]),rfl,rfl,rfl,rfl,trivial⟩ rfl ⟨Nat.zero_le _,⟨fun h=>by have:=ho2.1 h;omega,fun h=>by omega⟩,ho3,ho4⟩ (fun t ht=>?_)
    obtain ⟨j,o'',m'⟩:=t
    obtain ⟨hj1,hj2,hj3,hj4⟩:=ht
    simp only at hj1 hj2 hj3 hj4
    refine Run.seq (Run.region (cx_ok _ _ _) (Reg.op rfl (Ope.lt rfl rfl ?_)))
    refine Reg.nil (Run.seq (Run.condX rfl (fun hc=>?_) fun hc=>?_))
    ·refine Run.skip (Run.seq (Run.block (Run.seq ?_)))
     have hjlt:j < 2:=by omega
     obtain ⟨p0,hp0⟩:=key (o:=0) (by decide) hjlt
     obtain ⟨p1,hp1⟩:=key (o:=1) (by decide) hjlt
     have hb0:=hbnd (o:=0) (by decide) hjlt
     have hb1:=hbnd (o:=1) (by decide) hjlt
     have hN:∀ x,m'≤x→hget (ownU o''++l) x=none:=fun x hx=>noneU (fun q hq=>(hj3 q hq).2) hl0 hj4 hx
     have hg1:hget (ownU o''++l) mj=some (mapB S):=(getU fun q hq=>by have:=(hj3 q hq).1;omega).trans hM
     refine Run.region (cx_ok _ _ _) (Reg.op rfl (Ope.mov rfl ?_))
     refine Reg.op rfl (Ope.asg rfl ?_)
     refine Reg.nil (Run.seq (Run.region (cx_ok _ _ _) (Reg.op rfl (Ope.mov rfl ?_))))
     refine Reg.op rfl (Ope.mov rfl ?_)
     refine Reg.op rfl (Ope.bld rfl rfl ?_)
     refine Reg.op rfl (Ope.newL rfl ?_)
     refine Reg.op0 (Ope.store rfl rfl hget_hd rfl rfl rfl ?_)
     refine Reg.nil (Run.seq (Run.frz (d:=9) true rfl hget_hd rfl ?_))
     refine Run.wideS (m:=m'+1) (l':=ownU o''++l) (Nat.le_refl _) (hs_skip (hs_skip (hs_skip hs_refl (hN _ (Nat.le_refl _))) (hN _ (Nat.le_refl _))) (hN _ (Nat.le_refl _))) ?_
     refine Run.region (cx_ok _ _ _) (Reg.op rfl (Ope.fld rfl rfl ?_))
     refine Reg.op rfl (Ope.load rfl rfl ?_)
     refine Reg.op rfl (Ope.load rfl rfl ?_)
     first
       | refine Reg.op rfl (Ope.look (ka:=keyE ((2 * k+0:Nat):Int) (j:Int)) rfl rfl rfl hg1 (keyE_check _ _) hp0 ?_)
       | refine Reg.op rfl (Ope.look (ka:=keyE ((2 * k+1:Nat):Int) (j:Int)) rfl rfl rfl hg1 (keyE_check _ _) hp1 ?_)
     refine Reg.op rfl (Ope.newL rfl ?_)
     refine Reg.op0 (Ope.store rfl rfl hget_hd rfl rfl rfl ?_)
     refine Reg.nil (Run.frz (d:=10) true rfl hget_hd rfl ?_)
     refine Run.wideS (m:=m'+1+1) (l':=ownU o''++l) (Nat.le_refl _) (hs_skip (hs_skip (hs_skip hs_refl (hN _ (Nat.le_succ _))) (hN _ (Nat.le_succ _))) (hN _ (Nat.le_succ _))) ?_
     refine Run.draw (cx_ok _ _ _) [(0,true),(1,true),(2,true),(3,true),(5,false),(9,true),(10,true),(11,false),(13,false),(4,true),(6,true),(7,true),(8,true),(12,true),(14,true),(15,true),(16,true),(17,true),(18,true),(19,true)] (by kernel_rfl) (Dra.op' rfl rfl rfl .sure (Ope.mov rfl ?_))
     refine Dra.op' rfl rfl rfl .sure (Ope.mov rfl ?_)
     refine Dra.op' rfl rfl rfl .sure (Ope.fld rfl rfl ?_)
     refine Dra.op' rfl rfl rfl .sure (Ope.load rfl rfl ?_)
     refine Dra.op' rfl rfl rfl (.load rfl) (Ope.load rfl rfl ?_)
     refine Dra.op' rfl rfl rfl .sure (Ope.mov rfl ?_)
     refine Dra.op' rfl rfl rfl .sure (Ope.fld rfl rfl ?_)
     refine Dra.op' rfl rfl rfl (.load rfl) (Ope.load rfl rfl ?_)
     refine Dra.op' rfl rfl rfl (.load rfl) (Ope.load rfl rfl ?_)
     first | refine Dra.op' rfl rfl rfl .sure (Ope.cf rfl rfl (f118 10 ((2 * k+0:Nat):Int) (s.ent 0 j).1 (by omega)) rfl ?_) | refine Dra.op' rfl rfl rfl .sure (Ope.cf rfl rfl (f118 10 ((2 * k+1:Nat):Int) (s.ent 1 j).1 (by omega)) rfl ?_)
     first | refine Dra.op' rfl rfl rfl .sure (Ope.cf rfl rfl (f120n (2 * k+0) j (by omega) (by omega)) rfl ?_) | refine Dra.op' rfl rfl rfl .sure (Ope.cf rfl rfl (f120n (2 * k+1) j (by omega) (by omega)) rfl ?_)
     refine Dra.op' rfl rfl rfl .sure (Ope.bld rfl rfl ?_)
     refine Dra.op' rfl rfl rfl .sure (Ope.ifc rfl ?_)
     first | refine Dra.op' rfl rfl rfl .sure (Ope.cf rfl rfl (f121 10 ((2 * k+0:Nat):Int) (s.ent 0 j).2) rfl ?_) | refine Dra.op' rfl rfl rfl .sure (Ope.cf rfl rfl (f121 10 ((2 * k+1:Nat):Int) (s.ent 1 j).2) rfl ?_)
     first | refine Dra.op' rfl rfl rfl .sure (Ope.cf rfl rfl (f120n (2 * k+0) j (by omega) (by omega)) rfl ?_) | refine Dra.op' rfl rfl rfl .sure (Ope.cf rfl rfl (f120n (2 * k+1) j (by omega) (by omega)) rfl ?_)
     refine Dra.op' rfl rfl rfl .sure (Ope.bld rfl rfl ?_)
     refine Dra.op' rfl rfl rfl .sure (Ope.ifc rfl ?_)
     refine Dra.op' rfl rfl rfl .sure (Ope.bsl rfl rfl rfl rfl ?_)
     first
       | refine Dra.op' rfl rfl rfl .sure (Ope.apU (o':=o'') (vs:=(entO k s 0++entJ k s 0 j).map wriV) (ws:=(entW k s 0 j).map wriV) rfl rfl (by simp [entW]) (fun q hq=>⟨fun e0=>(by have z:=ent_ne e0;have hz:o''=none:=(by first | exact hj2.2 ⟨trivial,z.2⟩ | exact hj2.2 z | exact absurd z.1 (by decide));rw [hz] at hq;cases hq),hl0 q (hj3 q hq).1⟩) (by simp only [List.length_map,List.length_append,entO_len,entJ_len,entW,List.length_cons,List.length_nil];omega) (by simp only [List.length_map,List.length_append,entO_len,entJ_len,entW,List.length_cons,List.length_nil];omega) (by decide) (by intro v hv;obtain ⟨_,_,rfl⟩:=List.mem_map.1 hv;rfl) (by intro v hv;obtain ⟨_,_,rfl⟩:=List.mem_map.1 hv;exact ⟨rfl,rfl⟩) ?_)
       | refine Dra.op' rfl rfl rfl .sure (Ope.apU (o':=o'') (vs:=(entO k s 1++entJ k s 1 j).map wriV) (ws:=(entW k s 1 j).map wriV) rfl rfl (by simp [entW]) (fun q hq=>⟨fun e0=>(by have z:=ent_ne e0;have hz:o''=none:=(by first | exact hj2.2 ⟨trivial,z.2⟩ | exact hj2.2 z | exact absurd z.1 (by decide));rw [hz] at hq;cases hq),hl0 q (hj3 q hq).1⟩) (by simp only [List.length_map,List.length_append,entO_len,entJ_len,entW,List.length_cons,List.length_nil];omega) (by simp only [List.length_map,List.length_append,entO_len,entJ_len,entW,List.length_cons,List.length_nil];omega) (by decide) (by intro v hv;obtain ⟨_,_,rfl⟩:=List.mem_map.1 hv;rfl) (by intro v hv;obtain ⟨_,_,rfl⟩:=List.mem_map.1 hv;exact ⟨rfl,rfl⟩) ?_)
     refine Dra.op' rfl rfl rfl .sure (Ope.asg rfl ?_)
     refine Dra.nil (Run.bend (Run.region (cx_ok _ _ _) (Reg.op rfl (Ope.add rfl rfl (by omega) ?_))))
     refine Reg.op rfl (Ope.mov rfl ?_)
     refine Reg.nil ?_
     first
       | exact Run.lend ⟨(j+1,some (m'+1+1),m'+1+1+1),by show 2 - (j+1) < 2 - j;omega,⟨by show j+1≤2;omega,by simp,fun q hq=>by cases hq;exact ⟨by omega,Nat.lt_succ_self _⟩,by show n≤m'+1+1+1;omega⟩,⟨rfl,congrArg (fun l=>some (PV.sl (.own (m'+1+1)) l)) (show _=(entO k s 0++entJ k s 0 (j+1)).map wriV by rw [entJ,← List.append_assoc];simp only [List.map_append]),rfl,rfl,rfl,rfl,trivial⟩,rfl,rfl⟩
       | exact Run.lend ⟨(j+1,some (m'+1+1),m'+1+1+1),by show 2 - (j+1) < 2 - j;omega,⟨by show j+1≤2;omega,by simp,fun q hq=>by cases hq;exact ⟨by omega,Nat.lt_succ_self _⟩,by show n≤m'+1+1+1;omega⟩,⟨rfl,congrArg (fun l=>some (PV.sl (.own (m'+1+1)) l)) (show _=(entO k s 1++entJ k s 1 (j+1)).map wriV by rw [entJ,← List.append_assoc];simp only [List.map_append]),rfl,rfl,rfl,rfl,trivial⟩,rfl,rfl⟩
    ·refine Run.exit (Jmp.code (Jmp.round (Jmp.here (Run.bend ?_))))
     obtain rfl:j=2:=by omega
     refine Run.region (cx_ok _ _ _) (Reg.op rfl (Ope.add rfl rfl (by omega) ?_))
     refine Reg.op rfl (Ope.mov rfl ?_)
     refine Reg.nil ?_
     first
       | exact Run.lend ⟨(1,o'',m'),by show 2 - 1 < 2 - 0;decide,⟨by show 1≤2;decide,⟨fun h=>by have:=hj2.1 h;simp at this,fun h=>absurd (show (1:Nat)=0 from h) (by decide)⟩,hj3,hj4⟩,⟨rfl,rfl,rfl,rfl,trivial⟩,rfl,rfl⟩
       | exact Run.lend ⟨(2,o'',m'),by show 2 - 2 < 2 - 1;decide,⟨by show 2≤2;decide,⟨fun h=>by have:=hj2.1 h;simp at this,fun h=>absurd (show (2:Nat)=0 from h) (by decide)⟩,hj3,hj4⟩,⟨rfl,rfl,rfl,rfl,trivial⟩,rfl,rfl⟩
   ·(first | (exfalso;omega))
  ·refine Run.seq (Run.region (cx_ok _ _ _) (Reg.op rfl (Ope.lt rfl rfl ?_)))
   refine Reg.nil (Run.seq (Run.condX rfl (fun hc=>?_) fun hc=>?_))
   ·(first | (exfalso;omega))
   ·refine Run.exit (Jmp.code (Jmp.round (Jmp.here (Run.seq (Run.weakT (d:=5) rfl ?_)))))
    refine Run.region (cx_ok _ _ _) (Reg.op rfl (Ope.mov rfl ?_))
    refine Reg.op rfl (Ope.asg rfl ?_)
    exact Reg.nil (Run.ret (finH_ret (.tmp rfl .nil) (Nat.le_refl _) (hsU fun q hq=>hl0 q (ho3 q hq).1) ⟨m,ho4,rfl,rfl⟩))
end Go.Pv
namespace Go.Pv
open Go.Proofs Go.Am
set_option maxRecDepth 10000
structure Bd where
  a:Nat
  b:Nat
  m:Int
  q:Option Nat
def Bd.v (x:Bd):PV :=
  match x.q with
  | none=>rulV (x.a,x.b,x.m)
  | some q=>wriV (x.a,x.b,x.m,q)
def rulB (p:Nat×Nat×Int):Bd:=⟨p.1,p.2.1,p.2.2,none⟩
def wriB (w:Nat×Nat×Int×Nat):Bd:=⟨w.1,w.2.1,w.2.2.1,some w.2.2.2⟩
def stB (S:List Sti) (rest:Int) (k:Nat):List Bd:=(rules S rest k).map rulB++(match S[k]? with
  | some s=>(entO k s 2).map wriB
  | none=>[])
def restB (S:List Sti) (rest:Int):Nat→Nat→List Bd
  | 0,_=>[]
  | d+1,k=>stB S rest k++restB S rest d (k+1)
def allB (S:List Sti) (rest:Int):List Bd:=restB S rest S.length 0
theorem stB_v {S:List Sti} {rest:Int} {k:Nat} (hk:k < S.length):(stB S rest k).map Bd.v=(rules S rest k).map rulV++(entO k S[k] 2).map wriV:=by
  simp only [stB,List.getElem?_eq_getElem hk,List.map_append,List.map_map]
  rfl
theorem rules_len (S:List Sti) (rest:Int) (k:Nat):(rules S rest k).length≤4:=by
  simp only [rules,List.length_append,rul1,rul2,List.length_cons,List.length_nil]
  have h3:(rul3 k rest (frm S ((S.map Sti.r).getD k 0) k)).length≤1:=by
    cases frm S ((S.map Sti.r).getD k 0) k<;>simp [rul3]
  split<;>simp only [List.length_cons,List.length_nil]<;>omega
theorem v_nc (x:Bd):(Bd.v x).nc=1:=by
  obtain ⟨a,b,m,q⟩:=x
  cases q<;>rfl
theorem load_v (x:Bd) (l:HL):loadK false 1 l (.fp (Bd.v x))=some (Bd.v x):=by
  obtain ⟨a,b,m,q⟩:=x
  cases q<;>rfl
abbrev Zm (mj:Nat) (S:List Sti):HL:=[(mj,some (mapB S))]
theorem f101 (mj : Nat) (rest : Int) (hr : 0 ≤ rest ∧ rest ≤ 60) (tl : Tail) (htl : tl.isOwn = false) (S : List Sti) (hS : S.length ≤ 5) (hv : ∀ s ∈ S, s.ok = true) :
    YieldsQ P0 101 [notV rest tl S mj] [] ((allB S rest).map Bd.v) (Zm mj S):=by
  intro j n l Rr hj hZ hfeed
  refine PCall.ofH (C:=c101) (cx_ok _ _ _) rfl (fn:=Try.f101) (by kernel_rfl) (c:=_) rfl rfl rfl (fun hok=>?_)
  refine Run.seq (Run.region (cx_ok _ _ _) (Reg.op rfl (Ope.boxF rfl rfl ?_)))
  refine Reg.nil (Run.seq (Run.region (cx_ok _ _ _) (Reg.op rfl (Ope.fld rfl rfl ?_))))
  refine Reg.op rfl (Ope.fld rfl rfl ?_)
  refine Reg.op rfl (Ope.load rfl rfl ?_)
  refine Reg.op rfl (Ope.len (m:=S.length) rfl (by simp) ?_)
  refine Reg.op rfl (Ope.mov rfl ?_)
  refine Reg.nil (Run.block (Run.loop (α:=Nat×Nat×HL) (fun s=>[(1,.yld j),(2,.fp (notV rest tl S mj)),(9,.sl tl (S.map Sti.v)),(10,I S.length),(11,I s.1)]) (fun s=>HE s.2.1 s.2.2) (fun s=>s.1≤S.length∧(∀ q,s.2.1≤q→hget s.2.2 q=none)∧Hsub (Zm mj S) s.2.2∧FeedQ P0 (.yld j) Rr (Zm mj S) ((restB S rest (S.length - s.1) s.1).map Bd.v) s.2.1 s.2.2) (fun s=>S.length - s.1) (0,n,l) ⟨rfl,rfl,rfl,rfl,rfl,trivial⟩ rfl ⟨by omega,fun q hq=>ok_none hok hq,hZ,hfeed⟩ (fun s hs=>?_)))
  obtain ⟨k,m,l1⟩:=s
  obtain ⟨hk1,hok1,hZ1,hf1⟩:=hs
  simp only at hk1 hok1 hZ1 hf1
  show Run _ _ _ _ [(1,.yld j),(2,.fp (notV rest tl S mj)),(9,.sl tl (S.map Sti.v)),(10,I S.length),(11,I k)] [] (HE m l1)
  refine Run.seq (Run.region (cx_ok _ _ _) (Reg.op rfl (Ope.lt rfl rfl ?_)))
  refine Reg.nil (Run.seq (Run.condX rfl (fun hc=>?_) fun hc=>?_))
  ·refine Run.skip (Run.seq (Run.block (Run.seq ?_)))
   have hk:k < S.length:=by omega
   have hM1:hget l1 mj=some (mapB S):=hZ1.1
   have hm1:mj < m:=by
     rcases Nat.lt_or_ge mj m with h | h
     · exact h
     · rw [hok1 mj h] at hM1;cases hM1
   have hd:S.length - k=(S.length - (k+1))+1:=by omega
   rw [hd] at hf1
   simp only [restB,List.map_append] at hf1
   rw [stB_v hk] at hf1
   have hlen:=rules_len S rest k
   have hlen2:=entO_len k S[k] 2
   have hlen3:(stB S rest k).length≤12:=by
     have:=congrArg List.length (stB_v (rest:=rest) hk)
     simp only [List.length_map,List.length_append] at this
     omega
   refine Run.region (cx_ok _ _ _) (Reg.op rfl (Ope.mov rfl ?_))
   refine Reg.op rfl (Ope.asg rfl ?_)
   refine Reg.nil (Run.seq (Run.draw (cx_ok _ _ _) [(0,true),(1,true),(3,false),(4,true),(8,true),(2,true),(5,true),(6,true),(7,true)] (by kernel_rfl) (Dra.op' rfl rfl rfl .sure (Ope.load rfl rfl ?_))))
   refine Dra.op' rfl rfl rfl .sure (Ope.mov rfl ?_)
   refine Dra.op' rfl rfl rfl (.load rfl) (Ope.load rfl rfl ?_)
   refine Dra.op' rfl rfl rfl .sure (Ope.mov rfl ?_)
   refine Dra.op' rfl rfl rfl .sure (Ope.mov rfl ?_)
   refine Dra.op' rfl rfl rfl .sure (Ope.call rfl rfl rfl ((f110 rest hr tl htl S mj m hm1 l1 k hk hS).mono (fun v h' q=>?_) fun _ _ q=>q.elim))
   obtain ⟨m2,o,hm2,ho2,rfl,rfl⟩:=q
   refine Dra.op' rfl rfl rfl .sure (Ope.callS rfl rfl rfl (f111 rest tl S hS hv k hk mj m2 _ ((getU fun q hq=>by have:=(ho2 q hq).1;omega).trans hM1)) (fun m3 hm3=>?_))
   refine Dra.op' rfl rfl rfl .sure (Ope.apU (o':=o) (vs:=(rules S rest k).map rulV) (ws:=(entO k S[k] 2).map wriV) rfl rfl (fun e0=>by have:=congrArg List.length e0;simp only [List.length_map,hlen2,List.length_nil] at this;omega) (fun q hq=>⟨fun e0=>by simp [rules,rul1] at e0,hok1 q (ho2 q hq).1⟩) (by simp only [List.length_map];omega) (by simp only [List.length_map];omega) (by decide) (by intro v hv;obtain ⟨_,_,rfl⟩:=List.mem_map.1 hv;rfl) (by intro v hv;obtain ⟨_,_,rfl⟩:=List.mem_map.1 hv;exact ⟨rfl,rfl⟩) ?_)
   refine Dra.op' rfl rfl rfl .sure (Ope.len (m:=(stB S rest k).length) rfl (by rw [← stB_v hk,List.length_map]) ?_)
   refine Dra.nil (Run.block (Run.weakT (d:=20) rfl ?_))
   refine Run.wideS (m:=m3+1) (l':=l1) (Nat.le_refl _) (hs_skip hs_refl (hok1 _ (by omega))) ?_
   refine Run.loop (α:=Nat×Nat×HL) (fun s=>[(1,.yld j),(2,.fp (notV rest tl S mj)),(9,.sl tl (S.map Sti.v)),(10,I S.length),(11,I k),(20,.sl .no ((stB S rest k).map Bd.v)),(21,I (stB S rest k).length),(22,I s.1)]) (fun s=>HE s.2.1 s.2.2) (fun s=>s.1≤(stB S rest k).length∧(∀ q,s.2.1≤q→hget s.2.2 q=none)∧Hsub (Zm mj S) s.2.2∧FeedQ P0 (.yld j) Rr (Zm mj S) (((stB S rest k).drop s.1).map Bd.v++(restB S rest (S.length - (k+1)) (k+1)).map Bd.v) s.2.1 s.2.2) (fun s=>(stB S rest k).length - s.1) (0,m3+1,l1) ⟨rfl,rfl,rfl,rfl,rfl,congrArg (fun l=>some (PV.sl .no l)) (stB_v hk).symm,rfl,rfl,trivial⟩ rfl ⟨by omega,fun q hq=>hok1 q (by simp only at hq;omega),hZ1,by
       show FeedQ P0 (.yld j) Rr (Zm mj S) (((stB S rest k).drop 0).map Bd.v++_) (m3+1) l1
       rw [List.drop_zero,stB_v hk]
       exact FeedQ.mono (by omega) hf1⟩ (fun s hs=>?_)
   obtain ⟨i,m4,l4⟩:=s
   obtain ⟨hi1,hok4,hZ4,hf4⟩:=hs
   simp only at hi1 hok4 hZ4 hf4
   show Run _ _ _ _ [(1,.yld j),(2,.fp (notV rest tl S mj)),(9,.sl tl (S.map Sti.v)),(10,I S.length),(11,I k),(20,.sl .no ((stB S rest k).map Bd.v)),(21,I (stB S rest k).length),(22,I i)] [] (HE m4 l4)
   refine Run.seq (Run.region (cx_ok _ _ _) (Reg.op rfl (Ope.lt rfl rfl ?_)))
   refine Reg.nil (Run.seq (Run.condX rfl (fun hc=>?_) fun hc=>?_))
   ·refine Run.skip (Run.seq (Run.block (Run.seq ?_)))
    have hi:i < (stB S rest k).length:=by omega
    rw [List.drop_eq_getElem_cons hi] at hf4
    simp only [List.map_cons,List.cons_append] at hf4
    have hnc:∀ x:Bd,(Bd.v x).nc=1:=v_nc
    refine Run.region (cx_ok _ _ _) (Reg.op rfl (Ope.idxM (m:=i) (f:=Bd.v) rfl rfl rfl hi v_nc ?_))
    refine Reg.op rfl (Ope.load rfl (load_v _ _) ?_)
    refine Reg.op rfl (Ope.asg rfl ?_)
    refine Reg.nil (Run.seq (Run.region (cx_ok _ _ _) (Reg.op rfl (Ope.mov rfl ?_))))
    refine Reg.op rfl (Ope.mov rfl ?_)
    refine Reg.op rfl (Ope.yldQ (own:=[]) (v:=Bd.v (stB S rest k)[i]) rfl rfl (Owns.of (by simp) (by simp [keysB])) hf4 (fun m2 l2 hm2 hok2 hno2 hz2 hf2=>?_) (fun m2 l2 hm2 hok2 hno2 hr2=>?_))
    ·refine Reg.op rfl (Ope.not rfl ?_)
     refine Reg.nil (Run.condX rfl (fun hc=>?_) fun hc=>?_)
     ·exact absurd hc (by decide)
     ·refine Run.skip (Run.bend (Run.region (cx_ok _ _ _) (Reg.op rfl (Ope.add rfl rfl (by omega) ?_))))
      refine Reg.op rfl (Ope.mov rfl ?_)
      exact Reg.nil (Run.lend ⟨(i+1,m2,l2),by simp only;omega,⟨by simp only;omega,fun q hq=>ok_none hok2 hq,hz2,hf2⟩,⟨rfl,rfl,rfl,rfl,rfl,rfl,rfl,rfl,trivial⟩,rfl,rfl⟩)
    ·refine Reg.op rfl (Ope.not rfl ?_)
     refine Reg.nil (Run.condX rfl (fun hc=>?_) fun hc=>?_)
     ·refine Run.ret (Jmp.retB (Jmp.code (Jmp.round (Jmp.retB (Jmp.retB (Jmp.code (Jmp.round (Jmp.retB ?_))))))))
      first
        | exact finH_ret .nil (Nat.le_refl _) hs_refl (hr2 _ (Nat.le_refl _) _)
        | exact finH_end .nil (Nat.le_refl _) hs_refl (by have h2 : k = S.length := by omega
                                                          rw [h2,Nat.sub_self] at hf1
                                                          exact hf1 _ (Nat.le_refl _) _)
     ·exact absurd hc (by decide)
   ·refine Run.exit (Jmp.code (Jmp.round (Jmp.here (Run.bend (Run.region (cx_ok _ _ _) (Reg.op rfl (Ope.add rfl rfl (by omega) ?_)))))))
    refine Reg.op rfl (Ope.mov rfl ?_)
    refine Reg.nil ?_
    exact Run.lend ⟨(k+1,m4,l4),by simp only;omega,⟨by simp only;omega,hok4,hZ4,by
      have he:i=(stB S rest k).length:=by omega
      rw [he,List.drop_length] at hf4
      exact hf4⟩,⟨rfl,rfl,rfl,rfl,rfl,trivial⟩,rfl,rfl⟩
  ·refine Run.exit (Jmp.code (Jmp.round (Jmp.here ?_)))
   first
     | exact finH_ret .nil (Nat.le_refl _) hs_refl (hr2 _ (Nat.le_refl _) _)
     | exact finH_end .nil (Nat.le_refl _) hs_refl (by have h2 : k = S.length := by omega
                                                       rw [h2,Nat.sub_self] at hf1
                                                       exact hf1 _ (Nat.le_refl _) _)
end Go.Pv
namespace Go.Pv
open Go.Proofs Go.Am
set_option maxRecDepth 10000
theorem pm_rule (a b m : Int) : pmethod A0 139 (.agg [I a, I b, I m]) "lapworks/relay.moments" = some (137, .agg [I a, I b, I m]) := by kernel_rfl
theorem pm_ruleM (a b m : Int) : pmethod A0 139 (.agg [I a, I b, I m]) "lapworks/relay.most" = some (138, .agg [I a, I b, I m]) := by kernel_rfl
theorem pm_wri (a b m q : Int) : pmethod A0 145 (.agg [I a, I b, I m, I q]) "lapworks/relay.moments" = some (137, .agg [I a, I b, I m]) := by kernel_rfl
theorem pm_wriM (a b m q : Int) : pmethod A0 145 (.agg [I a, I b, I m, I q]) "lapworks/relay.most" = some (139, .agg [I a, I b, I m, I q]) := by kernel_rfl
def Bd.most (E:Nat) (x:Bd):Int :=
  match x.q with
  | none=>x.m
  | some q=>if ((E >>> q &&& 1:Nat):Int)=0 then 600 else x.m
def minB (E:Nat) (T:Tab) (x:Bd):Tab:=T.put x.a x.b (min (T x.a x.b) (x.most E))
def foldB (E:Nat) (L:List Bd):Tab:=L.foldl (minB E) wideT
def Bd.ok (x:Bd):Prop:=x.a < 11∧x.b < 11∧(-600≤x.m∧x.m≤600)∧∀ q,x.q=some q→q < 40
theorem Bd.most_le {x:Bd} (h:x.ok) (E:Nat):-600≤x.most E∧x.most E≤600:=by
  obtain ⟨-,-,h3,-⟩:=h
  unfold Bd.most
  split
  · exact h3
  · split
    · exact ⟨by decide,by decide⟩
    · exact h3
theorem minB_le {E:Nat} {T:Tab} {x:Bd} (hx:x.ok) (h:T.le 600):(minB E T x).le 600:=by
  intro a b ha hb
  by_cases hab:a=x.a∧b=x.b
  · obtain ⟨rfl, rfl⟩ := hab
    have e:minB E T x x.a x.b=min (T x.a x.b) (x.most E):=put_same _ _ _ _
    have h1:=h _ _ hx.1 hx.2.1
    have h2:=Bd.most_le hx E
    rw [e];omega
  · have e : minB E T x a b = T a b := put_other _ _ _ _ (by omega)
    rw [e];exact h a b ha hb
theorem fold_le {E:Nat}:∀ (L:List Bd) (T:Tab),(∀ x∈L,x.ok)→T.le 600→(L.foldl (minB E) T).le 600
  | [],_,_,h=>h
  | x::L,T,hL,h=>fold_le L _ (fun y hy=>hL y (List.mem_cons_of_mem _ hy)) (minB_le (hL x (by simp)) h)
theorem wide_le:wideT.le 600:=by
  intro a b ha hb
  unfold wideT
  split<;>exact ⟨by decide,by decide⟩
theorem rules_ok {S:List Sti} {rest:Int} (hr:0≤rest∧rest≤60) (hS:S.length≤5) {k:Nat} (hk:k < S.length):∀ x∈(rules S rest k).map rulB,x.ok:=by
  intro x hx
  obtain ⟨p,hp,rfl⟩:=List.mem_map.1 hx
  simp only [rules,List.mem_append] at hp
  rcases hp with hp | hp | hp
  · simp only [rul1, List.mem_cons, List.not_mem_nil, or_false] at hp
    rcases hp with rfl | rfl
    · exact ⟨by show 2 * k < 11;omega,by show 10 < 11;decide,⟨by show (-600:Int)≤0;decide,by show (0:Int)≤600;decide⟩,fun q hq=>by cases hq⟩
    · exact ⟨by show 2 * k+1 < 11;omega,by show 2 * k < 11;omega,⟨by show (-600:Int)≤-1;decide,by show (-1:Int)≤600;decide⟩,fun q hq=>by cases hq⟩
  · unfold rul2 at hp
    split at hp
    · simp only [List.mem_singleton] at hp
      subst hp
      exact ⟨by show 2 * k < 11;omega,by show 2 * (k - 1) < 11;omega,⟨by show (-600:Int)≤-1;decide,by show (-1:Int)≤600;decide⟩,fun q hq=>by cases hq⟩
    · cases hp
  · cases hf : frm S ((S.map Sti.r).getD k 0) k with
    | none=>rw [hf] at hp;cases hp
    | some f =>
      have:=frm_lt _ _ _ _ hf
      rw [hf] at hp
      simp only [rul3,List.mem_singleton] at hp
      subst hp
      exact ⟨by show 2 * k < 11;omega,by show 2 * f+1 < 11;omega,⟨by show -600≤-rest;omega,by show -rest≤600;omega⟩,fun q hq=>by cases hq⟩
theorem entW_ok {k:Nat} (hk:k < 5) {s:Sti} (hs:s.ok=true) {o j:Nat} (ho:o < 2) (hj:j < 2):∀ w∈entW k s o j,(wriB w).ok:=by
  intro w hw
  have hb:=ent_bnd hs ho hj
  simp only [entW,List.mem_cons,List.not_mem_nil,or_false] at hw
  rcases hw with rfl | rfl
  · exact ⟨by show 2 * k+o < 11;omega,by show 10 < 11;decide,⟨by show -600≤-(s.ent o j).1;omega,by show -(s.ent o j).1≤600;omega⟩,fun q hq=>by cases hq;show 2 * (2 * k+o)+j < 40;omega⟩
  · exact ⟨by show 10 < 11;decide,by show 2 * k+o < 11;omega,⟨by show -600≤(s.ent o j).2;omega,by show (s.ent o j).2≤600;omega⟩,fun q hq=>by cases hq;show 2 * (2 * k+o)+j < 40;omega⟩
theorem entO_mem {k:Nat} {s:Sti} {w:Nat×Nat×Int×Nat}:w∈entO k s 2↔∃ o j,o < 2∧j < 2∧w∈entW k s o j:=by
  simp only [entO,entJ,List.nil_append,List.mem_append]
  constructor
  · rintro ((h | h) | (h | h))
    · exact ⟨0,0,by decide,by decide,h⟩
    · exact ⟨0,1,by decide,by decide,h⟩
    · exact ⟨1,0,by decide,by decide,h⟩
    · exact ⟨1,1,by decide,by decide,h⟩
  · rintro ⟨o, j, ho, hj, h⟩
    rcases (by omega:o=0∨o=1) with rfl | rfl<;>rcases (by omega:j=0∨j=1) with rfl | rfl
    · exact .inl (.inl h)
    · exact .inl (.inr h)
    · exact .inr (.inl h)
    · exact .inr (.inr h)
theorem restB_mem {S:List Sti} {rest:Int} {x:Bd}:∀ (d k:Nat),x∈restB S rest d k↔∃ i,k≤i∧i < k+d∧x∈stB S rest i
  | 0, k => by
    simp only [restB,List.not_mem_nil,false_iff]
    rintro ⟨i,h1,h2,_⟩
    omega
  | d + 1, k => by
    simp only [restB,List.mem_append,restB_mem d (k+1)]
    constructor
    · rintro (h | ⟨i, h1, h2, h3⟩)
      · exact ⟨k,by omega,by omega,h⟩
      · exact ⟨i,by omega,by omega,h3⟩
    · rintro ⟨i, h1, h2, h3⟩
      by_cases hik:i=k
      · subst hik;exact .inl h3
      · exact .inr ⟨i,by omega,by omega,h3⟩
theorem allB_mem {S:List Sti} {rest:Int} {x:Bd}:x∈allB S rest↔∃ k,k < S.length∧x∈stB S rest k:=by
  rw [allB,restB_mem]
  exact ⟨fun ⟨i,_,h2,h3⟩=>⟨i,by omega,h3⟩,fun ⟨i,h2,h3⟩=>⟨i,by omega,by omega,h3⟩⟩
theorem allB_ok {S:List Sti} {rest:Int} (hr:0≤rest∧rest≤60) (hS:S.length≤5) (hv:∀ s∈S,s.ok=true):∀ x∈allB S rest,x.ok:=by
  intro x hx
  obtain ⟨k,hk,hx⟩:=allB_mem.1 hx
  rcases List.mem_append.1 hx with hx | hx
  · exact rules_ok hr hS hk x hx
  · rw [List.getElem?_eq_getElem hk] at hx
    obtain ⟨w,hw,rfl⟩:=List.mem_map.1 hx
    obtain ⟨o,j,ho,hj,hw⟩:=entO_mem.1 hw
    exact entW_ok (by omega) (hv _ (List.getElem_mem hk)) ho hj w hw
def tabS (S:List Sti) (rest:Int) (E:Nat):Tab:=shortT (foldB E (allB S rest))
def okT (T:Tab):Bool:=(List.range 11).all fun m=>decide (0≤T m m)
theorem okT_yes {T:Tab} (h:∀ m,m < 11→0≤T m m):okT T=true:=by
  simp only [okT,List.all_eq_true,List.mem_range,decide_eq_true_eq]
  exact h
theorem okT_no {T:Tab} {m:Nat} (hm:m < 11) (h:¬ 0≤T m m):okT T=false:=by
  cases he:okT T with
  | false=>rfl
  | true =>
    simp only [okT,List.all_eq_true,List.mem_range,decide_eq_true_eq] at he
    exact absurd (he m hm) h
theorem okT_at {T:Tab} (h:okT T=true) {m:Nat} (hm:m < 11):0≤T m m:=by
  simp only [okT,List.all_eq_true,List.mem_range,decide_eq_true_eq] at h
  exact h m hm
theorem f82f (e:Int):Pan P0 82 [B false,I e] (.ifc 29 (I e)):=by
  refine PFun.of (C:=c82) (cx_ok _ _ _) rfl (fn:=Try.f82) (by kernel_rfl) (c:=_) rfl rfl rfl ?_
  refine Run.seq (Run.region (cx_ok _ _ _) (Reg.op rfl (Ope.mov rfl ?_)))
  refine Reg.op rfl (Ope.not rfl ?_)
  refine Reg.nil (Run.condX rfl (fun hc=>?_) fun hc=>?_)
  ·refine Run.region (cx_ok _ _ _) (Reg.op rfl (Ope.mov rfl ?_))
   refine Reg.op rfl (Ope.ifc rfl ?_)
   refine Reg.op0 (Ope.panic rfl ?_)
   exact fin_panic rfl rfl
  ·exact absurd hc (by decide)
theorem f82 (c:Bool) (e:Int) (h:PH):PCall P0 82 [B c,I e] h (fun v h'=>c=true∧h'=h∧v=.tup []) fun v h'=>c=false∧h'=h∧v=.ifc 29 (I e):=by
  cases c with
  | true=>exact (Fn.call (f82t e) rfl (Y:=fun _ _=>False) (K:=fun v h'=>true=true∧h'=h∧v=.tup []) ⟨rfl,rfl,rfl⟩).mono (fun _ _ q=>q) fun _ _ q=>q.elim
  | false=>exact Pan.call (f82f e) rfl ⟨rfl,rfl,rfl⟩
theorem below1 {p:Nat→Prop} (h0:p 0):∀ i,i < 1→p i:=fun i hi=>by
  obtain rfl:i=0:=by omega
  exact h0
theorem below2 {p:Nat→Prop} (h0:p 0) (h1:p 1):∀ i,i < 2→p i:=fun i hi=>by
  rcases (by omega:i=0∨i=1) with rfl | rfl
  · exact h0
  · exact h1
theorem f85j1 (rest : Int) (hr : 0 ≤ rest ∧ rest ≤ 60) (tl : Tail) (htl : tl.isOwn = false) (S : List Sti) (hS : S.length ≤ 5) (hv : ∀ s ∈ S, s.ok = true) (E : Nat) (hE : E < 2 ^ 62) :
    KX P0 85 [notV rest tl S 1,I E] 1 (mapB S) (fun v=>okT (tabS S rest E)=true∧v=.fp (.agg (tabC (tabS S rest E)))) fun v=>okT (tabS S rest E)=false∧v=.ifc 29 (I 10):=by
  unfold KX
  have hAll:=allB_ok hr hS hv
  have hbd:=f101 1 rest hr tl htl S hS hv
  have hle:∀ i,((allB S rest).take i |>.foldl (minB E) wideT).le 600:=fun i=>fold_le _ _ (fun x hx=>hAll x (List.mem_of_mem_take hx)) wide_le
  refine PCall.ofH (C:=c85) (cx_ok _ _ _) rfl (fn:=Try.f85) (by kernel_rfl) (c:=_) rfl rfl rfl (fun hok=>?_)
  refine Run.seq (Run.region (cx_ok _ _ _) (Reg.op rfl (Ope.boxF rfl rfl ?_)))
  refine Reg.op rfl (Ope.boxF rfl rfl ?_)
  refine Reg.op rfl (Ope.asg rfl ?_)
  refine Reg.nil (Run.seq (Run.region (cx_ok _ _ _) (Reg.op rfl (Ope.cf rfl rfl (f100) rfl ?_))))
  refine Reg.op rfl (Ope.newL rfl ?_)
  refine Reg.op0 (Ope.store rfl rfl rfl rfl rfl rfl ?_)
  refine Reg.nil (Run.seq (Run.seq (Run.region (cx_ok _ _ _) (Reg.op rfl (Ope.load rfl rfl ?_)))))
  refine Reg.op rfl (Ope.mkf rfl rfl ?_)
  refine Reg.nil (Run.block (Run.wide (m:=3) (l':=[(2,some (.cells (tabC wideT))),(1,some (mapB S))]) (Nat.le_refl _) ⟨rfl,rfl,trivial⟩ ?_))
  refine Run.rangeFQ (Zm 1 S) (cx_ok _ _ _) rfl (α:=Tab) (fun T=>[(2,some (.cells (tabC T))),(1,some (mapB S))]) (fun _=>5) (fun i T=>T=((allB S rest).take i).foldl (minB E) wideT) rfl hbd rfl rfl ⟨Try.f85,by kernel_rfl⟩ wideT rfl ⟨rfl,rfl,trivial⟩ (by simp) (by simp) (by omega) (fun _=>⟨rfl,trivial⟩) (by simp) (by simp) (by simp) (fun i T v hvi hI m hm1 hm2 lb=>?_) (fun T hI m hm1 hm2=>?_)
  ·obtain ⟨x,hx,rfl⟩:∃ x,(allB S rest)[i]?=some x∧v=Bd.v x:=by
     rw [List.getElem?_map] at hvi
     cases hq:(allB S rest)[i]? with
     | none=>rw [hq] at hvi;cases hvi
     | some x=>rw [hq] at hvi;cases hvi;exact ⟨x,rfl,rfl⟩
   obtain ⟨hlt,hget⟩:=List.getElem?_eq_some_iff.1 hx
   have hxo:=hAll x (List.mem_of_getElem? hx)
   have hnext:minB E T x=((allB S rest).take (i+1)).foldl (minB E) wideT:=by
     rw [List.take_succ_eq_append_getElem hlt,hget,List.foldl_append,← hI]
     rfl
   have hTle:=hle i
   rw [← hI] at hTle
   clear hI hx hget hvi
   obtain ⟨a,b,q0,q⟩:=x
   obtain ⟨hxa,hxb,hxm,hxq⟩:=hxo
   simp only at hxa hxb hxm hxq
   have hTab:=hTle a b hxa hxb
   rcases q with _ | q
   ·refine Run.region (Cx.Ok.rnd (cx_ok _ _ _)) (Reg.op rfl (Ope.asg rfl ?_))
    refine Reg.nil (Run.done ⟨rfl,rfl,_,_,rfl,rfl,fun lb2=>?_⟩)
    refine Run.block (Run.seq (Run.region (Cx.Ok.rnd (cx_ok _ _ _)) (Reg.op rfl (Ope.mov rfl ?_))))
    first
      | refine Reg.op rfl (Ope.imP rfl rfl (pm_rule _ _ _) (f137 _ _ _) rfl ?_)
      | refine Reg.op rfl (Ope.imP rfl rfl (pm_wri _ _ _ _) (f137 _ _ _) rfl ?_)
    refine Reg.op rfl (Ope.mov rfl ?_)
    refine Reg.op rfl (Ope.ext rfl rfl ?_)
    refine Reg.op rfl (Ope.ext rfl rfl ?_)
    refine Reg.op rfl (Ope.asg rfl ?_)
    refine Reg.op rfl (Ope.asg rfl ?_)
    refine Reg.nil (Run.drawB (Cx.Ok.rnd (cx_ok _ _ _)) 2 [(0,true,false),(1,true,false),(2,true,false),(3,true,false),(4,true,false),(5,true,false),(6,false,false),(7,true,false),(8,true,false),(11,true,false),(9,true,true),(10,true,false),(12,true,false),(13,true,false)] (by kernel_rfl) (DraS.opQ rfl rfl rfl (Ope.mov rfl ?_)))
    refine DraS.opQ rfl rfl rfl (Ope.mov rfl ?_)
    refine DraS.opQ rfl rfl rfl (Ope.mov rfl ?_)
    refine DraS.opQ rfl rfl rfl (Ope.mov rfl ?_)
    refine DraS.opQ rfl rfl rfl (Ope.idxA (m:=a) rfl rfl rfl (row_ptr 2 0 a hxa) ?_)
    refine DraS.opQ rfl rfl rfl (Ope.idxA (m:=b) rfl rfl rfl (at_ptr 2 _ b hxb) ?_)
    refine DraS.opR rfl rfl rfl rfl (StabS.at rfl) (Ope.load rfl (load_tab _ 2 _ a hxa b hxb rfl) ?_)
    refine DraS.opQ rfl rfl rfl (Ope.mov rfl ?_)
    refine DraS.opQ rfl rfl rfl (Ope.load rfl rfl ?_)
    refine DraS.opQ rfl rfl rfl (Ope.idxA (m:=a) rfl rfl rfl (row_ptr 2 0 a hxa) ?_)
    first
      | refine DraS.opS rfl rfl rfl (Ope.imP rfl rfl (pm_ruleM _ _ _) (f138 _ _ _ _) rfl ?_)
      | refine DraS.opS rfl rfl rfl (Ope.imP rfl rfl (pm_wriM _ _ _ _) (f139 _ _ _ q E hE (hxq q rfl)) rfl ?_)
    refine ⟨rfl,?_⟩
    refine DraS.opQ rfl rfl rfl (Ope.minI rfl rfl ?_)
    refine DraS.opQ rfl rfl rfl (Ope.idxA (m:=b) rfl rfl rfl (at_ptr 2 _ b hxb) ?_)
    refine DraS.opQ rfl rfl rfl (Ope.store rfl rfl rfl rfl rfl (put_tab _ _ a hxa b hxb) ?_)
    refine DraS.nil (Run.bend (Run.done ⟨rfl,_,_,rfl,by omega,rfl,_,by omega,⟨rfl,rfl,rfl,trivial⟩,hnext⟩))
   ·refine Run.region (Cx.Ok.rnd (cx_ok _ _ _)) (Reg.op rfl (Ope.asg rfl ?_))
    refine Reg.nil (Run.done ⟨rfl,rfl,_,_,rfl,rfl,fun lb2=>?_⟩)
    refine Run.block (Run.seq (Run.region (Cx.Ok.rnd (cx_ok _ _ _)) (Reg.op rfl (Ope.mov rfl ?_))))
    first
      | refine Reg.op rfl (Ope.imP rfl rfl (pm_rule _ _ _) (f137 _ _ _) rfl ?_)
      | refine Reg.op rfl (Ope.imP rfl rfl (pm_wri _ _ _ _) (f137 _ _ _) rfl ?_)
    refine Reg.op rfl (Ope.mov rfl ?_)
    refine Reg.op rfl (Ope.ext rfl rfl ?_)
    refine Reg.op rfl (Ope.ext rfl rfl ?_)
    refine Reg.op rfl (Ope.asg rfl ?_)
    refine Reg.op rfl (Ope.asg rfl ?_)
    refine Reg.nil (Run.drawB (Cx.Ok.rnd (cx_ok _ _ _)) 2 [(0,true,false),(1,true,false),(2,true,false),(3,true,false),(4,true,false),(5,true,false),(6,false,false),(7,true,false),(8,true,false),(11,true,false),(9,true,true),(10,true,false),(12,true,false),(13,true,false)] (by kernel_rfl) (DraS.opQ rfl rfl rfl (Ope.mov rfl ?_)))
    refine DraS.opQ rfl rfl rfl (Ope.mov rfl ?_)
    refine DraS.opQ rfl rfl rfl (Ope.mov rfl ?_)
    refine DraS.opQ rfl rfl rfl (Ope.mov rfl ?_)
    refine DraS.opQ rfl rfl rfl (Ope.idxA (m:=a) rfl rfl rfl (row_ptr 2 0 a hxa) ?_)
    refine DraS.opQ rfl rfl rfl (Ope.idxA (m:=b) rfl rfl rfl (at_ptr 2 _ b hxb) ?_)
    refine DraS.opR rfl rfl rfl rfl (StabS.at rfl) (Ope.load rfl (load_tab _ 2 _ a hxa b hxb rfl) ?_)
    refine DraS.opQ rfl rfl rfl (Ope.mov rfl ?_)
    refine DraS.opQ rfl rfl rfl (Ope.load rfl rfl ?_)
    refine DraS.opQ rfl rfl rfl (Ope.idxA (m:=a) rfl rfl rfl (row_ptr 2 0 a hxa) ?_)
    first
      | refine DraS.opS rfl rfl rfl (Ope.imP rfl rfl (pm_ruleM _ _ _) (f138 _ _ _ _) rfl ?_)
      | refine DraS.opS rfl rfl rfl (Ope.imP rfl rfl (pm_wriM _ _ _ _) (f139 _ _ _ q E hE (hxq q rfl)) rfl ?_)
    refine ⟨rfl,?_⟩
    refine DraS.opQ rfl rfl rfl (Ope.minI rfl rfl ?_)
    refine DraS.opQ rfl rfl rfl (Ope.idxA (m:=b) rfl rfl rfl (at_ptr 2 _ b hxb) ?_)
    refine DraS.opQ rfl rfl rfl (Ope.store rfl rfl rfl rfl rfl (put_tab _ _ a hxa b hxb) ?_)
    refine DraS.nil (Run.bend (Run.done ⟨rfl,_,_,rfl,by omega,rfl,_,by omega,⟨rfl,rfl,rfl,trivial⟩,hnext⟩))
  ·rw [List.length_map, List.take_length] at hI
   have hTle:=hle (allB S rest).length
   rw [List.take_length,← hI] at hTle
   have hT':shortT T=tabS S rest E:=by rw [hI];rfl
   refine Run.bend (Run.seq (Run.region (cx_ok _ _ _) (Reg.op rfl (Ope.load rfl rfl ?_))))
   refine Reg.op rfl (Ope.cf rfl rfl (f102 T hTle) rfl ?_)
   refine Reg.op0 (Ope.store rfl rfl rfl rfl rfl rfl ?_)
   refine Reg.nil (Run.seq (Run.seq (Run.region (cx_ok _ _ _) (Reg.op rfl (Ope.mov rfl ?_)))))
   refine Reg.nil (Run.block (Run.wide (m:=m) (l':=[(3,some .dfr),(2,some (.cells (tabC (shortT T)))),(1,some (mapB S))]) (Nat.le_refl _) ⟨rfl,rfl,rfl,trivial⟩ ?_))
   rw [hT']
   generalize hU:tabS S rest E=U
   refine Run.loop (α:=Nat) (fun i=>[(5,.ptr 2 0),(34,I i)]) (fun i=>HE m [(3,some .dfr),(2,some (.cells (tabC U))),(1,some (mapB S))]) (fun i=>i≤11∧∀ j,j < i→0≤U j j) (fun i=>11 - i) 0 ⟨rfl,rfl,trivial⟩ rfl ⟨by omega,fun j hj=>by omega⟩ (fun i hi=>?_)
   obtain ⟨hi1,hi2⟩:=hi
   refine Run.seq (Run.region (cx_ok _ _ _) (Reg.op rfl (Ope.lt rfl rfl ?_)))
   refine Reg.nil (Run.seq (Run.condX rfl (fun hc=>?_) fun hc=>?_))
   ·refine Run.skip (Run.seq (Run.block (Run.seq ?_)))
    have hi11:i < 11:=by omega
    refine Run.region (cx_ok _ _ _) (Reg.op rfl (Ope.mov rfl ?_))
    refine Reg.op rfl (Ope.asg rfl ?_)
    refine Reg.nil (Run.region (cx_ok _ _ _) (Reg.op rfl (Ope.mov rfl ?_)))
    refine Reg.op rfl (Ope.mov rfl ?_)
    refine Reg.op rfl (Ope.idxA (m:=i) rfl rfl rfl (row_ptr 2 0 i hi11) ?_)
    refine Reg.op rfl (Ope.idxA (m:=i) rfl rfl rfl (at_ptr 2 _ i hi11) ?_)
    refine Reg.op rfl (Ope.load rfl (load_tab _ 2 _ i hi11 i hi11 rfl) ?_)
    refine Reg.op rfl (Ope.ge rfl rfl ?_)
    refine Reg.op rfl (Ope.call rfl rfl rfl ((f82 _ _ _).mono (fun v h' q=>?_) fun v h' q=>by obtain ⟨q1,rfl,rfl⟩:=q;exact finK_panicD (j:=1) rfl rfl (mapB_bd S _) (below1 rfl) rfl ⟨rfl,okT_no hi11 (of_decide_eq_false q1),rfl⟩))
    obtain ⟨q1,rfl,rfl⟩:=q
    have q2:=of_decide_eq_true q1
    refine Reg.nil (Run.bend (Run.region (cx_ok _ _ _) (Reg.op rfl (Ope.add rfl rfl (by omega) ?_))))
    refine Reg.op rfl (Ope.mov rfl ?_)
    refine Reg.nil ?_
    exact Run.lend ⟨i+1,by omega,⟨by omega,fun j hj=>by
      by_cases hji:j < i
      · exact hi2 j hji
      · obtain rfl : j = i := by omega
        exact q2⟩,⟨rfl,rfl,trivial⟩,rfl,rfl⟩
   ·refine Run.exit (Jmp.code (Jmp.round (Jmp.here (Run.seq ?_))))
    obtain rfl:i=11:=by omega
    refine Run.frz (d:=5) true rfl rfl rfl ?_
    refine Run.region (cx_ok _ _ _) (Reg.op rfl (Ope.asg rfl ?_))
    exact Reg.nil (Run.ret (finK_retD (j:=1) rfl (.tmp rfl .nil) rfl (mapB_bd S _) (below1 rfl) rfl ⟨rfl,okT_yes hi2,rfl⟩))
theorem f85j2 (rest : Int) (hr : 0 ≤ rest ∧ rest ≤ 60) (tl : Tail) (htl : tl.isOwn = false) (S : List Sti) (hS : S.length ≤ 5) (hv : ∀ s ∈ S, s.ok = true) (E : Nat) (hE : E < 2 ^ 62) :
    KX P0 85 [notV rest tl S 2,I E] 2 (mapB S) (fun v=>okT (tabS S rest E)=true∧v=.fp (.agg (tabC (tabS S rest E)))) fun v=>okT (tabS S rest E)=false∧v=.ifc 29 (I 10):=by
  unfold KX
  have hAll:=allB_ok hr hS hv
  have hbd:=f101 2 rest hr tl htl S hS hv
  have hle:∀ i,((allB S rest).take i |>.foldl (minB E) wideT).le 600:=fun i=>fold_le _ _ (fun x hx=>hAll x (List.mem_of_mem_take hx)) wide_le
  refine PCall.ofH (C:=c85) (cx_ok _ _ _) rfl (fn:=Try.f85) (by kernel_rfl) (c:=_) rfl rfl rfl (fun hok=>?_)
  refine Run.seq (Run.region (cx_ok _ _ _) (Reg.op rfl (Ope.boxF rfl rfl ?_)))
  refine Reg.op rfl (Ope.boxF rfl rfl ?_)
  refine Reg.op rfl (Ope.asg rfl ?_)
  refine Reg.nil (Run.seq (Run.region (cx_ok _ _ _) (Reg.op rfl (Ope.cf rfl rfl (f100) rfl ?_))))
  refine Reg.op rfl (Ope.newL rfl ?_)
  refine Reg.op0 (Ope.store rfl rfl rfl rfl rfl rfl ?_)
  refine Reg.nil (Run.seq (Run.seq (Run.region (cx_ok _ _ _) (Reg.op rfl (Ope.load rfl rfl ?_)))))
  refine Reg.op rfl (Ope.mkf rfl rfl ?_)
  refine Reg.nil (Run.block (Run.wide (m:=4) (l':=[(3,some (.cells (tabC wideT))),(2,some (mapB S))]) (Nat.le_refl _) ⟨rfl,rfl,trivial⟩ ?_))
  refine Run.rangeFQ (Zm 2 S) (cx_ok _ _ _) rfl (α:=Tab) (fun T=>[(3,some (.cells (tabC T))),(2,some (mapB S))]) (fun _=>6) (fun i T=>T=((allB S rest).take i).foldl (minB E) wideT) rfl hbd rfl rfl ⟨Try.f85,by kernel_rfl⟩ wideT rfl ⟨rfl,rfl,trivial⟩ (by simp) (by simp) (by omega) (fun _=>⟨rfl,trivial⟩) (by simp) (by simp) (by simp) (fun i T v hvi hI m hm1 hm2 lb=>?_) (fun T hI m hm1 hm2=>?_)
  ·obtain ⟨x,hx,rfl⟩:∃ x,(allB S rest)[i]?=some x∧v=Bd.v x:=by
     rw [List.getElem?_map] at hvi
     cases hq:(allB S rest)[i]? with
     | none=>rw [hq] at hvi;cases hvi
     | some x=>rw [hq] at hvi;cases hvi;exact ⟨x,rfl,rfl⟩
   obtain ⟨hlt,hget⟩:=List.getElem?_eq_some_iff.1 hx
   have hxo:=hAll x (List.mem_of_getElem? hx)
   have hnext:minB E T x=((allB S rest).take (i+1)).foldl (minB E) wideT:=by
     rw [List.take_succ_eq_append_getElem hlt,hget,List.foldl_append,← hI]
     rfl
   have hTle:=hle i
   rw [← hI] at hTle
   clear hI hx hget hvi
   obtain ⟨a,b,q0,q⟩:=x
   obtain ⟨hxa,hxb,hxm,hxq⟩:=hxo
   simp only at hxa hxb hxm hxq
   have hTab:=hTle a b hxa hxb
   rcases q with _ | q
   ·refine Run.region (Cx.Ok.rnd (cx_ok _ _ _)) (Reg.op rfl (Ope.asg rfl ?_))
    refine Reg.nil (Run.done ⟨rfl,rfl,_,_,rfl,rfl,fun lb2=>?_⟩)
    refine Run.block (Run.seq (Run.region (Cx.Ok.rnd (cx_ok _ _ _)) (Reg.op rfl (Ope.mov rfl ?_))))
    first
      | refine Reg.op rfl (Ope.imP rfl rfl (pm_rule _ _ _) (f137 _ _ _) rfl ?_)
      | refine Reg.op rfl (Ope.imP rfl rfl (pm_wri _ _ _ _) (f137 _ _ _) rfl ?_)
    refine Reg.op rfl (Ope.mov rfl ?_)
    refine Reg.op rfl (Ope.ext rfl rfl ?_)
    refine Reg.op rfl (Ope.ext rfl rfl ?_)
    refine Reg.op rfl (Ope.asg rfl ?_)
    refine Reg.op rfl (Ope.asg rfl ?_)
    refine Reg.nil (Run.drawB (Cx.Ok.rnd (cx_ok _ _ _)) 3 [(0,true,false),(1,true,false),(2,true,false),(3,true,false),(4,true,false),(5,true,false),(6,false,false),(7,true,false),(8,true,false),(11,true,false),(9,true,true),(10,true,false),(12,true,false),(13,true,false)] (by kernel_rfl) (DraS.opQ rfl rfl rfl (Ope.mov rfl ?_)))
    refine DraS.opQ rfl rfl rfl (Ope.mov rfl ?_)
    refine DraS.opQ rfl rfl rfl (Ope.mov rfl ?_)
    refine DraS.opQ rfl rfl rfl (Ope.mov rfl ?_)
    refine DraS.opQ rfl rfl rfl (Ope.idxA (m:=a) rfl rfl rfl (row_ptr 3 0 a hxa) ?_)
    refine DraS.opQ rfl rfl rfl (Ope.idxA (m:=b) rfl rfl rfl (at_ptr 3 _ b hxb) ?_)
    refine DraS.opR rfl rfl rfl rfl (StabS.at rfl) (Ope.load rfl (load_tab _ 3 _ a hxa b hxb rfl) ?_)
    refine DraS.opQ rfl rfl rfl (Ope.mov rfl ?_)
    refine DraS.opQ rfl rfl rfl (Ope.load rfl rfl ?_)
    refine DraS.opQ rfl rfl rfl (Ope.idxA (m:=a) rfl rfl rfl (row_ptr 3 0 a hxa) ?_)
    first
      | refine DraS.opS rfl rfl rfl (Ope.imP rfl rfl (pm_ruleM _ _ _) (f138 _ _ _ _) rfl ?_)
      | refine DraS.opS rfl rfl rfl (Ope.imP rfl rfl (pm_wriM _ _ _ _) (f139 _ _ _ q E hE (hxq q rfl)) rfl ?_)
    refine ⟨rfl,?_⟩
    refine DraS.opQ rfl rfl rfl (Ope.minI rfl rfl ?_)
    refine DraS.opQ rfl rfl rfl (Ope.idxA (m:=b) rfl rfl rfl (at_ptr 3 _ b hxb) ?_)
    refine DraS.opQ rfl rfl rfl (Ope.store rfl rfl rfl rfl rfl (put_tab _ _ a hxa b hxb) ?_)
    refine DraS.nil (Run.bend (Run.done ⟨rfl,_,_,rfl,by omega,rfl,_,by omega,⟨rfl,rfl,rfl,trivial⟩,hnext⟩))
   ·refine Run.region (Cx.Ok.rnd (cx_ok _ _ _)) (Reg.op rfl (Ope.asg rfl ?_))
    refine Reg.nil (Run.done ⟨rfl,rfl,_,_,rfl,rfl,fun lb2=>?_⟩)
    refine Run.block (Run.seq (Run.region (Cx.Ok.rnd (cx_ok _ _ _)) (Reg.op rfl (Ope.mov rfl ?_))))
    first
      | refine Reg.op rfl (Ope.imP rfl rfl (pm_rule _ _ _) (f137 _ _ _) rfl ?_)
      | refine Reg.op rfl (Ope.imP rfl rfl (pm_wri _ _ _ _) (f137 _ _ _) rfl ?_)
    refine Reg.op rfl (Ope.mov rfl ?_)
    refine Reg.op rfl (Ope.ext rfl rfl ?_)
    refine Reg.op rfl (Ope.ext rfl rfl ?_)
    refine Reg.op rfl (Ope.asg rfl ?_)
    refine Reg.op rfl (Ope.asg rfl ?_)
    refine Reg.nil (Run.drawB (Cx.Ok.rnd (cx_ok _ _ _)) 3 [(0,true,false),(1,true,false),(2,true,false),(3,true,false),(4,true,false),(5,true,false),(6,false,false),(7,true,false),(8,true,false),(11,true,false),(9,true,true),(10,true,false),(12,true,false),(13,true,false)] (by kernel_rfl) (DraS.opQ rfl rfl rfl (Ope.mov rfl ?_)))
    refine DraS.opQ rfl rfl rfl (Ope.mov rfl ?_)
    refine DraS.opQ rfl rfl rfl (Ope.mov rfl ?_)
    refine DraS.opQ rfl rfl rfl (Ope.mov rfl ?_)
    refine DraS.opQ rfl rfl rfl (Ope.idxA (m:=a) rfl rfl rfl (row_ptr 3 0 a hxa) ?_)
    refine DraS.opQ rfl rfl rfl (Ope.idxA (m:=b) rfl rfl rfl (at_ptr 3 _ b hxb) ?_)
    refine DraS.opR rfl rfl rfl rfl (StabS.at rfl) (Ope.load rfl (load_tab _ 3 _ a hxa b hxb rfl) ?_)
    refine DraS.opQ rfl rfl rfl (Ope.mov rfl ?_)
    refine DraS.opQ rfl rfl rfl (Ope.load rfl rfl ?_)
    refine DraS.opQ rfl rfl rfl (Ope.idxA (m:=a) rfl rfl rfl (row_ptr 3 0 a hxa) ?_)
    first
      | refine DraS.opS rfl rfl rfl (Ope.imP rfl rfl (pm_ruleM _ _ _) (f138 _ _ _ _) rfl ?_)
      | refine DraS.opS rfl rfl rfl (Ope.imP rfl rfl (pm_wriM _ _ _ _) (f139 _ _ _ q E hE (hxq q rfl)) rfl ?_)
    refine ⟨rfl,?_⟩
    refine DraS.opQ rfl rfl rfl (Ope.minI rfl rfl ?_)
    refine DraS.opQ rfl rfl rfl (Ope.idxA (m:=b) rfl rfl rfl (at_ptr 3 _ b hxb) ?_)
    refine DraS.opQ rfl rfl rfl (Ope.store rfl rfl rfl rfl rfl (put_tab _ _ a hxa b hxb) ?_)
    refine DraS.nil (Run.bend (Run.done ⟨rfl,_,_,rfl,by omega,rfl,_,by omega,⟨rfl,rfl,rfl,trivial⟩,hnext⟩))
  ·rw [List.length_map, List.take_length] at hI
   have hTle:=hle (allB S rest).length
   rw [List.take_length,← hI] at hTle
   have hT':shortT T=tabS S rest E:=by rw [hI];rfl
   refine Run.bend (Run.seq (Run.region (cx_ok _ _ _) (Reg.op rfl (Ope.load rfl rfl ?_))))
   refine Reg.op rfl (Ope.cf rfl rfl (f102 T hTle) rfl ?_)
   refine Reg.op0 (Ope.store rfl rfl rfl rfl rfl rfl ?_)
   refine Reg.nil (Run.seq (Run.seq (Run.region (cx_ok _ _ _) (Reg.op rfl (Ope.mov rfl ?_)))))
   refine Reg.nil (Run.block (Run.wide (m:=m) (l':=[(4,some .dfr),(3,some (.cells (tabC (shortT T)))),(2,some (mapB S))]) (Nat.le_refl _) ⟨rfl,rfl,rfl,trivial⟩ ?_))
   rw [hT']
   generalize hU:tabS S rest E=U
   refine Run.loop (α:=Nat) (fun i=>[(5,.ptr 3 0),(34,I i)]) (fun i=>HE m [(4,some .dfr),(3,some (.cells (tabC U))),(2,some (mapB S))]) (fun i=>i≤11∧∀ j,j < i→0≤U j j) (fun i=>11 - i) 0 ⟨rfl,rfl,trivial⟩ rfl ⟨by omega,fun j hj=>by omega⟩ (fun i hi=>?_)
   obtain ⟨hi1,hi2⟩:=hi
   refine Run.seq (Run.region (cx_ok _ _ _) (Reg.op rfl (Ope.lt rfl rfl ?_)))
   refine Reg.nil (Run.seq (Run.condX rfl (fun hc=>?_) fun hc=>?_))
   ·refine Run.skip (Run.seq (Run.block (Run.seq ?_)))
    have hi11:i < 11:=by omega
    refine Run.region (cx_ok _ _ _) (Reg.op rfl (Ope.mov rfl ?_))
    refine Reg.op rfl (Ope.asg rfl ?_)
    refine Reg.nil (Run.region (cx_ok _ _ _) (Reg.op rfl (Ope.mov rfl ?_)))
    refine Reg.op rfl (Ope.mov rfl ?_)
    refine Reg.op rfl (Ope.idxA (m:=i) rfl rfl rfl (row_ptr 3 0 i hi11) ?_)
    refine Reg.op rfl (Ope.idxA (m:=i) rfl rfl rfl (at_ptr 3 _ i hi11) ?_)
    refine Reg.op rfl (Ope.load rfl (load_tab _ 3 _ i hi11 i hi11 rfl) ?_)
    refine Reg.op rfl (Ope.ge rfl rfl ?_)
    refine Reg.op rfl (Ope.call rfl rfl rfl ((f82 _ _ _).mono (fun v h' q=>?_) fun v h' q=>by obtain ⟨q1,rfl,rfl⟩:=q;exact finK_panicD (j:=2) rfl rfl (mapB_bd S _) (below2 rfl rfl) rfl ⟨rfl,okT_no hi11 (of_decide_eq_false q1),rfl⟩))
    obtain ⟨q1,rfl,rfl⟩:=q
    have q2:=of_decide_eq_true q1
    refine Reg.nil (Run.bend (Run.region (cx_ok _ _ _) (Reg.op rfl (Ope.add rfl rfl (by omega) ?_))))
    refine Reg.op rfl (Ope.mov rfl ?_)
    refine Reg.nil ?_
    exact Run.lend ⟨i+1,by omega,⟨by omega,fun j hj=>by
      by_cases hji:j < i
      · exact hi2 j hji
      · obtain rfl : j = i := by omega
        exact q2⟩,⟨rfl,rfl,trivial⟩,rfl,rfl⟩
   ·refine Run.exit (Jmp.code (Jmp.round (Jmp.here (Run.seq ?_))))
    obtain rfl:i=11:=by omega
    refine Run.frz (d:=5) true rfl rfl rfl ?_
    refine Run.region (cx_ok _ _ _) (Reg.op rfl (Ope.asg rfl ?_))
    exact Reg.nil (Run.ret (finK_retD (j:=2) rfl (.tmp rfl .nil) rfl (mapB_bd S _) (below2 rfl rfl) rfl ⟨rfl,okT_yes hi2,rfl⟩))
end Go.Pv
namespace Go.Pv
open Go.Proofs Go.Am
set_option maxRecDepth 10000
def Pot (v:Nat→Int) (t:Tab):Prop:=∀ a b,a < 11→b < 11→v b - v a≤t a b
theorem pot_put {v:Nat→Int} {t:Tab} {w a b:Nat} (h:Pot v t) (hw:w < 11) (ha:a < 11) (hb:b < 11):Pot v (byPut w a b t):=by
  intro i j hi hj
  by_cases hij:i=a∧j=b
  · obtain ⟨rfl, rfl⟩ := hij
    have e:byPut w i j t i j=min (t i j) (t i w+t w j):=put_same _ _ _ _
    rw [e]
    have h1:=h i j hi hj
    have h2:=h i w hi hw
    have h3:=h w j hw hj
    omega
  · have e : byPut w a b t i j = t i j := put_other _ _ _ _ (by omega)
    rw [e]
    exact h i j hi hj
theorem pot_row {v:Nat→Int} {w a:Nat} (hw:w < 11) (ha:a < 11):∀ (k:Nat),k≤11→∀ {t:Tab},Pot v t→Pot v (byRow w a k t)
  | 0,_,_,h=>h
  | k+1,hk,_,h=>pot_put (pot_row hw ha k (by omega) h) hw ha (by omega)
theorem pot_by {v:Nat→Int} {w:Nat} (hw:w < 11):∀ (k:Nat),k≤11→∀ {t:Tab},Pot v t→Pot v (byAll w k t)
  | 0,_,_,h=>h
  | k+1,hk,_,h=>pot_row hw (by omega) 11 (Nat.le_refl _) (pot_by hw k (by omega) h)
theorem pot_byS {v:Nat→Int}:∀ (ws:List Nat),(∀ w∈ws,w < 11)→∀ {t:Tab},Pot v t→Pot v (byS ws t)
  | [],_,_,h=>h
  | w::ws,hw,_,h=>pot_byS ws (fun u hu=>hw u (List.mem_cons_of_mem _ hu)) (pot_by (hw w (by simp)) 11 (Nat.le_refl _) h)
theorem pot_short {v:Nat→Int} {t:Tab} (h:Pot v t):Pot v (shortT t):=pot_byS _ (by simp) h
def Sh (t t':Tab):Prop:=∀ a b,a < 11→b < 11→t' a b≤t a b
theorem sh_put {w a b:Nat} (ha:a < 11) (hb:b < 11) (t:Tab):Sh t (byPut w a b t):=by
  intro i j hi hj
  by_cases hij:i=a∧j=b
  · obtain ⟨rfl, rfl⟩ := hij
    have e:byPut w i j t i j=min (t i j) (t i w+t w j):=put_same _ _ _ _
    rw [e];omega
  · have e : byPut w a b t i j = t i j := put_other _ _ _ _ (by omega)
    rw [e];exact Int.le_refl _
theorem Sh.trans {t u v:Tab} (h:Sh t u) (k:Sh u v):Sh t v:=fun a b ha hb=>Int.le_trans (k a b ha hb) (h a b ha hb)
theorem Sh.refl (t:Tab):Sh t t:=fun _ _ _ _=>Int.le_refl _
theorem sh_row {w a:Nat} (ha:a < 11):∀ (k:Nat),k≤11→∀ t:Tab,Sh t (byRow w a k t)
  | 0,_,t=>Sh.refl t
  | k+1,hk,t=>(sh_row ha k (by omega) t).trans (sh_put ha (by omega) _)
theorem sh_by {w:Nat}:∀ (k:Nat),k≤11→∀ t:Tab,Sh t (byAll w k t)
  | 0,_,t=>Sh.refl t
  | k+1,hk,t=>(sh_by k (by omega) t).trans (sh_row (by omega) 11 (Nat.le_refl _) _)
theorem sh_byS:∀ (ws:List Nat) (t:Tab),Sh t (byS ws t)
  | [],t=>Sh.refl t
  | w::ws,t=>(sh_by 11 (Nat.le_refl _) t).trans (sh_byS ws _)
theorem sh_short (t:Tab):Sh t (shortT t):=sh_byS _ t
end Go.Pv
namespace Go.Pv
open Go.Proofs Go.Am
set_option maxRecDepth 10000
def BySp (w:Nat) (t0:Tab) (i j:Nat) (t:Tab):Prop:=∀ a b,a < 11→b < 11→t a b=if a < i∨(a=i∧b < j) then min (t0 a b) (t0 a w+t0 w b) else t0 a b
theorem bySp_step {w:Nat} {t0 t:Tab} {i j:Nat} (hw:w < 11) (hi:i < 11) (hj:j < 11) (h0:0≤t0 w w) (h:BySp w t0 i j t):BySp w t0 i (j+1) (byPut w i j t):=by
  intro a b ha hb
  by_cases hab:a=i∧b=j
  · obtain ⟨rfl, rfl⟩ := hab
    have e:byPut w a b t a b=min (t a b) (t a w+t w b):=put_same _ _ _ _
    have h1:=h a b ha hb
    have h2:=h a w ha hw
    have h3:=h w b hw hb
    rw [if_neg (by omega)] at h1
    have h2':t a w=t0 a w:=by rw [h2];split<;>omega
    have h3':t w b=t0 w b:=by rw [h3];split<;>omega
    rw [e,h1,h2',h3',if_pos (by omega)]
  · have e : byPut w i j t a b = t a b := put_other _ _ _ _ (by omega)
    have h1:=h a b ha hb
    rw [e,h1]
    by_cases hc:a < i∨(a=i∧b < j)
    · rw [if_pos hc,if_pos (by omega)]
    · rw [if_neg hc,if_neg (by omega)]
theorem bySp_row {w:Nat} {t0:Tab} {i:Nat} (hw:w < 11) (hi:i < 11) (h0:0≤t0 w w):∀ (j:Nat),j≤11→∀ t,BySp w t0 i 0 t→BySp w t0 i j (byRow w i j t)
  | 0,_,t,h=>h
  | j+1,hj,t,h=>bySp_step hw hi (by omega) h0 (bySp_row hw hi h0 j (by omega) t h)
theorem bySp_next {w:Nat} {t0 t:Tab} {i:Nat} (h:BySp w t0 i 11 t):BySp w t0 (i+1) 0 t:=by
  intro a b ha hb
  have h1:=h a b ha hb
  rw [h1]
  by_cases hc:a < i∨(a=i∧b < 11)
  · rw [if_pos hc,if_pos (by omega)]
  · rw [if_neg hc,if_neg (by omega)]
theorem bySp_all {w:Nat} {t0:Tab} (hw:w < 11) (h0:0≤t0 w w):∀ (i:Nat),i≤11→BySp w t0 i 0 (byAll w i t0)
  | 0,_=>fun a b ha hb=>by rw [if_neg (by omega)];rfl
  | i+1,hi=>bySp_next (bySp_row hw (by omega) h0 11 (Nat.le_refl _) _ (bySp_all hw h0 i (by omega)))
theorem by_spec {w:Nat} {t:Tab} (hw:w < 11) (h0:0≤t w w) {a b:Nat} (ha:a < 11) (hb:b < 11):byAll w 11 t a b=min (t a b) (t a w+t w b):=by
  rw [bySp_all hw h0 11 (Nat.le_refl _) a b ha hb,if_pos (by omega)]
def Clos (K:Nat→Prop) (t:Tab):Prop:=∀ c,K c→c < 11→∀ a b,a < 11→b < 11→t a b≤t a c+t c b
theorem clo_step {K:Nat→Prop} {w:Nat} {t:Tab} (hw:w < 11) (h0:0≤t w w) (h:Clos K t):Clos (fun c=>K c∨c=w) (byAll w 11 t):=by
  intro c hc hc11 a b ha hb
  rw [by_spec hw h0 ha hb,by_spec hw h0 ha hc11,by_spec hw h0 hc11 hb]
  rcases hc with hc | rfl
  · have h1 := h c hc hc11 a b ha hb
    have h2:=h c hc hc11 a w ha hw
    have h3:=h c hc hc11 w b hw hb
    have h4:=h c hc hc11 w w hw hw
    omega
  · omega
theorem clo_byS:∀ (ws:List Nat) (K:Nat→Prop) (t:Tab),(∀ w∈ws,w < 11)→(∀ m,m < 11→0≤byS ws t m m)→Clos K t→Clos (fun c=>K c∨c∈ws) (byS ws t)
  | [],K,t,_,_,h=>fun c hc=>h c (by simpa using hc)
  | w :: ws, K, t, hw, hd, h => by
    have hw11:=hw w (by simp)
    have h0:0≤t w w:=by
      have:=hd w hw11
      have h2:=(sh_byS (w::ws) t) w w hw11 hw11
      omega
    have h1:=clo_step hw11 h0 h
    have h2:=clo_byS ws _ (byAll w 11 t) (fun u hu=>hw u (List.mem_cons_of_mem _ hu)) hd h1
    intro c hc
    refine h2 c ?_
    rcases hc with hc | hc
    · exact .inl (.inl hc)
    · rcases List.mem_cons.1 hc with rfl | hc
      · exact .inl (.inr rfl)
      · exact .inr hc
theorem short_tri {t:Tab} (h:okT (shortT t)=true) {a b c:Nat} (ha:a < 11) (hb:b < 11) (hc:c < 11):shortT t a b≤shortT t a c+shortT t c b :=
  clo_byS (List.range 11) (fun _=>False) t (by simp) (fun m hm=>okT_at h hm) (fun c hc=>hc.elim) c (.inr (by simpa using hc)) hc a b ha hb
section
variable {S:List Sti} {rest:Int} {E:Nat}
theorem minB_at {T:Tab} {x:Bd} (a b:Nat):minB E T x a b≤T a b:=by
  by_cases hab:a=x.a∧b=x.b
  · obtain ⟨rfl, rfl⟩ := hab
    have e:minB E T x x.a x.b=min (T x.a x.b) (x.most E):=put_same _ _ _ _
    rw [e];omega
  · have e : minB E T x a b = T a b := put_other _ _ _ _ (by omega)
    rw [e];exact Int.le_refl _
theorem fold_at:∀ (L:List Bd) (T:Tab) (a b:Nat),L.foldl (minB E) T a b≤T a b
  | [],_,_,_=>Int.le_refl _
  | x::L,T,a,b=>Int.le_trans (fold_at L _ a b) (minB_at a b)
theorem fold_bd:∀ (L:List Bd) (T:Tab) {x:Bd},x∈L→L.foldl (minB E) T x.a x.b≤x.most E
  | y :: L, T, x, h => by
    rcases List.mem_cons.1 h with rfl | h
    · refine Int.le_trans (fold_at L _ _ _) ?_
      have e:minB E T x x.a x.b=min (T x.a x.b) (x.most E):=put_same _ _ _ _
      rw [e];omega
    · exact fold_bd L _ h
structure Keeps (S:List Sti) (rest:Int) (E:Nat) (v:Nat→Int):Prop where
  wide:∀ a b,a < 11→b < 11→v b - v a≤600
  bound:∀ x∈allB S rest,v x.b - v x.a≤x.most E
theorem Keeps.fold {v:Nat→Int}:∀ (L:List Bd) (T:Tab),(∀ x∈L,v x.b - v x.a≤x.most E)→Pot v T→Pot v (L.foldl (minB E) T)
  | [],_,_,h=>h
  | x :: L, T, hL, h => Keeps.fold L _ (fun y hy => hL y (List.mem_cons_of_mem _ hy)) (by
    intro a b ha hb
    by_cases hab:a=x.a∧b=x.b
    · obtain ⟨rfl, rfl⟩ := hab
      have e:minB E T x x.a x.b=min (T x.a x.b) (x.most E):=put_same _ _ _ _
      have h1:=h _ _ ha hb
      have h2:=hL x (by simp)
      rw [e];omega
    · have e : minB E T x a b = T a b := put_other _ _ _ _ (by omega)
      rw [e];exact h a b ha hb)
theorem Keeps.pot {v:Nat→Int} (h:Keeps S rest E v):Pot v (tabS S rest E) :=
  pot_short (Keeps.fold _ _ h.bound fun a b ha hb=>by
    unfold wideT
    split
    · next hb'=>have:=Nat.eq_of_beq_eq_true hb';subst this;omega
    · exact h.wide a b ha hb)
theorem Keeps.ok {v:Nat→Int} (h:Keeps S rest E v):okT (tabS S rest E)=true :=
  okT_yes fun m hm=>by
    have:=h.pot m m hm hm
    omega
theorem tabS_wide {a b:Nat} (ha:a < 11) (hb:b < 11):tabS S rest E a b≤600:=by
  have h1:=sh_short (foldB E (allB S rest)) a b ha hb
  have h2:=fold_at (E:=E) (allB S rest) wideT a b
  have h3:=(wide_le a b ha hb).2
  exact Int.le_trans h1 (Int.le_trans h2 h3)
theorem tabS_bd {x:Bd} (hx:x∈allB S rest) (ho:x.ok):tabS S rest E x.a x.b≤x.most E :=
  Int.le_trans (sh_short (foldB E (allB S rest)) x.a x.b ho.1 ho.2.1) (fold_bd _ _ hx)
theorem tabS_self (h:okT (tabS S rest E)=true) {a:Nat} (ha:a < 11):tabS S rest E a a=0:=by
  have h0:=okT_at h ha
  have h1:=sh_short (foldB E (allB S rest)) a a ha ha
  have h2:=fold_at (E:=E) (allB S rest) wideT a a
  have h3:wideT a a=0:=by
    have:=Nat.beq_refl a
    simp only [wideT,this]
  have h4:tabS S rest E a a≤0:=by rw [← h3];exact Int.le_trans h1 h2
  omega
theorem late_keeps (hA:∀ x∈allB S rest,x.ok) (h:okT (tabS S rest E)=true) {a:Nat} (ha:a < 11):Keeps S rest E fun b=>tabS S rest E a b where
  wide b c hb hc:=by
    have h1:=short_tri h ha hc hb
    have h2:=tabS_wide (S:=S) (rest:=rest) (E:=E) hb hc
    show tabS S rest E a c - tabS S rest E a b≤600
    have h1':tabS S rest E a c≤tabS S rest E a b+tabS S rest E b c:=h1
    omega
  bound x hx:=by
    have ho:=hA x hx
    have h1:tabS S rest E a x.b≤tabS S rest E a x.a+tabS S rest E x.a x.b:=short_tri h ha ho.2.1 ho.1
    have h2:=tabS_bd (E:=E) hx ho
    show tabS S rest E a x.b - tabS S rest E a x.a≤x.most E
    omega
theorem early_keeps (hA:∀ x∈allB S rest,x.ok) (h:okT (tabS S rest E)=true) {b:Nat} (hb:b < 11):Keeps S rest E fun a=>-tabS S rest E a b where
  wide a c ha hc:=by
    have h1:tabS S rest E a b≤tabS S rest E a c+tabS S rest E c b:=short_tri h ha hb hc
    have h2:=tabS_wide (S:=S) (rest:=rest) (E:=E) ha hc
    show -tabS S rest E c b - -tabS S rest E a b≤600
    omega
  bound x hx:=by
    have ho:=hA x hx
    have h1:tabS S rest E x.a b≤tabS S rest E x.a x.b+tabS S rest E x.b b:=short_tri h ho.1 hb ho.2.1
    have h2:=tabS_bd (E:=E) hx ho
    show -tabS S rest E x.b b - -tabS S rest E x.a b≤x.most E
    omega
theorem ok_iff (hA:∀ x∈allB S rest,x.ok):okT (tabS S rest E)=true↔∃ v,Keeps S rest E v :=
  ⟨fun h=>⟨_,late_keeps hA h (a:=10) (by decide)⟩,fun ⟨_,h⟩=>h.ok⟩
theorem tabS_low (h:okT (tabS S rest E)=true) {a b:Nat} (ha:a < 11) (hb:b < 11):-600≤tabS S rest E a b:=by
  have h1:tabS S rest E a a≤tabS S rest E a b+tabS S rest E b a:=short_tri h ha ha hb
  have h2:=tabS_wide (S:=S) (rest:=rest) (E:=E) hb ha
  have h3:=okT_at h ha
  omega
theorem tabS_bnd (h:okT (tabS S rest E)=true):(tabS S rest E).bnd:=by
  intro a b ha hb
  have h1:=tabS_low h ha hb
  have h2:=tabS_wide (S:=S) (rest:=rest) (E:=E) ha hb
  omega
end
end Go.Pv
