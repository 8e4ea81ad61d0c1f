/- Parts of the proof: T14, Pv45, T15, T16, Pv46, T17 -/
import Derived.Test.YtabejoodkhlnaaaGreatP13
set_option linter.unusedVariables false
set_option linter.unusedSimpArgs false
namespace Go.Pv
open Go.Proofs Go.Am
set_option maxRecDepth 10000
abbrev qN:List PV:=[.fn (.func 168) [] [],.fn (.func 169) [] [],.fn (.func 170) [] []]
theorem f113:Fn P0 113 [] (.agg qN):=by
  refine PFun.of (C:=c113) (cx_ok _ _ _) rfl (fn:=Tryz.f113) (by kernel_rfl) (c:=_) rfl rfl rfl ?_
  refine Run.seq (Run.region (cx_ok _ _ _) (Reg.op rfl (Ope.newL rfl ?_)))
  refine Reg.nil (Run.seq (Run.region (cx_ok _ _ _) (Reg.op rfl (Ope.bld rfl rfl ?_))))
  refine Reg.op0 (Ope.store rfl rfl rfl rfl rfl rfl ?_)
  exact Reg.nil (Run.ret (fin_ret (.cell rfl rfl .nil) rfl rfl))
theorem f168 (d:Rid):Fn P0 168 [.agg d.cells] (I 1):=by
  refine PFun.of (C:=c168) (cx_ok _ _ _) rfl (fn:=Tryz.f168) (by kernel_rfl) (c:=_) rfl rfl rfl ?_
  refine Run.seq (Run.region (cx_ok _ _ _) (Reg.op rfl (Ope.boxF rfl rfl ?_)))
  refine Reg.op rfl (Ope.asg rfl ?_)
  refine Reg.nil (Run.seq (Run.region (cx_ok _ _ _) (Reg.op rfl (Ope.asg rfl ?_))))
  exact Reg.nil (Run.ret (fin_ret (.tmp rfl .nil) rfl rfl))
theorem f169 (d:Rid) (x:Int) (c:Int):Fn P0 169 [rideV d x,I c] (I c):=by
  refine PFun.of (C:=c169) (cx_ok _ _ _) rfl (fn:=Tryz.f169) (by kernel_rfl) (c:=_) rfl rfl rfl ?_
  refine Run.seq (Run.region (cx_ok _ _ _) (Reg.op rfl (Ope.boxF rfl rfl ?_)))
  refine Reg.op rfl (Ope.asg rfl ?_)
  refine Reg.nil (Run.seq (Run.region (cx_ok _ _ _) (Reg.op rfl (Ope.mov rfl ?_))))
  refine Reg.op rfl (Ope.asg rfl ?_)
  exact Reg.nil (Run.ret (fin_ret (.tmp rfl .nil) rfl rfl))
theorem f170 (a b:Int) (h:-9223372036854775808≤a+b∧a+b≤9223372036854775807):Fn P0 170 [I a,I b] (I (a+b)):=by
  refine PFun.of (C:=c170) (cx_ok _ _ _) rfl (fn:=Tryz.f170) (by kernel_rfl) (c:=_) rfl rfl rfl ?_
  refine Run.seq (Run.region (cx_ok _ _ _) (Reg.op rfl (Ope.asg rfl ?_)))
  refine Reg.nil (Run.seq (Run.region (cx_ok _ _ _) (Reg.op rfl (Ope.mov rfl ?_))))
  refine Reg.op rfl (Ope.mov rfl ?_)
  refine Reg.op rfl (Ope.add rfl rfl (by omega) ?_)
  refine Reg.op rfl (Ope.asg rfl ?_)
  exact Reg.nil (Run.ret (fin_ret (.tmp rfl .nil) rfl rfl))
theorem f167a (tl:Tail) (htl:tl.isOwn=false) (xs:List Int) (hl:xs.length < 2):Fn P0 167 [.fn (.func 170) [] [],.sl tl (xs.map I)] (.sl tl (xs.map I)):=by
  refine PFun.of (C:=c167) (cx_ok _ _ _) rfl (fn:=Tryz.f167) (by kernel_rfl) (c:=_) rfl rfl rfl ?_
  refine Run.seq (Run.region (cx_ok _ _ _) (Reg.op rfl (Ope.asg rfl ?_)))
  refine Reg.nil (Run.seq (Run.seq (Run.region (cx_ok _ _ _) (Reg.op rfl (Ope.mov rfl ?_)))))
  first | refine Reg.op rfl (Ope.len rfl (List.length_map _) ?_) | refine Reg.op rfl (Ope.len rfl rfl ?_) | refine Reg.op rfl (Ope.lenL rfl ?_)
  refine Reg.op rfl (Ope.lt rfl rfl ?_)
  refine Reg.nil (Run.condX rfl (fun hc=>?_) fun hc=>?_)
  ·refine Run.seq (Run.region (cx_ok _ _ _) (Reg.op rfl (Ope.mov rfl ?_)))
   refine Reg.op rfl (Ope.asg rfl ?_)
   refine Reg.nil (Run.ret (Jmp.code (fin_ret (.tmp rfl .nil) (bd_sl (f:=I) htl (fun _=>rfl) _) ?_)))
   rfl
  ·exfalso;omega
theorem f167b (tl:Tail) (htl:tl.isOwn=false) (a b:Int) (h:-9223372036854775808≤a+b∧a+b≤9223372036854775807):Fn P0 167 [.fn (.func 170) [] [],.sl tl [I a,I b]] (.sl .ex [I (a+b)]):=by
  refine PFun.of (C:=c167) (cx_ok _ _ _) rfl (fn:=Tryz.f167) (by kernel_rfl) (c:=_) rfl rfl rfl ?_
  refine Run.seq (Run.region (cx_ok _ _ _) (Reg.op rfl (Ope.asg rfl ?_)))
  refine Reg.nil (Run.seq (Run.seq (Run.region (cx_ok _ _ _) (Reg.op rfl (Ope.mov rfl ?_)))))
  refine Reg.op rfl (Ope.len (m:=2) rfl rfl ?_)
  refine Reg.op rfl (Ope.lt rfl rfl ?_)
  refine Reg.nil (Run.condX rfl (fun hc=>?_) fun hc=>?_)
  ·exfalso;omega
  ·refine Run.skip (Run.seq (Run.region (cx_ok _ _ _) (Reg.op rfl (Ope.mov rfl ?_))))
   refine Reg.op rfl (Ope.idxS (m:=0) rfl rfl rfl rfl rfl ?_)
   refine Reg.op rfl (Ope.load rfl rfl ?_)
   refine Reg.op rfl (Ope.asg rfl ?_)
   refine Reg.nil (Run.seq (Run.seq (Run.region (cx_ok _ _ _) (Reg.op rfl (Ope.mov rfl ?_)))))
   refine Reg.op rfl (Ope.slD (m:=1) rfl rfl rfl (by show 1≤2;decide) (by intro v hv;simp at hv;rcases hv with rfl | rfl<;>rfl) ?_)
   refine Reg.op rfl (Ope.len (m:=1) rfl rfl ?_)
   refine Reg.op rfl (Ope.mov rfl ?_)
   refine Reg.nil (Run.block (Run.loop (α:=Nat) (fun k=>[(0,.fn (.func 170) [] []),(5,I (if k=0 then a else a+b)),(16,.sl (stail tl 2 2) [I b]),(17,I 1),(18,I k)]) (fun _=>HE 0 []) (fun k=>k≤1) (fun k=>1 - k) 0 ⟨rfl,rfl,rfl,rfl,rfl,trivial⟩ rfl (by decide) (fun k hk=>?_)))
   rcases (by omega:k=0∨k=1) with rfl | rfl
   ·refine Run.seq (Run.region (cx_ok _ _ _) (Reg.op rfl (Ope.lt rfl rfl ?_)))
    refine Reg.nil (Run.seq (Run.condX rfl (fun hc=>?_) fun hc=>?_))
    ·refine Run.skip (Run.seq (Run.block (Run.seq (Run.region (cx_ok _ _ _) (Reg.op rfl (Ope.idxS (m:=0) rfl rfl rfl rfl rfl ?_))))))
     refine Reg.op rfl (Ope.load rfl rfl ?_)
     refine Reg.op rfl (Ope.asg rfl ?_)
     refine Reg.nil (Run.region (cx_ok _ _ _) (Reg.op rfl (Ope.mov rfl ?_)))
     refine Reg.op rfl (Ope.mov rfl ?_)
     refine Reg.op rfl (Ope.mov rfl ?_)
     refine Reg.op rfl (Ope.cf rfl rfl (f170 a b h) rfl ?_)
     refine Reg.op rfl (Ope.asg rfl ?_)
     refine Reg.nil (Run.bend (Run.region (cx_ok _ _ _) (Reg.op rfl (Ope.add rfl rfl (by omega) ?_))))
     refine Reg.op rfl (Ope.mov rfl ?_)
     exact Reg.nil (Run.lend ⟨1,by decide,by decide,⟨rfl,rfl,rfl,rfl,rfl,trivial⟩,rfl,rfl⟩)
    ·exfalso;omega
   ·refine Run.seq (Run.region (cx_ok _ _ _) (Reg.op rfl (Ope.lt rfl rfl ?_)))
    refine Reg.nil (Run.seq (Run.condX rfl (fun hc=>?_) fun hc=>?_))
    ·exfalso;omega
    ·refine Run.exit (Jmp.code (Jmp.round (Jmp.here (Run.seq (Run.region (cx_ok _ _ _) (Reg.op rfl (Ope.mov rfl ?_)))))))
     refine Reg.op rfl (Ope.bsl rfl rfl rfl rfl ?_)
     refine Reg.op rfl (Ope.asg rfl ?_)
     refine Reg.nil (Run.ret (fin_ret (.tmp rfl .nil) rfl ?_))
     rfl
def cnt (R:Rst):Nat→Rid→Nat
  | 0,_=>1
  | k+1,d=>(if R.brk d 0=0 then cnt R k (d.then 0) else 0)+(if R.brk d 1=0 then cnt R k (d.then 1) else 0)
def cl:Nat→List Int
  | 0=>[]
  | c+1=>[((c+1:Nat):Int)]
theorem cnt_le (R:Rst):∀ (k:Nat) (d:Rid),cnt R k d≤2 ^ k
  | 0,_=>Nat.le_refl _
  | k + 1, d => by
    have h0:=cnt_le R k (d.then 0)
    have h1:=cnt_le R k (d.then 1)
    simp only [cnt]
    rw [Nat.pow_succ]
    split<;>split<;>omega
def keyA (d:Rid):AV:=.agg [.int .i64 d.r,.int .i64 d.n,.int .i64 d.a,.int .i64 d.b]
theorem keyA_of (d:Rid):PV.toAV (.agg d.cells)=some (keyA d):=rfl
theorem keyA_check (d:Rid):acheck A0 20 148 (keyA d)=true:=by kernel_rfl
theorem keyA_same (d:Rid):asame 20 (keyA d) (keyA d)=true:=by
  simp [keyA,asame,asames]
def chain (b1 b2 b3 b4 : Bool) : Option Bool :=
  match (match b1 with
    | true => (match b2 with
      | true=>some true
      | false=>some false)
    | false=>some false:Option Bool) with
  | some true => (match (match b3 with
      | true => (match b4 with
        | true=>some true
        | false=>some false)
      | false=>some false:Option Bool) with
    | some true=>some true
    | some false=>some false
    | none=>none)
  | some false=>some false
  | none=>none
theorem keyA_chain (d d':Rid):aeqv A0 E0 20 148 (keyA d) (keyA d')=chain (d.r == d'.r) (d.n == d'.n) (d.a == d'.a) (d.b == d'.b):=by kernel_rfl
theorem keyA_eq (d d':Rid):∃ b,aeqv A0 E0 20 148 (keyA d) (keyA d')=some b∧(b=true→keyA d'=keyA d):=by
  rw [keyA_chain]
  refine ⟨(d.r == d'.r) && (d.n == d'.n) && (d.a == d'.a) && (d.b == d'.b),?_,fun h=>?_⟩
  · cases (d.r == d'.r)<;>cases (d.n == d'.n)<;>cases (d.a == d'.a)<;>cases (d.b == d'.b)<;>rfl
  · simp only [Bool.and_eq_true, beq_iff_eq] at h
    obtain ⟨⟨⟨h1,h2⟩,h3⟩,h4⟩:=h
    simp only [keyA,h1,h2,h3,h4]
def Memo (R:Rst) (es:List (AV×PV×Nat)):Prop:=∀ e∈es,∃ d:Rid,e.1=keyA d∧∃ tl:Tail,tl.isOwn=false∧e.2.1=.sl tl ((cl (cnt R (R.m - (d.a+d.b).toNat) d)).map I)
theorem memo_find {R:Rst} (d:Rid):∀ (es:List (AV×PV×Nat)) (i:Nat),Memo R es→∃ r,pfind A0 E0 148 (keyA d) es i=some r∧∀ j v,r=some (j,v)→i≤j∧∃ e,es[j - i]?=some e∧e.1=keyA d∧e.2.1=v
  | [],i,_=>⟨none,rfl,fun j v h=>by cases h⟩
  | e :: es, i, hm => by
    obtain ⟨d',hd',_⟩:=hm e (by simp)
    obtain ⟨b,hb1,hb2⟩:=keyA_eq d d'
    simp only [pfind,hd',hb1]
    cases b with
    | true=>exact ⟨_,rfl,fun j v h=>by cases h;exact ⟨Nat.le_refl _,e,by simp,hd'.trans (hb2 rfl),rfl⟩⟩
    | false =>
      obtain ⟨r,hr1,hr2⟩:=memo_find d es (i+1) fun x hx=>hm x (List.mem_cons_of_mem _ hx)
      refine ⟨r,hr1,fun j v h=>?_⟩
      obtain ⟨h1,e',h2,h3⟩:=hr2 j v h
      refine ⟨by omega,e',?_,h3⟩
      rw [show j - i=(j - (i+1))+1 from by omega]
      simpa using h2
end Go.Pv
namespace Go.Pv
open Go.Am Go.RowKit
section
variable {C:Cx} {F:EQ} {X:EX} {k:List KI} {e:EL} {ds:List Nat} {h:PH}
theorem Run.drawB (hC:C.Ok) {id:Nat} {ops:Array Oper} (i:Nat) (ord:List (Nat×Bool×Bool)) (hd:drwS C.M ops.toList=some ord) (hr:DraS C F X k (fun h'=>h'.get i=h.get i) ops.toList ord e ds h):Run C F X (.c (.region id ops true)::k) e ds h :=
 Run.drawS hC _ ord hd hr
theorem StabS.at {t:TypeId} {a:Operand} {i o:Nat} {g:Option PBlk} {dd:Option Nat} {type:TypeId} {pos:String} {after:Array Edge} {guard:Option (Nat×Bool)} (ha:pev (lget e) a=some (.ptr i o)):StabS C.A C.E (fun h=>h.get i=g) (lget e) { dst:=dd,op:=.load t a,type,pos,after,guard }:=by
 intro h h' h1 h2
 simp only [pquiet,ha]
 unfold pload
 simp only [h1,h2]
end
end Go.Pv
namespace Go.Pv
open Go.Proofs Go.Am
set_option maxRecDepth 10000
theorem keyA_inj {d d':Rid} (h:keyA d=keyA d'):d=d':=by
  cases d;cases d'
  simp only [keyA,AV.agg.injEq,List.cons.injEq,AV.int.injEq,true_and,and_true] at h
  obtain ⟨rfl,rfl,rfl,rfl⟩:=h
  rfl
theorem memo_val {R:Rst} {d:Rid} {k:Nat} {es:List (AV×PV×Nat)} {v:PV} (hm:Memo R es) (hpos:0≤d.a+d.b) (hk:d.a+d.b+k=R.m) (he:∃ e∈es,e.1=keyA d∧e.2.1=v):∃ tl:Tail,tl.isOwn=false∧v=.sl tl ((cl (cnt R k d)).map I):=by
  obtain ⟨e,h1,h2,rfl⟩:=he
  obtain ⟨d',h3,tl,h4,h5⟩:=hm e h1
  have:=keyA_inj (h2.symm.trans h3)
  subst this
  refine ⟨tl,h4,?_⟩
  rw [h5]
  have:R.m - (d.a+d.b).toNat=k:=by omega
  rw [this]
theorem bds_I3:∀ xs:List Int,PV.bds 3 (xs.map I)=true
  | []=>rfl
  | x :: xs => by
    simp only [List.map_cons,PV.bds,bds_I3 xs,Bool.and_true]
    rfl
theorem bd_I3 {tl:Tail} (htl:tl.isOwn=false) (xs:List Int):(PV.sl tl (xs.map I)).bd 3=true:=by
  cases tl<;>simp only [Tail.isOwn,Bool.true_eq_false] at htl<;>simp [PV.bd,bds_I3]
theorem memo_bd {R:Rst} {es:List (AV×PV×Nat)} (hm:Memo R es):∀ e∈es,e.2.1.bd 3=true:=by
  intro e he
  obtain ⟨d,_,tl,htl,h⟩:=hm e he
  rw [h]
  exact bd_I3 htl _
theorem memo_app {R:Rst} {d:Rid} {k:Nat} {es:List (AV×PV×Nat)} {tl:Tail} {clock:Nat} (hm:Memo R es) (hpos:0≤d.a+d.b) (hk:d.a+d.b+k=R.m) (htl:tl.isOwn=false):Memo R (es++[(keyA d,.sl tl ((cl (cnt R k d)).map I),clock)]):=by
  intro e he
  rcases List.mem_append.1 he with he | he
  · exact hm e he
  · simp only [List.mem_singleton] at he
    subst he
    refine ⟨d,rfl,tl,htl,?_⟩
    have:R.m - (d.a+d.b).toNat=k:=by omega
    simp only [this]
theorem mem_psetAt:∀ {es:List (AV×PV×Nat)} {j:Nat} {ka:AV} {v:PV} {e:AV×PV×Nat},e∈psetAt es j ka v→e∈es∨(e.1=ka∧e.2.1=v)
  | [],_,_,_,_,h=>by simp [psetAt] at h
  | x :: es, 0, ka, v, e, h => by
    simp only [psetAt,List.mem_cons] at h
    rcases h with rfl | h
    · exact .inr ⟨rfl,rfl⟩
    · exact .inl (List.mem_cons_of_mem _ h)
  | x :: es, j + 1, ka, v, e, h => by
    simp only [psetAt,List.mem_cons] at h
    rcases h with rfl | h
    · exact .inl (List.mem_cons_self ..)
    · exact (mem_psetAt h).imp (List.mem_cons_of_mem _) id
theorem psetAt_has:∀ {es:List (AV×PV×Nat)} {j:Nat} {ka:AV} {v:PV},j < es.length→∃ e∈psetAt es j ka v,e.1=ka
  | [],_,_,_,h=>by simp at h
  | x::es,0,ka,v,h=>⟨(ka,v,x.2.2),by simp [psetAt],rfl⟩
  | x :: es, j + 1, ka, v, h => by
    obtain ⟨e,h1,h2⟩:=psetAt_has (es:=es) (j:=j) (ka:=ka) (v:=v) (by simpa using h)
    exact ⟨e,by simp [psetAt,h1],h2⟩
theorem memo_set {R:Rst} {d:Rid} {k:Nat} {es:List (AV×PV×Nat)} {tl:Tail} {j:Nat} (hm:Memo R es) (hpos:0≤d.a+d.b) (hk:d.a+d.b+k=R.m) (htl:tl.isOwn=false):Memo R (psetAt es j (keyA d) (.sl tl ((cl (cnt R k d)).map I))):=by
  intro e he
  rcases mem_psetAt he with he | ⟨h1,h2⟩
  · exact hm e he
  · refine ⟨d, h1, tl, htl, ?_⟩
    have:R.m - (d.a+d.b).toNat=k:=by omega
    rw [h2,this]
theorem memo_has {R : Rst} (d : Rid) : ∀ (es : List (AV × PV × Nat)) (i : Nat), Memo R es → (∃ e ∈ es, e.1 = keyA d) → ∃ j v, pfind A0 E0 148 (keyA d) es i = some (some (j, v)) ∧ ∃ e ∈ es, e.1 = keyA d ∧ e.2.1 = v
  | [],i,_,h=>by obtain ⟨e,he,_⟩:=h;cases he
  | e :: es, i, hm, h => by
    obtain ⟨d',hd',_⟩:=hm e (by simp)
    have hself:aeqv A0 E0 20 148 (keyA d) (keyA d)=some true:=by
      rw [keyA_chain]
      simp [chain]
    by_cases he:e.1=keyA d
    · refine ⟨i, e.2.1, ?_, e, by simp, he, rfl⟩
      simp only [pfind,he,hself]
    · obtain ⟨b, hb1, hb2⟩ := keyA_eq d d'
      have hbf:b=false:=by
        cases b with
        | false=>rfl
        | true=>exact absurd (hd'.trans (hb2 rfl)) he
      subst hbf
      have h':∃ e∈es,e.1=keyA d:=by
        obtain ⟨e',h1,h2⟩:=h
        rcases List.mem_cons.1 h1 with rfl | h1
        · exact absurd h2 he
        · exact ⟨e',h1,h2⟩
      obtain ⟨j,v,h1,e2,h2,h3⟩:=memo_has d es (i+1) (fun x hx=>hm x (List.mem_cons_of_mem _ hx)) h'
      refine ⟨j,v,?_,e2,List.mem_cons_of_mem _ h2,h3⟩
      simp only [pfind,hd',hb1]
      exact h1
def stepsX (R:Rst) (k:Nat) (d:Rid) (i:Nat):List Int:=((nextX R d 0).take i).flatMap fun x=>cl (cnt R k (d.then x))
theorem stepsX_succ {R:Rst} {k:Nat} {d:Rid} {i:Nat} {x:Int} (h:(nextX R d 0)[i]?=some x):stepsX R k d (i+1)=stepsX R k d i++cl (cnt R k (d.then x)):=by
  obtain ⟨hlt,hx⟩:=List.getElem?_eq_some_iff.1 h
  simp only [stepsX,List.take_succ_eq_append_getElem hlt,hx,List.flatMap_append,List.flatMap_cons,List.flatMap_nil,List.append_nil]
theorem nextX_len (R:Rst) (d:Rid):(nextX R d 0).length≤2:=by
  simp only [nextX]
  split<;>split<;>simp
theorem nextX_mem {R:Rst} {d:Rid} {x:Int} (h:x∈nextX R d 0):(x=0∨x=1)∧R.brk d x=0:=by
  simp only [nextX,List.mem_append] at h
  rcases h with h | h
  · split at h
    · next hb=>simp at h;subst h;exact ⟨.inl rfl,hb⟩
    · simp at h
  · split at h
    · next hb=>simp at h;subst h;exact ⟨.inr rfl,hb⟩
    · simp at h
theorem cl_len (c:Nat):(cl c).length≤1:=by cases c<;>simp [cl]
theorem stepsX_len (R : Rst) (k : Nat) (d : Rid) : ∀ i, (stepsX R k d i).length ≤ i
  | 0=>by simp [stepsX]
  | i + 1 => by
    cases h:(nextX R d 0)[i]? with
    | none =>
      have:stepsX R k d (i+1)=stepsX R k d i:=by
        have hl:=List.getElem?_eq_none_iff.1 h
        simp only [stepsX]
        rw [List.take_of_length_le (by omega),List.take_of_length_le (by omega)]
      rw [this]
      exact Nat.le_succ_of_le (stepsX_len R k d i)
    | some x =>
      rw [stepsX_succ h,List.length_append]
      have:=stepsX_len R k d i
      have:=cl_len (cnt R k (d.then x))
      omega
theorem stepsX_all (R:Rst) (k:Nat) (d:Rid):stepsX R k d (nextX R d 0).length=(if R.brk d 0=0 then cl (cnt R k (d.then 0)) else [])++(if R.brk d 1=0 then cl (cnt R k (d.then 1)) else []):=by
  simp only [stepsX,List.take_length,nextX]
  split<;>split<;>simp
theorem joined_ok (R : Rst) (k : Nat) (hk : k < 16) (d : Rid) : ∃ tl : Tail, tl.isOwn = false ∧ Fn P0 167 [.fn (.func 170) [] [], .sl .no ((stepsX R k d (nextX R d 0).length).map I)] (.sl tl ((cl (cnt R (k + 1) d)).map I)) := by
  rw [stepsX_all]
  have h0:=cnt_le R k (d.then 0)
  have h1:=cnt_le R k (d.then 1)
  have hp:2 ^ k≤2 ^ 16:=Nat.pow_le_pow_right (by decide) (by omega)
  simp only [cnt]
  by_cases hb0:R.brk d 0=0
  · by_cases hb1 : R.brk d 1 = 0
    · simp only [hb0, hb1, if_true]
      cases hc0:cnt R k (d.then 0) with
      | zero =>
        refine ⟨.no,rfl,?_⟩
        rw [Nat.zero_add]
        exact f167a .no rfl _ (by show (cl (cnt R k (d.then 1))).length < 2;have:=cl_len (cnt R k (d.then 1));omega)
      | succ a =>
        cases hc1:cnt R k (d.then 1) with
        | zero =>
          refine ⟨.no,rfl,?_⟩
          exact f167a .no rfl _ (by simp [cl])
        | succ b =>
          refine ⟨.ex,rfl,?_⟩
          have h:=f167b .no rfl ((a+1:Nat):Int) ((b+1:Nat):Int) (by omega)
          have e:((a+1:Nat):Int)+((b+1:Nat):Int)=((a+1+b+1:Nat):Int):=by omega
          rw [e] at h
          exact h
    · simp only [hb0, hb1, if_true, if_false, List.append_nil, Nat.add_zero]
      exact ⟨.no,rfl,f167a .no rfl _ (by have:=cl_len (cnt R k (d.then 0));omega)⟩
  · by_cases hb1 : R.brk d 1 = 0
    · simp only [hb0, hb1, if_true, if_false, List.nil_append, Nat.zero_add]
      exact ⟨.no,rfl,f167a .no rfl _ (by have:=cl_len (cnt R k (d.then 1));omega)⟩
    · simp only [hb0, hb1, if_false, List.append_nil, Nat.add_zero]
      exact ⟨.no,rfl,f167a .no rfl _ (by simp)⟩
end Go.Pv
namespace Go.Pv
open Go.Proofs Go.Am
set_option maxRecDepth 10000
abbrev capsN (R:Rst):List PV:=[.fp (.agg R.cells),.fp (.agg qN),.fp (.mp 0),.ptr 2 0]
abbrev cloN (R:Rst):PBlk:=.cells [.fn (.func 165) [] (capsN R)]
def tlO:Option Nat→Tail
  | none=>.ex
  | some j=>.own (j+6)
def ownO:Option Nat→HL
  | none=>[]
  | some j=>[(j+6,some .own)]
def nxO:Option Nat→Nat
  | none=>6
  | some j=>j+7
def pick2 {α:Type} (a b:α):Nat→α
  | 0=>a
  | _=>b
theorem hs_round {m:Nat} {a b c d:Option PBlk} {rest:HL} (hm5:m≠5) (h5:hget rest 5=none) (hm:hget rest m=none):∀ i x,hget ((5,d)::rest) i=some x→hget ((m,none)::(5,d)::(m,a)::(m,b)::(5,c)::rest) i=some x:=by
  intro i x h
  by_cases h1:i=m
  · subst h1
    rw [hget_tl hm5,hm] at h
    cases h
  · rw [hget_tl h1]
    by_cases h2:i=5
    · subst h2
      rw [hget_hd] at h ⊢
      exact h
    · rw [hget_tl h2] at h ⊢
      rw [hget_tl h1,hget_tl h1,hget_tl h2]
      exact h
theorem f165z (R:Rst) (hR:R.ok) (i:Nat) (d:Rid) (es:List (AV×PV×Nat)) (clock:Nat) (hd:d.ok i) (hi:i≤16) (hk:d.a+d.b=R.m) (hm:Memo R es) :
    PCall P0 165 (.agg d.cells::capsN R) (HE 3 [(0,some (.map es clock)),(2,some (cloN R))]) (fun v h'=>∃ es' clock',h'=HE 3 [(0,some (.map es' clock')),(2,some (cloN R))]∧(Memo R es'∧∃ tl:Tail,tl.isOwn=false∧v=.sl tl ((cl (cnt R 0 d)).map I))) fun _ _=>False:=by
  obtain ⟨⟨hd1,hd2⟩,⟨hd3,hd4⟩,hd5,hd6⟩:=hd
  refine PCall.ofH (C:=c165) (cx_ok _ _ _) rfl (fn:=Tryz.f165) (by kernel_rfl) (c:=_) rfl rfl rfl (fun hok=>?_)
  refine Run.seq (Run.region (cx_ok _ _ _) (Reg.op rfl (Ope.boxF rfl rfl ?_)))
  refine Reg.op rfl (Ope.asg rfl ?_)
  refine Reg.nil (Run.seq (Run.seq (Run.draw (cx_ok _ _ _) [(0,true),(2,true),(3,true),(4,false),(1,true),(5,true)] (by kernel_rfl) (Dra.op' rfl rfl rfl .sure (Ope.load rfl rfl ?_)))))
  refine Dra.op' rfl rfl rfl .sure (Ope.fld rfl rfl ?_)
  refine Dra.op' rfl rfl rfl .sure (Ope.fld rfl rfl ?_)
  refine Dra.op' rfl rfl rfl (.load rfl) (Ope.load rfl rfl ?_)
  refine Dra.op' rfl rfl rfl .sure (Ope.cf rfl rfl (f164 _ _ _ _ (by omega) (by omega)) rfl ?_)
  refine Dra.op' rfl rfl rfl .sure (Ope.eq rfl rfl ?_)
  refine Dra.nil (Run.condX rfl (fun hc=>?_) fun hc=>?_)
  ·refine Run.seq (Run.region (cx_ok _ _ _) (Reg.op rfl (Ope.fld rfl rfl ?_)))
   refine Reg.op rfl (Ope.load rfl rfl ?_)
   refine Reg.op rfl (Ope.load rfl rfl ?_)
   refine Reg.op rfl (Ope.cf rfl rfl (f168 d) rfl ?_)
   refine Reg.op rfl (Ope.bsl rfl rfl rfl rfl ?_)
   refine Reg.op rfl (Ope.asg rfl ?_)
   exact Reg.nil (Run.ret (Jmp.code (finC_ret (.tmp rfl .nil) rfl (by rw [HE_cut3 rfl rfl rfl];exact ok3 (memo_bd hm) rfl) ⟨es,clock,HE_cut3 rfl rfl rfl,hm,.ex,rfl,rfl⟩)))
  ·exfalso;omega
theorem f165s (R : Rst) (hR : R.ok) (k i : Nat)
    (ih:∀ (d:Rid) (es:List (AV×PV×Nat)) (clock:Nat),d.ok (i+1)→d.a+d.b+k=R.m→Memo R es→PCall P0 165 (.agg d.cells::capsN R) (HE 3 [(0,some (.map es clock)),(2,some (cloN R))]) (fun v h'=>∃ es' clock',h'=HE 3 [(0,some (.map es' clock')),(2,some (cloN R))]∧(Memo R es'∧∃ tl:Tail,tl.isOwn=false∧v=.sl tl ((cl (cnt R k d)).map I))) fun _ _=>False)
    (d:Rid) (es:List (AV×PV×Nat)) (clock:Nat) (hd:d.ok i) (hi:i+(k+1)≤16) (hk:d.a+d.b+(k+1:Nat)=R.m) (hm:Memo R es) :
    PCall P0 165 (.agg d.cells::capsN R) (HE 3 [(0,some (.map es clock)),(2,some (cloN R))]) (fun v h'=>∃ es' clock',h'=HE 3 [(0,some (.map es' clock')),(2,some (cloN R))]∧(Memo R es'∧∃ tl:Tail,tl.isOwn=false∧v=.sl tl ((cl (cnt R (k+1) d)).map I))) fun _ _=>False:=by
  have hdo:=hd
  obtain ⟨⟨hd1,hd2⟩,⟨hd3,hd4⟩,hd5,hd6⟩:=hd
  have hm16:=hR.1
  have hd16:d.ok 16:=⟨⟨hd1,by omega⟩,⟨hd3,by omega⟩,hd5,by omega⟩
  refine PCall.ofH (C:=c165) (cx_ok _ _ _) rfl (fn:=Tryz.f165) (by kernel_rfl) (c:=_) rfl rfl rfl (fun hok=>?_)
  refine Run.seq (Run.region (cx_ok _ _ _) (Reg.op rfl (Ope.boxF rfl rfl ?_)))
  refine Reg.op rfl (Ope.asg rfl ?_)
  refine Reg.nil (Run.seq (Run.seq (Run.draw (cx_ok _ _ _) [(0,true),(2,true),(3,true),(4,false),(1,true),(5,true)] (by kernel_rfl) (Dra.op' rfl rfl rfl .sure (Ope.load rfl rfl ?_)))))
  refine Dra.op' rfl rfl rfl .sure (Ope.fld rfl rfl ?_)
  refine Dra.op' rfl rfl rfl .sure (Ope.fld rfl rfl ?_)
  refine Dra.op' rfl rfl rfl (.load rfl) (Ope.load rfl rfl ?_)
  refine Dra.op' rfl rfl rfl .sure (Ope.cf rfl rfl (f164 _ _ _ _ (by omega) (by omega)) rfl ?_)
  refine Dra.op' rfl rfl rfl .sure (Ope.eq rfl rfl ?_)
  refine Dra.nil (Run.condX rfl (fun hc=>?_) fun hc=>?_)
  ·exfalso;omega
  ·refine Run.skip (Run.seq (Run.seq ?_))
   obtain ⟨r,hr1,hr2⟩:=memo_find d es 0 hm
   refine Run.region (cx_ok _ _ _) (Reg.op rfl (Ope.load rfl rfl ?_))
   refine Reg.op rfl (Ope.load rfl rfl ?_)
   rcases r with _ | ⟨jj,vv⟩
   all_goals refine Reg.op rfl (Ope.look rfl rfl (keyA_of d) rfl (keyA_check d) hr1 ?_)
   ·refine Reg.op rfl (Ope.mov rfl ?_)
    refine Reg.op rfl (Ope.ext rfl rfl ?_)
    refine Reg.op rfl (Ope.ext rfl rfl ?_)
    refine Reg.op rfl (Ope.asg rfl ?_)
    refine Reg.op rfl (Ope.asg rfl ?_)
    refine Reg.nil (Run.seq (Run.region (cx_ok _ _ _) (Reg.op rfl (Ope.mov rfl ?_))))
    refine Reg.nil (Run.condX rfl (fun hc=>?_) fun hc=>?_)
    ·(cases hc;done)
    ·refine Run.skip (Run.seq (Run.region (cx_ok _ _ _) (Reg.op rfl (Ope.newL rfl ?_))))
     refine Reg.nil (Run.seq (Run.seq (Run.region (cx_ok _ _ _) (Reg.op rfl (Ope.load rfl rfl ?_)))))
     refine Reg.op rfl (Ope.load rfl rfl ?_)
     refine Reg.op rfl (Ope.cf rfl rfl (f166 R d) rfl ?_)
     refine Reg.nil (Run.block (Run.rangeF (cx_ok _ _ _) rfl (α:=List (AV×PV×Nat)×Nat×List Int×Option Nat) (fun s=>(3,some (.cells [.sl (tlO s.2.2.2) (s.2.2.1.map I)]))::(ownO s.2.2.2++[(0,some (.map s.1 s.2.1)),(1,none),(2,some (cloN R))])) (fun s=>nxO s.2.2.2) (fun q s=>Memo R s.1∧s.2.2.1=stepsX R k d q∧(s.2.2.2=none↔s.2.2.1=[])) rfl (f192 R hR d hd16 (by omega)) rfl rfl ⟨Tryz.f165,by kernel_rfl⟩ (es,clock,[],none) ⟨hm,by simp [stepsX],by simp⟩ (Hsub.cons rfl (Hsub.cons rfl (Hsub.cons rfl (Hsub.cons rfl Hsub.nil)))) (by rintro ⟨_,_,_,_ | j⟩ p hp<;>simp [ownO] at hp<;>rcases hp with rfl | rfl | rfl | rfl | rfl<;>simp) (by intro p hp;simp [ownO] at hp;rcases hp with rfl | rfl | rfl | rfl<;>simp) (by simp [nxO]) (fun q s v hv hI m hm1 hm2 lb=>?_) (fun s hI m hm1 hm2=>?_)))
     ·obtain ⟨es1,clock1,st,ow⟩:=s
      obtain ⟨hI1,hI2,hI3⟩:=hI
      simp only at hm1 hI1 hI2 hI3
      obtain ⟨μ,rfl⟩:∃ μ,m=μ+6:=⟨m - 6,by omega⟩
      obtain ⟨x,hx,rfl⟩:∃ x,(nextX R d 0)[q]?=some x∧v=rideV d x:=by
        rw [List.getElem?_map] at hv
        cases hq:(nextX R d 0)[q]? with
        | none=>rw [hq] at hv;cases hv
        | some x=>rw [hq] at hv;cases hv;exact ⟨x,rfl,rfl⟩
      obtain ⟨hx01,hbx⟩:=nextX_mem (List.mem_of_getElem? hx)
      have hq2:q < 2:=by
        have:=(List.getElem?_eq_some_iff.1 hx).1
        have:=nextX_len R d
        omega
      have hst:st.length≤q:=by rw [hI2];exact stepsX_len R k d q
      have hsucc:=stepsX_succ (k:=k) hx
      have ihx:=ih (d.then x) es1 clock1 (Rid.ok_then hdo) (by rcases hx01 with rfl | rfl<;>simp [Rid.then]<;>omega) hI1
      show Run _ _ _ _ _ [] (HE (μ+6) ((5,some lb)::(4,some .dfr)::(3,some (.cells [.sl (tlO ow) (st.map I)]))::(ownO ow++[(0,some (.map es1 clock1)),(1,none),(2,some (cloN R))])))
      rcases hcn:cnt R k (d.then x) with _ | c<;>rcases ow with _ | j<;>rw [hcn] at ihx hsucc<;>simp only [nxO] at hm1<;>first | (obtain rfl:st=[]:=hI3.1 rfl) | skip
      ·refine Run.region (Cx.Ok.rnd (cx_ok _ _ _)) (Reg.op rfl (Ope.newL rfl ?_))
       refine Reg.op0 (Ope.store rfl rfl hget_hd rfl rfl rfl ?_)
       refine Reg.nil (Run.done ⟨rfl,rfl,_,_,rfl,(hget_tl (by omega)).trans ((hget_tl (by omega)).trans hget_hd),fun lb2=>?_⟩)
       refine Run.block (Run.seq (Run.frz (d:=10) true rfl ((hget_tl (by omega)).trans hget_hd) rfl ?_))
       refine Run.wideS (m:=μ+7) (Nat.le_refl _) (hs_round (by omega) (by rfl) (by repeat (first | rfl | refine (hget_tl (by omega)).trans ?_))) ?_
       refine Run.region (Cx.Ok.rnd (cx_ok _ _ _)) (Reg.op rfl (Ope.loadH rfl rfl rfl ?_))
       refine Reg.op rfl (Ope.fld rfl rfl ?_)
       refine Reg.op rfl (Ope.load rfl rfl ?_)
       refine Reg.op rfl (Ope.callM (clo:=cloN R) rfl rfl rfl rfl rfl (by omega) rfl (memo_bd hI1) rfl ihx (fun v es2 clock2 hq=>?_))
       obtain ⟨hq1,tl,htl,rfl⟩:=hq
       first
         | refine Reg.op rfl (Ope.len (m:=0) rfl rfl ?_)
         | refine Reg.op rfl (Ope.len (m:=1) rfl rfl ?_)
       refine Reg.op rfl (Ope.mov rfl ?_)
       refine Reg.nil (Run.block ?_)
       first
         | refine Run.loop (α:=Nat) (fun z=>[(2,.fp (.agg qN)),(9,.ptr 3 0),(10,.fp (rideV d x)),(39,.sl tl []),(40,I ((0:Nat):Int)),(41,I z)]) (Function.const Nat _) (fun z=>z=0) (fun _=>0) 0 ⟨rfl,rfl,rfl,rfl,rfl,rfl,trivial⟩ rfl rfl (fun z hz=>?_)
         | refine Run.loop (α:=Nat) (fun z=>[(2,.fp (.agg qN)),(9,.ptr 3 0),(10,.fp (rideV d x)),(39,.sl tl [I ((c+1:Nat):Int)]),(40,I ((1:Nat):Int)),(41,I z)]) (pick2 _ (HE (μ+8) ((3,some (.cells [.sl (.own (μ+7)) ((st++[((c+1:Nat):Int)]).map I)]))::(μ+7,some .own)::(j+6,none)::(0,some (.map es2 clock2))::(5,some lb2)::(4,some .dfr)::(3,some (.cells [.sl (.own (j+6)) (st.map I)]))::(j+6,some .own)::[(0,some (.map es1 clock1)),(1,none),(2,some (cloN R))]))) (fun z=>z≤1) (fun z=>1 - z) 0 ⟨rfl,rfl,rfl,rfl,rfl,rfl,trivial⟩ rfl (by decide) (fun z hz=>?_)
         | refine Run.loop (α:=Nat) (fun z=>[(2,.fp (.agg qN)),(9,.ptr 3 0),(10,.fp (rideV d x)),(39,.sl tl [I ((c+1:Nat):Int)]),(40,I ((1:Nat):Int)),(41,I z)]) (pick2 _ (HE (μ+8) ((3,some (.cells [.sl (.own (μ+7)) [I ((c+1:Nat):Int)]]))::(μ+7,some .own)::(0,some (.map es2 clock2))::(5,some lb2)::(4,some .dfr)::(3,some (.cells [.sl .ex []]))::[(0,some (.map es1 clock1)),(1,none),(2,some (cloN R))]))) (fun z=>z≤1) (fun z=>1 - z) 0 ⟨rfl,rfl,rfl,rfl,rfl,rfl,trivial⟩ rfl (by decide) (fun z hz=>?_)
       rcases (by omega:z=0∨z=1) with rfl | rfl
       ·refine Run.seq (Run.region (Cx.Ok.rnd (cx_ok _ _ _)) (Reg.op rfl (Ope.lt rfl rfl ?_)))
        refine Reg.nil (Run.seq (Run.condX rfl (fun hc=>?_) fun hc=>?_))
        ·(exfalso;omega)
        ·refine Run.exit (Jmp.code (Jmp.round (Jmp.here (Run.bend ?_))))
         first
           | exact Run.done ⟨rfl,_,_,rfl,by omega,rfl,(es2,clock2,[],none),by show 6≤_;omega,(Hsub.cons rfl (Hsub.cons rfl (Hsub.cons rfl (Hsub.cons rfl (Hsub.cons rfl Hsub.nil))))),hq1,by rw [hsucc,← hI2];rfl,by simp⟩
           | exact Run.done ⟨rfl,_,_,rfl,by omega,rfl,(es2,clock2,st,some j),by show j+7≤_;omega,(Hsub.cons rfl (Hsub.cons rfl (Hsub.cons ((hget_tl (by omega)).trans ((hget_tl (by omega)).trans ((hget_tl (by omega)).trans ((hget_tl (by omega)).trans hget_hd)))) (Hsub.cons rfl (Hsub.cons rfl (Hsub.cons rfl Hsub.nil)))))),hq1,by rw [hsucc,← hI2];exact (List.append_nil st).symm,hI3⟩
           | exact Run.done ⟨rfl,_,_,rfl,by omega,rfl,(es2,clock2,[((c+1:Nat):Int)],some (μ+1)),by show μ+1+7≤μ+8;omega,(Hsub.cons rfl (Hsub.cons rfl (Hsub.cons ((hget_tl (by omega)).trans hget_hd) (Hsub.cons rfl (Hsub.cons rfl (Hsub.cons rfl Hsub.nil)))))),hq1,by rw [hsucc,← hI2];rfl,by simp⟩
           | exact Run.done ⟨rfl,_,_,rfl,by omega,rfl,(es2,clock2,st++[((c+1:Nat):Int)],some (μ+1)),by show μ+1+7≤μ+8;omega,(Hsub.cons rfl (Hsub.cons rfl (Hsub.cons ((hget_tl (by omega)).trans hget_hd) (Hsub.cons rfl (Hsub.cons rfl (Hsub.cons rfl Hsub.nil)))))),hq1,by rw [hsucc,← hI2];rfl,by simp⟩
       ·refine Run.seq (Run.region (Cx.Ok.rnd (cx_ok _ _ _)) (Reg.op rfl (Ope.lt rfl rfl ?_)))
        refine Reg.nil (Run.seq (Run.condX rfl (fun hc=>?_) fun hc=>?_))
        ·(exfalso;omega)
        ·(exfalso;omega)
      ·refine Run.region (Cx.Ok.rnd (cx_ok _ _ _)) (Reg.op rfl (Ope.newL rfl ?_))
       refine Reg.op0 (Ope.store rfl rfl hget_hd rfl rfl rfl ?_)
       refine Reg.nil (Run.done ⟨rfl,rfl,_,_,rfl,(hget_tl (by omega)).trans ((hget_tl (by omega)).trans hget_hd),fun lb2=>?_⟩)
       refine Run.block (Run.seq (Run.frz (d:=10) true rfl ((hget_tl (by omega)).trans hget_hd) rfl ?_))
       refine Run.wideS (m:=μ+7) (Nat.le_refl _) (hs_round (by omega) (by rfl) (by repeat (first | rfl | refine (hget_tl (by omega)).trans ?_))) ?_
       refine Run.region (Cx.Ok.rnd (cx_ok _ _ _)) (Reg.op rfl (Ope.loadH rfl rfl rfl ?_))
       refine Reg.op rfl (Ope.fld rfl rfl ?_)
       refine Reg.op rfl (Ope.load rfl rfl ?_)
       refine Reg.op rfl (Ope.callM (clo:=cloN R) rfl rfl rfl rfl rfl (by omega) rfl (memo_bd hI1) rfl ihx (fun v es2 clock2 hq=>?_))
       obtain ⟨hq1,tl,htl,rfl⟩:=hq
       first
         | refine Reg.op rfl (Ope.len (m:=0) rfl rfl ?_)
         | refine Reg.op rfl (Ope.len (m:=1) rfl rfl ?_)
       refine Reg.op rfl (Ope.mov rfl ?_)
       refine Reg.nil (Run.block ?_)
       first
         | refine Run.loop (α:=Nat) (fun z=>[(2,.fp (.agg qN)),(9,.ptr 3 0),(10,.fp (rideV d x)),(39,.sl tl []),(40,I ((0:Nat):Int)),(41,I z)]) (Function.const Nat _) (fun z=>z=0) (fun _=>0) 0 ⟨rfl,rfl,rfl,rfl,rfl,rfl,trivial⟩ rfl rfl (fun z hz=>?_)
         | refine Run.loop (α:=Nat) (fun z=>[(2,.fp (.agg qN)),(9,.ptr 3 0),(10,.fp (rideV d x)),(39,.sl tl [I ((c+1:Nat):Int)]),(40,I ((1:Nat):Int)),(41,I z)]) (pick2 _ (HE (μ+8) ((3,some (.cells [.sl (.own (μ+7)) ((st++[((c+1:Nat):Int)]).map I)]))::(μ+7,some .own)::(j+6,none)::(0,some (.map es2 clock2))::(5,some lb2)::(4,some .dfr)::(3,some (.cells [.sl (.own (j+6)) (st.map I)]))::(j+6,some .own)::[(0,some (.map es1 clock1)),(1,none),(2,some (cloN R))]))) (fun z=>z≤1) (fun z=>1 - z) 0 ⟨rfl,rfl,rfl,rfl,rfl,rfl,trivial⟩ rfl (by decide) (fun z hz=>?_)
         | refine Run.loop (α:=Nat) (fun z=>[(2,.fp (.agg qN)),(9,.ptr 3 0),(10,.fp (rideV d x)),(39,.sl tl [I ((c+1:Nat):Int)]),(40,I ((1:Nat):Int)),(41,I z)]) (pick2 _ (HE (μ+8) ((3,some (.cells [.sl (.own (μ+7)) [I ((c+1:Nat):Int)]]))::(μ+7,some .own)::(0,some (.map es2 clock2))::(5,some lb2)::(4,some .dfr)::(3,some (.cells [.sl .ex []]))::[(0,some (.map es1 clock1)),(1,none),(2,some (cloN R))]))) (fun z=>z≤1) (fun z=>1 - z) 0 ⟨rfl,rfl,rfl,rfl,rfl,rfl,trivial⟩ rfl (by decide) (fun z hz=>?_)
       rcases (by omega:z=0∨z=1) with rfl | rfl
       ·refine Run.seq (Run.region (Cx.Ok.rnd (cx_ok _ _ _)) (Reg.op rfl (Ope.lt rfl rfl ?_)))
        refine Reg.nil (Run.seq (Run.condX rfl (fun hc=>?_) fun hc=>?_))
        ·(exfalso;omega)
        ·refine Run.exit (Jmp.code (Jmp.round (Jmp.here (Run.bend ?_))))
         first
           | exact Run.done ⟨rfl,_,_,rfl,by omega,rfl,(es2,clock2,[],none),by show 6≤_;omega,(Hsub.cons rfl (Hsub.cons rfl (Hsub.cons rfl (Hsub.cons rfl (Hsub.cons rfl Hsub.nil))))),hq1,by rw [hsucc,← hI2];rfl,by simp⟩
           | exact Run.done ⟨rfl,_,_,rfl,by omega,rfl,(es2,clock2,st,some j),by show j+7≤_;omega,(Hsub.cons rfl (Hsub.cons rfl (Hsub.cons ((hget_tl (by omega)).trans ((hget_tl (by omega)).trans ((hget_tl (by omega)).trans ((hget_tl (by omega)).trans hget_hd)))) (Hsub.cons rfl (Hsub.cons rfl (Hsub.cons rfl Hsub.nil)))))),hq1,by rw [hsucc,← hI2];exact (List.append_nil st).symm,hI3⟩
           | exact Run.done ⟨rfl,_,_,rfl,by omega,rfl,(es2,clock2,[((c+1:Nat):Int)],some (μ+1)),by show μ+1+7≤μ+8;omega,(Hsub.cons rfl (Hsub.cons rfl (Hsub.cons ((hget_tl (by omega)).trans hget_hd) (Hsub.cons rfl (Hsub.cons rfl (Hsub.cons rfl Hsub.nil)))))),hq1,by rw [hsucc,← hI2];rfl,by simp⟩
           | exact Run.done ⟨rfl,_,_,rfl,by omega,rfl,(es2,clock2,st++[((c+1:Nat):Int)],some (μ+1)),by show μ+1+7≤μ+8;omega,(Hsub.cons rfl (Hsub.cons rfl (Hsub.cons ((hget_tl (by omega)).trans hget_hd) (Hsub.cons rfl (Hsub.cons rfl (Hsub.cons rfl Hsub.nil)))))),hq1,by rw [hsucc,← hI2];rfl,by simp⟩
       ·refine Run.seq (Run.region (Cx.Ok.rnd (cx_ok _ _ _)) (Reg.op rfl (Ope.lt rfl rfl ?_)))
        refine Reg.nil (Run.seq (Run.condX rfl (fun hc=>?_) fun hc=>?_))
        ·(exfalso;omega)
        ·(exfalso;omega)
      ·refine Run.region (Cx.Ok.rnd (cx_ok _ _ _)) (Reg.op rfl (Ope.newL rfl ?_))
       refine Reg.op0 (Ope.store rfl rfl hget_hd rfl rfl rfl ?_)
       refine Reg.nil (Run.done ⟨rfl,rfl,_,_,rfl,(hget_tl (by omega)).trans ((hget_tl (by omega)).trans hget_hd),fun lb2=>?_⟩)
       refine Run.block (Run.seq (Run.frz (d:=10) true rfl ((hget_tl (by omega)).trans hget_hd) rfl ?_))
       refine Run.wideS (m:=μ+7) (Nat.le_refl _) (hs_round (by omega) (by rfl) (by repeat (first | rfl | refine (hget_tl (by omega)).trans ?_))) ?_
       refine Run.region (Cx.Ok.rnd (cx_ok _ _ _)) (Reg.op rfl (Ope.loadH rfl rfl rfl ?_))
       refine Reg.op rfl (Ope.fld rfl rfl ?_)
       refine Reg.op rfl (Ope.load rfl rfl ?_)
       refine Reg.op rfl (Ope.callM (clo:=cloN R) rfl rfl rfl rfl rfl (by omega) rfl (memo_bd hI1) rfl ihx (fun v es2 clock2 hq=>?_))
       obtain ⟨hq1,tl,htl,rfl⟩:=hq
       first
         | refine Reg.op rfl (Ope.len (m:=0) rfl rfl ?_)
         | refine Reg.op rfl (Ope.len (m:=1) rfl rfl ?_)
       refine Reg.op rfl (Ope.mov rfl ?_)
       refine Reg.nil (Run.block ?_)
       first
         | refine Run.loop (α:=Nat) (fun z=>[(2,.fp (.agg qN)),(9,.ptr 3 0),(10,.fp (rideV d x)),(39,.sl tl []),(40,I ((0:Nat):Int)),(41,I z)]) (Function.const Nat _) (fun z=>z=0) (fun _=>0) 0 ⟨rfl,rfl,rfl,rfl,rfl,rfl,trivial⟩ rfl rfl (fun z hz=>?_)
         | refine Run.loop (α:=Nat) (fun z=>[(2,.fp (.agg qN)),(9,.ptr 3 0),(10,.fp (rideV d x)),(39,.sl tl [I ((c+1:Nat):Int)]),(40,I ((1:Nat):Int)),(41,I z)]) (pick2 _ (HE (μ+8) ((3,some (.cells [.sl (.own (μ+7)) ((st++[((c+1:Nat):Int)]).map I)]))::(μ+7,some .own)::(j+6,none)::(0,some (.map es2 clock2))::(5,some lb2)::(4,some .dfr)::(3,some (.cells [.sl (.own (j+6)) (st.map I)]))::(j+6,some .own)::[(0,some (.map es1 clock1)),(1,none),(2,some (cloN R))]))) (fun z=>z≤1) (fun z=>1 - z) 0 ⟨rfl,rfl,rfl,rfl,rfl,rfl,trivial⟩ rfl (by decide) (fun z hz=>?_)
         | refine Run.loop (α:=Nat) (fun z=>[(2,.fp (.agg qN)),(9,.ptr 3 0),(10,.fp (rideV d x)),(39,.sl tl [I ((c+1:Nat):Int)]),(40,I ((1:Nat):Int)),(41,I z)]) (pick2 _ (HE (μ+8) ((3,some (.cells [.sl (.own (μ+7)) [I ((c+1:Nat):Int)]]))::(μ+7,some .own)::(0,some (.map es2 clock2))::(5,some lb2)::(4,some .dfr)::(3,some (.cells [.sl .ex []]))::[(0,some (.map es1 clock1)),(1,none),(2,some (cloN R))]))) (fun z=>z≤1) (fun z=>1 - z) 0 ⟨rfl,rfl,rfl,rfl,rfl,rfl,trivial⟩ rfl (by decide) (fun z hz=>?_)
       rcases (by omega:z=0∨z=1) with rfl | rfl
       ·refine Run.seq (Run.region (Cx.Ok.rnd (cx_ok _ _ _)) (Reg.op rfl (Ope.lt rfl rfl ?_)))
        refine Reg.nil (Run.seq (Run.condX rfl (fun hc=>?_) fun hc=>?_))
        ·refine Run.skip (Run.seq (Run.block (Run.seq (Run.region (Cx.Ok.rnd (cx_ok _ _ _)) (Reg.op rfl (Ope.idxS (m:=0) rfl rfl rfl rfl rfl ?_))))))
         refine Reg.op rfl (Ope.load rfl rfl ?_)
         refine Reg.op rfl (Ope.asg rfl ?_)
         refine Reg.nil (Run.drawB (Cx.Ok.rnd (cx_ok _ _ _)) 3 [(0,false,false),(1,true,false),(2,true,false),(3,true,false),(4,true,false),(5,true,true),(6,true,false),(7,true,false),(8,true,false)] (by kernel_rfl) (DraS.opR rfl rfl rfl rfl (StabS.at rfl) (Ope.loadH rfl rfl rfl ?_)))
         refine DraS.opQ rfl rfl rfl (Ope.fld rfl rfl ?_)
         refine DraS.opQ rfl rfl rfl (Ope.load rfl rfl ?_)
         refine DraS.opQ rfl rfl rfl (Ope.load rfl rfl ?_)
         refine DraS.opQ rfl rfl rfl (Ope.mov rfl ?_)
         refine DraS.opS rfl rfl rfl (Ope.cf rfl rfl (f169 d x _) rfl ?_)
         refine ⟨rfl,?_⟩
         refine DraS.opQ rfl rfl rfl (Ope.bsl rfl rfl rfl rfl ?_)
         first
           | refine DraS.opQ rfl rfl rfl (Ope.apO rfl rfl (by simp) (by simp) (by simp) (by decide) (by simp) (by intro v hv;simp only [List.mem_singleton] at hv;subst hv;exact ⟨rfl,rfl⟩) ?_)
           | refine DraS.opQ rfl rfl rfl (Ope.apP (j:=j+6) rfl rfl (by simp) (by simpa using fun h=>absurd (hI3.2 h) (by simp)) ((hget_tl (by omega)).trans ((hget_tl (by omega)).trans ((hget_tl (by omega)).trans ((hget_tl (by omega)).trans hget_hd)))) (by simp;omega) (by simp;omega) (by decide) (by intro v hv;obtain ⟨_,_,rfl⟩:=List.mem_map.1 hv;rfl) (by intro v hv;simp only [List.mem_singleton] at hv;subst hv;exact ⟨rfl,rfl⟩) ?_)
         refine DraS.opQ rfl rfl rfl (Ope.store rfl rfl ((hget_tl (by omega)).trans (by first | rfl | exact (hget_tl (by omega)).trans rfl)) rfl rfl rfl ?_)
         refine DraS.nil (Run.bend (Run.region (Cx.Ok.rnd (cx_ok _ _ _)) (Reg.op rfl (Ope.add rfl rfl (by omega) ?_))))
         refine Reg.op rfl (Ope.mov rfl ?_)
         refine Reg.nil ?_
         first
           | exact Run.lend ⟨1,by decide,by decide,⟨rfl,rfl,rfl,rfl,rfl,rfl,trivial⟩,rfl,rfl⟩
           | exact Run.lend ⟨1,by decide,by decide,⟨rfl,rfl,rfl,rfl,rfl,rfl,trivial⟩,by simp only [pick2,List.map_append];rfl,rfl⟩
        ·(exfalso;omega)
       ·refine Run.seq (Run.region (Cx.Ok.rnd (cx_ok _ _ _)) (Reg.op rfl (Ope.lt rfl rfl ?_)))
        refine Reg.nil (Run.seq (Run.condX rfl (fun hc=>?_) fun hc=>?_))
        ·(exfalso;omega)
        ·refine Run.exit (Jmp.code (Jmp.round (Jmp.here (Run.bend ?_))))
         first
           | exact Run.done ⟨rfl,_,_,rfl,by omega,rfl,(es2,clock2,[],none),by show 6≤_;omega,(Hsub.cons rfl (Hsub.cons rfl (Hsub.cons rfl (Hsub.cons rfl (Hsub.cons rfl Hsub.nil))))),hq1,by rw [hsucc,← hI2];rfl,by simp⟩
           | exact Run.done ⟨rfl,_,_,rfl,by omega,rfl,(es2,clock2,st,some j),by show j+7≤_;omega,(Hsub.cons rfl (Hsub.cons rfl (Hsub.cons ((hget_tl (by omega)).trans ((hget_tl (by omega)).trans ((hget_tl (by omega)).trans ((hget_tl (by omega)).trans hget_hd)))) (Hsub.cons rfl (Hsub.cons rfl (Hsub.cons rfl Hsub.nil)))))),hq1,by rw [hsucc,← hI2];exact (List.append_nil st).symm,hI3⟩
           | exact Run.done ⟨rfl,_,_,rfl,by omega,rfl,(es2,clock2,[((c+1:Nat):Int)],some (μ+1)),by show μ+1+7≤μ+8;omega,(Hsub.cons rfl (Hsub.cons rfl (Hsub.cons ((hget_tl (by omega)).trans hget_hd) (Hsub.cons rfl (Hsub.cons rfl (Hsub.cons rfl Hsub.nil)))))),hq1,by rw [hsucc,← hI2];rfl,by simp⟩
           | exact Run.done ⟨rfl,_,_,rfl,by omega,rfl,(es2,clock2,st++[((c+1:Nat):Int)],some (μ+1)),by show μ+1+7≤μ+8;omega,(Hsub.cons rfl (Hsub.cons rfl (Hsub.cons ((hget_tl (by omega)).trans hget_hd) (Hsub.cons rfl (Hsub.cons rfl (Hsub.cons rfl Hsub.nil)))))),hq1,by rw [hsucc,← hI2];rfl,by simp⟩
      ·refine Run.region (Cx.Ok.rnd (cx_ok _ _ _)) (Reg.op rfl (Ope.newL rfl ?_))
       refine Reg.op0 (Ope.store rfl rfl hget_hd rfl rfl rfl ?_)
       refine Reg.nil (Run.done ⟨rfl,rfl,_,_,rfl,(hget_tl (by omega)).trans ((hget_tl (by omega)).trans hget_hd),fun lb2=>?_⟩)
       refine Run.block (Run.seq (Run.frz (d:=10) true rfl ((hget_tl (by omega)).trans hget_hd) rfl ?_))
       refine Run.wideS (m:=μ+7) (Nat.le_refl _) (hs_round (by omega) (by rfl) (by repeat (first | rfl | refine (hget_tl (by omega)).trans ?_))) ?_
       refine Run.region (Cx.Ok.rnd (cx_ok _ _ _)) (Reg.op rfl (Ope.loadH rfl rfl rfl ?_))
       refine Reg.op rfl (Ope.fld rfl rfl ?_)
       refine Reg.op rfl (Ope.load rfl rfl ?_)
       refine Reg.op rfl (Ope.callM (clo:=cloN R) rfl rfl rfl rfl rfl (by omega) rfl (memo_bd hI1) rfl ihx (fun v es2 clock2 hq=>?_))
       obtain ⟨hq1,tl,htl,rfl⟩:=hq
       first
         | refine Reg.op rfl (Ope.len (m:=0) rfl rfl ?_)
         | refine Reg.op rfl (Ope.len (m:=1) rfl rfl ?_)
       refine Reg.op rfl (Ope.mov rfl ?_)
       refine Reg.nil (Run.block ?_)
       first
         | refine Run.loop (α:=Nat) (fun z=>[(2,.fp (.agg qN)),(9,.ptr 3 0),(10,.fp (rideV d x)),(39,.sl tl []),(40,I ((0:Nat):Int)),(41,I z)]) (Function.const Nat _) (fun z=>z=0) (fun _=>0) 0 ⟨rfl,rfl,rfl,rfl,rfl,rfl,trivial⟩ rfl rfl (fun z hz=>?_)
         | refine Run.loop (α:=Nat) (fun z=>[(2,.fp (.agg qN)),(9,.ptr 3 0),(10,.fp (rideV d x)),(39,.sl tl [I ((c+1:Nat):Int)]),(40,I ((1:Nat):Int)),(41,I z)]) (pick2 _ (HE (μ+8) ((3,some (.cells [.sl (.own (μ+7)) ((st++[((c+1:Nat):Int)]).map I)]))::(μ+7,some .own)::(j+6,none)::(0,some (.map es2 clock2))::(5,some lb2)::(4,some .dfr)::(3,some (.cells [.sl (.own (j+6)) (st.map I)]))::(j+6,some .own)::[(0,some (.map es1 clock1)),(1,none),(2,some (cloN R))]))) (fun z=>z≤1) (fun z=>1 - z) 0 ⟨rfl,rfl,rfl,rfl,rfl,rfl,trivial⟩ rfl (by decide) (fun z hz=>?_)
         | refine Run.loop (α:=Nat) (fun z=>[(2,.fp (.agg qN)),(9,.ptr 3 0),(10,.fp (rideV d x)),(39,.sl tl [I ((c+1:Nat):Int)]),(40,I ((1:Nat):Int)),(41,I z)]) (pick2 _ (HE (μ+8) ((3,some (.cells [.sl (.own (μ+7)) [I ((c+1:Nat):Int)]]))::(μ+7,some .own)::(0,some (.map es2 clock2))::(5,some lb2)::(4,some .dfr)::(3,some (.cells [.sl .ex []]))::[(0,some (.map es1 clock1)),(1,none),(2,some (cloN R))]))) (fun z=>z≤1) (fun z=>1 - z) 0 ⟨rfl,rfl,rfl,rfl,rfl,rfl,trivial⟩ rfl (by decide) (fun z hz=>?_)
       rcases (by omega:z=0∨z=1) with rfl | rfl
       ·refine Run.seq (Run.region (Cx.Ok.rnd (cx_ok _ _ _)) (Reg.op rfl (Ope.lt rfl rfl ?_)))
        refine Reg.nil (Run.seq (Run.condX rfl (fun hc=>?_) fun hc=>?_))
        ·refine Run.skip (Run.seq (Run.block (Run.seq (Run.region (Cx.Ok.rnd (cx_ok _ _ _)) (Reg.op rfl (Ope.idxS (m:=0) rfl rfl rfl rfl rfl ?_))))))
         refine Reg.op rfl (Ope.load rfl rfl ?_)
         refine Reg.op rfl (Ope.asg rfl ?_)
         refine Reg.nil (Run.drawB (Cx.Ok.rnd (cx_ok _ _ _)) 3 [(0,false,false),(1,true,false),(2,true,false),(3,true,false),(4,true,false),(5,true,true),(6,true,false),(7,true,false),(8,true,false)] (by kernel_rfl) (DraS.opR rfl rfl rfl rfl (StabS.at rfl) (Ope.loadH rfl rfl rfl ?_)))
         refine DraS.opQ rfl rfl rfl (Ope.fld rfl rfl ?_)
         refine DraS.opQ rfl rfl rfl (Ope.load rfl rfl ?_)
         refine DraS.opQ rfl rfl rfl (Ope.load rfl rfl ?_)
         refine DraS.opQ rfl rfl rfl (Ope.mov rfl ?_)
         refine DraS.opS rfl rfl rfl (Ope.cf rfl rfl (f169 d x _) rfl ?_)
         refine ⟨rfl,?_⟩
         refine DraS.opQ rfl rfl rfl (Ope.bsl rfl rfl rfl rfl ?_)
         first
           | refine DraS.opQ rfl rfl rfl (Ope.apO rfl rfl (by simp) (by simp) (by simp) (by decide) (by simp) (by intro v hv;simp only [List.mem_singleton] at hv;subst hv;exact ⟨rfl,rfl⟩) ?_)
           | refine DraS.opQ rfl rfl rfl (Ope.apP (j:=j+6) rfl rfl (by simp) (by simpa using fun h=>absurd (hI3.2 h) (by simp)) ((hget_tl (by omega)).trans ((hget_tl (by omega)).trans ((hget_tl (by omega)).trans ((hget_tl (by omega)).trans hget_hd)))) (by simp;omega) (by simp;omega) (by decide) (by intro v hv;obtain ⟨_,_,rfl⟩:=List.mem_map.1 hv;rfl) (by intro v hv;simp only [List.mem_singleton] at hv;subst hv;exact ⟨rfl,rfl⟩) ?_)
         refine DraS.opQ rfl rfl rfl (Ope.store rfl rfl ((hget_tl (by omega)).trans (by first | rfl | exact (hget_tl (by omega)).trans rfl)) rfl rfl rfl ?_)
         refine DraS.nil (Run.bend (Run.region (Cx.Ok.rnd (cx_ok _ _ _)) (Reg.op rfl (Ope.add rfl rfl (by omega) ?_))))
         refine Reg.op rfl (Ope.mov rfl ?_)
         refine Reg.nil ?_
         first
           | exact Run.lend ⟨1,by decide,by decide,⟨rfl,rfl,rfl,rfl,rfl,rfl,trivial⟩,rfl,rfl⟩
           | exact Run.lend ⟨1,by decide,by decide,⟨rfl,rfl,rfl,rfl,rfl,rfl,trivial⟩,by simp only [pick2,List.map_append];rfl,rfl⟩
        ·(exfalso;omega)
       ·refine Run.seq (Run.region (Cx.Ok.rnd (cx_ok _ _ _)) (Reg.op rfl (Ope.lt rfl rfl ?_)))
        refine Reg.nil (Run.seq (Run.condX rfl (fun hc=>?_) fun hc=>?_))
        ·(exfalso;omega)
        ·refine Run.exit (Jmp.code (Jmp.round (Jmp.here (Run.bend ?_))))
         first
           | exact Run.done ⟨rfl,_,_,rfl,by omega,rfl,(es2,clock2,[],none),by show 6≤_;omega,(Hsub.cons rfl (Hsub.cons rfl (Hsub.cons rfl (Hsub.cons rfl (Hsub.cons rfl Hsub.nil))))),hq1,by rw [hsucc,← hI2];rfl,by simp⟩
           | exact Run.done ⟨rfl,_,_,rfl,by omega,rfl,(es2,clock2,st,some j),by show j+7≤_;omega,(Hsub.cons rfl (Hsub.cons rfl (Hsub.cons ((hget_tl (by omega)).trans ((hget_tl (by omega)).trans ((hget_tl (by omega)).trans ((hget_tl (by omega)).trans hget_hd)))) (Hsub.cons rfl (Hsub.cons rfl (Hsub.cons rfl Hsub.nil)))))),hq1,by rw [hsucc,← hI2];exact (List.append_nil st).symm,hI3⟩
           | exact Run.done ⟨rfl,_,_,rfl,by omega,rfl,(es2,clock2,[((c+1:Nat):Int)],some (μ+1)),by show μ+1+7≤μ+8;omega,(Hsub.cons rfl (Hsub.cons rfl (Hsub.cons ((hget_tl (by omega)).trans hget_hd) (Hsub.cons rfl (Hsub.cons rfl (Hsub.cons rfl Hsub.nil)))))),hq1,by rw [hsucc,← hI2];rfl,by simp⟩
           | exact Run.done ⟨rfl,_,_,rfl,by omega,rfl,(es2,clock2,st++[((c+1:Nat):Int)],some (μ+1)),by show μ+1+7≤μ+8;omega,(Hsub.cons rfl (Hsub.cons rfl (Hsub.cons ((hget_tl (by omega)).trans hget_hd) (Hsub.cons rfl (Hsub.cons rfl (Hsub.cons rfl Hsub.nil)))))),hq1,by rw [hsucc,← hI2];rfl,by simp⟩
     ·obtain ⟨es1,clock1,st,ow⟩:=s
      obtain ⟨hI1,hI2,hI3⟩:=hI
      simp only at hI1 hI2 hI3
      rw [List.length_map] at hI2
      subst hI2
      obtain ⟨tl,htl,hj⟩:=joined_ok R k (by omega) d
      refine Run.bend (Run.seq ?_)
      refine Run.wideS (m:=m) (l':=[(4,some .dfr),(3,some (.cells [.sl (tlO ow) ((stepsX R k d (nextX R d 0).length).map I)])),(0,some (.map es1 clock1)),(1,none),(2,some (cloN R))]) (Nat.le_refl _) (by cases ow with
          | none=>exact hs_refl
          | some j=>exact hs_keep (hs_keep (hs_skip hs_refl rfl))) ?_
      refine Run.weakS (i:=3) rfl ?_
      refine Run.drawS (cx_ok _ _ _) (fun _=>True) [(0,false,false),(1,false,false),(2,true,false),(3,true,false),(4,true,false),(5,true,true),(6,true,false)] (by kernel_rfl) (DraS.opR rfl rfl rfl trivial (StabS.frozen rfl) (Ope.load rfl rfl ?_))
      refine DraS.opR rfl rfl rfl trivial (StabS.frozen rfl) (Ope.load rfl rfl ?_)
      refine DraS.opQ rfl rfl rfl (Ope.fld rfl rfl ?_)
      refine DraS.opQ rfl rfl rfl (Ope.load rfl rfl ?_)
      refine DraS.opQ rfl rfl rfl (Ope.load rfl rfl ?_)
      refine DraS.opS rfl rfl rfl (Ope.cf rfl rfl hj (by simp only [List.nil_append,List.append_nil,PV.bds,bd_sl (f:=I) (tl:=.no) rfl (fun _=>rfl),Bool.and_true];rfl) ?_)
      refine ⟨trivial,?_⟩
      obtain ⟨r,hr3,hr4⟩:=memo_find d es1 0 hI1
      refine DraS.opQ rfl rfl rfl (Ope.mset rfl rfl rfl (keyA_of d) rfl (keyA_check d) hr3 (fun j v hjv=>by obtain ⟨_,e,h1,h2,_⟩:=hr4 j v hjv;exact ⟨e,by simpa using h1,by rw [h2];exact keyA_same d⟩) (fun j v hjv=>?_) (fun hnn=>?_))
      ·refine DraS.nil (Run.seq ?_)
       obtain ⟨es3,he3,hmem,hhas⟩:∃ es3,es3=_∧Memo R es3∧∃ e∈es3,e.1=keyA d:=by
         first
           | exact ⟨_,rfl,memo_set (j:=j) hI1 (by omega) hk htl,psetAt_has (by obtain ⟨_,e,h1,_⟩:=hr4 j v hjv;have:=(List.getElem?_eq_some_iff.1 h1).1;omega)⟩
           | exact ⟨_,rfl,memo_app (clock:=clock1) hI1 (by omega) hk htl,_,List.mem_append_right _ (List.mem_singleton.2 rfl),rfl⟩
       obtain ⟨jj,vv,hf1,hf2⟩:=memo_has d _ 0 hmem hhas
       obtain ⟨tl2,htl2,rfl⟩:=memo_val hmem (by omega) hk hf2
       rw [he3] at hf1 hmem
       refine Run.region (cx_ok _ _ _) (Reg.op rfl (Ope.load rfl rfl ?_))
       refine Reg.op rfl (Ope.load rfl rfl ?_)
       refine Reg.op rfl (Ope.look rfl rfl (keyA_of d) rfl (keyA_check d) hf1 ?_)
       refine Reg.op rfl (Ope.asg rfl ?_)
       refine Reg.nil (Run.ret ?_)
       first
         | exact finC_retD rfl (.tmp rfl .nil) (bd_I3 htl2 _) (by rw [HE_cut3 rfl rfl rfl];exact ok3 (memo_bd hmem) rfl) ⟨_,_,HE_cut3 rfl rfl rfl,hmem,tl2,htl2,rfl⟩
         | obtain ⟨_, e0, he1, he2, he3⟩ := hr2 jj vv rfl
           obtain ⟨tl,htl,rfl⟩:=memo_val hm (by omega) hk ⟨e0,List.mem_of_getElem? he1,he2,he3⟩
           exact finC_ret (.tmp rfl .nil) (bd_I3 htl _) (by rw [HE_cut3 rfl rfl rfl];exact ok3 (memo_bd hm) rfl) ⟨es,clock,HE_cut3 rfl rfl rfl,hm,tl,htl,rfl⟩
      ·refine DraS.nil (Run.seq ?_)
       obtain ⟨es3,he3,hmem,hhas⟩:∃ es3,es3=_∧Memo R es3∧∃ e∈es3,e.1=keyA d:=by
         first
           | exact ⟨_,rfl,memo_set (j:=j) hI1 (by omega) hk htl,psetAt_has (by obtain ⟨_,e,h1,_⟩:=hr4 j v hjv;have:=(List.getElem?_eq_some_iff.1 h1).1;omega)⟩
           | exact ⟨_,rfl,memo_app (clock:=clock1) hI1 (by omega) hk htl,_,List.mem_append_right _ (List.mem_singleton.2 rfl),rfl⟩
       obtain ⟨jj,vv,hf1,hf2⟩:=memo_has d _ 0 hmem hhas
       obtain ⟨tl2,htl2,rfl⟩:=memo_val hmem (by omega) hk hf2
       rw [he3] at hf1 hmem
       refine Run.region (cx_ok _ _ _) (Reg.op rfl (Ope.load rfl rfl ?_))
       refine Reg.op rfl (Ope.load rfl rfl ?_)
       refine Reg.op rfl (Ope.look rfl rfl (keyA_of d) rfl (keyA_check d) hf1 ?_)
       refine Reg.op rfl (Ope.asg rfl ?_)
       refine Reg.nil (Run.ret ?_)
       first
         | exact finC_retD rfl (.tmp rfl .nil) (bd_I3 htl2 _) (by rw [HE_cut3 rfl rfl rfl];exact ok3 (memo_bd hmem) rfl) ⟨_,_,HE_cut3 rfl rfl rfl,hmem,tl2,htl2,rfl⟩
         | obtain ⟨_, e0, he1, he2, he3⟩ := hr2 jj vv rfl
           obtain ⟨tl,htl,rfl⟩:=memo_val hm (by omega) hk ⟨e0,List.mem_of_getElem? he1,he2,he3⟩
           exact finC_ret (.tmp rfl .nil) (bd_I3 htl _) (by rw [HE_cut3 rfl rfl rfl];exact ok3 (memo_bd hm) rfl) ⟨es,clock,HE_cut3 rfl rfl rfl,hm,tl,htl,rfl⟩
   ·refine Reg.op rfl (Ope.mov rfl ?_)
    refine Reg.op rfl (Ope.ext rfl rfl ?_)
    refine Reg.op rfl (Ope.ext rfl rfl ?_)
    refine Reg.op rfl (Ope.asg rfl ?_)
    refine Reg.op rfl (Ope.asg rfl ?_)
    refine Reg.nil (Run.seq (Run.region (cx_ok _ _ _) (Reg.op rfl (Ope.mov rfl ?_))))
    refine Reg.nil (Run.condX rfl (fun hc=>?_) fun hc=>?_)
    ·refine Run.seq (Run.region (cx_ok _ _ _) (Reg.op rfl (Ope.mov rfl ?_)))
     refine Reg.op rfl (Ope.asg rfl ?_)
     refine Reg.nil (Run.ret (Jmp.code ?_))
     first
       | exact finC_retD rfl (.tmp rfl .nil) (bd_I3 htl2 _) (by rw [HE_cut3 rfl rfl rfl];exact ok3 (memo_bd hmem) rfl) ⟨_,_,HE_cut3 rfl rfl rfl,hmem,tl2,htl2,rfl⟩
       | obtain ⟨_, e0, he1, he2, he3⟩ := hr2 jj vv rfl
         obtain ⟨tl,htl,rfl⟩:=memo_val hm (by omega) hk ⟨e0,List.mem_of_getElem? he1,he2,he3⟩
         exact finC_ret (.tmp rfl .nil) (bd_I3 htl _) (by rw [HE_cut3 rfl rfl rfl];exact ok3 (memo_bd hm) rfl) ⟨es,clock,HE_cut3 rfl rfl rfl,hm,tl,htl,rfl⟩
    ·(cases hc;done)
end Go.Pv
namespace Go.Pv
open Go.Am Go.RowKit
section
variable {s:St} {A:AP} {P:Program} {E:Eqs} {w0:Base} {M:Nat→Bool} {sz:Nat} {b:Frame} {k:List Item} {cs:List Frame}
theorem preg_go2 (hA:A.Ok P) (hE:E.Ok P) (hm:b.mode=.run) {ops:Array Oper} {Q:PQ} {X:T PV→List Nat→PV→PH→Prop} {ds:List Nat} {tl:T PV} (os2:List Oper):∀ (os:List Oper) (i:Nat) (s:St) (t:T PV) (arr:Array Value),ops.toList.drop i=os++os2 →
  preg A E P M sz ops.toList os t s.h (fun t h=>preg A E P M sz ops.toList os2 t h (fun t h=>Q .normal t ds h) (X (tless t os2) ds)) (X tl ds)→PW w0 s→TV s t.get arr→(TV s tl.get arr∧∀ o∈os,∀ i v,tl.get i=some v→o.dst≠some i)→arr.size=sz→(∀ i∈ds,i < s.h.next) →
  POut P w0 s sz b k cs Q X (lone (on b arr (dls s ds) (.inRegion ops ((List.range ops.size).drop i)::k)) cs s.w)
 |[],i,s,t,arr,hos,hp,hw,ht,htl,hsz,hds =>
  preg_go hA hE hm os2 i s t arr (by simpa using hos) hp hw ht ⟨fun i v hi=>ht i v (tless_get _ _ _ _ hi).1,fun o ho i v hi=>(tless_get _ _ _ _ hi).2 o ho⟩ hsz hds
 |o :: os, i, s, t, arr, hos, hp, hw, ht, htl, hsz, hds => by
  have hlt:i < ops.size:=by
   rcases Nat.lt_or_ge i ops.size with h1 | h1
   ·exact h1
   ·rw [List.drop_eq_nil_of_le (by simpa using h1)] at hos;cases hos
  have hdr:=List.drop_eq_getElem_cons (l:=ops.toList) (i:=i) (by simpa using hlt)
  rw [hos] at hdr
  simp only [List.cons_append,List.cons.injEq] at hdr
  obtain ⟨hd1,hd2⟩:=hdr
  have ho:ops[i]?=some o:=by rw [Array.getElem?_eq_getElem hlt,hd1];simp
  have er:(List.range ops.size).drop i=i::(List.range ops.size).drop (i+1):=by
   rw [List.drop_eq_getElem_cons (by simpa using hlt)]
   simp
  rw [er]
  simp only [preg] at hp
  split at hp
  ·exact hp.elim
  next hdst =>
  have hdst':dstIn arr.size o.dst=true:=by rw [hsz];exact hdst
  have run:pop A E P M t.get s.h o (fun v h'=>preg A E P M sz ops.toList os (tput t o.dst v) h' (fun t h=>preg A E P M sz ops.toList os2 t h (fun t h=>Q .normal t ds h) (X (tless t os2) ds)) (X tl ds)) (X tl ds)→Region.wanted o (yielded ops arr)=true →
    POut P w0 s sz b k cs Q X (lone (on b arr (dls s ds) (.inRegion ops (i::(List.range ops.size).drop (i+1))::k)) cs s.w):=by
   intro hp hwt
   rcases op_go (b:=b) (k:=k) (cs:=cs) (dl:=dls s ds) (rest:=(List.range ops.size).drop (i+1)) hA hE hw ht hp ho hwt hm with ⟨x,v,s',h1,h2,h3,h4,h5⟩ | ⟨x,v,s',todo,h1,h2,h3,h4,h5⟩
   ·refine POut.of_steps h5 (POut.ext h2 ?_)
    rw [← dls_ext h2 hds]
    exact preg_go2 hA hE hm os2 os (i+1) s' (tput t o.dst v) (putA arr o.dst x) hd2.symm h4 h1 ((ht.ext h2).put hdst' h3) ⟨(htl.1.ext h2).putNot (htl.2 o (by simp)),fun p hp=>htl.2 p (List.mem_cons_of_mem _ hp)⟩ (by rw [putA_size];exact hsz) fun j hj=>Nat.lt_of_lt_of_le (hds j hj) h2.next
   ·refine ⟨s',arr,ds,h1,h2,hsz,fun j hj=>Nat.lt_of_lt_of_le (hds j hj) h2.next,.inr (.inr ⟨tl,v,x,todo,h4,h3,htl.1.ext h2,?_⟩)⟩
    rw [dls_ext h2 hds]
    exact h5
  have pass:preg A E P M sz ops.toList os (tput t o.dst (.tup [])) s.h (fun t h=>preg A E P M sz ops.toList os2 t h (fun t h=>Q .normal t ds h) (X (tless t os2) ds)) (X tl ds)→Region.wanted o (yielded ops arr)=false →
    POut P w0 s sz b k cs Q X (lone (on b arr (dls s ds) (.inRegion ops (i::(List.range ops.size).drop (i+1))::k)) cs s.w):=by
   intro hp hwt
   exact POut.of_steps (op_pass ho hwt hm) (preg_go2 hA hE hm os2 os (i+1) s (tput t o.dst (.tup [])) (putA arr o.dst undef) hd2.symm hp hw (ht.put hdst' (rv_undef s)) ⟨htl.1.putNot (htl.2 o (by simp)),fun p hp=>htl.2 p (List.mem_cons_of_mem _ hp)⟩ (by rw [putA_size];exact hsz) hds)
  split at hp
  ·next hg=>exact run hp (by simp [Region.wanted,hg])
  ·next j want hg =>
   split at hp
   ·exact hp.elim
   next p hpj =>
   have hpj':ops[j]?=some p:=by simpa using hpj
   split at hp
   ·exact hp.elim
   next d hd =>
   split at hp
   ·next q hq =>
    have hwt:=wanted_of ht hg hpj' hd hq
    split at hp
    ·cases q with
     |true=>exact run hp (by simpa using hwt)
     |false=>exact pass hp (by simpa using hwt)
    ·cases q with
     |true=>exact pass hp (by simpa using hwt)
     |false=>exact run hp (by simpa using hwt)
   ·next hq=>exact pass hp (wanted_not ht hg hpj' hd hq)
   ·exact hp.elim
theorem PWP.region2 (hA:A.Ok P) (hE:E.Ok P) {id:Nat} {ops:Array Oper} (n:Nat) {rnd:Option Nat} {fi:FuncId} {Q:PQ} {X:T PV→List Nat→PV→PH→Prop} {t:T PV} {ds:List Nat} {h:PH}
  (hp:preg A E P M sz ops.toList (ops.toList.take n) t h (fun t h=>preg A E P M sz ops.toList (ops.toList.drop n) t h (fun t h=>Q .normal t ds h) (X (tless t (ops.toList.drop n)) ds)) (X (tless t (ops.toList.take n)) ds)) :
  PWP P fi sz rnd (.region id ops false) Q X t ds h:=by
 intro w0 s arr b k cs a1 a2 a3 a4 a5 a6 a7 a8 a9
 subst a2
 refine POut.of_steps (step_on (k':=.inRegion ops (List.range ops.size)::k) a6 (by simp [stepG.exec,on])) ?_
 have:=preg_go2 (k:=k) (cs:=cs) (M:=M) (b:=b) hA hE a6 (ops.toList.drop n) (ops.toList.take n) 0 s t arr (by simp) hp a1 a3 ⟨fun i v hi=>a3 i v (tless_get _ _ _ _ hi).1,fun o ho i v hi=>(tless_get _ _ _ _ hi).2 o ho⟩ a4 a5
 simpa using this
end
def RegP (C:Cx) (K:EL→PH→Prop) (X:EX) (all os:List Oper) (e:EL) (ds:List Nat) (h:PH):Prop :=
 ∀ t:T PV,t.get=lget e→preg C.A C.E C.P C.M C.sz all os t h (fun t h=>∃ e',t.get=lget e'∧K e' h) (X ds)
section
variable {C:Cx} {K:EL→PH→Prop} {X:EX} {e:EL} {ds:List Nat} {h:PH} {all os:List Oper}
theorem RegP.nil (hK:K e h):RegP C K X all [] e ds h:=fun t ht=>⟨e,ht,hK⟩
theorem RegP.op {d:Nat} {op:Op} {type:TypeId} {pos:String} {after:Array Edge} (hd:Nat.blt d C.sz=true)
  (ho:Ope C X { dst:=some d,op,type,pos,after,guard:=none } e ds h fun v h'=>RegP C K X all os ((d,v)::e) ds h'):RegP C K X all ({ dst:=some d,op,type,pos,after,guard:=none }::os) e ds h:=by
 intro t ht
 simp only [preg,dstIn,hd]
 unfold Ope at ho
 rw [ht]
 exact pop_mono ho (fun v h' hv=>hv _ (put_get ht d v)) fun _ _ hx=>hx
end
section
variable {C:Cx} {fn:Func} {n:Nat} {R X:PV→PH→Prop} {e:EL} {h:PH}
theorem Til.defer2 (hC:C.Ok) (hs:C.sz=fn.ntmps) (hr:C.rnd=none) (hf:C.A.funcs.get C.fi=some fn) {id id2:Nat} {mk df:Oper} {ops:Array Oper} (m:Nat) {c:Call} {f:Operand} {gd dm:Nat} {caps:List PV} (e0:EL)
  (hmd:mk.dst=some dm) (hml:Nat.blt dm fn.ntmps=true) (hmg:mk.guard=none) (hdg:df.guard=none) (hdd:df.dst=none) (hop:df.op=.defer c) (hcal:c.callee=.value f) (hargs:c.args=#[])
  (hmk:Ope C (fun _ _ _=>False) mk e [] h fun v h'=>h'=h∧v=.fn (.func gd) [] caps) (hfv:pev (lget ((dm,.fn (.func gd) [] caps)::e)) f=some (.fn (.func gd) [] caps))
  (he0:e0.all (fun p=>(ops.toList.take m).all (fun o=>match o.dst with | some d=>!Nat.beq d p.1 | none=>true))=true) (he1:Lsub e0 ((dm,.fn (.func gd) [] caps)::e))
  (hreg:RegP C (fun e' h'=>Reg C (fun q e ds h=>q=.normal∧Undo ds h∧PDefer C.A C.P gd caps (.lit .nilifc) (unds ds h) (ResE C fn n R e)) (fun _ _ _=>False) [] ops.toList (ops.toList.drop m) e' [] h') (fun ds v h=>Undo ds h∧PDefer C.A C.P gd caps v (unds ds h) (ResE C fn n R e0)) ops.toList (ops.toList.take m) ((dm,.fn (.func gd) [] caps)::e) [] h) :
  Til C fn n R X (.seq (.region id #[mk,df] false) (.seq (.region id2 ops false) .ret)) e h:=by
 have hget:(tput (TE e) mk.dst (.fn (.func gd) [] caps)).get=lget ((dm,.fn (.func gd) [] caps)::e):=by
  rw [hmd]
  exact put_get (TE_getf e) dm _
 refine PTail.defer (M:=C.M) (gd:=gd) (caps:=caps) (f:=f) hC.A hC.E hf (by rw [hmd];exact hml) hmg hdg hdd hop hcal hargs ?_ (by rw [hget];exact hfv) ?_
 ·unfold Ope at hmk
  rw [TE_getf]
  exact hmk
 ·refine PWP.seq (PWP.region2 (M:=C.M) hC.A hC.E m ?_)
  have h1:=hreg _ hget
  rw [hs] at h1
  refine preg_mono ?_ ?_ _ _ _ h1
  ·rintro t' h' ⟨e',hsub',h2⟩
   unfold Reg at h2
   have h3:=h2 _ hsub'
   rw [hs] at h3
   refine preg_mono ?_ ?_ _ _ _ h3
   ·rintro t' h' ⟨e',hsub,_,hu,hd⟩
    exact PWP.jump (j:=.ret) trivial ⟨hu,hd.mono fun _ hres=>hres.res hsub⟩
   ·intro v h' hx;exact hx.elim
  ·rintro v h' ⟨hu,hd⟩
   refine ⟨hu,hd.mono fun _ hres=>hres.res fun i u hi=>?_⟩
   have hmem:∃ p∈e0,p.1=i:=by
    clear he0 he1 hres hd hu hreg h1
    induction e0 with
    |nil=>cases hi
    |cons p l ih =>
     obtain ⟨j,w⟩:=p
     simp only [lget] at hi
     split at hi
     ·next hb=>exact ⟨(j,w),by simp,(Nat.eq_of_beq_eq_true hb).symm⟩
     ·obtain ⟨p,h1,h2⟩:=ih hi
      exact ⟨p,List.mem_cons_of_mem _ h1,h2⟩
   obtain ⟨p,hp,rfl⟩:=hmem
   rw [tless_keep _ _ (List.all_eq_true.1 he0 p hp),hget]
   exact he1.get hi
end
end Go.Pv
namespace Go.Pv
open Go.Proofs Go.Am
set_option maxRecDepth 10000
theorem f165 (R:Rst) (hR:R.ok):∀ (k i:Nat) (d:Rid) (es:List (AV×PV×Nat)) (clock:Nat),d.ok i→i+k≤16→d.a+d.b+k=R.m→Memo R es →
    PCall P0 165 (.agg d.cells::capsN R) (HE 3 [(0,some (.map es clock)),(2,some (cloN R))]) (fun v h'=>∃ es' clock',h'=HE 3 [(0,some (.map es' clock')),(2,some (cloN R))]∧(Memo R es'∧∃ tl:Tail,tl.isOwn=false∧v=.sl tl ((cl (cnt R k d)).map I))) fun _ _=>False
  | 0,i,d,es,clock,hd,hi,hk,hm=>f165z R hR i d es clock hd (by omega) (by simpa using hk) hm
  | k+1,i,d,es,clock,hd,hi,hk,hm=>f165s R hR k i (fun d' es' c' h1 h2 h3=>f165 R hR k (i+1) d' es' c' h1 (by omega) h2 h3) d es clock hd hi hk hm
def Rst.many (R:Rst):Nat:=cnt R R.m zeroRid
theorem f112 (R:Rst) (hR:R.ok):Fn P0 112 [.agg R.cells,.agg qN] (.tup [I R.many,B (decide (R.many≠0))]):=by
  have h165:=f165 R hR R.m 0 zeroRid [] 0 (by simp [Rid.ok,zeroRid]) (by have:=hR.1;omega) (by simp [zeroRid]) (fun e he=>by cases he)
  rw [show cnt R R.m zeroRid=R.many from rfl] at h165
  generalize R.many=c at *
  rcases c with _ | c
  all_goals
    refine PFun.of (C:=c112) (cx_ok _ _ _) rfl (fn:=Tryz.f112) (by kernel_rfl) (c:=_) rfl rfl rfl ?_
    refine Run.seq (Run.region (cx_ok _ _ _) (Reg.op rfl (Ope.boxF rfl rfl ?_)))
    refine Reg.op rfl (Ope.boxF rfl rfl ?_)
    refine Reg.op rfl (Ope.asg rfl ?_)
    refine Reg.op rfl (Ope.asg rfl ?_)
    refine Reg.nil (Run.seq (Run.region (cx_ok _ _ _) (Reg.op rfl (Ope.mmap ?_))))
    refine Reg.op rfl (Ope.newL rfl ?_)
    refine Reg.op0 (Ope.store rfl rfl hget_hd rfl rfl rfl ?_)
    refine Reg.nil (Run.seq (Run.frz (d:=6) false rfl hget_hd rfl ?_))
    refine Run.region (cx_ok _ _ _) (Reg.op rfl (Ope.newL rfl ?_))
    refine Reg.nil (Run.seq (Run.region (cx_ok _ _ _) (Reg.op rfl (Ope.mkf rfl rfl ?_))))
    refine Reg.op0 (Ope.store rfl rfl hget_hd rfl rfl rfl ?_)
    refine Reg.nil (Run.seq (Run.seq (Run.region (cx_ok _ _ _) (Reg.op rfl (Ope.loadH rfl rfl rfl ?_)))))
    refine Reg.op rfl (Ope.bld rfl rfl ?_)
    refine Reg.op rfl (Ope.callM (clo:=cloN R) rfl rfl rfl rfl rfl (by omega) rfl (fun e he=>by cases he) rfl h165 (fun v es2 clock2 hq=>?_))
    obtain ⟨hq1,tl,htl,rfl⟩:=hq
    first
      | refine Reg.op rfl (Ope.len (m:=0) rfl rfl ?_)
      | refine Reg.op rfl (Ope.len (m:=1) rfl rfl ?_)
    refine Reg.op rfl (Ope.mov rfl ?_)
    refine Reg.nil (Run.block ?_)
    first
      | refine Run.loop (α:=Nat) (fun z=>[(4,I 0),(5,B false),(14,.sl tl []),(15,I ((0:Nat):Int)),(16,I z)]) (Function.const Nat _) (fun z=>z=0) (fun _=>0) 0 ⟨rfl,rfl,rfl,rfl,rfl,trivial⟩ rfl rfl (fun z hz=>?_)
      | refine Run.loop (α:=Nat) (fun z=>[(4,I 0),(5,B false),(14,.sl tl [I ((c+1:Nat):Int)]),(15,I ((1:Nat):Int)),(16,I z)]) (Function.const Nat _) (fun z=>z=0) (fun _=>0) 0 ⟨rfl,rfl,rfl,rfl,rfl,trivial⟩ rfl rfl (fun z hz=>?_)
    subst hz
    refine Run.seq (Run.region (cx_ok _ _ _) (Reg.op rfl (Ope.lt rfl rfl ?_)))
    refine Reg.nil (Run.seq (Run.condX rfl (fun hc=>?_) fun hc=>?_))
    ·first
     |(exfalso;omega)
     |refine Run.skip (Run.seq (Run.block (Run.seq (Run.region (cx_ok _ _ _) (Reg.op rfl (Ope.idxS (m:=0) rfl rfl rfl rfl rfl ?_))))))
      refine Reg.op rfl (Ope.load rfl rfl ?_)
      refine Reg.op rfl (Ope.asg rfl ?_)
      refine Reg.nil (Run.seq (Run.region (cx_ok _ _ _) (Reg.op rfl (Ope.mov rfl ?_))))
      refine Reg.op rfl (Ope.asg rfl ?_)
      refine Reg.op rfl (Ope.asg rfl ?_)
      refine Reg.nil (Run.ret (Jmp.retB (Jmp.code (Jmp.round (Jmp.retB (Jmp.code (fin_ret (.tmp rfl (.tmp rfl .nil)) rfl ?_)))))))
      simp [pone]
    ·first
     |(exfalso;omega)
     |refine Run.exit (Jmp.code (Jmp.round (Jmp.here (Run.seq (Run.region (cx_ok _ _ _) (Reg.op rfl (Ope.mov rfl ?_)))))))
      refine Reg.op rfl (Ope.asg rfl ?_)
      refine Reg.op rfl (Ope.asg rfl ?_)
      refine Reg.nil (Run.ret (fin_ret (.tmp rfl (.tmp rfl .nil)) rfl ?_))
      simp [pone]
theorem f61 (R:Rst) (hR:R.ok):Fn P0 61 [.agg R.cells] (I R.many):=by
  refine PFun.of (C:=c61) (cx_ok _ _ _) rfl (fn:=Tryz.f61) (by kernel_rfl) (c:=_) rfl rfl rfl ?_
  refine Run.seq (Run.region (cx_ok _ _ _) (Reg.op rfl (Ope.boxF rfl rfl ?_)))
  refine Reg.op rfl (Ope.asg rfl ?_)
  refine Reg.nil (Run.seq (Run.draw (cx_ok _ _ _) [(0,false),(1,true),(2,true),(3,true),(4,true),(5,true),(6,true),(7,true)] (by kernel_rfl) (Dra.op' rfl rfl rfl (.load rfl) (Ope.load rfl rfl ?_))))
  refine Dra.op' rfl rfl rfl .sure (Ope.cf rfl rfl (f113) rfl ?_)
  refine Dra.op' rfl rfl rfl .sure (Ope.cf rfl rfl (f112 R hR) rfl ?_)
  refine Dra.op' rfl rfl rfl .sure (Ope.mov rfl ?_)
  refine Dra.op' rfl rfl rfl .sure (Ope.ext rfl rfl ?_)
  refine Dra.op' rfl rfl rfl .sure (Ope.ext rfl rfl ?_)
  refine Dra.op' rfl rfl rfl .sure (Ope.asg rfl ?_)
  refine Dra.op' rfl rfl rfl .sure (Ope.asg rfl ?_)
  refine Dra.nil (Run.seq (Run.region (cx_ok _ _ _) (Reg.op rfl (Ope.mov rfl ?_))))
  refine Reg.op rfl (Ope.asg rfl ?_)
  exact Reg.nil (Run.ret (fin_ret (.tmp rfl .nil) rfl rfl))
theorem d111n {n:Nat} {l:HL} {K:PH→Prop} (hK:K (HE n l)):PDefer A0 P0 111 [.ptr 0 0] (.lit .nilifc) (HE n l) K:=by
  refine PDefer.of (C:=c111) (fd:=Tryz.f111) (by kernel_rfl) rfl rfl rfl rfl rfl rfl rfl rfl rfl rfl ?_
  refine Run.block (Run.seq (Run.region (cx_ok _ _ _) ?_))
  first | refine Reg.op rfl (Ope.eq rfl rfl ?_) | refine Reg.op rfl (Ope.eqI rfl rfl ?_) | refine Reg.op rfl (Ope.eqN rfl rfl rfl ?_)
  refine Reg.nil (Run.condX rfl (fun hc=>?_) fun hc=>?_)
  ·refine Run.region (cx_ok _ _ _) (Reg.op rfl (Ope.asg rfl ?_))
   exact Reg.nil (Run.bend (Run.done ⟨.inl rfl,trivial,hK⟩))
  ·exact absurd hc (by decide)
theorem f59ok {fa:Nat} {caps:List PV} {a:Int} (hf:Fn P0 fa caps (I a)) (hb:PV.bds 0 caps=true):Fn P0 59 [.fn (.func fa) [] caps] (.tup [I a,I 0]):=by
  unfold Fn PFun
  show PCall P0 59 _ (HE 0 []) _ _
  refine PCall.ofT (C:=c59) (cx_ok _ _ _) (fn:=Tryz.f59) (by kernel_rfl) (c:=_) rfl rfl ?_
  refine Til.seq rfl rfl ?_
  refine Run.region (cx_ok _ _ _) ?_
  refine Reg.op rfl (Ope.asg rfl ?_)
  refine Reg.op rfl (Ope.newL rfl ?_)
  refine Reg.nil ?_
  refine Run.done ⟨rfl,rfl,?_⟩
  refine Til.defer2 (cx_ok _ _ _) rfl rfl (by kernel_rfl) 2 [(2,I 0),(3,.ptr 0 0)] rfl rfl rfl rfl rfl rfl rfl rfl (Ope.mkf rfl rfl ⟨rfl,rfl⟩) rfl rfl ⟨rfl,rfl,trivial⟩ ?_
  refine RegP.op rfl (Ope.mov rfl ?_)
  refine RegP.op rfl (Ope.cf rfl rfl (by simpa using hf) (by simpa using hb) ?_)
  refine RegP.nil ?_
  refine Reg.op rfl (Ope.asg rfl ?_)
  refine Reg.op0 (Ope.store rfl rfl rfl rfl rfl rfl ?_)
  refine Reg.nil ?_
  refine Run.done ⟨rfl,trivial,d111n ?_⟩
  exact ResE.ofF (.tmp rfl (.cell rfl rfl .nil)) rfl rfl
theorem f60b (R:Rst) (hR:R.ok) (hv:validR R.m R.o0 R.t0 R.r0 R.f0 R.o1 R.t1 R.r1 R.f1=true):Fn P0 60 [.fp (.agg R.cells)] (I R.many):=by
  refine PFun.of (C:=c60) (cx_ok _ _ _) rfl (fn:=Tryz.f60) (by kernel_rfl) (c:=_) rfl rfl rfl ?_
  refine Run.seq (Run.region (cx_ok _ _ _) (Reg.op rfl (Ope.asg rfl ?_)))
  refine Reg.nil (Run.seq (Run.region (cx_ok _ _ _) (Reg.op rfl (Ope.load rfl rfl ?_))))
  refine Reg.op rfl (Ope.cf rfl rfl (f54t _ _ _ _ _ _ _ _ _ hv) rfl ?_)
  refine Reg.op rfl (Ope.cf rfl rfl (f61 R hR) rfl ?_)
  refine Reg.op rfl (Ope.asg rfl ?_)
  exact Reg.nil (Run.ret (fin_ret (.tmp rfl .nil) rfl rfl))
theorem f18b (R:Rst) (hR:R.ok) (hv:validR R.m R.o0 R.t0 R.r0 R.f0 R.o1 R.t1 R.r1 R.f1=true):Fn P0 18 [.agg R.cells] (.tup [I R.many,I 0]):=by
  refine PFun.of (C:=c18) (cx_ok _ _ _) rfl (fn:=Tryz.f18) (by kernel_rfl) (c:=_) rfl rfl rfl ?_
  refine Run.seq (Run.region (cx_ok _ _ _) (Reg.op rfl (Ope.boxF rfl rfl ?_)))
  refine Reg.op rfl (Ope.asg rfl ?_)
  refine Reg.op rfl (Ope.asg rfl ?_)
  refine Reg.nil (Run.seq (Run.region (cx_ok _ _ _) (Reg.op rfl (Ope.mkf rfl rfl ?_))))
  refine Reg.op rfl (Ope.cf rfl rfl (f59ok (f60b R hR hv) rfl) rfl ?_)
  refine Reg.op rfl (Ope.ext rfl rfl ?_)
  refine Reg.op rfl (Ope.ext rfl rfl ?_)
  refine Reg.op rfl (Ope.asg rfl ?_)
  refine Reg.op rfl (Ope.asg rfl ?_)
  exact Reg.nil (Run.ret (fin_ret (.tmp rfl (.tmp rfl .nil)) rfl rfl))
end Go.Pv
