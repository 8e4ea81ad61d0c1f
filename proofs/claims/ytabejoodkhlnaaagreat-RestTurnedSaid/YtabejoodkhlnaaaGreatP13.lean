/- Parts of the proof: T10, Pv40, Pv41, Pv42, Pv43, T13 -/
import Derived.Test.YtabejoodkhlnaaaGreatP12
import Derived.Test.YtabejoodkhlnaaaGreatP11
import Derived.WalkKit
import Derived.ProofKit
import Derived.OpenShut
import Derived.Carry
set_option linter.unusedVariables false
set_option linter.unusedSimpArgs false
namespace Go.Pv
open Go.Proofs Go.Am
set_option maxRecDepth 10000
def byL (n p:Nat):List Int:=(List.range n).map fun i=>((p >>> i &&& 1:Nat):Int)
theorem flat_I (xs:List Int):flat (xs.map I)=xs.map I:=by
  induction xs with
  | nil=>rfl
  | cons x xs ih=>simp only [List.map_cons,flat,ih];rfl
theorem set_fill (L:List PV) (z:PV) {i n:Nat} (hn:L.length=n) (h:i < n) {v:PV} (hv:L[i]?=some v):(L.take i++List.replicate (n - i) z).set i v=L.take (i+1)++List.replicate (n - (i+1)) z:=by
  subst hn
  have hv':L[i]=v:=by
    rw [List.getElem?_eq_getElem h] at hv
    exact Option.some.inj hv
  have e1:(L.take i).length=i:=by rw [List.length_take];omega
  rw [List.set_append_right _ _ (by omega),e1,Nat.sub_self,show L.length - i=(L.length - (i+1))+1 from by omega,List.replicate_succ,List.set_cons_zero,List.take_succ_eq_append_getElem h,hv']
  simp
theorem byL_length (n p:Nat):(byL n p).length=n:=by simp [byL]
theorem byL_get {n p i:Nat} (h:i < n):((byL n p).map I)[i]?=some (I ((p >>> i &&& 1:Nat):Int)):=by
  simp [byL,h]
theorem f34 (n p:Nat) (hn:n≤16) (hp:p < 65536):Fn P0 34 [I n,.lit (.int .u16 (p:Int))] (.sl .no ((byL n p).map I)):=by
  refine PFun.of (C:=c34) (cx_ok _ _ _) rfl (fn:=Tryz.f34) (by kernel_rfl) (c:=_) rfl rfl rfl ?_
  refine Run.seq (Run.region (cx_ok _ _ _) (Reg.op rfl (Ope.asg rfl ?_)))
  refine Reg.nil (Run.seq (Run.region (cx_ok _ _ _) (Reg.op rfl (Ope.mov rfl ?_))))
  refine Reg.op rfl (Ope.mks (m:=n) (c:=n) rfl rfl rfl rfl (Nat.le_refl _) (by omega) (by omega) (fun ez=>?_))
  refine Reg.op rfl (Ope.asg rfl ?_)
  refine Reg.nil (Run.seq (Run.seq (Run.region (cx_ok _ _ _) (Reg.op rfl (Ope.mov rfl ?_)))))
  first | refine Reg.op rfl (Ope.len rfl (List.length_map _) ?_) | refine Reg.op rfl (Ope.len rfl rfl ?_) | refine Reg.op rfl (Ope.lenL rfl ?_)
  refine Reg.op rfl (Ope.mov rfl ?_)
  refine Reg.nil (Run.block (Run.loop (α:=Nat) (fun i=>[(1,.lit (.int .u16 (p:Int))),(5,.ms 0 0 n n ez),(10,I n),(11,I i)]) (fun i=>HE 1 [(0,some (.cells (((byL n p).map I).take i++List.replicate (n - i) (I 0))))]) (fun i=>i≤n) (fun i=>n - i) 0 ⟨rfl,rfl,rfl,rfl,trivial⟩ (by simp) (Nat.zero_le _) (fun i hi=>?_)))
  refine Run.seq (Run.region (cx_ok _ _ _) (Reg.op rfl (Ope.lt rfl rfl ?_)))
  refine Reg.nil (Run.seq (Run.condX rfl (fun hc=>?_) fun hc=>?_))
  ·refine Run.skip (Run.seq (Run.block (Run.seq (Run.region (cx_ok _ _ _) (Reg.op rfl (Ope.mov rfl ?_))))))
   refine Reg.op rfl (Ope.asg rfl ?_)
   refine Reg.nil ?_
   have hsh:p >>> i < 65536:=Nat.lt_of_le_of_lt (Nat.shiftRight_le _ _) hp
   have hand:=and_one_lt (p >>> i)
   refine Run.region (cx_ok _ _ _) (Reg.op rfl (Ope.mov rfl ?_))
   refine Reg.op rfl (Ope.mov rfl ?_)
   refine Reg.op rfl (Ope.mov rfl ?_)
   refine Reg.op rfl (Ope.mov rfl ?_)
   refine Reg.op rfl (Ope.shrN (p:=p) (m:=i) rfl rfl rfl rfl (by show i≤16;omega) ?_)
   refine Reg.op rfl (Ope.andN (p:=p >>> i) (q:=1) rfl rfl rfl rfl (by show _ < 2 ^ 16;omega) (by decide) ?_)
   refine Reg.op rfl (Ope.convN (p:=p >>> i &&& 1) rfl rfl (by show _ < 2 ^ 63;omega) ?_)
   refine Reg.op rfl (Ope.idxL rfl rfl rfl (by omega) ?_)
   refine Reg.op0 (Ope.storeL rfl rfl rfl rfl rfl (by simp [byL];omega) ?_)
   refine Reg.nil (Run.bend (Run.wideS (m:=1) (l':=[(0,some (.cells (((byL n p).map I).take (i+1)++List.replicate (n - (i+1)) (I 0))))]) (Nat.le_refl _) ?_ ?_))
   · have hz : 0 + i * 1 = i := by omega
     rw [hz,set_fill ((byL n p).map I) (I 0) (by simp [byL]) (by omega) (byL_get (by omega))]
     exact hs_shadow
   refine Run.region (cx_ok _ _ _) (Reg.op rfl (Ope.add rfl rfl (by omega) ?_))
   refine Reg.op rfl (Ope.mov rfl ?_)
   refine Reg.nil (Run.lend ⟨i+1,by omega,by omega,⟨rfl,rfl,rfl,rfl,trivial⟩,rfl,rfl⟩)
  ·refine Run.exit (Jmp.code (Jmp.round (Jmp.here (Run.seq ?_))))
   have hin:i=n:=by omega
   have hcs:((byL n p).map I).take i++List.replicate (n - i) (I 0)=flat ((byL n p).map I)++[]:=by
     rw [flat_I,List.take_of_length_le (by simp [byL];omega),hin,Nat.sub_self]
     rfl
   refine Run.frzS (d:=5) (vs:=(byL n p).map I) (post:=[]) (sz:=1) rfl (congrArg (fun q=>some (PBlk.cells q)) hcs) (by simp [byL]) (Nat.le_refl _) (by simp [PV.nc]) ?_
   refine Run.region (cx_ok _ _ _) (Reg.op rfl (Ope.mov rfl ?_))
   refine Reg.op rfl (Ope.asg rfl ?_)
   refine Reg.nil (Run.ret (fin_ret (.tmp rfl .nil) (bd_sl (f:=I) rfl (fun _=>rfl) _) ?_))
   rfl
def hst (xs:List Int) (who:Int):Nat→Int×Int×Int
  | 0=>(0,-1,0)
  | k+1=>if xs.getD k 0=who then ((hst xs who k).1+1,(k:Int),(hst xs who k).2.2+1) else ((hst xs who k).1,(hst xs who k).2.1,0)
end Go.Pv
namespace Go.Pv
open Go.Am Go.RowKit
def markK (M:Nat→Bool) (an:T Nat) (all:List Oper):List Nat→List (Nat×Bool)→List (Nat×Bool×Bool)
 |_,[]=>[]
 |fs,(i,b)::r=>(i,b,loudI M all i && !(fs.all fun j=>(anc an i).testBit j))::markK M an all (match b with
  |true=>fs
  |false=>i::fs) r
def drwS (M:Nat→Bool) (ops:List Oper):Option (List (Nat×Bool×Bool)) :=
 match pstat M ops with
 |none=>none
 |some an=>match ordOk M an ops 0 0 (asap M an ops ops.length 0) with
  |true=>match flagK M an ops (asap M an ops ops.length 0) with
   |some fl=>some (markK M an ops [] fl)
   |none=>none
  |false=>none
def StabS (A:AP) (E:Eqs) (S:PH→Prop) (t:Nat→Option PV) (o:Oper):Prop:=∀ h h',S h→S h'→pquiet A E (pev t) h o.op=pquiet A E (pev t) h' o.op
def pdraS (A:AP) (E:Eqs) (P:Program) (M:Nat→Bool) (sz:Nat) (S:PH→Prop) (all:List Oper):List (Nat×Bool×Bool)→T PV→PH→(T PV→PH→Prop)→(PV→PH→Prop)→Prop
 |[],t,h,K,_=>K t h
 |p::rest,t,h,K,X=>match nthK all p.1 with
  |none=>False
  |some o=>match dstIn sz o.dst,gst all t o with
   |true,some g=>PIf g ((p.2.1=false→S h∧StabS A E S t.get o)∧pop A E P M t.get h o (fun v h'=>(p.2.2=true→S h')∧pdraS A E P M sz S all rest (tput t o.dst v) h' K X) X) (pdraS A E P M sz S all rest (tput t o.dst (.tup [])) h K X)
   |_,_=>False
section
variable {A:AP} {P:Program} {E:Eqs} {M:Nat→Bool}
theorem draS_drawF {sz : Nat} {an : T Nat} {all : List Oper} {ord0 : List Nat} {S : PH → Prop} (hO : Ord M an all ord0) (hS : PStat M all an) {fl0 : List (Nat × Bool)} (hfl : flagK M an all ord0 = some fl0) {K : T PV → PH → Prop} {X : PV → PH → Prop} :
  ∀ (fl pre:List (Nat×Bool)) (fs:List Nat) (rds:List (Nat×Oper×PV)) (t:T PV) (h:PH),fl0=pre++fl→(∀ j,(j,false)∈pre→j∈fs) →
  (∀ r∈rds,all[r.1]?=some r.2.1∧readsP r.2.1.op=true∧∃ b,(r.1,b)∈pre∧(loudP M r.2.1=false→b=false→∀ h',S h'→pquiet A E (pev t.get) h' r.2.1.op=some r.2.2)) →
  pdraS A E P M sz S all (markK M an all fs fl) t h K X→pdrawF A E P M sz an all (fl.map (·.1)) rds t h K X
 |[],pre,fs,rds,t,h,_,_,_,hp=>by simpa [markK,pdraS,pdrawF] using hp
 |(i, b) :: rest, pre, fs, rds, t, h, hs, hfs, hr, hp => by
  obtain ⟨hm,hsp⟩:=flagK_spec ord0 fl0 hfl
  simp only [markK,pdraS] at hp
  simp only [List.map_cons,pdrawF]
  rw [nthK_eq] at hp
  split at hp
  ·exact hp.elim
  next o ho =>
  simp only [ho]
  split at hp
  case h_2=>exact hp.elim
  next g hd hg =>
  simp only [hd,hg]
  have hord:ord0=pre.map (·.1)++i::rest.map (·.1):=by rw [← hm,hs];simp
  have hs':fl0=(pre++[(i,b)])++rest:=by rw [hs];simp
  have hfs':∀ j,(j,false)∈pre++[(i,b)]→j∈(match b with
    |true=>fs
    |false=>i::fs):=by
   intro j hj
   rcases List.mem_append.1 hj with hj1 | hj
   ·cases b with
    |false=>exact List.mem_cons_of_mem _ (hfs j hj1)
    |true=>exact hfs j hj1
   ·simp only [List.mem_singleton,Prod.mk.injEq] at hj
    obtain ⟨rfl,rfl⟩:=hj
    exact List.mem_cons_self ..
  have keep:∀ v,∀ r∈rds,all[r.1]?=some r.2.1∧readsP r.2.1.op=true∧∃ b',(r.1,b')∈pre++[(i,b)]∧(loudP M r.2.1=false→b'=false→∀ h',S h'→pquiet A E (pev (tput t o.dst v).get) h' r.2.1.op=some r.2.2):=by
   intro v r hrr
   obtain ⟨q1,q0,b',q2,q3⟩:=hr r hrr
   refine ⟨q1,q0,b',by simp [q2],fun hlr hb h' hS'=>?_⟩
   have hj:r.1∈pre.map (·.1):=List.mem_map.2 ⟨_,q2,rfl⟩
   have hlk:looksI M all r.1=true:=by
    obtain ⟨a,c,e⟩:=List.append_of_mem q2
    exact (hsp a r.1 b' (c++(i,b)::rest) (by rw [hs,e];simp)).2 hb
   have hlk2:∀ x∈looks all r.2.1,M (x+1000000)=false:=by
    unfold looksI at hlk
    rw [nthK_eq,q1] at hlk
    intro x hx
    have:=List.all_eq_true.1 hlk x hx
    simpa using this
   have hsame:∀ x∈looks all r.2.1,(tput t o.dst v).get x=t.get x:=fun x hx=>tput_ne fun hdx=>by
    rcases hS.look r.1 i r.2.1 o x q1 ho hdx hx with h1 | ⟨h1,_⟩
    ·rw [hO.before hS hord hj] at h1
     cases h1
    ·rw [hlk2 x hx] at h1
     cases h1
   rw [pquiet_congr (pev_eq (all:=all) hsame)]
   exact q3 hlr hb h' hS'
  have skip:pdraS A E P M sz S all (markK M an all (match b with
    |true=>fs
    |false=>i::fs) rest) (tput t o.dst (.tup [])) h K X→pdrawF A E P M sz an all (rest.map (·.1)) rds (tput t o.dst (.tup [])) h K X:=fun hv =>
   draS_drawF hO hS hfl rest (pre++[(i,b)]) _ rds _ h hs' hfs' (keep _) hv
  have hlook:∀ x∈looks all o,o.dst≠some x:=fun x hx hdx=>by
   have hat:=hO.at_ _ i _ hord
   have:(anc an i).testBit i=true:=(hS.look i i o o x ho ho hdx hx).elim id fun h=>h.2
   exact absurd (hat.2.2.1 i this) hat.2.1
  have next : ∀ (v : PV) (h' : PH), (loudP M o = false → readsP o.op = true → b = false → ∀ h2, S h2 → pquiet A E (pev t.get) h2 o.op = some v) → ((loudI M all i && !(fs.all fun j => (anc an i).testBit j)) = true → S h') → pdraS A E P M sz S all (markK M an all (match b with
    |true=>fs
    |false=>i::fs) rest) (tput t o.dst v) h' K X →
    stillP A E M an i o t h' rds∧pdrawF A E P M sz an all (rest.map (·.1)) (addRd i o v rds) (tput t o.dst v) h' K X:=by
   intro v h' hval hSh hv
   refine ⟨?_,draS_drawF hO hS hfl rest (pre++[(i,b)]) _ _ _ h' hs' hfs' ?_ hv⟩
   ·unfold stillP
    split
    ·next hl =>
     have st : ∀ (q : List (Nat × Oper × PV)), (∀ r ∈ q, r ∈ rds) → still A E an i t h' q := by
      intro q
      induction q with
      |nil=>intro _;trivial
      |cons a q ih =>
       intro hq
       refine ⟨?_,ih fun r hrr=>hq r (List.mem_cons_of_mem _ hrr)⟩
       obtain ⟨q1,q0,b',q2,q3⟩:=hr a (hq a (by simp))
       have hpre:a.1∈pre.map (·.1):=List.mem_map.2 ⟨_,q2,rfl⟩
       cases hla:loudP M a.2.1 with
       |true =>
        have:=(hO.at_ _ i _ hord).2.2.2 a.1 hpre (by simp only [loudAt,q1,hla])
        simp only [this]
       |false =>
        cases b' with
        |false =>
         cases hab:(anc an i).testBit a.1 with
         |true=>trivial
         |false =>
          refine q3 hla rfl h' (hSh ?_)
          have h1:loudI M all i=true:=by
           unfold loudI
           rw [nthK_eq,ho]
           exact hl
          rw [h1,Bool.true_and,Bool.not_eq_true']
          refine Bool.eq_false_iff.2 fun hall=>?_
          have:=List.all_eq_true.1 hall a.1 (hfs a.1 q2)
          rw [hab] at this
          cases this
        |true =>
         obtain ⟨a1,c1,e1⟩:=List.append_of_mem q2
         have:=(hsp a1 a.1 true (c1++(i,b)::rest) (by rw [hs,e1];simp)).1 rfl (by unfold readI;rw [nthK_eq,q1];exact q0) i (by simp) (by
          unfold loudI
          rw [nthK_eq,ho]
          exact hl)
         simp only [this]
     exact st rds fun _ h=>h
    ·trivial
   ·intro r hrr
    unfold addRd at hrr
    cases hrd:readsP o.op with
    |true =>
     rw [hrd] at hrr
     rcases List.mem_cons.1 hrr with rfl | hrr
     ·refine ⟨ho,hrd,b,by simp,fun hlo hb h2 hS2=>?_⟩
      rw [pquiet_congr (ρ':=pev t.get) (pev_eq (all:=all) fun x hx=>tput_ne (hlook x hx))]
      exact hval hlo hrd hb h2 hS2
     ·exact keep v r hrr
    |false =>
     rw [hrd] at hrr
     exact keep v r hrr
  refine hp.mono (fun ⟨hst,hq⟩=>?_) skip
  cases hlo:loudP M o with
  |true=>exact pop_mono hq (fun v h' hv=>next v h' (fun hc=>by rw [hlo] at hc;cases hc) hv.1 hv.2) fun _ _ hx=>hx
  |false =>
   obtain ⟨v,v1,v2⟩:=pop_pure hlo hq
   refine pop_of_pure v1 (next v h (fun _ hrd hb h2 hS2=>?_) v2.1 v2.2)
   rw [(hst hb).2 h2 h hS2 (hst hb).1]
   rw [← ppure_reads hrd v1]
   exact v1
end
section
variable {C:Cx} {F:EQ} {X:EX} {k:List KI} {e:EL} {ds:List Nat} {h:PH} {n:Nat} {l:List (Nat×Option PBlk)} {S:PH→Prop}
@[irreducible] def DraS (C:Cx) (F:EQ) (X:EX) (k:List KI) (S:PH→Prop) (all:List Oper) (os:List (Nat×Bool×Bool)) (e:EL) (ds:List Nat) (h:PH):Prop :=
 ∀ t:T PV,t.get=lget e→pdraS C.A C.E C.P C.M C.sz S all os t h (fun t h=>toQ (Ks C F X k) .normal t ds h) (X ds)
theorem Run.drawS (hC:C.Ok) {id:Nat} {ops:Array Oper} (S:PH→Prop) (ord:List (Nat×Bool×Bool)) (hd:drwS C.M ops.toList=some ord) (hr:DraS C F X k S ops.toList ord e ds h):Run C F X (.c (.region id ops true)::k) e ds h:=by
 unfold DraS at hr
 refine Run.intro (PWP.draw (M:=C.M) hC.A hC.E hC.f ?_)
 unfold drwS at hd
 split at hd
 ·cases hd
 next an hst =>
 split at hd
 case h_2=>cases hd
 next hok =>
 split at hd
 case h_2=>cases hd
 next fl hfl =>
 cases hd
 unfold pdraw
 simp only [hst,hok]
 have:=draS_drawF (ord_of hok) (pstat_ok hst) hfl fl [] [] [] (TE e) h rfl (fun j hj=>by cases hj) (fun r hr=>by cases hr) (hr (TE e) (TE_getf e))
 rwa [(flagK_spec _ _ hfl).1] at this
variable {all:List Oper} {os:List (Nat×Bool×Bool)}
theorem DraS.nil (hk:Run C F X k e ds h):DraS C F X k S all [] e ds h:=by
 unfold DraS
 exact fun t ht=>hk.toQ fun i v hi=>by rw [ht];exact hi
variable {i d:Nat} {b:Bool} {op:Op} {type:TypeId} {pos:String} {after:Array Edge}
theorem pdraS_put {d:Option Nat} {v:PV} (hr:match d with
  |some d=>DraS C F X k S all os ((d,v)::e) ds h
  |none=>DraS C F X k S all os e ds h) {t:T PV} (ht:t.get=lget e):pdraS C.A C.E C.P C.M C.sz S all os (tput t d v) h (fun t h=>toQ (Ks C F X k) .normal t ds h) (X ds):=by
 cases d with
 |none =>
  simp only at hr
  unfold DraS at hr
  exact hr t ht
 |some d =>
  simp only at hr
  unfold DraS at hr
  exact hr _ (put_get ht d v)
theorem DraS.opQ {o:Oper} (hi:nthK all i=some o) (hg:o.guard=none) (hd:dstIn C.sz o.dst=true)
  (ho : Ope C X o e ds h fun v h' => match o.dst with
   |some d=>DraS C F X k S all os ((d,v)::e) ds h'
   |none=>DraS C F X k S all os e ds h'):DraS C F X k S all ((i,true,false)::os) e ds h:=by
 unfold DraS
 intro t ht
 simp only [pdraS,hi,hd,gst,hg,PIf]
 refine ⟨fun hb=>(by cases hb),?_⟩
 unfold Ope at ho
 rw [ht]
 exact pop_mono ho (fun v h' hv=>⟨fun hc=>(by cases hc),pdraS_put hv ht⟩) fun _ _ hx=>hx
theorem DraS.opS {o:Oper} (hi:nthK all i=some o) (hg:o.guard=none) (hd:dstIn C.sz o.dst=true)
  (ho : Ope C X o e ds h fun v h' => S h' ∧ match o.dst with
   |some d=>DraS C F X k S all os ((d,v)::e) ds h'
   |none=>DraS C F X k S all os e ds h'):DraS C F X k S all ((i,true,true)::os) e ds h:=by
 unfold DraS
 intro t ht
 simp only [pdraS,hi,hd,gst,hg,PIf]
 refine ⟨fun hb=>(by cases hb),?_⟩
 unfold Ope at ho
 rw [ht]
 exact pop_mono ho (fun v h' hv=>⟨fun _=>hv.1,pdraS_put hv.2 ht⟩) fun _ _ hx=>hx
theorem DraS.opR {o:Oper} (hi:nthK all i=some o) (hg:o.guard=none) (hd:dstIn C.sz o.dst=true) (hs:S h) (hst:StabS C.A C.E S (lget e) o)
  (ho : Ope C X o e ds h fun v h' => match o.dst with
   |some d=>DraS C F X k S all os ((d,v)::e) ds h'
   |none=>DraS C F X k S all os e ds h'):DraS C F X k S all ((i,false,false)::os) e ds h:=by
 unfold DraS
 intro t ht
 simp only [pdraS,hi,hd,gst,hg,PIf]
 refine ⟨fun _=>⟨hs,by rw [ht];exact hst⟩,?_⟩
 unfold Ope at ho
 rw [ht]
 exact pop_mono ho (fun v h' hv=>⟨fun hc=>(by cases hc),pdraS_put hv ht⟩) fun _ _ hx=>hx
theorem StabS.frozen {t:TypeId} {a:Operand} {u:PV} {dd:Option Nat} {guard:Option (Nat×Bool)} (ha:pev (lget e) a=some (.fp u)):StabS C.A C.E S (lget e) { dst:=dd,op:=.load t a,type,pos,after,guard }:=by
 intro h h' _ _
 simp only [pquiet,ha]
 unfold pload
 rfl
theorem StabS.live {t:TypeId} {a:Operand} {i o:Nat} {b:PBlk} {dd:Option Nat} {guard:Option (Nat×Bool)} (ha:pev (lget e) a=some (.ptr i o)):StabS C.A C.E (fun h=>h.get i=some b) (lget e) { dst:=dd,op:=.load t a,type,pos,after,guard }:=by
 intro h h' h1 h2
 simp only [pquiet,ha]
 unfold pload
 simp only [h1,h2]
end
end Go.Pv
namespace Go.Pv
open Go.Am Go.RowKit
def mptP (A:AP) (t:TypeId):Option (Nat×PV) :=
 match A.under t with
 |some (.map kt et)=>match pzero A et with
  |some z=>some (kt,z)
  |none=>none
 |_=>none
class Mpt (A:AP) (t:Nat) (kt:outParam Nat) (z:outParam PV):Prop where
 ok:mptP A t=some (kt,z)
theorem Mpt.get {A:AP} {t kt:Nat} {z:PV} (h:Mpt A t kt z):∃ et,A.under t=some (.map kt et)∧pzero A et=some z:=by
 have:=h.ok
 unfold mptP at this
 split at this
 ·next k' et hu =>
  split at this
  ·next z' hz =>
   simp only [Option.some.injEq,Prod.mk.injEq] at this
   obtain ⟨rfl,rfl⟩:=this
   exact ⟨et,hu,hz⟩
  ·cases this
 ·cases this
theorem RV_tl_no {s:St} {tl:Tail} {vs:List PV} {x:Value} (h:RV s (.sl tl vs) x):RV s (.sl .no vs) x:=by
 rcases RV_sl.1 h with ⟨h1,_,h3⟩ | ⟨k,o,c,sz,h1,h2,h3,_⟩
 ·exact RV_sl.2 (.inl ⟨h1,rfl,h3⟩)
 ·exact RV_sl.2 (.inr ⟨k,o,c,sz,h1,h2,h3,trivial⟩)
section
variable {C:Cx} {F:EQ} {X:EX} {k:List KI} {e:EL} {ds:List Nat} {h:PH} {n m:Nat} {l l':HL} {K:PV→PH→Prop}
variable {d:Option Nat} {type:TypeId} {pos:String} {after:Array Edge} {guard:Option (Nat×Bool)}
theorem Run.weakC {c:Code} {i:Nat} {cs cs':List PV} (hg:hget l i=some (.cells cs)) (hcs:∀ (s:St) (xs:List Value),RVs s cs xs→RVs s cs' xs) (hr:Run C F X (.c c::k) e ds (HE n ((i,some (.cells cs'))::l))):Run C F X (.c c::k) e ds (HE n l):=by
 refine Run.ghost (fun t ht=>⟨t,ht,?_⟩) hr
 intro w0 s arr a1 a2 a3
 have hn:s.h.next≤(HE n ((i,some (.cells cs'))::l)).next:=by rw [a2];exact Nat.le_refl _
 have hx:=Ext.wide (s:=s) hn
 refine ⟨s.wide (HE n ((i,some (.cells cs'))::l)),rfl,?_,hx,rfl,a3.ext hx⟩
 refine ⟨a1.os,a1.tape,a1.output,a1.size,a1.old,a1.prot,a1.cold,a1.inb,fun k n i hk=>?_,fun j b hj=>?_⟩
 ·obtain ⟨h1,h2⟩:=a1.ob k n i hk
  exact ⟨Nat.lt_of_lt_of_le h1 hn,h2⟩
 ·have hj':hget ((i,some (.cells cs'))::l) j=some b:=hj
  by_cases hji:j=i
  ·subst hji
   rw [hget_hd] at hj'
   cases hj'
   obtain ⟨h1,h2,h3⟩:=a1.hp j (.cells cs) (by rw [a2];exact hg)
   refine ⟨Nat.lt_of_lt_of_le h1 hn,h2,?_⟩
   obtain ⟨ar,t,e1,e2⟩:=h3
   exact ⟨ar,t,e1,(R2s.ext hx cs').1 _ (hcs s _ e2)⟩
  ·rw [hget_tl hji] at hj'
   obtain ⟨h1,h2,h3⟩:=a1.hp j b (by rw [a2];exact hj')
   exact ⟨Nat.lt_of_lt_of_le h1 hn,BAt.congr (s':=s.wide _) (s:=s) rfl rfl h2,h3.ext hx rfl⟩
theorem Run.weakS {c:Code} {i:Nat} {tl:Tail} {vs:List PV} (hg:hget l i=some (.cells [.sl tl vs])) (hr:Run C F X (.c c::k) e ds (HE n ((i,some (.cells [.sl .no vs]))::l))):Run C F X (.c c::k) e ds (HE n l) :=
 Run.weakC hg (fun _ _ h=>by
  obtain ⟨y,ys,rfl,h1,h2⟩:=RVs_cons.1 h
  exact RVs_cons.2 ⟨y,ys,rfl,RV_tl_no h1,h2⟩) hr
theorem Ope.mmap {t:Nat} (hK:K (.mp n) (HE (n+1) ((n,some (.map [] 0))::l))):Ope C X { dst:=d,op:=.makeMap t none,type,pos,after,guard } e ds (HE n l) K:=by
 unfold Ope
 simp only [pop,pkind,ploud]
 rw [HE_add]
 exact hK
theorem Ope.look {t kt i:Nat} {z kv:PV} {ka:AV} {x y:Operand} {es:List (AV×PV×Nat)} {clock:Nat} {ok:Bool} {r:Option (Nat×PV)} [hm:Mpt C.A t kt z] (hx:pev (lget e) x=some (.mp i)) (hk:pev (lget e) y=some kv) (hka:PV.toAV kv=some ka)
  (hg : hget l i = some (.map es clock)) (hc : acheck C.A 20 kt ka = true) (hf : pfind C.A C.E kt ka es 0 = some r) (hK : K (pok ok (match r with
   |some p=>p.2
   |none=>z) r.isSome) (HE n l)):Ope C X { dst:=d,op:=.lookup t x y ok,type,pos,after,guard } e ds (HE n l) K:=by
 refine Ope.quiet rfl ?_ hK
 obtain ⟨et,h1,h2⟩:=hm.get
 have hes:pentries (HE n l) (.mp i)=some es:=by
  unfold pentries
  show (match hget l i with
   |some (.map es _)=>some es
   |_=>none)=some es
  rw [hg]
 simp only [pquiet,hx,hk,plookup,h1,hka,hes,hc,hf]
 cases r with
 |none=>simp only [h2,Option.isSome_none]
 |some p=>rfl
theorem Ope.mset {t kt i:Nat} {z kv vv:PV} {ka:AV} {x y u:Operand} {es:List (AV×PV×Nat)} {clock:Nat} {r:Option (Nat×PV)} [hm:Mpt C.A t kt z] (hx:pev (lget e) x=some (.mp i)) (hk:pev (lget e) y=some kv) (hv:pev (lget e) u=some vv) (hka:PV.toAV kv=some ka)
  (hg:hget l i=some (.map es clock)) (hc:acheck C.A 20 kt ka=true) (hf:pfind C.A C.E kt ka es 0=some r) (hs:∀ j v,r=some (j,v)→∃ e,es[j]?=some e∧asame 20 e.1 ka=true)
  (hK1:∀ j v,r=some (j,v)→K (.tup []) (HE n ((i,some (.map (psetAt es j ka vv) clock))::l))) (hK2:r=none→K (.tup []) (HE n ((i,some (.map (es++[(ka,vv,clock)]) (clock+1)))::l))) :
  Ope C X { dst:=d,op:=.mapUpdate t x y u,type,pos,after,guard } e ds (HE n l) K:=by
 obtain ⟨et,h1,h2⟩:=hm.get
 unfold Ope
 simp only [pop,pkind,ploud,hx,hk,hv,PMapUpdate,h1]
 refine ⟨es,clock,ka,r,hg,hka,hc,hf,?_⟩
 cases r with
 |none =>
  simp only [HE_put]
  exact hK2 rfl
 |some p =>
  obtain ⟨j,v⟩:=p
  simp only [HE_put]
  exact ⟨hs j v rfl,hK1 j v rfl⟩
theorem HE_cut3 {a c:Option PBlk} (h0:hget l 0=a) (h1:hget l 1=none) (h2:hget l 2=c):(HE n l).cut 3=HE 3 [(0,a),(2,c)]:=by
 unfold PH.cut HE
 congr 1
 funext i
 match i with
 |0=>exact h0
 |1=>exact h1
 |2=>exact h2
 |i+3=>rfl
theorem HE_over3 {a c:Option PBlk} (h1:hget l 1=none) (h2:hget l 2=c):(HE n l).over 3 (HE 3 [(0,a),(2,c)])=HE n ((0,a)::l):=by
 unfold PH.over HE
 congr 1
 funext i
 match i with
 |0=>rfl
 |1=>exact h1.symm
 |2=>exact h2.symm
 |i+3=>rfl
theorem ok3 {es:List (AV×PV×Nat)} {clock:Nat} {clo:PBlk} (hes:∀ e∈es,e.2.1.bd 3=true) (hclo:clo.bd 3):(HE 3 [(0,some (.map es clock)),(2,some clo)]).Ok:=by
 intro i b hb
 match i with
 |0 =>
  cases (show some (PBlk.map es clock)=some b from hb)
  exact ⟨by show 0 < 3;decide,hes⟩
 |1=>cases (show (none:Option PBlk)=some b from hb)
 |2 =>
  cases (show some clo=some b from hb)
  exact ⟨by show 2 < 3;decide,hclo⟩
 |i+3=>cases (show (none:Option PBlk)=some b from hb)
theorem Ope.callM {f:Operand} {args:Array Operand} {tys:Array TypeId} {g:Nat} {fs ar cp:List PV} {clo:PBlk} {es:List (AV×PV×Nat)} {clock:Nat} {Q:PV→List (AV×PV×Nat)→Nat→Prop} (hf:pev (lget e) f=some (.fn (.func g) fs cp)) (ha:pargs (pev (lget e)) args.toList=some ar)
  (h0:hget l 0=some (.map es clock)) (h1:hget l 1=none) (h2:hget l 2=some clo) (hn:3≤n) (hb:PV.bds 3 (fs++ar++cp)=true) (hes:∀ e∈es,e.2.1.bd 3=true) (hclo:clo.bd 3)
  (hc:PCall C.P g (fs++ar++cp) (HE 3 [(0,some (.map es clock)),(2,some clo)]) (fun v h'=>∃ es' clock',h'=HE 3 [(0,some (.map es' clock')),(2,some clo)]∧Q v es' clock') fun _ _=>False)
  (hK:∀ v es' clock',Q v es' clock'→K v (HE n ((0,some (.map es' clock'))::l))):Ope C X { dst:=d,op:=.call { callee:=.value f,args,argTypes:=tys },type,pos,after,guard } e ds (HE n l) K:=by
 refine Ope.call hf ha rfl ?_
 have hcut:=HE_cut3 (n:=n) h0 h1 h2
 refine (PCall.frame (n:=3) (h:=HE n l) hn hb (fun _=>by rw [hcut];exact ok3 hes hclo) (by rw [hcut];exact hc) ?_ ?_).mono ?_ ?_
 ·rintro v h' ⟨es',clock',rfl,_⟩;rfl
 ·intro v h' hx;exact hx.elim
 ·rintro v h'' ⟨h',⟨es',clock',rfl,hq⟩,rfl⟩
  rw [HE_over3 h1 h2]
  exact hK v es' clock' hq
 ·rintro v h'' ⟨h',hx,_⟩;exact hx.elim
theorem finC_ret {fn:Func} {R:PV→PH→Prop} {vs:List PV} (hv:Res C.A e l fn.results.toList vs) (hb:(pone vs).bd n=true) (hok:((HE m l).cut n).Ok) (hR:R (pone vs) ((HE m l).cut n)):Jmp C (FinH C fn n R) X [] .ret e [] (HE m l) :=
 Jmp.done ⟨trivial,vs,hv.get,_,_,PGh.cut hb hok,hR⟩
theorem finC_retD {fn:Func} {R:PV→PH→Prop} {vs:List PV} {i:Nat} (hd:hget l i=some .dfr) (hv:Res C.A e ((i,none)::l) fn.results.toList vs) (hb:(pone vs).bd n=true) (hok:((HE m ((i,none)::l)).cut n).Ok) (hR:R (pone vs) ((HE m ((i,none)::l)).cut n)) :
  Jmp C (FinH C fn n R) X [] .ret e [i] (HE m l):=by
 refine Jmp.done ⟨⟨hd,trivial⟩,vs,?_,?_⟩
 ·simp only [unds,HE_del]
  exact hv.get
 ·refine ⟨_,_,PGh.cut hb (by simp only [unds,HE_del];exact hok),?_⟩
  simp only [unds,HE_del]
  exact hR
end
end Go.Pv
namespace Go.Pv
open Go.Am Go.RowKit Go.ChangeShapes Go.WideShapes
def St.start (w:World):St:=⟨fun _=>.no,fun _=>0,.nil,w⟩
theorem PW.start (w:World):PW (Base.of w) (St.start w):=by
 refine ⟨rfl,rfl,rfl,Nat.le_refl _,fun _ _=>rfl,fun _ _=>.inl rfl,fun k o hk ho=>?_,fun _ _=>rfl,fun k n i h=>(by cases h),fun i b h=>(by cases h)⟩
 exact absurd (Array.getElem?_eq_some_iff.1 ho).1 hk
theorem RV_I (s:St) (n:Int):RV s (I n) (.int .i64 n):=RV_lit.2 ⟨rfl,by simp only [VR]⟩
theorem RVs_ints (s:St):∀ ns:List Int,RVs s (ns.map I) (ns.map (Value.int .i64))
 |[]=>RVs_nil.2 rfl
 |n::ns=>RVs_cons.2 ⟨_,_,rfl,RV_I s n,RVs_ints s ns⟩
theorem ints_of:∀ (l:List Value),(∀ x∈l,∃ n,x=.int .i64 n)→∃ ns:List Int,l=ns.map (Value.int .i64)
 |[],_=>⟨[],rfl⟩
 |x::l,h=>by
  obtain ⟨n,rfl⟩:=h x (by simp)
  obtain ⟨ns,rfl⟩:=ints_of l fun y hy=>h y (List.mem_cons_of_mem _ hy)
  exact ⟨n::ns,rfl⟩
theorem okWide_ints {P:Program} {w:World} {r:Reach} {base:Nat} {t:TypeId} {fs:Array Field} {ts:List TypeId} {v:Value} (ht:P.underlying t=some (.struct fs)) (hc:P.cellTypes P.depth t=some ts) (hu:∀ u∈ts,P.underlying u=some (.int .i64))
  (h:Value.okWide P w r base t v):∃ ns:List Int,v=.agg (ns.map (Value.int .i64)).toArray∧ns.length=P.cellsOf t:=by
 unfold Value.okWide at h
 rw [ht] at h
 obtain ⟨cs,rfl,hsz,ts',h1,_,h3⟩:=h
 rw [hc] at h1
 cases h1
 obtain ⟨ns,hns⟩:=ints_of cs.toList fun x hx=>by
  obtain ⟨i,hi,rfl⟩:=List.getElem_of_mem hx
  obtain ⟨u,hu1,hu2⟩:=h3 i cs.toList[i] (by simp at hi;simp [hi])
  have:=hu u (List.mem_of_getElem? hu1)
  unfold Cell.okWide at hu2
  rw [this] at hu2
  simp only [Cell.ok,this] at hu2
  revert hu2
  generalize cs.toList[i]=x
  intro hu2
  cases x<;>first | exact ⟨_,rfl⟩ | exact hu2.elim | skip
  obtain ⟨rfl,_⟩:=hu2
  exact ⟨_,rfl⟩
 refine ⟨ns,?_,?_⟩
 ·rw [← hns]
 ·rw [← hsz,← Array.length_toList,hns,List.length_map]
theorem okWide_has {P:Program} {w:World} {r:Reach} {base:Nat} {t:TypeId} {k:IntKind} {v:Value} (ht:P.underlying t=some (.int k)) (h:Value.okWide P w r base t v):∃ n,v=.int k n∧k.min≤n∧n≤k.max:=by
 unfold Value.okWide at h
 rw [ht] at h
 simp only [Cell.okWide,ht,Cell.ok] at h
 cases v<;>first | exact h.elim | skip
 obtain ⟨rfl,h1,h2⟩:=h
 exact ⟨_,rfl,h1,h2⟩
end Go.Pv
namespace Go.Pv
open Go.Am Go.RowKit Go.ChangeShapes Go.WideShapes
theorem Fn.calls2 {P:Program} {g:Nat} {args:List PV} {xs:Array Value} (hp:Fn P g args (B true)) (hx:∀ s:St,RVs s args xs.toList) (w:World):Calls P g xs w fun e w'=>e=.returned (.bool true)∧Below w.heap.size w w'∧Grown w w':=by
 refine (hp.2 (Base.of w) (St.start w) xs (PW.start w) rfl (hx _)).mono fun e w' he=>?_
 obtain ⟨s',rfl,h2,_,h4⟩:=he
 cases e with
 |returned x =>
  obtain ⟨v,p,_,rfl⟩:=h4
  have:=(RV_lit.1 p).2
  simp only [VR] at this
  subst this
  exact ⟨rfl,⟨h2.os,h2.tape,h2.output,h2.size,h2.old⟩,h2.grown⟩
 |panicked c=>obtain ⟨_,_,_,_,_,hf⟩:=h4;exact hf.elim
 |outgrown=>exact h4.elim
theorem trodAll_stays {H:Type} {enc:TypeId×Value→H} {P:Program} (hl:laidOutB P=true) {W W':World} (hb:Below W.heap.size W W') {sp:Nat→Bool} :
  ∀ {ts:List TypeId} {vs:List Value} {ds:List (DataW H)} {ps:List MemPlace},ts.all (fun t=>P.readableRec t && decide (t < P.types.size))=true→DataW.TrodAll enc P W 0 (fun _=>true) true ts vs ds ps →
   (∀ x∈ps,x.block < W.heap.size)→(∀ x∈ps,sp x.block=true)→DataW.TrodAll enc P W' 0 sp true ts vs ds ps
 |[],vs,ds,ps,_,h,_,_=>by
  obtain ⟨rfl,rfl,rfl⟩:=trodAll_nil h
  exact trodAll_mk0
 |t::ts,vs,ds,ps,hr,h,hlt,hs=>by
  obtain ⟨v,vs',d,ds',p,q,rfl,rfl,rfl,h1,h2⟩:=trodAll_cons h
  simp only [List.all_cons,Bool.and_eq_true,decide_eq_true_eq] at hr
  refine trodAll_cons_mk (WideElems.Trod_stays hl hr.1.1 hr.1.2 h1 (fun x hx=>hb.same (hlt x (List.mem_append_left _ hx))) fun x hx=>hs x (List.mem_append_left _ hx)) ?_
  exact trodAll_stays hl hb (by simpa using hr.2) h2 (fun x hx=>hlt x (List.mem_append_right _ hx)) fun x hx=>hs x (List.mem_append_right _ hx)
end Go.Pv
namespace Go.Pv
open Go.Proofs Go.Am
set_option maxRecDepth 10000
instance:Mpt A0 199 148 (.sl .ex []):=⟨by kernel_rfl⟩
theorem f166 (R:Rst) (d:Rid):Fn P0 166 [.agg R.cells,.agg d.cells] (.fn (.func 192) [] [.fp (.agg R.cells),.fp (.agg d.cells)]):=by
  refine PFun.of (C:=c166) (cx_ok _ _ _) rfl (fn:=Tryz.f166) (by kernel_rfl) (c:=_) rfl rfl rfl ?_
  refine Run.seq (Run.region (cx_ok _ _ _) (Reg.op rfl (Ope.boxF rfl rfl ?_)))
  refine Reg.op rfl (Ope.boxF rfl rfl ?_)
  refine Reg.op rfl (Ope.asg rfl ?_)
  refine Reg.nil (Run.seq (Run.region (cx_ok _ _ _) (Reg.op rfl (Ope.mkf rfl rfl ?_))))
  refine Reg.op rfl (Ope.asg rfl ?_)
  refine Reg.nil (Run.ret (fin_ret (.tmp rfl .nil) rfl ?_))
  rfl
def nextX (R:Rst) (d:Rid):Nat→List Int
  | 0=>(if R.brk d 0=0 then [0] else [])++(if R.brk d 1=0 then [1] else [])
  | 1=>if R.brk d 1=0 then [1] else []
  | _=>[]
def Rst.o (R:Rst) (x:Nat):Nat:=if x=0 then R.o0 else R.o1
def Rst.t (R:Rst) (x:Nat):Int:=if x=0 then R.t0 else R.t1
def Rst.r (R:Rst) (x:Nat):Int:=if x=0 then R.r0 else R.r1
def Rst.f (R:Rst) (x:Nat):Int:=if x=0 then R.f0 else R.f1
abbrev lim (R:Rst) (x:Nat):List PV:=[I (R.o x),I (R.t x),I (R.r x),I (R.f x)]
theorem brk_no {R:Rst} {d:Rid} {x:Int} (h:∀ j,j < 4→R.viol d x j=false):R.brk d x=0:=by
  simp [Rst.brk,h 0 (by decide),h 1 (by decide),h 2 (by decide),h 3 (by decide)]
theorem brk_yes {R:Rst} {d:Rid} {x:Int} {j:Nat} (hj:j < 4) (h:R.viol d x j=true):R.brk d x≠0:=by
  unfold Rst.brk
  rcases (by omega:j=0∨j=1∨j=2∨j=3) with rfl | rfl | rfl | rfl
  all_goals
    repeat' split
    all_goals first | decide | simp_all
theorem nextX_yes {R:Rst} {d:Rid} {x:Nat} (hx:x < 2) (h:R.brk d (x:Int)=0):nextX R d x=(x:Int)::nextX R d (x+1):=by
  rcases (by omega:x=0∨x=1) with rfl | rfl
  · have h' : R.brk d 0 = 0 := h
    simp [nextX,h']
  · have h' : R.brk d 1 = 0 := h
    simp [nextX,h']
theorem nextX_no {R:Rst} {d:Rid} {x:Nat} (hx:x < 2) (h:R.brk d (x:Int)≠0):nextX R d x=nextX R d (x+1):=by
  rcases (by omega:x=0∨x=1) with rfl | rfl
  · have h' : ¬ R.brk d 0 = 0 := h
    simp [nextX,h']
  · have h' : ¬ R.brk d 1 = 0 := h
    simp [nextX,h']
theorem viol_x {R:Rst} {d:Rid} {x:Nat} (hx:x < 2) (k:Nat):R.viol d (x:Int) k=Go.Pv.viol (R.o x) (R.t x) (R.r x) (R.f x) d (x:Int) k:=by
  rcases (by omega:x=0∨x=1) with rfl | rfl<;>rfl
theorem part_x {R:Rst} {x:Nat} (hx:x < 2):partK true (Nat.mul x 4) 4 [I R.o0,I R.t0,I R.r0,I R.f0,I R.o1,I R.t1,I R.r1,I R.f1]=some (.agg (lim R x)):=by
  rcases (by omega:x=0∨x=1) with rfl | rfl<;>rfl
theorem f192 (R : Rst) (hR : R.ok) (d : Rid) (hd : d.ok 16) (hh16 : d.a + d.b ≤ 16) : Yields P0 192 [] [.fp (.agg R.cells), .fp (.agg d.cells)] ((nextX R d 0).map (rideV d)) := by
  intro j n l Rr hj hfeed
  obtain ⟨hm16,ho0,ho1,⟨ht0,ht0'⟩,⟨hr0,hr0'⟩,⟨hf0,hf0'⟩,⟨ht1,ht1'⟩,⟨hr1,hr1'⟩,⟨hf1,hf1'⟩⟩:=hR
  obtain ⟨hh,hhe⟩:∃ hh:Nat,d.a+d.b=(hh:Int):=⟨(d.a+d.b).toNat,by have:=hd.2.1.1;have:=hd.2.2.1;omega⟩
  have htn:(d.a+d.b).toNat=hh:=by omega
  have hdo:=hd
  obtain ⟨⟨hd1,hd2⟩,⟨hd3,hd4⟩,hd5,hd6⟩:=hd
  have hob:∀ x,R.o x < 2 ^ 62:=fun x=>by unfold Rst.o;split<;>assumption
  have htb:∀ x,0≤R.t x∧R.t x≤16:=fun x=>by unfold Rst.t;split<;>omega
  have hrb:∀ x,0≤R.r x∧R.r x≤16:=fun x=>by unfold Rst.r;split<;>omega
  have hfb:∀ x,0≤R.f x∧R.f x≤16:=fun x=>by unfold Rst.f;split<;>omega
  refine PCall.ofH (C:=c192) (cx_ok _ _ _) rfl (fn:=Tryz.f192) (by kernel_rfl) (c:=_) rfl rfl rfl (fun hok=>?_)
  refine Run.scope (Run.seq (Run.label (Run.seq (Run.region (cx_ok _ _ _) (Reg.op rfl (Ope.fld rfl rfl ?_))))))
  refine Reg.op rfl (Ope.fld rfl rfl ?_)
  refine Reg.op rfl (Ope.load rfl rfl ?_)
  refine Reg.op rfl (Ope.mov rfl ?_)
  refine Reg.nil (Run.block (Run.loop (α:=Nat×Nat×HL) (fun s=>[(0,.yld j),(1,.fp (.agg R.cells)),(2,.fp (.agg d.cells)),(11,.agg [I R.o0,I R.t0,I R.r0,I R.f0,I R.o1,I R.t1,I R.r1,I R.f1]),(12,I s.1)]) (fun s=>HE s.2.1 s.2.2) (fun s=>s.1≤2∧(∀ q,s.2.1≤q→hget s.2.2 q=none)∧Feed P0 (.yld j) Rr ((nextX R d s.1).map (rideV d)) s.2.1 s.2.2) (fun s=>2 - s.1) (0,n,l) ⟨rfl,rfl,rfl,rfl,rfl,trivial⟩ rfl ⟨by omega,fun q hq=>ok_none hok hq,hfeed⟩ (fun s hs=>?_)))
  obtain ⟨x,m,l'⟩:=s
  obtain ⟨hx2,hok',hf⟩:=hs
  simp only at hx2 hok' hf
  have hm0:=hok' m (Nat.le_refl _)
  have hm1:=hok' (m+1) (Nat.le_succ _)
  show Run _ _ _ _ [(0,.yld j),(1,.fp (.agg R.cells)),(2,.fp (.agg d.cells)),(11,.agg [I R.o0,I R.t0,I R.r0,I R.f0,I R.o1,I R.t1,I R.r1,I R.f1]),(12,I x)] [] (HE m l')
  refine Run.seq (Run.region (cx_ok _ _ _) (Reg.op rfl (Ope.lt rfl rfl ?_)))
  refine Reg.nil (Run.seq (Run.condX rfl (fun hc=>?_) fun hc=>?_))
  ·refine Run.skip (Run.seq (Run.block (Run.seq ?_)))
   have hlt:x < 2:=by omega
   have hx01:(x:Int)=0∨(x:Int)=1:=by omega
   have hv0:R.viol d (x:Int) 0=decide (((R.o x >>> hh &&& 1:Nat):Int)=1):=by rw [viol_x hlt];simp only [viol,htn]
   have hv1:=viol_x (R:=R) (d:=d) hlt 1
   have hv2:=viol_x (R:=R) (d:=d) hlt 2
   have hv3:=viol_x (R:=R) (d:=d) hlt 3
   obtain ⟨⟨he1,he2⟩,⟨he3,he4⟩,he5,he6⟩:=Rid.ok_then (x:=(x:Int)) hdo
   have htx:=htb x
   have hrx:=hrb x
   have hfx:=hfb x
   refine Run.region (cx_ok _ _ _) (Reg.op rfl (Ope.mov rfl ?_))
   refine Reg.op rfl (Ope.idx (m:=x) rfl rfl rfl ((T.blt_iff _ _).2 hlt) (part_x hlt) ?_)
   refine Reg.op rfl (Ope.newL rfl ?_)
   refine Reg.op rfl (Ope.asg rfl ?_)
   refine Reg.op0 (Ope.store rfl rfl hget_hd rfl rfl rfl ?_)
   refine Reg.nil (Run.seq (Run.frz (d:=5) true rfl hget_hd rfl ?_))
   refine Run.wideS (m:=m+1) (l':=l') (Nat.le_refl _) (hs_skip (hs_skip (hs_skip hs_refl hm0) hm0) hm0) ?_
   refine Run.region (cx_ok _ _ _) (Reg.op rfl (Ope.load rfl rfl ?_))
   refine Reg.op rfl (Ope.mov rfl ?_)
   refine Reg.op rfl (Ope.cf rfl rfl (f159 d.r d.n d.a d.b _ hx01 (by omega) (by omega) (by omega)) rfl ?_)
   refine Reg.op rfl (Ope.newL rfl ?_)
   refine Reg.op0 (Ope.store rfl rfl hget_hd rfl rfl rfl ?_)
   refine Reg.nil (Run.seq (Run.seq (Run.frz (d:=6) true rfl hget_hd rfl ?_)))
   refine Run.wideS (m:=m+2) (l':=l') (Nat.le_refl _) (hs_skip (hs_skip (hs_skip hs_refl hm1) hm1) hm1) ?_
   refine Run.region (cx_ok _ _ _) (Reg.op rfl (Ope.cf rfl rfl (f106) rfl ?_))
   refine Reg.op rfl (Ope.mov rfl ?_)
   refine Reg.nil (Run.block (Run.loop (α:=Nat) (fun k=>[(0,.yld j),(1,.fp (.agg R.cells)),(2,.fp (.agg d.cells)),(4,I (x:Int)),(5,.fp (.agg (lim R x))),(6,.fp (rideV d (x:Int))),(11,.agg [I R.o0,I R.t0,I R.r0,I R.f0,I R.o1,I R.t1,I R.r1,I R.f1]),(12,I (x:Int)),(19,.agg [.ifc 196 (.agg []),.ifc 198 (.fn (.func 160) [] []),.ifc 198 (.fn (.func 161) [] []),.ifc 198 (.fn (.func 162) [] [])]),(20,I k)]) (fun _=>HE (m+2) l') (fun k=>k≤4∧∀ i,i < k→R.viol d (x:Int) i=false) (fun k=>4 - k) 0 ⟨rfl,rfl,rfl,rfl,rfl,rfl,rfl,rfl,rfl,rfl,trivial⟩ rfl ⟨Nat.zero_le _,fun i hi=>absurd hi (Nat.not_lt_zero _)⟩ (fun k hk=>?_)))
   obtain ⟨hk1,hk2⟩:=hk
   rcases (by omega:k=0∨k=1∨k=2∨k=3∨k=4) with rfl | rfl | rfl | rfl | rfl
   ·refine Run.seq (Run.region (cx_ok _ _ _) (Reg.op rfl (Ope.lt rfl rfl ?_)))
    refine Reg.nil (Run.seq (Run.condX rfl (fun hc=>?_) fun hc=>?_))
    ·refine Run.skip (Run.seq (Run.block (Run.seq (Run.region (cx_ok _ _ _) (Reg.op rfl (Ope.idx rfl rfl rfl rfl rfl ?_))))))
     refine Reg.op rfl (Ope.asg rfl ?_)
     refine Reg.nil (Run.seq (Run.region (cx_ok _ _ _) (Reg.op rfl (Ope.mov rfl ?_))))
     refine Reg.op rfl (Ope.load rfl rfl ?_)
     refine Reg.op rfl (Ope.load rfl rfl ?_)
     first
       | refine Reg.op rfl (Ope.im (t:=196) (g:=221) rfl rfl ⟨fun _=>by kernel_rfl⟩ (f221 _ _ _ _ _ _ _ _ (R.o x) hh _ _ _ hhe (by omega) (hob x) (by omega) (by omega)) rfl ?_)
       | refine Reg.op rfl (Ope.im (t:=198) (g:=222) rfl rfl ⟨fun _=>by kernel_rfl⟩ (f222a _ _ _ _ _ _ _ _ _ _ _ _ hx01 (by omega) (by omega) (by omega)) rfl ?_)
       | refine Reg.op rfl (Ope.im (t:=198) (g:=222) rfl rfl ⟨fun _=>by kernel_rfl⟩ (f222b _ _ _ _ _ _ _ _ _ _ _ _ (by omega) (by omega)) rfl ?_)
       | refine Reg.op rfl (Ope.im (t:=198) (g:=222) rfl rfl ⟨fun _=>by kernel_rfl⟩ (f222c _ _ _ _ _ _ _ _ _ _ _ _ hx01 (by omega) (by omega) (by omega) (by omega)) rfl ?_)
     refine Reg.nil (Run.condX rfl (fun hc=>?_) fun hc=>?_)
     ·refine Run.exit (Jmp.past rfl (Jmp.code (Jmp.round (Jmp.past rfl (Jmp.code (Jmp.here (Run.region (cx_ok _ _ _) (Reg.op rfl (Ope.add rfl rfl (by omega) ?_)))))))))
      refine Reg.op rfl (Ope.mov rfl ?_)
      refine Reg.nil ?_
      first
        | refine Run.lend ⟨(x+1,m2,l2),by simp only;omega,⟨by simp only;omega,fun q hq=>ok_none hok2 hq,hf2⟩,⟨rfl,rfl,rfl,rfl,rfl,trivial⟩,rfl,rfl⟩
        | refine Run.lend ⟨(x + 1, m + 2, l'), by simp only; omega, ⟨by simp only; omega, fun q hq => hok' q (by simp only at hq; omega), ?_⟩, ⟨rfl, rfl, rfl, rfl, rfl, trivial⟩, rfl, rfl⟩
          have hb:R.brk d (x:Int)≠0:=by
            first | exact brk_yes (j:=0) (by decide) (hv0.trans (decide_eq_true hc)) | exact brk_yes (j:=1) (by decide) (hv1.trans (decide_eq_true hc)) | exact brk_yes (j:=2) (by decide) (hv2.trans (decide_eq_true hc)) | exact brk_yes (j:=3) (by decide) (hv3.trans (decide_eq_true hc))
          rw [nextX_no hlt hb] at hf
          exact Feed.mono (by show m≤m+2;omega) hf
     ·refine Run.skip (Run.bend (Run.region (cx_ok _ _ _) (Reg.op rfl (Ope.add rfl rfl (by omega) ?_))))
      refine Reg.op rfl (Ope.mov rfl ?_)
      refine Reg.nil ?_
      first
        | refine Run.lend ⟨1,by decide,⟨by decide,fun i hi=>?_⟩,⟨rfl,rfl,rfl,rfl,rfl,rfl,rfl,rfl,rfl,rfl,trivial⟩,rfl,rfl⟩
        | refine Run.lend ⟨2,by decide,⟨by decide,fun i hi=>?_⟩,⟨rfl,rfl,rfl,rfl,rfl,rfl,rfl,rfl,rfl,rfl,trivial⟩,rfl,rfl⟩
        | refine Run.lend ⟨3,by decide,⟨by decide,fun i hi=>?_⟩,⟨rfl,rfl,rfl,rfl,rfl,rfl,rfl,rfl,rfl,rfl,trivial⟩,rfl,rfl⟩
        | refine Run.lend ⟨4,by decide,⟨by decide,fun i hi=>?_⟩,⟨rfl,rfl,rfl,rfl,rfl,rfl,rfl,rfl,rfl,rfl,trivial⟩,rfl,rfl⟩
      rcases Nat.lt_succ_iff_lt_or_eq.1 hi with h | h
      · exact hk2 i h
      · subst h
        first | exact hv0.trans (decide_eq_false hc) | exact hv1.trans (decide_eq_false hc) | exact hv2.trans (decide_eq_false hc) | exact hv3.trans (decide_eq_false hc)
    ·exfalso;omega
   ·refine Run.seq (Run.region (cx_ok _ _ _) (Reg.op rfl (Ope.lt rfl rfl ?_)))
    refine Reg.nil (Run.seq (Run.condX rfl (fun hc=>?_) fun hc=>?_))
    ·refine Run.skip (Run.seq (Run.block (Run.seq (Run.region (cx_ok _ _ _) (Reg.op rfl (Ope.idx rfl rfl rfl rfl rfl ?_))))))
     refine Reg.op rfl (Ope.asg rfl ?_)
     refine Reg.nil (Run.seq (Run.region (cx_ok _ _ _) (Reg.op rfl (Ope.mov rfl ?_))))
     refine Reg.op rfl (Ope.load rfl rfl ?_)
     refine Reg.op rfl (Ope.load rfl rfl ?_)
     first
       | refine Reg.op rfl (Ope.im (t:=196) (g:=221) rfl rfl ⟨fun _=>by kernel_rfl⟩ (f221 _ _ _ _ _ _ _ _ (R.o x) hh _ _ _ hhe (by omega) (hob x) (by omega) (by omega)) rfl ?_)
       | refine Reg.op rfl (Ope.im (t:=198) (g:=222) rfl rfl ⟨fun _=>by kernel_rfl⟩ (f222a _ _ _ _ _ _ _ _ _ _ _ _ hx01 (by omega) (by omega) (by omega)) rfl ?_)
       | refine Reg.op rfl (Ope.im (t:=198) (g:=222) rfl rfl ⟨fun _=>by kernel_rfl⟩ (f222b _ _ _ _ _ _ _ _ _ _ _ _ (by omega) (by omega)) rfl ?_)
       | refine Reg.op rfl (Ope.im (t:=198) (g:=222) rfl rfl ⟨fun _=>by kernel_rfl⟩ (f222c _ _ _ _ _ _ _ _ _ _ _ _ hx01 (by omega) (by omega) (by omega) (by omega)) rfl ?_)
     refine Reg.nil (Run.condX rfl (fun hc=>?_) fun hc=>?_)
     ·refine Run.exit (Jmp.past rfl (Jmp.code (Jmp.round (Jmp.past rfl (Jmp.code (Jmp.here (Run.region (cx_ok _ _ _) (Reg.op rfl (Ope.add rfl rfl (by omega) ?_)))))))))
      refine Reg.op rfl (Ope.mov rfl ?_)
      refine Reg.nil ?_
      first
        | refine Run.lend ⟨(x+1,m2,l2),by simp only;omega,⟨by simp only;omega,fun q hq=>ok_none hok2 hq,hf2⟩,⟨rfl,rfl,rfl,rfl,rfl,trivial⟩,rfl,rfl⟩
        | refine Run.lend ⟨(x + 1, m + 2, l'), by simp only; omega, ⟨by simp only; omega, fun q hq => hok' q (by simp only at hq; omega), ?_⟩, ⟨rfl, rfl, rfl, rfl, rfl, trivial⟩, rfl, rfl⟩
          have hb:R.brk d (x:Int)≠0:=by
            first | exact brk_yes (j:=0) (by decide) (hv0.trans (decide_eq_true hc)) | exact brk_yes (j:=1) (by decide) (hv1.trans (decide_eq_true hc)) | exact brk_yes (j:=2) (by decide) (hv2.trans (decide_eq_true hc)) | exact brk_yes (j:=3) (by decide) (hv3.trans (decide_eq_true hc))
          rw [nextX_no hlt hb] at hf
          exact Feed.mono (by show m≤m+2;omega) hf
     ·refine Run.skip (Run.bend (Run.region (cx_ok _ _ _) (Reg.op rfl (Ope.add rfl rfl (by omega) ?_))))
      refine Reg.op rfl (Ope.mov rfl ?_)
      refine Reg.nil ?_
      first
        | refine Run.lend ⟨1,by decide,⟨by decide,fun i hi=>?_⟩,⟨rfl,rfl,rfl,rfl,rfl,rfl,rfl,rfl,rfl,rfl,trivial⟩,rfl,rfl⟩
        | refine Run.lend ⟨2,by decide,⟨by decide,fun i hi=>?_⟩,⟨rfl,rfl,rfl,rfl,rfl,rfl,rfl,rfl,rfl,rfl,trivial⟩,rfl,rfl⟩
        | refine Run.lend ⟨3,by decide,⟨by decide,fun i hi=>?_⟩,⟨rfl,rfl,rfl,rfl,rfl,rfl,rfl,rfl,rfl,rfl,trivial⟩,rfl,rfl⟩
        | refine Run.lend ⟨4,by decide,⟨by decide,fun i hi=>?_⟩,⟨rfl,rfl,rfl,rfl,rfl,rfl,rfl,rfl,rfl,rfl,trivial⟩,rfl,rfl⟩
      rcases Nat.lt_succ_iff_lt_or_eq.1 hi with h | h
      · exact hk2 i h
      · subst h
        first | exact hv0.trans (decide_eq_false hc) | exact hv1.trans (decide_eq_false hc) | exact hv2.trans (decide_eq_false hc) | exact hv3.trans (decide_eq_false hc)
    ·exfalso;omega
   ·refine Run.seq (Run.region (cx_ok _ _ _) (Reg.op rfl (Ope.lt rfl rfl ?_)))
    refine Reg.nil (Run.seq (Run.condX rfl (fun hc=>?_) fun hc=>?_))
    ·refine Run.skip (Run.seq (Run.block (Run.seq (Run.region (cx_ok _ _ _) (Reg.op rfl (Ope.idx rfl rfl rfl rfl rfl ?_))))))
     refine Reg.op rfl (Ope.asg rfl ?_)
     refine Reg.nil (Run.seq (Run.region (cx_ok _ _ _) (Reg.op rfl (Ope.mov rfl ?_))))
     refine Reg.op rfl (Ope.load rfl rfl ?_)
     refine Reg.op rfl (Ope.load rfl rfl ?_)
     first
       | refine Reg.op rfl (Ope.im (t:=196) (g:=221) rfl rfl ⟨fun _=>by kernel_rfl⟩ (f221 _ _ _ _ _ _ _ _ (R.o x) hh _ _ _ hhe (by omega) (hob x) (by omega) (by omega)) rfl ?_)
       | refine Reg.op rfl (Ope.im (t:=198) (g:=222) rfl rfl ⟨fun _=>by kernel_rfl⟩ (f222a _ _ _ _ _ _ _ _ _ _ _ _ hx01 (by omega) (by omega) (by omega)) rfl ?_)
       | refine Reg.op rfl (Ope.im (t:=198) (g:=222) rfl rfl ⟨fun _=>by kernel_rfl⟩ (f222b _ _ _ _ _ _ _ _ _ _ _ _ (by omega) (by omega)) rfl ?_)
       | refine Reg.op rfl (Ope.im (t:=198) (g:=222) rfl rfl ⟨fun _=>by kernel_rfl⟩ (f222c _ _ _ _ _ _ _ _ _ _ _ _ hx01 (by omega) (by omega) (by omega) (by omega)) rfl ?_)
     refine Reg.nil (Run.condX rfl (fun hc=>?_) fun hc=>?_)
     ·refine Run.exit (Jmp.past rfl (Jmp.code (Jmp.round (Jmp.past rfl (Jmp.code (Jmp.here (Run.region (cx_ok _ _ _) (Reg.op rfl (Ope.add rfl rfl (by omega) ?_)))))))))
      refine Reg.op rfl (Ope.mov rfl ?_)
      refine Reg.nil ?_
      first
        | refine Run.lend ⟨(x+1,m2,l2),by simp only;omega,⟨by simp only;omega,fun q hq=>ok_none hok2 hq,hf2⟩,⟨rfl,rfl,rfl,rfl,rfl,trivial⟩,rfl,rfl⟩
        | refine Run.lend ⟨(x + 1, m + 2, l'), by simp only; omega, ⟨by simp only; omega, fun q hq => hok' q (by simp only at hq; omega), ?_⟩, ⟨rfl, rfl, rfl, rfl, rfl, trivial⟩, rfl, rfl⟩
          have hb:R.brk d (x:Int)≠0:=by
            first | exact brk_yes (j:=0) (by decide) (hv0.trans (decide_eq_true hc)) | exact brk_yes (j:=1) (by decide) (hv1.trans (decide_eq_true hc)) | exact brk_yes (j:=2) (by decide) (hv2.trans (decide_eq_true hc)) | exact brk_yes (j:=3) (by decide) (hv3.trans (decide_eq_true hc))
          rw [nextX_no hlt hb] at hf
          exact Feed.mono (by show m≤m+2;omega) hf
     ·refine Run.skip (Run.bend (Run.region (cx_ok _ _ _) (Reg.op rfl (Ope.add rfl rfl (by omega) ?_))))
      refine Reg.op rfl (Ope.mov rfl ?_)
      refine Reg.nil ?_
      first
        | refine Run.lend ⟨1,by decide,⟨by decide,fun i hi=>?_⟩,⟨rfl,rfl,rfl,rfl,rfl,rfl,rfl,rfl,rfl,rfl,trivial⟩,rfl,rfl⟩
        | refine Run.lend ⟨2,by decide,⟨by decide,fun i hi=>?_⟩,⟨rfl,rfl,rfl,rfl,rfl,rfl,rfl,rfl,rfl,rfl,trivial⟩,rfl,rfl⟩
        | refine Run.lend ⟨3,by decide,⟨by decide,fun i hi=>?_⟩,⟨rfl,rfl,rfl,rfl,rfl,rfl,rfl,rfl,rfl,rfl,trivial⟩,rfl,rfl⟩
        | refine Run.lend ⟨4,by decide,⟨by decide,fun i hi=>?_⟩,⟨rfl,rfl,rfl,rfl,rfl,rfl,rfl,rfl,rfl,rfl,trivial⟩,rfl,rfl⟩
      rcases Nat.lt_succ_iff_lt_or_eq.1 hi with h | h
      · exact hk2 i h
      · subst h
        first | exact hv0.trans (decide_eq_false hc) | exact hv1.trans (decide_eq_false hc) | exact hv2.trans (decide_eq_false hc) | exact hv3.trans (decide_eq_false hc)
    ·exfalso;omega
   ·refine Run.seq (Run.region (cx_ok _ _ _) (Reg.op rfl (Ope.lt rfl rfl ?_)))
    refine Reg.nil (Run.seq (Run.condX rfl (fun hc=>?_) fun hc=>?_))
    ·refine Run.skip (Run.seq (Run.block (Run.seq (Run.region (cx_ok _ _ _) (Reg.op rfl (Ope.idx rfl rfl rfl rfl rfl ?_))))))
     refine Reg.op rfl (Ope.asg rfl ?_)
     refine Reg.nil (Run.seq (Run.region (cx_ok _ _ _) (Reg.op rfl (Ope.mov rfl ?_))))
     refine Reg.op rfl (Ope.load rfl rfl ?_)
     refine Reg.op rfl (Ope.load rfl rfl ?_)
     first
       | refine Reg.op rfl (Ope.im (t:=196) (g:=221) rfl rfl ⟨fun _=>by kernel_rfl⟩ (f221 _ _ _ _ _ _ _ _ (R.o x) hh _ _ _ hhe (by omega) (hob x) (by omega) (by omega)) rfl ?_)
       | refine Reg.op rfl (Ope.im (t:=198) (g:=222) rfl rfl ⟨fun _=>by kernel_rfl⟩ (f222a _ _ _ _ _ _ _ _ _ _ _ _ hx01 (by omega) (by omega) (by omega)) rfl ?_)
       | refine Reg.op rfl (Ope.im (t:=198) (g:=222) rfl rfl ⟨fun _=>by kernel_rfl⟩ (f222b _ _ _ _ _ _ _ _ _ _ _ _ (by omega) (by omega)) rfl ?_)
       | refine Reg.op rfl (Ope.im (t:=198) (g:=222) rfl rfl ⟨fun _=>by kernel_rfl⟩ (f222c _ _ _ _ _ _ _ _ _ _ _ _ hx01 (by omega) (by omega) (by omega) (by omega)) rfl ?_)
     refine Reg.nil (Run.condX rfl (fun hc=>?_) fun hc=>?_)
     ·refine Run.exit (Jmp.past rfl (Jmp.code (Jmp.round (Jmp.past rfl (Jmp.code (Jmp.here (Run.region (cx_ok _ _ _) (Reg.op rfl (Ope.add rfl rfl (by omega) ?_)))))))))
      refine Reg.op rfl (Ope.mov rfl ?_)
      refine Reg.nil ?_
      first
        | refine Run.lend ⟨(x+1,m2,l2),by simp only;omega,⟨by simp only;omega,fun q hq=>ok_none hok2 hq,hf2⟩,⟨rfl,rfl,rfl,rfl,rfl,trivial⟩,rfl,rfl⟩
        | refine Run.lend ⟨(x + 1, m + 2, l'), by simp only; omega, ⟨by simp only; omega, fun q hq => hok' q (by simp only at hq; omega), ?_⟩, ⟨rfl, rfl, rfl, rfl, rfl, trivial⟩, rfl, rfl⟩
          have hb:R.brk d (x:Int)≠0:=by
            first | exact brk_yes (j:=0) (by decide) (hv0.trans (decide_eq_true hc)) | exact brk_yes (j:=1) (by decide) (hv1.trans (decide_eq_true hc)) | exact brk_yes (j:=2) (by decide) (hv2.trans (decide_eq_true hc)) | exact brk_yes (j:=3) (by decide) (hv3.trans (decide_eq_true hc))
          rw [nextX_no hlt hb] at hf
          exact Feed.mono (by show m≤m+2;omega) hf
     ·refine Run.skip (Run.bend (Run.region (cx_ok _ _ _) (Reg.op rfl (Ope.add rfl rfl (by omega) ?_))))
      refine Reg.op rfl (Ope.mov rfl ?_)
      refine Reg.nil ?_
      first
        | refine Run.lend ⟨1,by decide,⟨by decide,fun i hi=>?_⟩,⟨rfl,rfl,rfl,rfl,rfl,rfl,rfl,rfl,rfl,rfl,trivial⟩,rfl,rfl⟩
        | refine Run.lend ⟨2,by decide,⟨by decide,fun i hi=>?_⟩,⟨rfl,rfl,rfl,rfl,rfl,rfl,rfl,rfl,rfl,rfl,trivial⟩,rfl,rfl⟩
        | refine Run.lend ⟨3,by decide,⟨by decide,fun i hi=>?_⟩,⟨rfl,rfl,rfl,rfl,rfl,rfl,rfl,rfl,rfl,rfl,trivial⟩,rfl,rfl⟩
        | refine Run.lend ⟨4,by decide,⟨by decide,fun i hi=>?_⟩,⟨rfl,rfl,rfl,rfl,rfl,rfl,rfl,rfl,rfl,rfl,trivial⟩,rfl,rfl⟩
      rcases Nat.lt_succ_iff_lt_or_eq.1 hi with h | h
      · exact hk2 i h
      · subst h
        first | exact hv0.trans (decide_eq_false hc) | exact hv1.trans (decide_eq_false hc) | exact hv2.trans (decide_eq_false hc) | exact hv3.trans (decide_eq_false hc)
    ·exfalso;omega
   ·refine Run.seq (Run.region (cx_ok _ _ _) (Reg.op rfl (Ope.lt rfl rfl ?_)))
    refine Reg.nil (Run.seq (Run.condX rfl (fun hc=>?_) fun hc=>?_))
    ·exfalso;omega
    ·refine Run.exit (Jmp.code (Jmp.round (Jmp.here (Run.seq ?_))))
     have hf':Feed P0 (.yld j) Rr (rideV d (x:Int)::(nextX R d (x+1)).map (rideV d)) (m+2) l':=by
       rw [nextX_yes hlt (brk_no hk2)] at hf
       exact Feed.mono (by omega) hf
     refine Run.region (cx_ok _ _ _) (Reg.op rfl (Ope.mov rfl ?_))
     refine Reg.op rfl (Ope.load rfl rfl ?_)
     refine Reg.op rfl (Ope.yld (own:=[]) (v:=rideV d (x:Int)) rfl rfl (Owns.of (by simp) (by simp [keysB])) hf' (fun m2 l2 hm2 hok2 hno2 hf2=>?_) (fun m2 l2 hm2 hok2 hno2 hr2=>?_))
     ·refine Reg.op rfl (Ope.not rfl ?_)
      refine Reg.nil (Run.condX rfl (fun hc=>?_) fun hc=>?_)
      ·exact absurd hc (by decide)
      ·refine Run.skip (Run.bend (Run.region (cx_ok _ _ _) (Reg.op rfl (Ope.add rfl rfl (by omega) ?_))))
       refine Reg.op rfl (Ope.mov rfl ?_)
       refine Reg.nil ?_
       first
         | refine Run.lend ⟨(x+1,m2,l2),by simp only;omega,⟨by simp only;omega,fun q hq=>ok_none hok2 hq,hf2⟩,⟨rfl,rfl,rfl,rfl,rfl,trivial⟩,rfl,rfl⟩
         | refine Run.lend ⟨(x + 1, m + 2, l'), by simp only; omega, ⟨by simp only; omega, fun q hq => hok' q (by simp only at hq; omega), ?_⟩, ⟨rfl, rfl, rfl, rfl, rfl, trivial⟩, rfl, rfl⟩
           have hb:R.brk d (x:Int)≠0:=by
             first | exact brk_yes (j:=0) (by decide) (hv0.trans (decide_eq_true hc)) | exact brk_yes (j:=1) (by decide) (hv1.trans (decide_eq_true hc)) | exact brk_yes (j:=2) (by decide) (hv2.trans (decide_eq_true hc)) | exact brk_yes (j:=3) (by decide) (hv3.trans (decide_eq_true hc))
           rw [nextX_no hlt hb] at hf
           exact Feed.mono (by show m≤m+2;omega) hf
     ·refine Reg.op rfl (Ope.not rfl ?_)
      refine Reg.nil (Run.condX rfl (fun hc=>?_) fun hc=>?_)
      ·refine Run.ret (Jmp.retB (Jmp.code (Jmp.round (Jmp.retB (Jmp.retS ?_)))))
       first
         | exact finH_ret .nil (Nat.le_refl _) hs_refl (hr2 _ (Nat.le_refl _) _)
         | exact finH_end .nil (Nat.le_refl _) hs_refl (by have h2 : x = 2 := by omega
                                                           subst h2
                                                           exact hf _ (Nat.le_refl _) _)
      ·exact absurd hc (by decide)
  ·refine Run.exit (Jmp.code (Jmp.round (Jmp.here (Run.send ?_))))
   first
     | exact finH_ret .nil (Nat.le_refl _) hs_refl (hr2 _ (Nat.le_refl _) _)
     | exact finH_end .nil (Nat.le_refl _) hs_refl (by have h2 : x = 2 := by omega
                                                       subst h2
                                                       exact hf _ (Nat.le_refl _) _)
end Go.Pv
