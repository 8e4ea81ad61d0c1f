/- Parts of the proof: Pv40, Pv41, Pv42, Pv43, Pv54, Pv62 -/
import Derived.Test.YtkabfhoicdeehaaGreatP11
import Derived.WalkKit
import Derived.ProofKit
import Derived.OpenShut
import Derived.Carry
import Derived.ChangeArms
set_option linter.unusedVariables false
set_option linter.unusedSimpArgs false
set_option linter.unusedSectionVars false
namespace Go.Pv
open Go.Am Go.RowKit
def markK (M:Nat→Bool) (an:T Nat) (all:List Oper):List Nat→List (Nat×Bool)→List (Nat×Bool×Bool)
 |_,[]=>[]
 |fs,(i,b)::r=>(i,b,loudI M all i && !(fs.all fun j=>(anc an i).testBit j))::markK M an all (match b with
  |true=>fs
  |false=>i::fs) r
def drwS (M:Nat→Bool) (ops:List Oper):Option (List (Nat×Bool×Bool)) :=
 match pstat M ops with
 |none=>none
 |some an=>match ordOk M an ops 0 0 (asap M an ops ops.length 0) with
  |true=>match flagK M an ops (asap M an ops ops.length 0) with
   |some fl=>some (markK M an ops [] fl)
   |none=>none
  |false=>none
def StabS (A:AP) (E:Eqs) (S:PH→Prop) (t:Nat→Option PV) (o:Oper):Prop:=∀ h h',S h→S h'→pquiet A E (pev t) h o.op=pquiet A E (pev t) h' o.op
def pdraS (A:AP) (E:Eqs) (P:Program) (M:Nat→Bool) (sz:Nat) (S:PH→Prop) (all:List Oper):List (Nat×Bool×Bool)→T PV→PH→(T PV→PH→Prop)→(PV→PH→Prop)→Prop
 |[],t,h,K,_=>K t h
 |p::rest,t,h,K,X=>match nthK all p.1 with
  |none=>False
  |some o=>match dstIn sz o.dst,gst all t o with
   |true,some g=>PIf g ((p.2.1=false→S h∧StabS A E S t.get o)∧pop A E P M t.get h o (fun v h'=>(p.2.2=true→S h')∧pdraS A E P M sz S all rest (tput t o.dst v) h' K X) X) (pdraS A E P M sz S all rest (tput t o.dst (.tup [])) h K X)
   |_,_=>False
section
variable {A:AP} {P:Program} {E:Eqs} {M:Nat→Bool}
theorem draS_drawF {sz : Nat} {an : T Nat} {all : List Oper} {ord0 : List Nat} {S : PH → Prop} (hO : Ord M an all ord0) (hS : PStat M all an) {fl0 : List (Nat × Bool)} (hfl : flagK M an all ord0 = some fl0) {K : T PV → PH → Prop} {X : PV → PH → Prop} :
  ∀ (fl pre:List (Nat×Bool)) (fs:List Nat) (rds:List (Nat×Oper×PV)) (t:T PV) (h:PH),fl0=pre++fl→(∀ j,(j,false)∈pre→j∈fs) →
  (∀ r∈rds,all[r.1]?=some r.2.1∧readsP r.2.1.op=true∧∃ b,(r.1,b)∈pre∧(loudP M r.2.1=false→b=false→∀ h',S h'→pquiet A E (pev t.get) h' r.2.1.op=some r.2.2)) →
  pdraS A E P M sz S all (markK M an all fs fl) t h K X→pdrawF A E P M sz an all (fl.map (·.1)) rds t h K X
 |[],pre,fs,rds,t,h,_,_,_,hp=>by simpa [markK,pdraS,pdrawF] using hp
 |(i, b) :: rest, pre, fs, rds, t, h, hs, hfs, hr, hp => by
  obtain ⟨hm,hsp⟩:=flagK_spec ord0 fl0 hfl
  simp only [markK,pdraS] at hp
  simp only [List.map_cons,pdrawF]
  rw [nthK_eq] at hp
  split at hp
  ·exact hp.elim
  next o ho =>
  simp only [ho]
  split at hp
  case h_2=>exact hp.elim
  next g hd hg =>
  simp only [hd,hg]
  have hord:ord0=pre.map (·.1)++i::rest.map (·.1):=by rw [← hm,hs];simp
  have hs':fl0=(pre++[(i,b)])++rest:=by rw [hs];simp
  have hfs':∀ j,(j,false)∈pre++[(i,b)]→j∈(match b with
    |true=>fs
    |false=>i::fs):=by
   intro j hj
   rcases List.mem_append.1 hj with hj1 | hj
   ·cases b with
    |false=>exact List.mem_cons_of_mem _ (hfs j hj1)
    |true=>exact hfs j hj1
   ·simp only [List.mem_singleton,Prod.mk.injEq] at hj
    obtain ⟨rfl,rfl⟩:=hj
    exact List.mem_cons_self ..
  have keep:∀ v,∀ r∈rds,all[r.1]?=some r.2.1∧readsP r.2.1.op=true∧∃ b',(r.1,b')∈pre++[(i,b)]∧(loudP M r.2.1=false→b'=false→∀ h',S h'→pquiet A E (pev (tput t o.dst v).get) h' r.2.1.op=some r.2.2):=by
   intro v r hrr
   obtain ⟨q1,q0,b',q2,q3⟩:=hr r hrr
   refine ⟨q1,q0,b',by simp [q2],fun hlr hb h' hS'=>?_⟩
   have hj:r.1∈pre.map (·.1):=List.mem_map.2 ⟨_,q2,rfl⟩
   have hlk:looksI M all r.1=true:=by
    obtain ⟨a,c,e⟩:=List.append_of_mem q2
    exact (hsp a r.1 b' (c++(i,b)::rest) (by rw [hs,e];simp)).2 hb
   have hlk2:∀ x∈looks all r.2.1,M (x+1000000)=false:=by
    unfold looksI at hlk
    rw [nthK_eq,q1] at hlk
    intro x hx
    have:=List.all_eq_true.1 hlk x hx
    simpa using this
   have hsame:∀ x∈looks all r.2.1,(tput t o.dst v).get x=t.get x:=fun x hx=>tput_ne fun hdx=>by
    rcases hS.look r.1 i r.2.1 o x q1 ho hdx hx with h1 | ⟨h1,_⟩
    ·rw [hO.before hS hord hj] at h1
     cases h1
    ·rw [hlk2 x hx] at h1
     cases h1
   rw [pquiet_congr (pev_eq (all:=all) hsame)]
   exact q3 hlr hb h' hS'
  have skip:pdraS A E P M sz S all (markK M an all (match b with
    |true=>fs
    |false=>i::fs) rest) (tput t o.dst (.tup [])) h K X→pdrawF A E P M sz an all (rest.map (·.1)) rds (tput t o.dst (.tup [])) h K X:=fun hv =>
   draS_drawF hO hS hfl rest (pre++[(i,b)]) _ rds _ h hs' hfs' (keep _) hv
  have hlook:∀ x∈looks all o,o.dst≠some x:=fun x hx hdx=>by
   have hat:=hO.at_ _ i _ hord
   have:(anc an i).testBit i=true:=(hS.look i i o o x ho ho hdx hx).elim id fun h=>h.2
   exact absurd (hat.2.2.1 i this) hat.2.1
  have next : ∀ (v : PV) (h' : PH), (loudP M o = false → readsP o.op = true → b = false → ∀ h2, S h2 → pquiet A E (pev t.get) h2 o.op = some v) → ((loudI M all i && !(fs.all fun j => (anc an i).testBit j)) = true → S h') → pdraS A E P M sz S all (markK M an all (match b with
    |true=>fs
    |false=>i::fs) rest) (tput t o.dst v) h' K X →
    stillP A E M an i o t h' rds∧pdrawF A E P M sz an all (rest.map (·.1)) (addRd i o v rds) (tput t o.dst v) h' K X:=by
   intro v h' hval hSh hv
   refine ⟨?_,draS_drawF hO hS hfl rest (pre++[(i,b)]) _ _ _ h' hs' hfs' ?_ hv⟩
   ·unfold stillP
    split
    ·next hl =>
     have st : ∀ (q : List (Nat × Oper × PV)), (∀ r ∈ q, r ∈ rds) → still A E an i t h' q := by
      intro q
      induction q with
      |nil=>intro _;trivial
      |cons a q ih =>
       intro hq
       refine ⟨?_,ih fun r hrr=>hq r (List.mem_cons_of_mem _ hrr)⟩
       obtain ⟨q1,q0,b',q2,q3⟩:=hr a (hq a (by simp))
       have hpre:a.1∈pre.map (·.1):=List.mem_map.2 ⟨_,q2,rfl⟩
       cases hla:loudP M a.2.1 with
       |true =>
        have:=(hO.at_ _ i _ hord).2.2.2 a.1 hpre (by simp only [loudAt,q1,hla])
        simp only [this]
       |false =>
        cases b' with
        |false =>
         cases hab:(anc an i).testBit a.1 with
         |true=>trivial
         |false =>
          refine q3 hla rfl h' (hSh ?_)
          have h1:loudI M all i=true:=by
           unfold loudI
           rw [nthK_eq,ho]
           exact hl
          rw [h1,Bool.true_and,Bool.not_eq_true']
          refine Bool.eq_false_iff.2 fun hall=>?_
          have:=List.all_eq_true.1 hall a.1 (hfs a.1 q2)
          rw [hab] at this
          cases this
        |true =>
         obtain ⟨a1,c1,e1⟩:=List.append_of_mem q2
         have:=(hsp a1 a.1 true (c1++(i,b)::rest) (by rw [hs,e1];simp)).1 rfl (by unfold readI;rw [nthK_eq,q1];exact q0) i (by simp) (by
          unfold loudI
          rw [nthK_eq,ho]
          exact hl)
         simp only [this]
     exact st rds fun _ h=>h
    ·trivial
   ·intro r hrr
    unfold addRd at hrr
    cases hrd:readsP o.op with
    |true =>
     rw [hrd] at hrr
     rcases List.mem_cons.1 hrr with rfl | hrr
     ·refine ⟨ho,hrd,b,by simp,fun hlo hb h2 hS2=>?_⟩
      rw [pquiet_congr (ρ':=pev t.get) (pev_eq (all:=all) fun x hx=>tput_ne (hlook x hx))]
      exact hval hlo hrd hb h2 hS2
     ·exact keep v r hrr
    |false =>
     rw [hrd] at hrr
     exact keep v r hrr
  refine hp.mono (fun ⟨hst,hq⟩=>?_) skip
  cases hlo:loudP M o with
  |true=>exact pop_mono hq (fun v h' hv=>next v h' (fun hc=>by rw [hlo] at hc;cases hc) hv.1 hv.2) fun _ _ hx=>hx
  |false =>
   obtain ⟨v,v1,v2⟩:=pop_pure hlo hq
   refine pop_of_pure v1 (next v h (fun _ hrd hb h2 hS2=>?_) v2.1 v2.2)
   rw [(hst hb).2 h2 h hS2 (hst hb).1]
   rw [← ppure_reads hrd v1]
   exact v1
end
section
variable {C:Cx} {F:EQ} {X:EX} {k:List KI} {e:EL} {ds:List Nat} {h:PH} {n:Nat} {l:List (Nat×Option PBlk)} {S:PH→Prop}
@[irreducible] def DraS (C:Cx) (F:EQ) (X:EX) (k:List KI) (S:PH→Prop) (all:List Oper) (os:List (Nat×Bool×Bool)) (e:EL) (ds:List Nat) (h:PH):Prop :=
 ∀ t:T PV,t.get=lget e→pdraS C.A C.E C.P C.M C.sz S all os t h (fun t h=>toQ (Ks C F X k) .normal t ds h) (X ds)
theorem Run.drawS (hC:C.Ok) {id:Nat} {ops:Array Oper} (S:PH→Prop) (ord:List (Nat×Bool×Bool)) (hd:drwS C.M ops.toList=some ord) (hr:DraS C F X k S ops.toList ord e ds h):Run C F X (.c (.region id ops true)::k) e ds h:=by
 unfold DraS at hr
 refine Run.intro (PWP.draw (M:=C.M) hC.A hC.E hC.f ?_)
 unfold drwS at hd
 split at hd
 ·cases hd
 next an hst =>
 split at hd
 case h_2=>cases hd
 next hok =>
 split at hd
 case h_2=>cases hd
 next fl hfl =>
 cases hd
 unfold pdraw
 simp only [hst,hok]
 have:=draS_drawF (ord_of hok) (pstat_ok hst) hfl fl [] [] [] (TE e) h rfl (fun j hj=>by cases hj) (fun r hr=>by cases hr) (hr (TE e) (TE_getf e))
 rwa [(flagK_spec _ _ hfl).1] at this
variable {all:List Oper} {os:List (Nat×Bool×Bool)}
theorem DraS.nil (hk:Run C F X k e ds h):DraS C F X k S all [] e ds h:=by
 unfold DraS
 exact fun t ht=>hk.toQ fun i v hi=>by rw [ht];exact hi
variable {i d:Nat} {b:Bool} {op:Op} {type:TypeId} {pos:String} {after:Array Edge}
theorem pdraS_put {d:Option Nat} {v:PV} (hr:match d with
  |some d=>DraS C F X k S all os ((d,v)::e) ds h
  |none=>DraS C F X k S all os e ds h) {t:T PV} (ht:t.get=lget e):pdraS C.A C.E C.P C.M C.sz S all os (tput t d v) h (fun t h=>toQ (Ks C F X k) .normal t ds h) (X ds):=by
 cases d with
 |none =>
  simp only at hr
  unfold DraS at hr
  exact hr t ht
 |some d =>
  simp only at hr
  unfold DraS at hr
  exact hr _ (put_get ht d v)
theorem DraS.opQ {o:Oper} (hi:nthK all i=some o) (hg:o.guard=none) (hd:dstIn C.sz o.dst=true)
  (ho : Ope C X o e ds h fun v h' => match o.dst with
   |some d=>DraS C F X k S all os ((d,v)::e) ds h'
   |none=>DraS C F X k S all os e ds h'):DraS C F X k S all ((i,true,false)::os) e ds h:=by
 unfold DraS
 intro t ht
 simp only [pdraS,hi,hd,gst,hg,PIf]
 refine ⟨fun hb=>(by cases hb),?_⟩
 unfold Ope at ho
 rw [ht]
 exact pop_mono ho (fun v h' hv=>⟨fun hc=>(by cases hc),pdraS_put hv ht⟩) fun _ _ hx=>hx
theorem DraS.opS {o:Oper} (hi:nthK all i=some o) (hg:o.guard=none) (hd:dstIn C.sz o.dst=true)
  (ho : Ope C X o e ds h fun v h' => S h' ∧ match o.dst with
   |some d=>DraS C F X k S all os ((d,v)::e) ds h'
   |none=>DraS C F X k S all os e ds h'):DraS C F X k S all ((i,true,true)::os) e ds h:=by
 unfold DraS
 intro t ht
 simp only [pdraS,hi,hd,gst,hg,PIf]
 refine ⟨fun hb=>(by cases hb),?_⟩
 unfold Ope at ho
 rw [ht]
 exact pop_mono ho (fun v h' hv=>⟨fun _=>hv.1,pdraS_put hv.2 ht⟩) fun _ _ hx=>hx
theorem DraS.opR {o:Oper} (hi:nthK all i=some o) (hg:o.guard=none) (hd:dstIn C.sz o.dst=true) (hs:S h) (hst:StabS C.A C.E S (lget e) o)
  (ho : Ope C X o e ds h fun v h' => match o.dst with
   |some d=>DraS C F X k S all os ((d,v)::e) ds h'
   |none=>DraS C F X k S all os e ds h'):DraS C F X k S all ((i,false,false)::os) e ds h:=by
 unfold DraS
 intro t ht
 simp only [pdraS,hi,hd,gst,hg,PIf]
 refine ⟨fun _=>⟨hs,by rw [ht];exact hst⟩,?_⟩
 unfold Ope at ho
 rw [ht]
 exact pop_mono ho (fun v h' hv=>⟨fun hc=>(by cases hc),pdraS_put hv ht⟩) fun _ _ hx=>hx
theorem StabS.frozen {t:TypeId} {a:Operand} {u:PV} {dd:Option Nat} {guard:Option (Nat×Bool)} (ha:pev (lget e) a=some (.fp u)):StabS C.A C.E S (lget e) { dst:=dd,op:=.load t a,type,pos,after,guard }:=by
 intro h h' _ _
 simp only [pquiet,ha]
 unfold pload
 rfl
end
end Go.Pv
namespace Go.Pv
open Go.Am Go.RowKit
def mptP (A:AP) (t:TypeId):Option (Nat×PV) :=
 match A.under t with
 |some (.map kt et)=>match pzero A et with
  |some z=>some (kt,z)
  |none=>none
 |_=>none
class Mpt (A:AP) (t:Nat) (kt:outParam Nat) (z:outParam PV):Prop where
 ok:mptP A t=some (kt,z)
theorem Mpt.get {A:AP} {t kt:Nat} {z:PV} (h:Mpt A t kt z):∃ et,A.under t=some (.map kt et)∧pzero A et=some z:=by
 have:=h.ok
 unfold mptP at this
 split at this
 ·next k' et hu =>
  split at this
  ·next z' hz =>
   simp only [Option.some.injEq,Prod.mk.injEq] at this
   obtain ⟨rfl,rfl⟩:=this
   exact ⟨et,hu,hz⟩
  ·cases this
 ·cases this
theorem RV_tl_no {s:St} {tl:Tail} {vs:List PV} {x:Value} (h:RV s (.sl tl vs) x):RV s (.sl .no vs) x:=by
 rcases RV_sl.1 h with ⟨h1,_,h3⟩ | ⟨k,o,c,sz,h1,h2,h3,_⟩
 ·exact RV_sl.2 (.inl ⟨h1,rfl,h3⟩)
 ·exact RV_sl.2 (.inr ⟨k,o,c,sz,h1,h2,h3,trivial⟩)
section
variable {C:Cx} {F:EQ} {X:EX} {k:List KI} {e:EL} {ds:List Nat} {h:PH} {n m:Nat} {l l':HL} {K:PV→PH→Prop}
variable {d:Option Nat} {type:TypeId} {pos:String} {after:Array Edge} {guard:Option (Nat×Bool)}
theorem Ope.mmap {t:Nat} (hK:K (.mp n) (HE (n+1) ((n,some (.map [] 0))::l))):Ope C X { dst:=d,op:=.makeMap t none,type,pos,after,guard } e ds (HE n l) K:=by
 unfold Ope
 simp only [pop,pkind,ploud]
 rw [HE_add]
 exact hK
theorem Ope.look {t kt i:Nat} {z kv:PV} {ka:AV} {x y:Operand} {es:List (AV×PV×Nat)} {clock:Nat} {ok:Bool} {r:Option (Nat×PV)} [hm:Mpt C.A t kt z] (hx:pev (lget e) x=some (.mp i)) (hk:pev (lget e) y=some kv) (hka:PV.toAV kv=some ka)
  (hg : hget l i = some (.map es clock)) (hc : acheck C.A 20 kt ka = true) (hf : pfind C.A C.E kt ka es 0 = some r) (hK : K (pok ok (match r with
   |some p=>p.2
   |none=>z) r.isSome) (HE n l)):Ope C X { dst:=d,op:=.lookup t x y ok,type,pos,after,guard } e ds (HE n l) K:=by
 refine Ope.quiet rfl ?_ hK
 obtain ⟨et,h1,h2⟩:=hm.get
 have hes:pentries (HE n l) (.mp i)=some es:=by
  unfold pentries
  show (match hget l i with
   |some (.map es _)=>some es
   |_=>none)=some es
  rw [hg]
 simp only [pquiet,hx,hk,plookup,h1,hka,hes,hc,hf]
 cases r with
 |none=>simp only [h2,Option.isSome_none]
 |some p=>rfl
theorem Ope.mset {t kt i:Nat} {z kv vv:PV} {ka:AV} {x y u:Operand} {es:List (AV×PV×Nat)} {clock:Nat} {r:Option (Nat×PV)} [hm:Mpt C.A t kt z] (hx:pev (lget e) x=some (.mp i)) (hk:pev (lget e) y=some kv) (hv:pev (lget e) u=some vv) (hka:PV.toAV kv=some ka)
  (hg:hget l i=some (.map es clock)) (hc:acheck C.A 20 kt ka=true) (hf:pfind C.A C.E kt ka es 0=some r) (hs:∀ j v,r=some (j,v)→∃ e,es[j]?=some e∧asame 20 e.1 ka=true)
  (hK1:∀ j v,r=some (j,v)→K (.tup []) (HE n ((i,some (.map (psetAt es j ka vv) clock))::l))) (hK2:r=none→K (.tup []) (HE n ((i,some (.map (es++[(ka,vv,clock)]) (clock+1)))::l))) :
  Ope C X { dst:=d,op:=.mapUpdate t x y u,type,pos,after,guard } e ds (HE n l) K:=by
 obtain ⟨et,h1,h2⟩:=hm.get
 unfold Ope
 simp only [pop,pkind,ploud,hx,hk,hv,PMapUpdate,h1]
 refine ⟨es,clock,ka,r,hg,hka,hc,hf,?_⟩
 cases r with
 |none =>
  simp only [HE_put]
  exact hK2 rfl
 |some p =>
  obtain ⟨j,v⟩:=p
  simp only [HE_put]
  exact ⟨hs j v rfl,hK1 j v rfl⟩
end
end Go.Pv
namespace Go.Pv
open Go.Am Go.RowKit Go.ChangeShapes Go.WideShapes
def St.start (w:World):St:=⟨fun _=>.no,fun _=>0,.nil,w⟩
theorem PW.start (w:World):PW (Base.of w) (St.start w):=by
 refine ⟨rfl,rfl,rfl,Nat.le_refl _,fun _ _=>rfl,fun _ _=>.inl rfl,fun k o hk ho=>?_,fun _ _=>rfl,fun k n i h=>(by cases h),fun i b h=>(by cases h)⟩
 exact absurd (Array.getElem?_eq_some_iff.1 ho).1 hk
theorem Fn.calls {P:Program} {g:Nat} {args:List PV} {xs:Array Value} (hp:Fn P g args (B true)) (hx:∀ s:St,RVs s args xs.toList) (w:World):Calls P g xs w fun e w'=>e=.returned (.bool true)∧Grown w w':=by
 refine (hp.2 (Base.of w) (St.start w) xs (PW.start w) rfl (hx _)).mono fun e w' he=>?_
 obtain ⟨s',rfl,h2,_,h4⟩:=he
 cases e with
 |returned x =>
  obtain ⟨v,p,_,rfl⟩:=h4
  have:=(RV_lit.1 p).2
  simp only [VR] at this
  subst this
  exact ⟨rfl,h2.grown⟩
 |panicked c=>obtain ⟨_,_,_,_,_,hf⟩:=h4;exact hf.elim
 |outgrown=>exact h4.elim
end Go.Pv
namespace Go.Pv
open Go.Am Go.RowKit Go.ChangeShapes Go.WideShapes
end Go.Pv
namespace Go.Pv
open Go.Am Go.RowKit Go.ChangeShapes Go.WideShapes
def frozσ (w:World) (k:Nat):BS:=match w.heap[k]? with
 |some (.cells arr _ _)=>.fz arr.size none
 |_=>.no
def St.froz (w:World):St:=⟨frozσ w,fun _=>0,.nil,w⟩
theorem froz_cell {w:World} {a:Addr} {v:Value} (h:w.cell? a=some v):a=⟨a.block,a.off,none⟩∧(St.froz w).fcell a.block a.off=some v:=by
 obtain ⟨k,o,sp⟩:=a
 unfold World.cell? at h
 simp only at h
 split at h
 ·next c t z hk =>
  split at h
  ·cases h
  ·next hs =>
   have hs':sp=none:=by simpa using hs
   subst hs'
   refine ⟨rfl,?_⟩
   have ho:=(Array.getElem?_eq_some_iff.1 h).1
   have hσ:(St.froz w).σ k=.fz c.size none:=by
    show frozσ w k=_
    unfold frozσ
    rw [hk]
   unfold St.fcell
   rw [hσ]
   simp only [ho,if_true]
   show w.cell? ⟨k,o,none⟩=some v
   unfold World.cell?
   simp only [hk]
   simpa using h
 ·cases h
section
variable {H:Type} {enc:TypeId×Value→H} {P:Program} {w:World} {base:Nat} {spare:Nat→Bool} {held:Bool}
theorem cells?_get {a:Addr} {n:Nat} {cs:List Value} (h:w.cells? base a n=some cs):cs.length=n∧∀ i,i < n→w.cell? (a.add i)=cs[i]?:=by
 unfold World.cells? at h
 split at h
 ·exact ⟨by simpa using mapM_some_length h,fun i hi=>mapM_some_get h i i (by simp [hi])⟩
 ·cases h
def Reads (enc:TypeId×Value→H) (P:Program) (w:World) (base:Nat) (spare:Nat→Bool) (held:Bool) (t:TypeId) (Q:List PV→Prop):Prop :=
 ∀ (fuel:Nat) (cs:List Value) (x:DataW H×List MemPlace),DataW.trod enc P w base spare held fuel t cs=some x→∃ ps,RVs (St.froz w) ps cs∧Q ps
theorem Reads.int {t:TypeId} {k:IntKind} (ht:P.underlying t=some (.int k)):Reads enc P w base spare held t fun ps=>∃ n:Int,ps=[.lit (.int k n)]∧k.min≤n∧n≤k.max:=by
 intro fuel cs x h
 cases fuel with
 |zero=>simp [DataW.trod] at h
 |succ n =>
  unfold DataW.trod at h
  rw [ht] at h
  split at h<;>first | (cases h;done) | skip
  all_goals try (rename_i heq _;cases heq;done)
  all_goals try (rename_i heq;cases heq;done)
  rename_i k0 k' m heq
  cases heq
  split at h
  ·next hk =>
   obtain ⟨rfl,hw⟩:=hk
   refine ⟨_,RVs_cons.2 ⟨_,_,rfl,RV_lit.2 ⟨rfl,by simp only [VR]⟩,RVs_nil.2 rfl⟩,m,rfl,?_⟩
   simpa [Lit.wf] using hw
  ·cases h
theorem Reads.mono {t:TypeId} {Q R:List PV→Prop} (hr:Reads enc P w base spare held t Q) (h:∀ ps,Q ps→R ps):Reads enc P w base spare held t R:=by
 intro fuel cs x ht
 obtain ⟨ps,h1,h2⟩:=hr _ _ _ ht
 exact ⟨ps,h1,h _ h2⟩
theorem exists_list {α:Type} {p:Nat→α→Prop}:∀ (n:Nat),(∀ i,i < n→∃ a,p i a)→∃ zs:List α,zs.length=n∧∀ i a,zs[i]?=some a→p i a
 |0,_=>⟨[],rfl,fun i a h=>by simp at h⟩
 |n + 1, h => by
  obtain ⟨zs,h1,h2⟩:=exists_list n fun i hi=>h i (by omega)
  obtain ⟨a,ha⟩:=h n (by omega)
  refine ⟨zs++[a],by simp [h1],fun i b hb=>?_⟩
  rcases Nat.lt_or_ge i zs.length with hi | hi
  ·rw [List.getElem?_append_left hi] at hb
   exact h2 i b hb
  ·rw [List.getElem?_append_right hi] at hb
   have hi':i - zs.length=0:=by
    rcases Nat.eq_zero_or_pos (i - zs.length) with e | e
    ·exact e
    ·rw [List.getElem?_eq_none (by show 1≤i - zs.length;omega)] at hb
     cases hb
   rw [hi'] at hb
   simp only [List.getElem?_cons_zero,Option.some.injEq] at hb
   subst hb
   rw [show i=n by omega]
   exact ha
theorem REs.froz {α:Type} {f:α→PV} {k sz:Nat} (hsz:0 < sz):∀ (xs:List α) (o:Nat),(∀ i x,xs[i]?=some x→∃ cs:List Value,RVs (St.froz w) (f x).cells cs∧(f x).nc=sz∧cs.length=sz∧∀ j,j < sz→w.cell? ⟨k,o+i * sz+j,none⟩=cs[j]?) →
  REs (St.froz w) (xs.map f) sz k o
 |[],_,_=>REs_nil
 |x::xs,o,h=>by
  obtain ⟨cs,h1,h2,h3,h4⟩:=h 0 x (by simp)
  simp only [List.map_cons]
  refine REs_cons.2 ⟨h2,RM_of_cells (RMs_of_row h1 fun j u hj=>?_),REs.froz hsz xs (o+sz) fun i y hy=>?_⟩
  ·have hj':j < sz:=by rw [← h3];exact (List.getElem?_eq_some_iff.1 hj).1
   have hc:=h4 j hj'
   rw [hj,Nat.zero_mul,Nat.add_zero] at hc
   exact (froz_cell hc).2
  ·obtain ⟨c,g1,g2,g3,g4⟩:=h (i+1) y (by simpa using hy)
   refine ⟨c,g1,g2,g3,fun j hj=>?_⟩
   rw [← g4 j hj]
   congr 2
   rw [Nat.add_mul]
   omega
theorem Reads.slice {α:Type} {f:α→PV} {Q:α→Prop} (hsp:∀ b,spare b=true) {t e:TypeId} (ht:P.underlying t=some (.slice e)) (he:0 < P.cellsOf e) (hr:Reads enc P w base spare held e fun ps=>∃ a,ps=(f a).cells∧(f a).nc=P.cellsOf e∧Q a) :
  Reads enc P w base spare held t fun ps=>∃ zs:List α,ps=[.sl .no (zs.map f)]∧zs.length≤maxLen∧∀ a∈zs,Q a:=by
 intro fuel cs x h
 rcases DataW.trod_slice ht h with ⟨rfl,rfl⟩ | ⟨a,len,cap,elems,rest,n,rfl,rfl,rfl,hb,hl,hc,hlen,hel,hrest,_⟩
 ·exact ⟨_,RVs_cons.2 ⟨_,_,rfl,RV_sl.2 (.inl ⟨rfl,rfl,none,rfl⟩),RVs_nil.2 rfl⟩,[],rfl,by simp,by simp⟩
 ·by_cases h0:cap=0
  ·subst h0
   obtain rfl:len=0:=by omega
   exact ⟨_,RVs_cons.2 ⟨_,_,rfl,RV_sl.2 (.inl ⟨rfl,rfl,some a,rfl⟩),RVs_nil.2 rfl⟩,[],rfl,by simp,by simp⟩
  ·have hcell:∃ y,w.cell? a=some y:=by
    have key:∀ y:DataW H×List MemPlace,(w.cells? base (a.add (0 * P.cellsOf e)) (P.cellsOf e)).bind (DataW.trod enc P w base spare held n e)=some y→∃ y,w.cell? a=some y:=by
     intro y hy
     obtain ⟨c,c1,_⟩:=Option.bind_eq_some_iff.1 hy
     obtain ⟨g1,g2⟩:=cells?_get c1
     have:=g2 0 he
     rw [Nat.zero_mul] at this
     have e0:(a.add 0).add 0=a:=by simp [Addr.add]
     rw [e0] at this
     exact ⟨_,this.trans (List.getElem?_eq_getElem (by omega))⟩
    by_cases hz:len=0
    ·obtain ⟨r1,r2⟩:=hrest (hsp _)
     have:=r2 0 (by omega)
     subst hz
     rw [Nat.zero_add] at this
     obtain ⟨y,hy⟩:∃ y,rest[0]?=some y:=⟨_,List.getElem?_eq_getElem (by omega)⟩
     exact key y (this.trans hy)
    ·have:=hel 0 (by omega)
     obtain ⟨y,hy⟩:∃ y,elems[0]?=some y:=⟨_,List.getElem?_eq_getElem (by omega)⟩
     exact key y (this.trans hy)
   obtain ⟨y,hy⟩:=hcell
   have hsn:=(froz_cell hy).1
   obtain ⟨k,o,sp⟩:=a
   have hsn:sp=none:=congrArg Addr.spot hsn
   subst hsn
   obtain ⟨zs,h1,h2⟩:=exists_list (p:=fun i (a':α)=>∃ cs:List Value,w.cells? base (Addr.add ⟨k,o,none⟩ (i * P.cellsOf e)) (P.cellsOf e)=some cs∧RVs (St.froz w) (f a').cells cs∧(f a').nc=P.cellsOf e∧Q a') len fun i hi=>by
    have h3:=hel i hi
    obtain ⟨y,hy⟩:∃ y,elems[i]?=some y:=⟨_,List.getElem?_eq_getElem (by omega)⟩
    rw [hy] at h3
    obtain ⟨c,c1,c2⟩:=Option.bind_eq_some_iff.1 h3
    obtain ⟨ps,q1,a',rfl,q2,q3⟩:=hr _ _ _ c2
    exact ⟨a',c,c1,q1,q2,q3⟩
   refine ⟨[.sl .no (zs.map f)],RVs_cons.2 ⟨_,_,rfl,RV_sl.2 (.inr ⟨k,o,cap,P.cellsOf e,by rw [List.length_map,h1],by simpa [h1] using hl,REs.froz he zs o fun i x hx=>?_,trivial⟩),RVs_nil.2 rfl⟩,zs,rfl,by omega,fun b hb=>?_⟩
   ·obtain ⟨c,c1,c2,c3,_⟩:=h2 i x hx
    obtain ⟨g1,g2⟩:=cells?_get c1
    refine ⟨c,c2,c3,g1,fun j hj=>?_⟩
    have:=g2 j hj
    rw [addr_add,addr_add] at this
    exact this
   ·obtain ⟨i,hi⟩:=List.getElem?_of_mem hb
    obtain ⟨_,_,_,_,q⟩:=h2 i b hi
    exact q
def layB (P:Program):List Field→Nat→Nat→Bool
 |[],off,n=>off == n
 |f::fs,off,n=>f.offset == off && layB P fs (off+P.cellsOf f.type) n
def Alls:List (List PV→Prop)→List PV→Prop
 |[],ps=>ps=[]
 |Q::Qs,ps=>∃ p q,ps=p++q∧Q p∧Alls Qs q
def ReadsAll (enc:TypeId×Value→H) (P:Program) (w:World) (base:Nat) (spare:Nat→Bool) (held:Bool):List Field→List (List PV→Prop)→Prop
 |[],[]=>True
 |f::fs,Q::Qs=>Reads enc P w base spare held f.type Q∧ReadsAll enc P w base spare held fs Qs
 |_,_=>False
theorem reads_fields {n:Nat} {cs:List Value}:∀ (fs:List Field) (Qs:List (List PV→Prop)) (off:Nat),layB P fs off cs.length=true→off≤cs.length→ReadsAll enc P w base spare held fs Qs →
  (∀ f∈fs,∃ x,DataW.trod enc P w base spare held n f.type ((cs.drop f.offset).take (P.cellsOf f.type))=some x)→∃ ps,RVs (St.froz w) ps (cs.drop off)∧Alls Qs ps
 |[],[],off,hl,_,_,_=>by
  simp only [layB,beq_iff_eq] at hl
  subst hl
  exact ⟨[],by rw [List.drop_length];exact RVs_nil.2 rfl,rfl⟩
 |f :: fs, Q :: Qs, off, hl, ho, hr, hx => by
  simp only [layB,Bool.and_eq_true,beq_iff_eq] at hl
  obtain ⟨rfl,hl⟩:=hl
  obtain ⟨x,hx0⟩:=hx f (by simp)
  obtain ⟨p,p1,p2⟩:=hr.1 _ _ _ hx0
  have hle:∀ (fs:List Field) (off:Nat),layB P fs off cs.length=true→off≤cs.length:=by
   intro fs
   induction fs with
   |nil=>intro off h;simp only [layB,beq_iff_eq] at h;omega
   |cons g gs ih =>
    intro off h
    simp only [layB,Bool.and_eq_true,beq_iff_eq] at h
    have:=ih _ h.2
    omega
  obtain ⟨q,q1,q2⟩:=reads_fields fs Qs (f.offset+P.cellsOf f.type) hl (hle _ _ hl) hr.2 fun g hg=>hx g (List.mem_cons_of_mem _ hg)
  refine ⟨p++q,?_,p,q,rfl,p2,q2⟩
  rw [← List.take_append_drop (P.cellsOf f.type) (cs.drop f.offset),List.drop_drop]
  exact RVs.append p1 q1
theorem Reads.struct {t:TypeId} {fs:Array Field} {Qs:List (List PV→Prop)} (ht:P.underlying t=some (.struct fs)) (hl:layB P fs.toList 0 (P.cellsOf t)=true) (hr:ReadsAll enc P w base spare held fs.toList Qs) :
  Reads enc P w base spare held t (Alls Qs):=by
 intro fuel cs x h
 obtain ⟨xs,n,rfl,rfl,h1,h2,h3⟩:=DataW.trod_struct ht h
 rw [← h1] at hl
 obtain ⟨ps,p1,p2⟩:=reads_fields (n:=n) fs.toList Qs 0 hl (Nat.zero_le _) hr fun f hf=>by
  obtain ⟨i,hi⟩:=List.getElem?_of_mem hf
  rw [Array.getElem?_toList] at hi
  have hlt:i < fs.size:=(Array.getElem?_eq_some_iff.1 hi).1
  exact ⟨_,(h3 i f hi).trans (List.getElem?_eq_getElem (by omega))⟩
 exact ⟨ps,by simpa using p1,p2⟩
end
end Go.Pv
namespace Go.Pv
open Go.Am Go.RowKit
section
variable {H:Type} {enc:TypeId×Value→H} {P:Program} {w:World} {base:Nat} {spare:Nat→Bool} {held:Bool}
end
end Go.Pv
