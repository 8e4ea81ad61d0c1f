/- Parts of the proof: Pv58, Pv59, Pv60, Pv61, Pv75, S3 -/
import Derived.Test.YtkabfhoicdeehaaGreatP15
import Derived.Test.YtkabfhoicdeehaaGreatP14
import Derived.Test.YtkabfhoicdeehaaGreatP11
set_option linter.unusedVariables false
set_option linter.unusedSimpArgs false
set_option linter.unusedSectionVars false
namespace Go.Pv
open Go.Am Go.RowKit
section
variable {C:Cx} {X:EX} {e:EL} {ds:List Nat} {K:PV→PH→Prop} {h:PH}
variable {d:Option Tmp} {type:TypeId} {pos:String} {after:Array Edge} {guard:Option (Nat×Bool)}
end
def tlU:Option Nat→Tail
 |none=>.ex
 |some j=>.own j
def ownU:Option Nat→HL
 |none=>[]
 |some j=>[(j,some .own)]
section
variable {C:Cx} {X:EX} {e:EL} {ds:List Nat} {K:PV→PH→Prop} {n:Nat} {l:HL}
variable {d:Option Tmp} {type:TypeId} {pos:String} {after:Array Edge} {guard:Option (Nat×Bool)}
theorem Ope.apU {o':Option Nat} {t tx sz bytes sz' bytes':Nat} {agg agg':Bool} {x y:Operand} {tl':Tail} {vs ws:List PV} [hs:Slc C.A t agg sz bytes] [hs':Slc C.A tx agg' sz' bytes'] (hx:pev (lget e) x=some (.sl (tlU o') vs)) (hy:pev (lget e) y=some (.sl tl' ws)) (hne:ws≠[]) (ho:∀ j,o'=some j→vs≠[]∧hget l j=none)
  (hb1:(vs.length+ws.length) * bytes≤140737488355328) (hb2:vs.length+ws.length≤1000000000) (h1:1≤sz) (hv:∀ v∈vs,v.nc=sz) (hw:∀ v∈ws,v.nc=sz∧PV.allOne v.cells=true) (hK:K (.sl (.own n) (vs++ws)) (HE (n+1) ((n,some .own)::l))) :
  Ope C X { dst:=d,op:=.call { callee:=.builtin .append,args:=#[x,y],argTypes:=#[t,tx] },type,pos,after,guard } e ds (HE n (ownU o'++l)) K:=by
 cases o' with
 |none=>exact Ope.apO hx hy hne hb1 hb2 h1 hv hw hK
 |some j =>
  obtain ⟨h2,h3⟩:=ho j rfl
  refine Ope.apP hx hy hne h2 hget_hd hb1 hb2 h1 hv hw ?_
  have e1:HE (n+1) ((n,some .own)::(j,none)::(ownU (some j)++l))=HE (n+1) ((n,some .own)::l):=by
   simp only [HE,PH.mk.injEq,and_true]
   funext i
   by_cases hi:i=n
   ·subst hi;rw [hget_hd,hget_hd]
   ·rw [hget_tl hi,hget_tl hi]
    by_cases hj:i=j
    ·subst hj;rw [hget_hd,h3]
    ·rw [hget_tl hj]
     show hget ((j,some PBlk.own)::l) i=_
     rw [hget_tl hj]
  rw [e1]
  exact hK
end
section
variable {C:Cx} {X:EX} {e:EL} {ds:List Nat} {K:PV→PH→Prop} {h:PH}
variable {d:Option Tmp} {type:TypeId} {pos:String} {after:Array Edge} {guard:Option (Nat×Bool)}
end
section
variable {C:Cx} {X:EX} {e:EL} {ds:List Nat} {K:PV→PH→Prop} {n:Nat} {l:HL}
variable {d:Option Tmp} {type:TypeId} {pos:String} {after:Array Edge} {guard:Option (Nat×Bool)}
end
theorem Hsub.trans:∀ {a b c:HL},(∀ p∈a,p.2≠none)→Hsub a b→Hsub b c→Hsub a c
 |[],_,_,_,_,_=>trivial
 |(i,some x)::a,b,c,hn,⟨h1,h2⟩,h3=>⟨Hsub.get h3 h1,Hsub.trans (fun p hp=>hn p (List.mem_cons_of_mem _ hp)) h2 h3⟩
 |(i,none)::a,b,c,hn,_,_=>absurd rfl (hn (i,none) (by simp))
theorem Hsub.tail {p:Nat×Option PBlk} {a b:HL} (h:Hsub (p::a) b):Hsub a b:=h.2
def FeedQ (P:Program) (y:PV) (R:PV→PH→Prop) (Z:HL):List PV→Nat→HL→Prop
 |[],n,l=>∀ m,n≤m→∀ u,R u (HE m l)
 |v::vs,n,l=>∀ m,n≤m→PCallV P y [v] (HE m l) (fun b h'=>∃ m' l',h'=HE m' l'∧m≤m' ∧
   ((b=B true∧Hsub Z l'∧FeedQ P y R Z vs m' l')∨(b=B false∧∀ m2,m'≤m2→∀ u,R u (HE m2 l')))) fun _ _=>False
theorem FeedQ.mono {P:Program} {y:PV} {R:PV→PH→Prop} {Z:HL} {n n':Nat} {l:HL} (hn:n≤n'):∀ {vs:List PV},FeedQ P y R Z vs n l→FeedQ P y R Z vs n' l
 |[],h=>fun m hm u=>h m (by omega) u
 |_::_,h=>fun m hm=>h m (by omega)
section
variable {C:Cx} {F:EQ} {X:EX} {k:List KI} {e:EL} {ds:List Nat} {K:PV→PH→Prop} {n:Nat} {own l:HL}
variable {d:Option Tmp} {type:TypeId} {pos:String} {after:Array Edge} {guard:Option (Nat×Bool)}
end
section
variable {C:Cx} {F:EQ} {X:EX} {k:List KI} {e:EL} {ds:List Nat} {h:PH} {n:Nat} {l:HL}
end
end Go.Pv
namespace Go.Pv
open Go.Am Go.RowKit
def KX (P:Program) (g:Nat) (args:List PV) (j:Nat) (M:PBlk) (R X:PV→Prop):Prop:=PCall P g args (HE (j+1) [(j,some M)]) (fun v h'=>h'=HE (j+1) [(j,some M)]∧R v) fun v h'=>h'=HE (j+1) [(j,some M)]∧X v
section
variable {n m j:Nat} {l:HL} {M:PBlk} {P:Program} {g:Nat} {args:List PV} {R X:PV→Prop}
theorem KX.mono {R' X':PV→Prop} (hc:KX P g args j M R X) (hR:∀ v,R v→R' v) (hX:∀ v,X v→X' v):KX P g args j M R' X' :=
 PCall.mono hc (fun _ _ q=>⟨q.1,hR _ q.2⟩) fun _ _ q=>⟨q.1,hX _ q.2⟩
theorem one_get {a:Option PBlk} {i:Nat} (h:i≠j):hget [(j,a)] i=none:=(hget_tl h).trans rfl
theorem okJ (hM:M.bd (j+1)):(HE (j+1) [(j,some M)]).Ok:=by
 intro i b hb
 by_cases hj:i=j
 ·subst hj
  have h2:some M=some b:=hget_hd.symm.trans hb
  cases h2
  exact ⟨by show i < i+1;omega,hM⟩
 ·have h2:(none:Option PBlk)=some b:=(one_get hj).symm.trans hb
  cases h2
theorem KX.call (hc:KX P g args j M R X) (hb:PV.bds (j+1) args=true) (hM:M.bd (j+1)) (h1:hget l j=some M) (ho:∀ i,i < j→∀ b,hget l i=some b→b.isOwn=false) (hn:j+1≤n) :
  PCall P g args (HE n l) (fun v h'=>h'=HE n l∧R v) fun v h'=>h'=HE n l∧X v:=by
 let O:Nat→Bool:=fun i=>decide (i < j) && (hget l i).isSome
 have hO:∀ i,O i=true→∃ b,(HE n l).get i=some b∧b.isOwn=false:=by
  intro i hi
  simp only [O,Bool.and_eq_true,decide_eq_true_eq] at hi
  obtain ⟨b,hb⟩:=Option.isSome_iff_exists.1 hi.2
  exact ⟨b,hb,ho i hi.1 b hb⟩
 have hget0:∀ i,i < j→((HE n l).hide O).get i=none:=by
  intro i hi
  show (if O i=true then none else hget l i)=none
  by_cases hs:(hget l i).isSome=true
  ·rw [if_pos (by simp only [O,hs,decide_eq_true hi];rfl)]
  ·rw [if_neg (by simp only [O,hs];simp)]
   cases hq:hget l i with
   |none=>rfl
   |some b=>rw [hq] at hs;exact absurd rfl hs
 have hgetJ:∀ i,¬ i < j→((HE n l).hide O).get i=hget l i:=by
  intro i hi
  show (if O i=true then none else hget l i)=hget l i
  rw [if_neg (by simp only [O,decide_eq_false hi];simp)]
 have hcut:((HE n l).hide O).cut (j+1)=HE (j+1) [(j,some M)]:=by
  unfold PH.cut
  show PH.mk _ _=PH.mk _ _
  congr 1
  funext i
  by_cases hi:i < j
  ·rw [if_pos (by omega),one_get (by omega)];exact hget0 i hi
  ·by_cases hj:i=j
   ·subst hj;rw [if_pos (by omega),hget_hd,hgetJ i hi];exact h1
   ·rw [if_neg (by omega),one_get hj]
 have hback:((((HE n l).hide O).over (j+1) (HE (j+1) [(j,some M)])).give (HE n l) O)=HE n l:=by
  unfold PH.give PH.over
  show PH.mk _ _=PH.mk _ _
  congr 1
  funext i
  by_cases hi:O i=true
  ·rw [if_pos hi];rfl
  ·rw [if_neg hi]
   show (if i < j+1 then (HE (j+1) [(j,some M)]).get i else ((HE n l).hide O).get i)=hget l i
   by_cases hij:i < j+1
   ·rw [if_pos hij]
    by_cases hj:i=j
    ·subst hj;exact hget_hd.trans h1.symm
    ·rw [show (HE (j+1) [(j,some M)]).get i=none from one_get hj]
     simp only [O,decide_eq_true (show i < j by omega),Bool.true_and] at hi
     cases hq:hget l i with
     |none=>rfl
     |some b=>rw [hq] at hi;exact absurd rfl hi
   ·rw [if_neg hij]
    exact hgetJ i (by omega)
 unfold KX at hc
 refine (PCall.frameO hO (PCall.frame (n:=j+1) (h:=(HE n l).hide O) hn hb (fun _=>by rw [hcut];exact okJ hM) (by rw [hcut];exact hc) ?_ ?_)).mono ?_ ?_
 ·rintro v h' ⟨rfl,_⟩;rfl
 ·rintro v h' ⟨rfl,_⟩;rfl
 ·rintro v h'' ⟨h1',⟨h',⟨rfl,hr⟩,rfl⟩,_,rfl⟩
  exact ⟨hback,hr⟩
 ·rintro v h'' ⟨h1',⟨h',⟨rfl,hr⟩,rfl⟩,_,rfl⟩
  exact ⟨hback,hr⟩
end
section
variable {C:Cx} {F:EQ} {X:EX} {k:List KI} {e:EL} {ds:List Nat} {K:PV→PH→Prop} {n m j:Nat} {l:HL} {M:PBlk} {u:PV} {Rv Xv:PV→Prop}
variable {d:Option Tmp} {type:TypeId} {pos:String} {after:Array Edge} {guard:Option (Nat×Bool)}
end
end Go.Pv
namespace Go.Pv
open Go.Am Go.RowKit
section
variable {C:Cx} {F:EQ} {X:EX} {k:List KI} {e:EL} {ds:List Nat} {h:PH} {n m:Nat} {l:HL}
theorem Run.loopD {c:Code} {α:Type} (env:α→EL) (hp:α→PH) (dsf:α→List Nat) (I:α→Prop) (m:α→Nat) (a:α) (hs:Lsub (env a) e) (hh:h=hp a) (hd:ds=dsf a) (hI:I a)
  (round:∀ a,I a→Run C F X (.c c::.l (fun e' ds' h'=>∃ a',m a' < m a∧I a'∧Lsub (env a') e'∧h'=hp a'∧ds'=dsf a')::k) (env a) (dsf a) (hp a)):Run C F X (.c (.loop c)::k) e ds h:=by
 refine Run.intro (PWP.loop (fun n t ds' h'=>∃ a',m a'=n∧I a'∧Sub (env a') t∧h'=hp a'∧ds'=dsf a') (n:=m a) ⟨a,rfl,hI,fun i v hi=>by rw [TE_get];exact hs.get hi,hh,hd⟩ ?_)
 rintro n t ds' h' ⟨a',rfl,h2,h3,rfl,rfl⟩
 refine PWP.mono ((round a' h2).wp h3) ?_ fun _ _ _ _ h=>h
 intro x t ds h ⟨e',g1,g2⟩
 cases x with
 |normal =>
  obtain ⟨a2,q1,q2,q3,q4,q5⟩:=g2
  exact ⟨m a2,q1,a2,rfl,q2,fun i v hi=>g1 i v (q3.get hi),q4,q5⟩
 |jump j=>exact ⟨e',g1,g2⟩
theorem undo_of:∀ (L:List Nat) (l:HL),(∀ i∈L,hget l i=some .dfr)→L.Nodup→Undo L (HE m l)
 |[],_,_,_=>trivial
 |i::L,l,h,hn=>by
  obtain ⟨h1,h2⟩:=List.nodup_cons.1 hn
  refine ⟨h i (by simp),?_⟩
  rw [HE_del]
  exact undo_of L _ (fun q hq=>(hget_tl (show q≠i from fun e=>h1 (by rw [← e];exact hq))).trans (h q (List.mem_cons_of_mem _ hq))) h2
theorem unds_HE:∀ (L:List Nat) (l:HL),∃ l',unds L (HE m l)=HE m l'
 |[],l=>⟨l,rfl⟩
 |i::L,l=>by
  simp only [unds,HE_del]
  exact unds_HE L _
theorem fin_retL {fn:Func} {R:PV→Prop} {vs:List PV} {L:List Nat} (hd:∀ i∈L,hget l i=some .dfr) (hn:L.Nodup) (hv:∀ l',Res C.A e l' fn.results.toList vs) (hb:(pone vs).bd 0=true) (hR:R (pone vs)):Jmp C (FinF C fn R) X [] .ret e L (HE m l):=by
 refine Jmp.done ⟨undo_of L l hd hn,vs,?_,?_⟩
 ·obtain ⟨l',h'⟩:=unds_HE (m:=m) L l
  rw [h']
  exact (hv l').get
 ·exact ⟨_,_,PGh.cut hb (by rw [PH.cut_zero];exact PH.nil_ok),by rw [PH.cut_zero],hR⟩
end
def dfrs (L:List Nat):HL:=L.map fun i=>(i,some .dfr)
theorem dfrs_get {L:List Nat} {l:HL} {i:Nat} (h:i∈L):hget (dfrs L++l) i=some .dfr:=by
 induction L with
 |nil=>cases h
 |cons q L ih =>
  show hget ((q,some PBlk.dfr)::(dfrs L++l)) i=_
  by_cases hq:i=q
  ·subst hq;exact hget_hd
  ·rw [hget_tl hq]
   rcases List.mem_cons.1 h with h | h
   ·exact absurd h hq
   ·exact ih h
theorem dfrs_past {L:List Nat} {l:HL} {i:Nat} (h:i ∉ L):hget (dfrs L++l) i=hget l i:=by
 induction L with
 |nil=>rfl
 |cons q L ih =>
  show hget ((q,some PBlk.dfr)::(dfrs L++l)) i=_
  rw [hget_tl (fun e=>h (by subst e;simp))]
  exact ih fun hq=>h (List.mem_cons_of_mem _ hq)
end Go.Pv
namespace Go.Pv
open Go.Am Go.RowKit
section
variable {C:Cx} {F:EQ} {X:EX} {k:List KI} {e:EL} {ds:List Nat} {K:PV→PH→Prop} {n:Nat} {l:HL}
variable {d:Option Tmp} {type:TypeId} {pos:String} {after:Array Edge} {guard:Option (Nat×Bool)}
theorem Ope.storeP {t:Nat} {a x:Operand} {agg:Bool} {sz i o:Nat} {v:PV} {cs:List PV} [ht:Ty C.A t agg sz] (ha:pev (lget e) a=some (.ptr i o)) (hx:pev (lget e) x=some v) (hg:hget l i=some (.cells cs)) (hsz:v.nc=sz) (ho:PV.allOne v.cells=true)
  (hle:o+v.nc≤cs.length) (hK:K (.tup []) (HE n ((i,some (.cells (pputs cs o v.cells)))::l))):Ope C X { dst:=d,op:=.store t a x,type,pos,after,guard } e ds (HE n l) K:=by
 obtain ⟨d',ti,h1,h2,rfl,rfl⟩:=ht.get
 unfold Ope
 simp only [pop,pkind,ploud,ha,hx,PStore,h2]
 refine .inl ⟨cs,hg,hsz,hle,ho,?_⟩
 rw [HE_put]
 exact hK
end
def mkaP (A : AP) (t : TypeId) : Bool :=
 match A.under t with
 |some (.slice e)=>match A.info e with
  |some ie=>match ie.zero with
   |some z=>match z.cells.size == ie.size && Nat.ble 1 ie.size,ofCells z.cells.toList with
    |true,some cs=>(PV.ofAVs cs).isSome
    |_,_=>false
   |none=>false
  |none=>false
 |_=>false
class Mka (A:AP) (t:Nat):Prop where
 ok:mkaP A t=true
theorem ofAVs_app:∀ {a b:List AV} {x y:List PV},PV.ofAVs a=some x→PV.ofAVs b=some y→PV.ofAVs (a++b)=some (x++y)
 |[],b,x,y,h,k=>by
  cases h
  exact k
 |v :: a, b, x, y, h, k => by
  simp only [PV.ofAVs] at h
  simp only [List.cons_append,PV.ofAVs]
  cases hv:PV.ofAV v with
  |none=>simp [hv] at h
  |some v' =>
   cases ha:PV.ofAVs a with
   |none=>simp [hv,ha] at h
   |some a' =>
    simp [hv,ha] at h
    subst h
    rw [ofAVs_app ha k]
    rfl
theorem ofAVs_copies {cs:List AV} {ps:List PV} (h:PV.ofAVs cs=some ps):∀ n,∃ vs,PV.ofAVs (acopies cs n)=some vs
 |0=>⟨[],rfl⟩
 |n+1=>let ⟨vs,hv⟩:=ofAVs_copies h n;⟨ps++vs,ofAVs_app h hv⟩
theorem Mka.get {A:AP} {t:Nat} (h:Mka A t):∃ e,A.under t=some (.slice e)∧∀ n,∃ zs vs,azeros A e n=some zs∧PV.ofAVs zs=some vs:=by
 have h1:=h.ok
 unfold mkaP at h1
 split at h1
 case h_2=>cases h1
 next e hu =>
 split at h1
 case h_2=>cases h1
 next ie hie =>
 split at h1
 case h_2=>cases h1
 next zz hz =>
 split at h1
 case h_2=>cases h1
 next cs hb hcs =>
 obtain ⟨ps,hps⟩:=Option.isSome_iff_exists.1 h1
 refine ⟨e,hu,fun n=>?_⟩
 obtain ⟨vs,hv⟩:=ofAVs_copies hps n
 refine ⟨acopies cs n,vs,?_,hv⟩
 unfold azeros
 simp only [hie,hz,hb,hcs]
section
variable {C:Cx} {F:EQ} {X:EX} {k:List KI} {e:EL} {ds:List Nat} {K:PV→PH→Prop} {n:Nat} {l:HL}
variable {d:Option Tmp} {type:TypeId} {pos:String} {after:Array Edge} {guard:Option (Nat×Bool)}
end
end Go.Pv
namespace Go.Pv
open Go.Am Go.RowKit
section
variable {C:Cx} {F:EQ} {X:EX} {k:List KI} {e:EL} {ds:List Nat} {K:PV→PH→Prop} {n:Nat} {l:HL}
variable {d:Option Tmp} {type:TypeId} {pos:String} {after:Array Edge} {guard:Option (Nat×Bool)}
theorem Ope.apLp {t tx sz bytes sz' bytes':Nat} {agg agg':Bool} {x y:Operand} {tl':Tail} {vs ws:List PV} [hs:Slc C.A t agg sz bytes] [hm:Mka C.A t] [hs':Slc C.A tx agg' sz' bytes'] (hx:pev (lget e) x=some (.sl .ex vs)) (hy:pev (lget e) y=some (.sl tl' ws)) (hne:ws≠[])
  (hb1:(vs.length+ws.length) * bytes≤140737488355328) (hb2:vs.length+ws.length≤1000000000) (h1:1≤sz) (hv:∀ v∈vs,v.nc=sz) (hw:∀ v∈ws,v.nc=sz∧PV.allOne v.cells=true)
  (hK:∀ c post ez,vs.length+ws.length≤c→post.length=(c - (vs.length+ws.length)) * sz→K (.ms n 0 (vs.length+ws.length) c ez) (HE (n+1) ((n,some (.cells (flat (vs++ws)++post)))::l))) :
  Ope C X { dst:=d,op:=.call { callee:=.builtin .append,args:=#[x,y],argTypes:=#[t,tx] },type,pos,after,guard } e ds (HE n l) K:=by
 obtain ⟨el,ti,q1,q2,q3,q4,q5⟩:=hs.get
 obtain ⟨d',ti',h4,h5,rfl,rfl⟩:=q2.get
 rw [q3] at h5
 cases h5
 subst q4
 obtain ⟨el',ti',q1',_⟩:=hs'.get
 obtain ⟨el2,r1,r4⟩:=hm.get
 rw [q1] at r1
 cases r1
 unfold Ope
 simp only [pop,pkind,ploud,pargs,hx,hy,PAppend,q1,q1',q3]
 refine .inr ⟨hne,hb1,hb2,h1,q5,Each.of hv,Each.of hw,.inr (.inr ⟨r4,fun c vs' p1 p2=>?_⟩)⟩
 rw [HE_add]
 exact hK c vs' _ p1 p2
theorem Ope.apLw {t tx sz bytes sz' bytes' j len cap:Nat} {agg agg':Bool} {ez:Option Nat} {x y:Operand} {tl':Tail} {vs post ws:List PV} [hs:Slc C.A t agg sz bytes] [hm:Mka C.A t] [hs':Slc C.A tx agg' sz' bytes'] (hx:pev (lget e) x=some (.ms j 0 len cap ez)) (hy:pev (lget e) y=some (.sl tl' ws))
  (hg:hget l j=some (.cells (flat vs++post))) (hlen:len=vs.length) (hlc:len≤cap) (hpl:post.length=(cap - len) * sz) (hb1:(vs.length+ws.length) * bytes≤140737488355328) (hb2:vs.length+ws.length≤1000000000)
  (hv:∀ v∈vs,v.nc=sz) (hw:∀ v∈ws,v.nc=sz∧PV.allOne v.cells=true)
  (hK:∀ (j' n' c:Nat) (ez':Option Nat) (post':List PV),n≤n'→(j'=j∨(n≤j'∧j' < n'))→vs.length+ws.length≤c→post'.length=(c - (vs.length+ws.length)) * sz→K (.ms j' 0 (vs.length+ws.length) c ez') (HE n' ((j',some (.cells (flat (vs++ws)++post')))::l))) :
  Ope C X { dst:=d,op:=.call { callee:=.builtin .append,args:=#[x,y],argTypes:=#[t,tx] },type,pos,after,guard } e ds (HE n l) K:=by
 obtain ⟨el,ti,q1,q2,q3,q4,q5⟩:=hs.get
 obtain ⟨d',ti',h4,h5,rfl,rfl⟩:=q2.get
 rw [q3] at h5
 cases h5
 subst q4
 obtain ⟨el',ti',q1',_⟩:=hs'.get
 obtain ⟨el2,r1,r4⟩:=hm.get
 rw [q1] at r1
 cases r1
 subst hlen
 unfold Ope
 simp only [pop,pkind,ploud,pargs,hx,hy,PAppend,q1,q1',q3]
 refine .inr ⟨vs,post,rfl,hlc,hg,hpl,Each.of hv,Each.of hw,hb1,hb2,r4,fun vs' p1 p2=>?_,fun c vs' p1 p2=>?_⟩
 ·rw [HE_put]
  exact hK j n cap ez vs' (Nat.le_refl _) (.inl rfl) p1 p2
 ·rw [HE_add]
  exact hK n (n+1) c _ vs' (Nat.le_succ _) (.inr ⟨Nat.le_refl _,Nat.lt_succ_self _⟩) p1 p2
end
end Go.Pv
namespace Go.Pv
open Go.Proofs Go.Am
set_option maxRecDepth 10000
theorem B_of {p q:Bool} (h:p=true↔q=true):B p=B q:=congrArg B (Bool.eq_iff_iff.2 h)
theorem f110 (n a b:Int):Fn P0 110 [I n,I a,I b] (B (decide (a≤n) && decide (n≤b))):=by
  refine PFun.of (C:=c110) (cx_ok _ _ _) rfl (fn:=Tryz.f110) (by kernel_rfl) (c:=_) rfl rfl rfl ?_
  refine Run.seq (Run.region (cx_ok _ _ _) (Reg.op rfl (Ope.asg rfl ?_)))
  refine Reg.nil (Run.seq (Run.region (cx_ok _ _ _) (Reg.op rfl (Ope.mov rfl ?_))))
  refine Reg.op rfl (Ope.mov rfl ?_)
  refine Reg.op rfl (Ope.ge rfl rfl ?_)
  refine Reg.op rfl (Ope.mov rfl ?_)
  refine Reg.splitX rfl rfl (fun hg=>?_) fun hg=>?_
  ·refine Reg.on rfl rfl rfl (Ope.mov rfl ?_)
   refine Reg.on rfl rfl rfl (Ope.mov rfl ?_)
   refine Reg.on rfl rfl rfl (Ope.le rfl rfl ?_)
   refine Reg.op rfl (Ope.pickT rfl rfl ?_)
   refine Reg.op rfl (Ope.asg rfl ?_)
   refine Reg.nil (Run.ret (fin_ret (.tmp rfl .nil) rfl ?_))
   refine B_of ?_
   simp_all
   try omega
  ·refine Reg.off rfl rfl rfl (Reg.off rfl rfl rfl (Reg.off rfl rfl rfl (Reg.op rfl (Ope.pickF rfl rfl ?_))))
   refine Reg.op rfl (Ope.asg rfl ?_)
   refine Reg.nil (Run.ret (fin_ret (.tmp rfl .nil) rfl ?_))
   refine B_of ?_
   simp_all
   try omega
theorem f116 (x y a b:Int) (ha:0≤a) (hb:b≤100):Fn P0 116 [.agg [I x,I y],I a,I b] (B (spnB x y a b)):=by
  refine PFun.of (C:=c116) (cx_ok _ _ _) rfl (fn:=Tryz.f116) (by kernel_rfl) (c:=_) rfl rfl rfl ?_
  refine Run.seq (Run.region (cx_ok _ _ _) (Reg.op rfl (Ope.boxF rfl rfl ?_)))
  refine Reg.op rfl (Ope.asg rfl ?_)
  refine Reg.nil (Run.seq (Run.region (cx_ok _ _ _) (Reg.op rfl (Ope.fld rfl rfl ?_))))
  refine Reg.op rfl (Ope.load rfl rfl ?_)
  refine Reg.op rfl (Ope.mov rfl ?_)
  refine Reg.op rfl (Ope.mov rfl ?_)
  refine Reg.op rfl (Ope.cf rfl rfl (f110 x a b) rfl ?_)
  refine Reg.op rfl (Ope.mov rfl ?_)
  refine Reg.splitX rfl rfl (fun hg=>?_) fun hg=>?_
  ·refine Reg.on rfl rfl rfl (Ope.fld rfl rfl ?_)
   refine Reg.on rfl rfl rfl (Ope.load rfl rfl ?_)
   refine Reg.on rfl rfl rfl (Ope.fld rfl rfl ?_)
   refine Reg.on rfl rfl rfl (Ope.load rfl rfl ?_)
   refine Reg.on rfl rfl rfl (Ope.mov rfl ?_)
   refine Reg.on rfl rfl rfl (Ope.cf rfl rfl (f110 y x b) rfl ?_)
   refine Reg.op rfl (Ope.pickT rfl rfl ?_)
   refine Reg.op rfl (Ope.mov rfl ?_)
   refine Reg.splitX rfl rfl (fun hg=>?_) fun hg=>?_
   ·refine Reg.on rfl rfl rfl (Ope.fld rfl rfl ?_)
    refine Reg.on rfl rfl rfl (Ope.load rfl rfl ?_)
    refine Reg.on rfl rfl rfl (Ope.fld rfl rfl ?_)
    refine Reg.on rfl rfl rfl (Ope.load rfl rfl ?_)
    refine Reg.on rfl rfl rfl (Ope.sub rfl rfl (by simp only [Bool.and_eq_true,decide_eq_true_eq] at *;omega) ?_)
    refine Reg.on rfl rfl rfl (Ope.le rfl rfl ?_)
    refine Reg.op rfl (Ope.pickT rfl rfl ?_)
    refine Reg.op rfl (Ope.asg rfl ?_)
    refine Reg.nil (Run.ret (fin_ret (.tmp rfl .nil) rfl ?_))
    refine B_of ?_
    simp_all [spnB]
    try omega
   ·refine Reg.off rfl rfl rfl (Reg.off rfl rfl rfl (Reg.off rfl rfl rfl (Reg.off rfl rfl rfl (Reg.off rfl rfl rfl (Reg.off rfl rfl rfl (Reg.op rfl (Ope.pickF rfl rfl ?_)))))))
    refine Reg.op rfl (Ope.asg rfl ?_)
    refine Reg.nil (Run.ret (fin_ret (.tmp rfl .nil) rfl ?_))
    refine B_of ?_
    simp_all [spnB]
    try omega
  ·refine Reg.off rfl rfl rfl (Reg.off rfl rfl rfl (Reg.off rfl rfl rfl (Reg.off rfl rfl rfl (Reg.off rfl rfl rfl (Reg.off rfl rfl rfl (Reg.op rfl (Ope.pickF rfl rfl ?_)))))))
   refine Reg.op rfl (Ope.mov rfl ?_)
   refine Reg.off rfl rfl rfl (Reg.off rfl rfl rfl (Reg.off rfl rfl rfl (Reg.off rfl rfl rfl (Reg.off rfl rfl rfl (Reg.off rfl rfl rfl (Reg.op rfl (Ope.pickF rfl rfl ?_)))))))
   refine Reg.op rfl (Ope.asg rfl ?_)
   refine Reg.nil (Run.ret (fin_ret (.tmp rfl .nil) rfl ?_))
   refine B_of ?_
   simp_all [spnB]
   try omega
theorem f131 (r:Rpt):Fn P0 131 [r.v] (B (decide (0≤r.pr) && decide (r.pr≤3))):=by
  refine PFun.of (C:=c131) (cx_ok _ _ _) rfl (fn:=Tryz.f131) (by kernel_rfl) (c:=_) rfl rfl rfl ?_
  refine Run.seq (Run.region (cx_ok _ _ _) (Reg.op rfl (Ope.boxF rfl rfl ?_)))
  refine Reg.op rfl (Ope.asg rfl ?_)
  refine Reg.nil (Run.seq (Run.region (cx_ok _ _ _) (Reg.op rfl (Ope.fld rfl rfl ?_))))
  refine Reg.op rfl (Ope.load rfl rfl ?_)
  refine Reg.op rfl (Ope.cf rfl rfl (f110 r.pr 0 3) rfl ?_)
  refine Reg.op rfl (Ope.asg rfl ?_)
  exact Reg.nil (Run.ret (fin_ret (.tmp rfl .nil) rfl rfl))
theorem f132 (r:Rpt):Fn P0 132 [r.v] ({ r with c:=0,d:=0 }:Rpt).v:=by
  refine PFun.of (C:=c132) (cx_ok _ _ _) rfl (fn:=Tryz.f132) (by kernel_rfl) (c:=_) rfl rfl rfl ?_
  refine Run.seq (Run.region (cx_ok _ _ _) (Reg.op rfl (Ope.boxL rfl rfl ?_)))
  refine Reg.op rfl (Ope.newL rfl ?_)
  refine Reg.nil (Run.seq (Run.region (cx_ok _ _ _) (Reg.op rfl (Ope.bld rfl rfl ?_))))
  refine Reg.op rfl (Ope.fld rfl rfl ?_)
  refine Reg.op0 (Ope.store rfl rfl rfl rfl rfl rfl ?_)
  refine Reg.nil (Run.seq (Run.region (cx_ok _ _ _) (Reg.op rfl (Ope.load rfl rfl ?_))))
  refine Reg.op0 (Ope.store rfl rfl rfl rfl rfl rfl ?_)
  exact Reg.nil (Run.ret (fin_ret (.cell rfl rfl .nil) rfl rfl))
theorem f133 (r:Rpt):Fn P0 133 [r.v] (B (spnB r.c r.d 1 10)):=by
  refine PFun.of (C:=c133) (cx_ok _ _ _) rfl (fn:=Tryz.f133) (by kernel_rfl) (c:=_) rfl rfl rfl ?_
  refine Run.seq (Run.region (cx_ok _ _ _) (Reg.op rfl (Ope.boxF rfl rfl ?_)))
  refine Reg.op rfl (Ope.asg rfl ?_)
  refine Reg.nil (Run.seq (Run.region (cx_ok _ _ _) (Reg.op rfl (Ope.fld rfl rfl ?_))))
  refine Reg.op rfl (Ope.load rfl rfl ?_)
  refine Reg.op rfl (Ope.cf rfl rfl (f116 r.c r.d 1 10 (by decide) (by decide)) rfl ?_)
  refine Reg.op rfl (Ope.asg rfl ?_)
  exact Reg.nil (Run.ret (fin_ret (.tmp rfl .nil) rfl rfl))
theorem f134 (r:Rpt):Fn P0 134 [r.v] ({ r with pr:=0 }:Rpt).v:=by
  refine PFun.of (C:=c134) (cx_ok _ _ _) rfl (fn:=Tryz.f134) (by kernel_rfl) (c:=_) rfl rfl rfl ?_
  refine Run.seq (Run.region (cx_ok _ _ _) (Reg.op rfl (Ope.boxL rfl rfl ?_)))
  refine Reg.op rfl (Ope.newL rfl ?_)
  refine Reg.nil (Run.seq (Run.region (cx_ok _ _ _) (Reg.op rfl (Ope.fld rfl rfl ?_))))
  refine Reg.op0 (Ope.store rfl rfl rfl rfl rfl rfl ?_)
  refine Reg.nil (Run.seq (Run.region (cx_ok _ _ _) (Reg.op rfl (Ope.load rfl rfl ?_))))
  refine Reg.op0 (Ope.store rfl rfl rfl rfl rfl rfl ?_)
  exact Reg.nil (Run.ret (fin_ret (.cell rfl rfl .nil) rfl rfl))
def gainT:Nat:=151
def lossT:Nat:=153
theorem f135 (r:Rpt):Fn P0 135 [r.v] (.lit .nilifc):=by
  refine PFun.of (C:=c135) (cx_ok _ _ _) rfl (fn:=Tryz.f135) (by kernel_rfl) (c:=_) rfl rfl rfl ?_
  refine Run.seq (Run.region (cx_ok _ _ _) (Reg.op rfl (Ope.boxF rfl rfl ?_)))
  refine Reg.op rfl (Ope.asg rfl ?_)
  refine Reg.nil (Run.seq (Run.region (cx_ok _ _ _) (Reg.op rfl (Ope.asg rfl ?_))))
  exact Reg.nil (Run.ret (fin_ret (.tmp rfl .nil) rfl rfl))
theorem f136 (r:Rpt):Fn P0 136 [r.v] (.ifc gainT r.v):=by
  refine PFun.of (C:=c136) (cx_ok _ _ _) rfl (fn:=Tryz.f136) (by kernel_rfl) (c:=_) rfl rfl rfl ?_
  refine Run.seq (Run.region (cx_ok _ _ _) (Reg.op rfl (Ope.boxF rfl rfl ?_)))
  refine Reg.op rfl (Ope.asg rfl ?_)
  refine Reg.nil (Run.seq (Run.region (cx_ok _ _ _) (Reg.op rfl (Ope.load rfl rfl ?_))))
  refine Reg.op rfl (Ope.bld rfl rfl ?_)
  refine Reg.op rfl (Ope.ifc rfl ?_)
  refine Reg.op rfl (Ope.asg rfl ?_)
  exact Reg.nil (Run.ret (fin_ret (.tmp rfl .nil) rfl rfl))
theorem f137 (r:Rpt):Fn P0 137 [r.v] (.ifc lossT r.v):=by
  refine PFun.of (C:=c137) (cx_ok _ _ _) rfl (fn:=Tryz.f137) (by kernel_rfl) (c:=_) rfl rfl rfl ?_
  refine Run.seq (Run.region (cx_ok _ _ _) (Reg.op rfl (Ope.boxF rfl rfl ?_)))
  refine Reg.op rfl (Ope.asg rfl ?_)
  refine Reg.nil (Run.seq (Run.region (cx_ok _ _ _) (Reg.op rfl (Ope.load rfl rfl ?_))))
  refine Reg.op rfl (Ope.bld rfl rfl ?_)
  refine Reg.op rfl (Ope.bld rfl rfl ?_)
  refine Reg.op rfl (Ope.ifc rfl ?_)
  refine Reg.op rfl (Ope.asg rfl ?_)
  exact Reg.nil (Run.ret (fin_ret (.tmp rfl .nil) rfl rfl))
def kVal (k:Int):Nat:=if k=0 then 133 else 131
def kOwn (k:Int):Nat:=if k=0 then 134 else 132
def kSco (k:Int):Nat:=if k=0 then 135 else if k=1 then 136 else 137
def kdV (k:Int):PV:=.agg [.fn (.func (kVal k)) [] [],.fn (.func (kOwn k)) [] [],.fn (.func (kSco k)) [] []]
def kdC (k:Int):List PV:=[.fn (.func (kVal k)) [] [],.fn (.func (kOwn k)) [] [],.fn (.func (kSco k)) [] []]
def ksV:PV:=.agg (kdC 0++kdC 1++kdC 2)
theorem f118:Fn P0 118 [] ksV:=by
  refine PFun.of (C:=c118) (cx_ok _ _ _) rfl (fn:=Tryz.f118) (by kernel_rfl) (c:=_) rfl rfl rfl ?_
  refine Run.seq (Run.region (cx_ok _ _ _) (Reg.op rfl (Ope.newL rfl ?_)))
  refine Reg.nil (Run.seq (Run.region (cx_ok _ _ _) (Reg.op rfl (Ope.asg rfl ?_))))
  refine Reg.nil (Run.seq (Run.region (cx_ok _ _ _) (Reg.op rfl (Ope.asg rfl ?_))))
  refine Reg.nil (Run.seq (Run.region (cx_ok _ _ _) (Reg.op rfl (Ope.bld rfl rfl ?_))))
  refine Reg.op rfl (Ope.mov rfl ?_)
  refine Reg.op rfl (Ope.mov rfl ?_)
  refine Reg.op rfl (Ope.bld rfl rfl ?_)
  refine Reg.op rfl (Ope.mov rfl ?_)
  refine Reg.op rfl (Ope.mov rfl ?_)
  refine Reg.op rfl (Ope.bld rfl rfl ?_)
  refine Reg.op rfl (Ope.bld rfl rfl ?_)
  refine Reg.op0 (Ope.store rfl rfl rfl rfl rfl rfl ?_)
  exact Reg.nil (Run.ret (fin_ret (.cell rfl rfl .nil) rfl rfl))
theorem natK_of {a:Int} (h:0≤a):natK a=some a.toNat:=by
  obtain ⟨n,rfl⟩:=Int.eq_ofNat_of_zero_le h
  rfl
theorem part_ks {k:Int} (h0:0≤k) (h2:k≤2):partK true (Nat.mul k.toNat 3) 3 (kdC 0++kdC 1++kdC 2)=some (kdV k):=by
  obtain rfl | rfl | rfl:k=0∨k=1∨k=2:=by omega
  · rfl
  · rfl
  · rfl
theorem f94 (r:Rpt) (h0:0≤r.ki) (h2:r.ki≤2):Fn P0 94 [r.v] (kdV r.ki):=by
  have hp:=part_ks h0 h2
  have hk:=natK_of h0
  have hb:Nat.blt r.ki.toNat 3=true:=by simp [Nat.blt_eq];omega
  refine PFun.of (C:=c94) (cx_ok _ _ _) rfl (fn:=Tryz.f94) (by kernel_rfl) (c:=_) rfl rfl rfl ?_
  refine Run.seq (Run.region (cx_ok _ _ _) (Reg.op rfl (Ope.boxF rfl rfl ?_)))
  refine Reg.op rfl (Ope.newL rfl ?_)
  refine Reg.nil (Run.seq (Run.draw (cx_ok _ _ _) [(1,true),(2,false),(0,true),(3,true),(4,true)] (by kernel_rfl) (Dra.op' rfl rfl rfl .sure (Ope.fld rfl rfl ?_))))
  refine Dra.op' rfl rfl rfl (.load rfl) (Ope.load rfl rfl ?_)
  refine Dra.op' rfl rfl rfl .sure (Ope.cf rfl rfl (f118) rfl ?_)
  refine Dra.op' rfl rfl rfl .sure (Ope.idx rfl rfl hk hb hp ?_)
  refine Dra.op' rfl rfl rfl .sure (Ope.store rfl rfl rfl rfl rfl rfl ?_)
  exact Dra.nil (Run.ret (fin_ret (.cell rfl rfl .nil) rfl rfl))
theorem fKVal (r:Rpt):Fn P0 (kVal r.ki) [r.v] (B (if r.ki=0 then spnB r.c r.d 1 10 else decide (0≤r.pr) && decide (r.pr≤3))):=by
  unfold kVal
  split
  · exact f133 r
  · exact f131 r
theorem fKOwn (r:Rpt):Fn P0 (kOwn r.ki) [r.v] r.own.v:=by
  unfold kOwn Rpt.own
  split
  · exact f134 r
  · exact f132 r
def scoV (r:Rpt):PV:=if r.ki=0 then .lit .nilifc else if r.ki=1 then .ifc gainT r.v else .ifc lossT r.v
theorem fKSco (r:Rpt):Fn P0 (kSco r.ki) [r.v] (scoV r):=by
  unfold kSco scoV
  split
  · exact f135 r
  · split
    · exact f136 r
    · exact f137 r
theorem f91 (r:Rpt):Fn P0 91 [r.v] (B r.ok):=by
  have hv:=fKVal r
  have hk:=f94 r
  refine PFun.of (C:=c91) (cx_ok _ _ _) rfl (fn:=Tryz.f91) (by kernel_rfl) (c:=_) rfl rfl rfl ?_
  refine Run.seq (Run.region (cx_ok _ _ _) (Reg.op rfl (Ope.boxF rfl rfl ?_)))
  refine Reg.op rfl (Ope.asg rfl ?_)
  refine Reg.nil (Run.seq (Run.draw (cx_ok _ _ _) [(0,true),(1,true),(2,true),(3,true),(4,true),(5,true),(6,true),(7,true),(8,true),(9,true),(10,true),(11,true),(12,true),(13,true),(14,true),(15,true),(16,true),(17,true),(18,true),(19,true),(22,false),(20,true),(21,true),(23,true),(24,true),(25,true)] (by kernel_rfl) (Dra.op' rfl rfl rfl .sure (Ope.fld rfl rfl ?_))))
  refine Dra.op' rfl rfl rfl .sure (Ope.load rfl rfl ?_)
  refine Dra.op' rfl rfl rfl .sure (Ope.cf rfl rfl (f110 r.id 0 31) rfl ?_)
  refine Dra.op' rfl rfl rfl .sure (Ope.mov rfl ?_)
  refine Dra.splitX rfl rfl rfl rfl (fun hg=>?_) fun hg=>?_
  ·refine Dra.on' rfl rfl rfl rfl rfl .sure (Ope.fld rfl rfl ?_)
   refine Dra.on' rfl rfl rfl rfl rfl .sure (Ope.load rfl rfl ?_)
   refine Dra.on' rfl rfl rfl rfl rfl .sure (Ope.cf rfl rfl (f110 r.ve 0 9) rfl ?_)
   refine Dra.op' rfl rfl rfl .sure (Ope.pickT rfl rfl ?_)
   refine Dra.op' rfl rfl rfl .sure (Ope.mov rfl ?_)
   refine Dra.splitX rfl rfl rfl rfl (fun hg=>?_) fun hg=>?_
   ·refine Dra.on' rfl rfl rfl rfl rfl .sure (Ope.fld rfl rfl ?_)
    refine Dra.on' rfl rfl rfl rfl rfl .sure (Ope.load rfl rfl ?_)
    refine Dra.on' rfl rfl rfl rfl rfl .sure (Ope.cf rfl rfl (f116 r.a r.b 0 50 (by decide) (by decide)) rfl ?_)
    refine Dra.op' rfl rfl rfl .sure (Ope.pickT rfl rfl ?_)
    refine Dra.op' rfl rfl rfl .sure (Ope.mov rfl ?_)
    refine Dra.splitX rfl rfl rfl rfl (fun hg=>?_) fun hg=>?_
    ·refine Dra.on' rfl rfl rfl rfl rfl .sure (Ope.fld rfl rfl ?_)
     refine Dra.on' rfl rfl rfl rfl rfl .sure (Ope.load rfl rfl ?_)
     refine Dra.on' rfl rfl rfl rfl rfl .sure (Ope.cf rfl rfl (f110 r.ki 0 2) rfl ?_)
     refine Dra.op' rfl rfl rfl .sure (Ope.pickT rfl rfl ?_)
     refine Dra.op' rfl rfl rfl .sure (Ope.mov rfl ?_)
     refine Dra.splitX rfl rfl rfl rfl (fun hg=>?_) fun hg=>?_
     ·refine Dra.on' rfl rfl rfl rfl rfl .sure (Ope.load rfl rfl ?_)
      refine Dra.on' rfl rfl rfl rfl rfl (.load rfl) (Ope.load rfl rfl ?_)
      refine Dra.on' rfl rfl rfl rfl rfl .sure (Ope.cf rfl rfl (hk (by simp only [Bool.and_eq_true,decide_eq_true_eq] at *;omega) (by simp only [Bool.and_eq_true,decide_eq_true_eq] at *;omega)) rfl ?_)
      refine Dra.on' rfl rfl rfl rfl rfl .sure (Ope.field rfl rfl ?_)
      refine Dra.on' rfl rfl rfl rfl rfl .sure (Ope.cf rfl rfl (hv) rfl ?_)
      refine Dra.op' rfl rfl rfl .sure (Ope.pickT rfl rfl ?_)
      refine Dra.op' rfl rfl rfl .sure (Ope.asg rfl ?_)
      refine Dra.nil (Run.ret (fin_ret (.tmp rfl .nil) rfl ?_))
      refine congrArg B ?_
      unfold Rpt.ok
      simp only [*,Bool.true_and,Bool.false_and]
     ·refine Dra.off' rfl rfl rfl (.inl rfl) rfl (Dra.off' rfl rfl rfl (.inl rfl) rfl (Dra.off' rfl rfl rfl (.inl rfl) rfl (Dra.off' rfl rfl rfl (.inl rfl) rfl (Dra.off' rfl rfl rfl (.inl rfl) rfl (Dra.op' rfl rfl rfl .sure (Ope.pickF rfl rfl ?_))))))
      refine Dra.op' rfl rfl rfl .sure (Ope.asg rfl ?_)
      refine Dra.nil (Run.ret (fin_ret (.tmp rfl .nil) rfl ?_))
      refine congrArg B ?_
      unfold Rpt.ok
      simp only [*,Bool.true_and,Bool.false_and]
    ·refine Dra.off' rfl rfl rfl (.inl rfl) rfl (Dra.off' rfl rfl rfl (.inl rfl) rfl (Dra.off' rfl rfl rfl (.inl rfl) rfl (Dra.op' rfl rfl rfl .sure (Ope.pickF rfl rfl ?_))))
     refine Dra.op' rfl rfl rfl .sure (Ope.mov rfl ?_)
     refine Dra.off' rfl rfl rfl (.inl rfl) rfl (Dra.off' rfl rfl rfl (.inl rfl) rfl (Dra.off' rfl rfl rfl (.inl rfl) rfl (Dra.off' rfl rfl rfl (.inl rfl) rfl (Dra.off' rfl rfl rfl (.inl rfl) rfl (Dra.op' rfl rfl rfl .sure (Ope.pickF rfl rfl ?_))))))
     refine Dra.op' rfl rfl rfl .sure (Ope.asg rfl ?_)
     refine Dra.nil (Run.ret (fin_ret (.tmp rfl .nil) rfl ?_))
     refine congrArg B ?_
     unfold Rpt.ok
     simp only [*,Bool.true_and,Bool.false_and]
   ·refine Dra.off' rfl rfl rfl (.inl rfl) rfl (Dra.off' rfl rfl rfl (.inl rfl) rfl (Dra.off' rfl rfl rfl (.inl rfl) rfl (Dra.op' rfl rfl rfl .sure (Ope.pickF rfl rfl ?_))))
    refine Dra.op' rfl rfl rfl .sure (Ope.mov rfl ?_)
    refine Dra.off' rfl rfl rfl (.inl rfl) rfl (Dra.off' rfl rfl rfl (.inl rfl) rfl (Dra.off' rfl rfl rfl (.inl rfl) rfl (Dra.op' rfl rfl rfl .sure (Ope.pickF rfl rfl ?_))))
    refine Dra.op' rfl rfl rfl .sure (Ope.mov rfl ?_)
    refine Dra.off' rfl rfl rfl (.inl rfl) rfl (Dra.off' rfl rfl rfl (.inl rfl) rfl (Dra.off' rfl rfl rfl (.inl rfl) rfl (Dra.off' rfl rfl rfl (.inl rfl) rfl (Dra.off' rfl rfl rfl (.inl rfl) rfl (Dra.op' rfl rfl rfl .sure (Ope.pickF rfl rfl ?_))))))
    refine Dra.op' rfl rfl rfl .sure (Ope.asg rfl ?_)
    refine Dra.nil (Run.ret (fin_ret (.tmp rfl .nil) rfl ?_))
    refine congrArg B ?_
    unfold Rpt.ok
    simp only [*,Bool.true_and,Bool.false_and]
  ·refine Dra.off' rfl rfl rfl (.inl rfl) rfl (Dra.off' rfl rfl rfl (.inl rfl) rfl (Dra.off' rfl rfl rfl (.inl rfl) rfl (Dra.op' rfl rfl rfl .sure (Ope.pickF rfl rfl ?_))))
   refine Dra.op' rfl rfl rfl .sure (Ope.mov rfl ?_)
   refine Dra.off' rfl rfl rfl (.inl rfl) rfl (Dra.off' rfl rfl rfl (.inl rfl) rfl (Dra.off' rfl rfl rfl (.inl rfl) rfl (Dra.op' rfl rfl rfl .sure (Ope.pickF rfl rfl ?_))))
   refine Dra.op' rfl rfl rfl .sure (Ope.mov rfl ?_)
   refine Dra.off' rfl rfl rfl (.inl rfl) rfl (Dra.off' rfl rfl rfl (.inl rfl) rfl (Dra.off' rfl rfl rfl (.inl rfl) rfl (Dra.op' rfl rfl rfl .sure (Ope.pickF rfl rfl ?_))))
   refine Dra.op' rfl rfl rfl .sure (Ope.mov rfl ?_)
   refine Dra.off' rfl rfl rfl (.inl rfl) rfl (Dra.off' rfl rfl rfl (.inl rfl) rfl (Dra.off' rfl rfl rfl (.inl rfl) rfl (Dra.off' rfl rfl rfl (.inl rfl) rfl (Dra.off' rfl rfl rfl (.inl rfl) rfl (Dra.op' rfl rfl rfl .sure (Ope.pickF rfl rfl ?_))))))
   refine Dra.op' rfl rfl rfl .sure (Ope.asg rfl ?_)
   refine Dra.nil (Run.ret (fin_ret (.tmp rfl .nil) rfl ?_))
   refine congrArg B ?_
   unfold Rpt.ok
   simp only [*,Bool.true_and,Bool.false_and]
end Go.Pv
