/- Parts of the proof: Pv62, Pv63, R114, R100 -/
import Derived.Test.YtejnfigkngkhjaaP14
import Derived.OpenShut
import Derived.Test.YtejnfigkngkhjaaP23
import Derived.Test.YtejnfigkngkhjaaP16
set_option linter.unusedVariables false
set_option linter.unusedSimpArgs false
set_option linter.unusedSectionVars false
namespace Go.Pv
open Go.Am Go.RowKit
section
variable {H:Type} {enc:TypeId×Value→H} {P:Program} {w:World} {base:Nat} {spare:Nat→Bool} {held:Bool}
theorem Reads.array2 {t e:TypeId} {Q:List PV→Prop} (ht:P.underlying t=some (.array 2 e)) (hc:P.cellsOf t=P.cellsOf e+P.cellsOf e) (hr:Reads enc P w base spare held e Q):Reads enc P w base spare held t (Alls [Q,Q]):=by
 intro fuel cs x h
 obtain ⟨xs,m,rfl,rfl,h1,h2,h3⟩:=DataW.trod_array ht h
 obtain ⟨p0,q0,r0⟩:=hr _ _ _ ((h3 0 (by decide)).trans (List.getElem?_eq_getElem (by omega)))
 obtain ⟨p1,q1,r1⟩:=hr _ _ _ ((h3 1 (by decide)).trans (List.getElem?_eq_getElem (by omega)))
 rw [Nat.zero_mul,List.drop_zero] at q0
 rw [Nat.one_mul] at q1
 refine ⟨p0++(p1++[]),?_,p0,p1++[],rfl,r0,p1,[],rfl,r1,rfl⟩
 rw [List.append_nil]
 have e1:(cs.drop (P.cellsOf e)).take (P.cellsOf e)=cs.drop (P.cellsOf e):=List.take_of_length_le (by rw [List.length_drop];omega)
 rw [e1] at q1
 have:=RVs.append q0 q1
 rwa [List.take_append_drop] at this
theorem okWide_agg {P:Program} {w:World} {r:Reach} {base:Nat} {t:TypeId} {fs:Array Field} {v:Value} (ht:P.underlying t=some (.struct fs)) (h:Value.okWide P w r base t v):∃ cs,v=.agg cs:=by
 unfold Value.okWide at h
 rw [ht] at h
 obtain ⟨cs,rfl,_⟩:=h
 exact ⟨cs,rfl⟩
theorem trod_agg {t:TypeId} {fs:Array Field} {Q:List PV→Prop} {v:Value} {d:DataW H} {ps:List MemPlace} {r:Reach} {b:Nat} (ht:P.underlying t=some (.struct fs)) (hv:Value.okWide P w r b t v) (h:DataW.Trod enc P w base spare held t v d ps) (hr:Reads enc P w base spare held t Q) :
  ∃ l,RV (St.froz w) (.agg l) v∧Q l:=by
 obtain ⟨fuel,h⟩:=h
 obtain ⟨cs,rfl⟩:=okWide_agg ht hv
 obtain ⟨l,h1,h2⟩:=hr _ _ _ h
 exact ⟨l,RV_agg.2 ⟨cs,rfl,h1⟩,h2⟩
end
end Go.Pv
namespace Go.Pv
open Go.Am Go.RowKit
section
variable {C:Cx} {F:EQ} {X:EX} {k:List KI} {e:EL} {ds:List Nat} {h:PH} {K:PV→PH→Prop} {n:Nat} {l:HL}
variable {d:Option Tmp} {type:TypeId} {pos:String} {after:Array Edge} {guard:Option (Nat×Bool)}
theorem max_if (a b:Int):(if b > a then b else a)=max a b:=by rw [Int.max_def];split<;>split<;>omega
theorem Ope.max4 {t:Array TypeId} {a b c x:Operand} {m1 m2 m3 m4:Int} (ha:pev (lget e) a=some (I m1)) (hb:pev (lget e) b=some (I m2)) (hc:pev (lget e) c=some (I m3)) (hx:pev (lget e) x=some (I m4)) (hK:K (I (max (max (max m1 m2) m3) m4)) h) :
  Ope C X { dst:=d,op:=.call { callee:=.builtin .max,args:=#[a,b,c,x],argTypes:=t },type,pos,after,guard } e ds h K:=by
 refine Ope.quiet rfl ?_ hK
 simp only [pquiet,pargs,ha,hb,hc,hx,pminmax,PV.toAV,PV.toAVs,aminmax,decide_true,max_if,plit,PV.ofAV]
end
end Go.Pv
namespace Go.Pv
open Go.Proofs Go.Am
set_option maxRecDepth 10000
theorem f42 (a b n:Int) (ha:-10000≤a∧a≤10000) (hb:-10000≤b∧b≤10000) (hn:-10000≤n∧n≤10000):Fn P0 42 [.agg [I a,I b],I n] (.agg [I (a+n),I (b+n)]):=by
  refine PFun.of (C:=c42) (cx_ok _ _ _) rfl (fn:=Try.f42) (by kernel_rfl) (c:=_) rfl rfl rfl ?_
  refine Run.seq (Run.region (cx_ok _ _ _) (Reg.op rfl (Ope.boxF rfl rfl ?_)))
  refine Reg.op rfl (Ope.newL rfl ?_)
  refine Reg.nil (Run.seq (Run.region (cx_ok _ _ _) (Reg.op rfl (Ope.fld rfl rfl ?_))))
  refine Reg.op rfl (Ope.load rfl rfl ?_)
  refine Reg.op rfl (Ope.mov rfl ?_)
  refine Reg.op rfl (Ope.add rfl rfl (by omega) ?_)
  refine Reg.op rfl (Ope.fld rfl rfl ?_)
  refine Reg.op rfl (Ope.load rfl rfl ?_)
  refine Reg.op rfl (Ope.mov rfl ?_)
  refine Reg.op rfl (Ope.add rfl rfl (by omega) ?_)
  refine Reg.op rfl (Ope.cf rfl rfl (f34n (a+n) (b+n)) rfl ?_)
  refine Reg.op0 (Ope.store rfl rfl rfl rfl rfl rfl ?_)
  refine Reg.nil (Run.ret (fin_ret (.cell rfl rfl .nil) rfl ?_))
  rfl
def bnd2 (x k:Option Bool):Option Bool :=
  match x with
  | some true=>k
  | some false=>some false
  | none=>none
def spnB (x y:Bool):Option Bool:=bnd2 (some x) (bnd2 (some y) (some true))
def spnsB (x y z w:Bool):Option Bool:=bnd2 (spnB x y) (bnd2 (spnB z w) (some true))
theorem neStv (a b c d e f g h i a' b' c' d' e' f' g' h' i':Int):aeqv A0 E0 20 46 (.agg [.int .i64 a,.int .i64 b,.int .i64 c,.int .i64 d,.int .i64 e,.int .i64 f,.int .i64 g,.int .i64 h,.int .i64 i]) (.agg [.int .i64 a',.int .i64 b',.int .i64 c',.int .i64 d',.int .i64 e',.int .i64 f',.int .i64 g',.int .i64 h',.int .i64 i']) =
    bnd2 (some (a == a')) (bnd2 (spnsB (b == b') (c == c') (d == d') (e == e')) (bnd2 (spnsB (f == f') (g == g') (h == h') (i == i')) (some true))):=by kernel_rfl
theorem neSte:E0.eqs.get 46=some ():=by kernel_rfl
theorem neStu:(match A0.under 46 with | some (.struct _)=>true | _=>false)=true:=by kernel_rfl
theorem neSt (xo yo:Operand) (s:Sti):pbin A0 E0 .neq 46 xo yo s.v s.v=some (B false):=by
  have hn:pnil A0 46 s.v s.v=none:=by
    have h:=neStu
    unfold pnil
    cases hu:A0.under 46 with
    | none=>rfl
    | some d =>
      rw [hu] at h
      cases d<;>first | rfl | (exact absurd h (by decide))
  have hv:=neStv s.r s.a s.b s.c s.d s.e s.f s.g s.h s.r s.a s.b s.c s.d s.e s.f s.g s.h
  simp only [beq_self_eq_true] at hv
  simp only [pbin,Sti.v,PV.toAV,PV.toAVs,bothNil,abin,aequal,neSte,hv]
  rw [show pnil A0 46 (.agg [I s.r,I s.a,I s.b,I s.c,I s.d,I s.e,I s.f,I s.g,I s.h]) (.agg [I s.r,I s.a,I s.b,I s.c,I s.d,I s.e,I s.f,I s.g,I s.h])=none from hn]
  rfl
def ownO (o:Option Nat) (i m:Nat) (l:HL):Prop:=(i=0→o=none)∧∀ j,o=some j→1 < j∧j < m∧hget l j=some .own∧i≠0
structure Thr (rest:Int) (S:List Sti) (k jj:Nat) (y:Int) (a b c:Int×Int) (e n j:Int) (Q:List Sti) (t1 t2 u1 u2 v1 v2 l w p:Int):Prop where
  on:Fn P0 14 [relV rest .no Q,I k] (.tup [.agg [I t1,I t2],I l])
  off:Fn P0 16 [relV rest .no Q,I k] (.tup [.agg [I u1,I u2],I l])
  len:Fn P0 18 [relV rest .no Q,I k] (.tup [.agg [I v1,I v2],I l])
  han:Fn P0 20 [relV rest .no Q,I k] (.tup [I w,I p])
  is:(jj=2∧(e≠0∨(l=0∧t1≤a.1∧a.2≤t2∧u1≤b.1∧b.2≤u2∧v1≤c.1∧c.2≤v2∧(p≠0∨w=n∨w=1)))) ∨
    (jj < 2∧l=e∧v1=c.1∧v2=c.2∧w=n∧p=j∧(e≠0∨(t1=a.1+(jj:Int) * y∧t2=a.2+(jj:Int) * y∧u1=b.1+(jj:Int) * y∧u2=b.2+(jj:Int) * y)))
theorem thr_of {rest:Int} {tl:Tail} {S:List Sti} {k q:Nat} {y:Int} {a b c:Int×Int} {e n j d h:Int} {z:Nat} (H:TurH rest tl S k q y a b c e n j d h z) {jj:Nat} (hj:jj < [swpS S,latS y S,freeS S (1 * 2 ^ q)].length) (hf:¬ (jj=1∧S.all (fitO y)=false)) :
    ∃ t1 t2 u1 u2 v1 v2 l w p,Thr rest S k jj y a b c e n j ([swpS S,latS y S,freeS S (1 * 2 ^ q)][jj]) t1 t2 u1 u2 v1 v2 l w p:=by
  match jj,hj with
  | 0, _ =>
    obtain ⟨h1,h2,h3,h4⟩:=H.sw
    exact ⟨a.1,a.2,b.1,b.2,c.1,c.2,e,n,j,h1,h2,h3,h4,.inr ⟨by decide,rfl,rfl,rfl,rfl,rfl,.inr ⟨by omega,by omega,by omega,by omega⟩⟩⟩
  | 1, _ =>
    obtain ⟨a',b',⟨h1,h2,h3,h4⟩,h5⟩:=H.lat (by
      cases h:S.all (fitO y) with
      | true=>rfl
      | false=>exact absurd ⟨rfl,h⟩ hf)
    refine ⟨_,_,_,_,_,_,e,n,j,h1,h2,h3,h4,.inr ⟨by decide,rfl,rfl,rfl,rfl,rfl,?_⟩⟩
    by_cases he:e=0
    · obtain ⟨rfl, rfl⟩ := h5 he
      refine .inr ⟨?_,?_,?_,?_⟩<;>(show _+y=_+_;omega)
    · exact .inl he
  | 2, _ =>
    obtain ⟨a',b',c',e',n',j',⟨h1,h2,h3,h4⟩,h5⟩:=H.wid
    refine ⟨_,_,_,_,_,_,e',n',j',h1,h2,h3,h4,.inl ⟨rfl,?_⟩⟩
    by_cases he:e=0
    · obtain ⟨g0, g1, g2, g3, g4, g5, g6, g7⟩ := h5 he
      refine .inr ⟨g0,g1,g2,g3,g4,g5,g6,?_⟩
      by_cases hp:j'=0
      · exact .inr (g7 hp)
      · exact .inl hp
    · exact .inl he
theorem bds_fr (rest:Int) (S:List Sti) (x:Int):PV.bds 0 [relV rest .no S,I x]=true:=bd_is rest .no rfl S x
theorem f11 (rest : Int) (tl : Tail) (htl : tl.isOwn = false) (S : List Sti) (hS : S.length ≤ 1000000) (later which : Nat) (hlat : later < 256) (hwhi : which < 256) : Fn P0 11 [relV rest tl S, U8 later, U8 which] (B true) := by
  have hbr:=bd_rels rest tl htl S
  have hbd:=fun k=>bd_is rest tl htl S k
  have hb2:∀ (tl:Tail) (htl:tl.isOwn=false) (S:List Sti) (x y:Int),PV.bds 0 [relV rest tl S,I x,I y]=true:=fun tl htl S x y=>by
    have:=bd_rels rest tl htl S
    simp only [PV.bds,PV.bd,Bool.and_eq_true] at this ⊢
    simp [this]
  refine PFun.of (C:=c11) (cx_ok _ _ _) rfl (fn:=Try.f11) (by kernel_rfl) (c:=_) rfl rfl rfl ?_
  refine Run.seq (Run.region (cx_ok _ _ _) (Reg.op rfl (Ope.boxF rfl rfl ?_)))
  refine Reg.op rfl (Ope.asg rfl ?_)
  refine Reg.nil (Run.seq (Run.seq (Run.region (cx_ok _ _ _) (Reg.op rfl (Ope.load rfl rfl ?_)))))
  refine Reg.op rfl (Ope.cf rfl rfl (f12 rest tl htl S hS 5 (by decide)) (hbd 5) ?_)
  refine Reg.op rfl (Ope.mov rfl ?_)
  refine Reg.splitX rfl rfl (fun hg=>?_) fun hg=>?_
  ·refine Reg.off rfl rfl rfl (Reg.off rfl rfl rfl (Reg.off rfl rfl rfl (Reg.op rfl (Ope.pickT rfl rfl ?_))))
   refine Reg.op rfl (Ope.mov rfl ?_)
   refine Reg.off rfl rfl rfl (Reg.off rfl rfl rfl (Reg.off rfl rfl rfl (Reg.off rfl rfl rfl (Reg.op rfl (Ope.pickT rfl rfl ?_)))))
   refine Reg.nil (Run.condT rfl (Run.seq (Run.region (cx_ok _ _ _) (Reg.op rfl (Ope.cf rfl rfl awakeF rfl ?_)))))
   refine Reg.op rfl (Ope.asg rfl ?_)
   exact Reg.nil (Run.ret (Jmp.code (fin_ret (.tmp rfl .nil) rfl rfl)))
  ·refine Reg.on rfl rfl rfl (Ope.load rfl rfl ?_)
   refine Reg.on rfl rfl rfl (Ope.cf rfl rfl (f32 rest tl S hS) hbr ?_)
   refine Reg.on rfl rfl rfl (Ope.not rfl ?_)
   refine Reg.op rfl (Ope.pickF rfl rfl ?_)
   refine Reg.op rfl (Ope.mov rfl ?_)
   refine Reg.splitX rfl rfl (fun hg=>?_) fun hg=>?_
   ·refine Reg.off rfl rfl rfl (Reg.off rfl rfl rfl (Reg.off rfl rfl rfl (Reg.off rfl rfl rfl (Reg.op rfl (Ope.pickT rfl rfl ?_)))))
    refine Reg.nil (Run.condT rfl (Run.seq (Run.region (cx_ok _ _ _) (Reg.op rfl (Ope.cf rfl rfl awakeF rfl ?_)))))
    refine Reg.op rfl (Ope.asg rfl ?_)
    exact Reg.nil (Run.ret (Jmp.code (fin_ret (.tmp rfl .nil) rfl rfl)))
   ·refine Reg.on rfl rfl rfl (Ope.fld rfl rfl ?_)
    refine Reg.on rfl rfl rfl (Ope.load rfl rfl ?_)
    refine Reg.on rfl rfl rfl (Ope.len (m:=S.length) rfl (by simp) ?_)
    refine Reg.on rfl rfl rfl (Ope.eq rfl rfl ?_)
    refine Reg.op rfl (Ope.pickF rfl rfl ?_)
    refine Reg.nil (Run.condX rfl (fun hc=>?_) fun hc=>?_)
    ·refine Run.seq (Run.region (cx_ok _ _ _) (Reg.op rfl (Ope.cf rfl rfl awakeF rfl ?_)))
     refine Reg.op rfl (Ope.asg rfl ?_)
     exact Reg.nil (Run.ret (Jmp.code (fin_ret (.tmp rfl .nil) rfl rfl)))
    ·refine Run.skip (Run.seq ?_)
     have hr:relOk rest S=true:=by simp_all
     obtain ⟨hrr,hS5,hv⟩:=relOk_of hr
     have hpos:0 < S.length:=by omega
     refine Run.cut (fun e' d' h'=>∃ a b l,(a < 2∧b < 2∧a≠b)∧Lsub [(1,U8 later),(2,U8 which),(3,.fp (relV rest tl S)),(7,.ptr a 0),(8,.ptr b 0)] e'∧d'=[]∧h'=HE 2 l∧hget l a=some (.cells [I rest,.sl tl (S.map Sti.v)])∧hget l b=some (.cells [I rest,.sl tl (S.map Sti.v)])) ?_ ?_
     ·refine Run.drawL (cx_ok _ _ _) [[(0,false),(1,false),(2,true),(3,true),(4,true),(5,true)],[(0,false),(1,false),(3,true),(2,true),(4,true),(5,true)]] (by kernel_rfl) ⟨?_,?_,trivial⟩
      ·refine Dra.op' rfl rfl rfl (.load rfl) (Ope.load rfl rfl ?_)
       refine Dra.op' rfl rfl rfl (.load rfl) (Ope.load rfl rfl ?_)
       refine Dra.op' rfl rfl rfl .sure (Ope.newL rfl ?_)
       refine Dra.op' rfl rfl rfl .sure (Ope.newL rfl ?_)
       refine Dra.op' rfl rfl rfl .sure (Ope.store rfl rfl rfl rfl rfl rfl ?_)
       refine Dra.op' rfl rfl rfl .sure (Ope.store rfl rfl rfl rfl rfl rfl ?_)
       refine Dra.nil ?_
       first
       | exact Run.lend ⟨0,1,_,⟨by decide,by decide,by decide⟩,⟨rfl,rfl,rfl,rfl,rfl,trivial⟩,rfl,rfl,rfl,rfl⟩
       | exact Run.lend ⟨1,0,_,⟨by decide,by decide,by decide⟩,⟨rfl,rfl,rfl,rfl,rfl,trivial⟩,rfl,rfl,rfl,rfl⟩
      ·refine Dra.op' rfl rfl rfl (.load rfl) (Ope.load rfl rfl ?_)
       refine Dra.op' rfl rfl rfl (.load rfl) (Ope.load rfl rfl ?_)
       refine Dra.op' rfl rfl rfl .sure (Ope.newL rfl ?_)
       refine Dra.op' rfl rfl rfl .sure (Ope.newL rfl ?_)
       refine Dra.op' rfl rfl rfl .sure (Ope.store rfl rfl rfl rfl rfl rfl ?_)
       refine Dra.op' rfl rfl rfl .sure (Ope.store rfl rfl rfl rfl rfl rfl ?_)
       refine Dra.nil ?_
       first
       | exact Run.lend ⟨0,1,_,⟨by decide,by decide,by decide⟩,⟨rfl,rfl,rfl,rfl,rfl,trivial⟩,rfl,rfl,rfl,rfl⟩
       | exact Run.lend ⟨1,0,_,⟨by decide,by decide,by decide⟩,⟨rfl,rfl,rfl,rfl,rfl,trivial⟩,rfl,rfl,rfl,rfl⟩
     ·rintro e' d' h' ⟨a, b, l0, ⟨ha2, hb2', hab⟩, hs, rfl, rfl, hla, hlb⟩; refine Run.less hs ?_
      refine Run.seq (Run.region (cx_ok _ _ _) (Reg.op rfl (Ope.fld rfl rfl ?_)))
      refine Reg.op0 (Ope.store rfl rfl hla rfl rfl rfl ?_)
      refine Reg.op rfl (Ope.fld rfl rfl ?_)
      refine Reg.op0 (Ope.store rfl rfl ((hget_tl (fun h=>hab h.symm)).trans hlb) rfl rfl rfl ?_)
      refine Reg.nil (Run.seq ?_)
      generalize hby:later % 50=by'
      have hby50:by' < 50:=by omega
      have hla1:hget ((b,some (.cells [I rest,.sl .ex []]))::(a,some (.cells [I rest,.sl .ex []]))::l0) a=some (.cells [I rest,.sl .ex []]):=(hget_tl hab).trans hget_hd
      have hlb1:hget ((b,some (.cells [I rest,.sl .ex []]))::(a,some (.cells [I rest,.sl .ex []]))::l0) b=some (.cells [I rest,.sl .ex []]):=hget_hd
      refine Run.region (cx_ok _ _ _) (Reg.op rfl (Ope.mov rfl ?_))
      refine Reg.op rfl (Ope.convN (p:=later) rfl rfl (by show _ < 2 ^ 63;omega) ?_)
      refine Reg.op rfl (Ope.remN (p:=later) (q:=50) rfl rfl rfl rfl (by decide) ?_)
      refine Reg.op rfl (Ope.asg rfl ?_)
      refine Reg.op rfl (Ope.asg rfl ?_)
      refine Reg.nil (Run.seq (Run.seq ?_))
      rw [hby]
      refine Run.region (cx_ok _ _ _) (Reg.op rfl (Ope.fld rfl rfl ?_))
      refine Reg.op rfl (Ope.load rfl rfl ?_)
      refine Reg.op rfl (Ope.len (m:=S.length) rfl (by simp) ?_)
      refine Reg.op rfl (Ope.mov rfl ?_)
      refine Reg.nil (Run.cut (fun e' d' h'=>∃ m l o1 o2,Lsub [(2,U8 which),(3,.fp (relV rest tl S)),(7,.ptr a 0),(8,.ptr b 0),(9,I by'),(10,B (S.all (fitO by')))] e'∧d'=[]∧h'=HE m l∧hget l a=some (.cells [I rest,.sl (tlU o1) ((swpS S).map Sti.v)])∧hget l b=some (.cells [I rest,.sl (tlU o2) ((latS by' S).map Sti.v)])) ?_ ?_)
      ·refine Run.block ?_
       refine Run.loop (α:=Nat×Nat×Option Nat×Option Nat×HL) (fun s=>[(2,U8 which),(3,.fp (relV rest tl S)),(7,.ptr a 0),(8,.ptr b 0),(9,I by'),(10,B ((S.take s.1).all (fitO by'))),(70,.sl tl (S.map Sti.v)),(71,I S.length),(72,I s.1)]) (fun s=>HE s.2.1 s.2.2.2.2) (fun s=>s.1≤S.length∧2≤s.2.1∧hget s.2.2.2.2 a=some (.cells [I rest,.sl (tlU s.2.2.1) ((swpS (S.take s.1)).map Sti.v)])∧hget s.2.2.2.2 b=some (.cells [I rest,.sl (tlU s.2.2.2.1) ((latS by' (S.take s.1)).map Sti.v)])∧ownO s.2.2.1 s.1 s.2.1 s.2.2.2.2∧ownO s.2.2.2.1 s.1 s.2.1 s.2.2.2.2∧(∀ j,s.2.2.1=some j→s.2.2.2.1≠some j)) (fun s=>S.length - s.1) (0,2,none,none,_) ⟨rfl,rfl,rfl,rfl,rfl,rfl,rfl,rfl,rfl,trivial⟩ rfl ⟨Nat.zero_le _,Nat.le_refl _,hla1,hlb1,⟨fun _=>rfl,(fun j hj=>by cases hj)⟩,⟨fun _=>rfl,(fun j hj=>by cases hj)⟩,(fun j hj=>by cases hj)⟩ (fun s hs=>?_)
       obtain ⟨i,m,o1,o2,l⟩:=s
       obtain ⟨hi,hm2,hla,hlb,w1,w2,d12⟩:=hs
       simp only at hi hm2 hla hlb w1 w2 d12
       show Run _ _ _ _ [(2,U8 which),(3,.fp (relV rest tl S)),(7,.ptr a 0),(8,.ptr b 0),(9,I by'),(10,B ((S.take i).all (fitO by'))),(70,.sl tl (S.map Sti.v)),(71,I S.length),(72,I i)] [] (HE m l)
       refine Run.seq (Run.region (cx_ok _ _ _) (Reg.op rfl (Ope.lt rfl rfl ?_)))
       refine Reg.nil (Run.seq (Run.condX rfl (fun hc=>?_) fun hc=>?_))
       ·refine Run.skip (Run.seq (Run.block (Run.seq ?_)))
        have hlt:i < S.length:=by omega
        have hsok:=hv _ (List.getElem_mem hlt)
        have hbn:(0≤S[i].a∧S[i].a≤S[i].b∧S[i].b≤600)∧(0≤S[i].c∧S[i].c≤S[i].d∧S[i].d≤600)∧(0≤S[i].e∧S[i].e≤S[i].f∧S[i].f≤600)∧(0≤S[i].g∧S[i].g≤S[i].h∧S[i].h≤600):=by
          simp only [Sti.ok,Sti.j0,Sti.j1,minsOk,Bool.and_eq_true,decide_eq_true_eq] at hsok
          omega
        have et:S.take (i+1)=S.take i++[S[i]]:=List.take_succ_eq_append_getElem hlt
        have ex:(swpS (S.take (i+1))).map Sti.v=(swpS (S.take i)).map Sti.v++[S[i].swp.v]:=by show ((S.take (i+1)).map Sti.swp).map Sti.v=_;rw [et,List.map_append,List.map_append];rfl
        have ey:(latS by' (S.take (i+1))).map Sti.v=(latS by' (S.take i)).map Sti.v++[(S[i].late by').v]:=by show ((S.take (i+1)).map (Sti.late by')).map Sti.v=_;rw [et,List.map_append,List.map_append];rfl
        have ef:(S.take (i+1)).all (fitO by')=((S.take i).all (fitO by') && fitO by' S[i]):=by rw [et,List.all_append];simp only [List.all_cons,List.all_nil,Bool.and_true]
        have hx0:i≠0→(swpS (S.take i)).map Sti.v≠[]:=fun h0 e0=>by
          have:=congrArg List.length e0
          simp only [List.length_map,List.length_take,List.length_nil] at this
          omega
        have hy0:i≠0→(latS by' (S.take i)).map Sti.v≠[]:=fun h0 e0=>by
          have:=congrArg List.length e0
          simp only [List.length_map,List.length_take,List.length_nil] at this
          omega
        have wB1:∀ j,o1=some j→1 < j∧j < m:=fun j hj=>⟨(w1.2 j hj).1,(w1.2 j hj).2.1⟩
        have wB2:∀ j,o2=some j→1 < j∧j < m:=fun j hj=>⟨(w2.2 j hj).1,(w2.2 j hj).2.1⟩
        refine Run.region (cx_ok _ _ _) (Reg.op rfl (Ope.idxM (m:=i) (f:=Sti.v) rfl rfl rfl hlt (fun _=>rfl) ?_))
        refine Reg.op rfl (Ope.load rfl rfl ?_)
        refine Reg.op rfl (Ope.newL rfl ?_)
        refine Reg.op0 (Ope.store rfl rfl hget_hd rfl rfl rfl ?_)
        refine Reg.nil (Run.seq (Run.frz (d:=12) true rfl hget_hd rfl ?_))
        have hSa:∀ x y z,hget ((m,x)::(m,y)::(m,z)::l) a=some (.cells [I rest,.sl (tlU o1) ((swpS (S.take i)).map Sti.v)]):=fun x y z=>(hget_tl (by omega)).trans ((hget_tl (by omega)).trans ((hget_tl (by omega)).trans hla))
        have hown1:∀ x y z j,o1=some j→hget ((m,x)::(m,y)::(m,z)::l) j=some .own:=fun x y z j hj=>(hget_tl (by have:=wB1 j hj;omega)).trans ((hget_tl (by have:=wB1 j hj;omega)).trans ((hget_tl (by have:=wB1 j hj;omega)).trans (w1.2 j hj).2.2.1))
        refine Run.drawS (cx_ok _ _ _) (fun h'=>h'.get a=some (PBlk.cells [I rest,.sl (tlU o1) ((swpS (S.take i)).map Sti.v)])) [(0,true,false),(1,false,false),(2,true,false),(3,true,false),(4,true,false),(5,true,false),(6,true,false),(7,true,false),(8,true,false),(9,true,false),(10,true,false),(11,true,false),(12,true,false),(13,true,false),(14,true,false),(15,true,false),(16,true,true),(17,true,false),(18,true,false),(19,true,false),(20,true,false)] (by kernel_rfl) (DraS.opQ rfl rfl rfl (Ope.fld rfl rfl ?_))
        refine DraS.opR rfl rfl rfl (hSa _ _ _) (StabS.at rfl) (Ope.loadH rfl (hSa _ _ _) rfl ?_)
        refine DraS.opQ rfl rfl rfl (Ope.fld rfl rfl ?_)
        refine DraS.opQ rfl rfl rfl (Ope.load rfl rfl ?_)
        refine DraS.opQ rfl rfl rfl (Ope.fld rfl rfl ?_)
        refine DraS.opQ rfl rfl rfl (Ope.idxA rfl rfl rfl rfl ?_)
        refine DraS.opQ rfl rfl rfl (Ope.load rfl rfl ?_)
        refine DraS.opQ rfl rfl rfl (Ope.fld rfl rfl ?_)
        refine DraS.opQ rfl rfl rfl (Ope.idxA rfl rfl rfl rfl ?_)
        refine DraS.opQ rfl rfl rfl (Ope.load rfl rfl ?_)
        refine DraS.opQ rfl rfl rfl (Ope.fld rfl rfl ?_)
        refine DraS.opQ rfl rfl rfl (Ope.idxA rfl rfl rfl rfl ?_)
        refine DraS.opQ rfl rfl rfl (Ope.load rfl rfl ?_)
        refine DraS.opQ rfl rfl rfl (Ope.fld rfl rfl ?_)
        refine DraS.opQ rfl rfl rfl (Ope.idxA rfl rfl rfl rfl ?_)
        refine DraS.opQ rfl rfl rfl (Ope.load rfl rfl ?_)
        refine DraS.opS rfl rfl rfl (Ope.cf rfl rfl (f41 _ _ _ _ _ _ _ _ _) rfl ?_)
        refine ⟨(hSa _ _ _),?_⟩
        refine DraS.opQ rfl rfl rfl (Ope.bsl rfl rfl rfl rfl ?_)
        refine DraS.opQ rfl rfl rfl (Ope.apV (o':=o1) (vs:=(swpS (S.take i)).map Sti.v) (ws:=[S[i].swp.v]) rfl rfl (by simp) (fun j hj=>⟨hx0 (w1.2 j hj).2.2.2,hown1 _ _ _ j hj⟩) (by simp only [List.length_map,List.length_take,List.length_singleton];omega) (by simp only [List.length_map,List.length_take,List.length_singleton];omega) (by decide) (by intro v hv;obtain ⟨_,_,rfl⟩:=List.mem_map.1 hv;rfl) (by intro v hv;simp only [List.mem_singleton] at hv;subst hv;exact ⟨rfl,rfl⟩) ?_)
        refine DraS.opQ rfl rfl rfl (Ope.fld rfl rfl ?_)
        refine DraS.opQ rfl rfl rfl (Ope.store rfl rfl ((hget_tl (by omega)).trans ((killU_at (o:=o1) (fun j hj=>by have:=wB1 j hj;omega)).trans (hSa _ _ _))) rfl rfl rfl ?_)
        refine DraS.nil (Run.seq ?_)
        have hKb:∀ x y z u v,hget ((a,u)::(m+1,v)::killU o1 ((m,x)::(m,y)::(m,z)::l)) b=some (.cells [I rest,.sl (tlU o2) ((latS by' (S.take i)).map Sti.v)]):=fun x y z u v=>(hget_tl (fun h=>hab h.symm)).trans ((hget_tl (by omega)).trans ((killU_at (o:=o1) (fun j hj=>by have:=wB1 j hj;omega)).trans ((hget_tl (by omega)).trans ((hget_tl (by omega)).trans ((hget_tl (by omega)).trans hlb)))))
        have hown2:∀ x y z u v j,o2=some j→hget ((a,u)::(m+1,v)::killU o1 ((m,x)::(m,y)::(m,z)::l)) j=some .own:=fun x y z u v j hj=>(hget_tl (by have:=wB2 j hj;omega)).trans ((hget_tl (by have:=wB2 j hj;omega)).trans ((killU_at (o:=o1) (fun q hq e=>d12 q hq (by rw [e];exact hj))).trans ((hget_tl (by have:=wB2 j hj;omega)).trans ((hget_tl (by have:=wB2 j hj;omega)).trans ((hget_tl (by have:=wB2 j hj;omega)).trans (w2.2 j hj).2.2.1)))))
        refine Run.drawS (cx_ok _ _ _) (fun h'=>h'.get b=some (PBlk.cells [I rest,.sl (tlU o2) ((latS by' (S.take i)).map Sti.v)])) [(0,true,false),(1,false,false),(2,true,false),(3,false,false),(4,true,false),(5,true,false),(6,true,false),(7,true,false),(9,true,false),(10,true,false),(11,false,false),(12,true,false),(14,true,false),(15,true,false),(16,false,false),(17,true,false),(19,true,false),(20,true,false),(21,false,false),(22,true,false),(8,true,true),(13,true,true),(18,true,true),(23,true,true),(24,true,true),(25,true,false),(26,true,false),(27,true,false),(28,true,false)] (by kernel_rfl) (DraS.opQ rfl rfl rfl (Ope.fld rfl rfl ?_))
        refine DraS.opR rfl rfl rfl (hKb _ _ _ _ _) (StabS.at rfl) (Ope.loadH rfl (hKb _ _ _ _ _) rfl ?_)
        refine DraS.opQ rfl rfl rfl (Ope.fld rfl rfl ?_)
        refine DraS.opR rfl rfl rfl (hKb _ _ _ _ _) (StabS.frozen rfl) (Ope.load rfl rfl ?_)
        refine DraS.opQ rfl rfl rfl (Ope.fld rfl rfl ?_)
        refine DraS.opQ rfl rfl rfl (Ope.idxA rfl rfl rfl rfl ?_)
        refine DraS.opQ rfl rfl rfl (Ope.load rfl rfl ?_)
        refine DraS.opQ rfl rfl rfl (Ope.mov rfl ?_)
        refine DraS.opQ rfl rfl rfl (Ope.fld rfl rfl ?_)
        refine DraS.opQ rfl rfl rfl (Ope.idxA rfl rfl rfl rfl ?_)
        refine DraS.opR rfl rfl rfl (hKb _ _ _ _ _) (StabS.frozen rfl) (Ope.load rfl rfl ?_)
        refine DraS.opQ rfl rfl rfl (Ope.mov rfl ?_)
        refine DraS.opQ rfl rfl rfl (Ope.fld rfl rfl ?_)
        refine DraS.opQ rfl rfl rfl (Ope.idxA rfl rfl rfl rfl ?_)
        refine DraS.opR rfl rfl rfl (hKb _ _ _ _ _) (StabS.frozen rfl) (Ope.load rfl rfl ?_)
        refine DraS.opQ rfl rfl rfl (Ope.mov rfl ?_)
        refine DraS.opQ rfl rfl rfl (Ope.fld rfl rfl ?_)
        refine DraS.opQ rfl rfl rfl (Ope.idxA rfl rfl rfl rfl ?_)
        refine DraS.opR rfl rfl rfl (hKb _ _ _ _ _) (StabS.frozen rfl) (Ope.load rfl rfl ?_)
        refine DraS.opQ rfl rfl rfl (Ope.mov rfl ?_)
        refine DraS.opS rfl rfl rfl (Ope.cf rfl rfl (f42 _ _ _ (by omega) (by omega) (by omega)) rfl ?_)
        refine ⟨(hKb _ _ _ _ _),?_⟩
        refine DraS.opS rfl rfl rfl (Ope.cf rfl rfl (f42 _ _ _ (by omega) (by omega) (by omega)) rfl ?_)
        refine ⟨(hKb _ _ _ _ _),?_⟩
        refine DraS.opS rfl rfl rfl (Ope.cf rfl rfl (f42 _ _ _ (by omega) (by omega) (by omega)) rfl ?_)
        refine ⟨(hKb _ _ _ _ _),?_⟩
        refine DraS.opS rfl rfl rfl (Ope.cf rfl rfl (f42 _ _ _ (by omega) (by omega) (by omega)) rfl ?_)
        refine ⟨(hKb _ _ _ _ _),?_⟩
        refine DraS.opS rfl rfl rfl (Ope.cf rfl rfl (f41 _ _ _ _ _ _ _ _ _) rfl ?_)
        refine ⟨(hKb _ _ _ _ _),?_⟩
        refine DraS.opQ rfl rfl rfl (Ope.bsl rfl rfl rfl rfl ?_)
        refine DraS.opQ rfl rfl rfl (Ope.apV (o':=o2) (vs:=(latS by' (S.take i)).map Sti.v) (ws:=[(S[i].late by').v]) rfl rfl (by simp) (fun j hj=>⟨hy0 (w2.2 j hj).2.2.2,hown2 _ _ _ _ _ j hj⟩) (by simp only [List.length_map,List.length_take,List.length_singleton];omega) (by simp only [List.length_map,List.length_take,List.length_singleton];omega) (by decide) (by intro v hv;obtain ⟨_,_,rfl⟩:=List.mem_map.1 hv;rfl) (by intro v hv;simp only [List.mem_singleton] at hv;subst hv;exact ⟨rfl,rfl⟩) ?_)
        refine DraS.opQ rfl rfl rfl (Ope.fld rfl rfl ?_)
        refine DraS.opQ rfl rfl rfl (Ope.store rfl rfl ((hget_tl (by omega)).trans ((killU_at (o:=o2) (fun j hj=>by have:=wB2 j hj;omega)).trans (hKb _ _ _ _ _))) rfl rfl rfl ?_)
        refine DraS.nil (Run.region (cx_ok _ _ _) (Reg.op rfl (Ope.mov rfl ?_)))
        refine Reg.op rfl (Ope.mov rfl ?_)
        refine Reg.splitX rfl rfl (fun hg=>?_) fun hg=>?_
        ·refine Reg.on rfl rfl rfl (Ope.fld rfl rfl ?_)
         refine Reg.on rfl rfl rfl (Ope.idxA rfl rfl rfl rfl ?_)
         refine Reg.on rfl rfl rfl (Ope.fld rfl rfl ?_)
         refine Reg.on rfl rfl rfl (Ope.load rfl rfl ?_)
         refine Reg.on rfl rfl rfl (Ope.fld rfl rfl ?_)
         refine Reg.on rfl rfl rfl (Ope.idxA rfl rfl rfl rfl ?_)
         refine Reg.on rfl rfl rfl (Ope.fld rfl rfl ?_)
         refine Reg.on rfl rfl rfl (Ope.load rfl rfl ?_)
         refine Reg.on rfl rfl rfl (Ope.fld rfl rfl ?_)
         refine Reg.on rfl rfl rfl (Ope.idxA rfl rfl rfl rfl ?_)
         refine Reg.on rfl rfl rfl (Ope.fld rfl rfl ?_)
         refine Reg.on rfl rfl rfl (Ope.load rfl rfl ?_)
         refine Reg.on rfl rfl rfl (Ope.fld rfl rfl ?_)
         refine Reg.on rfl rfl rfl (Ope.idxA rfl rfl rfl rfl ?_)
         refine Reg.on rfl rfl rfl (Ope.fld rfl rfl ?_)
         refine Reg.on rfl rfl rfl (Ope.load rfl rfl ?_)
         refine Reg.on rfl rfl rfl (Ope.max4 rfl rfl rfl rfl ?_)
         refine Reg.on rfl rfl rfl (Ope.mov rfl ?_)
         refine Reg.on rfl rfl rfl (Ope.add rfl rfl (by omega) ?_)
         refine Reg.on rfl rfl rfl (Ope.le rfl rfl ?_)
         refine Reg.op rfl (Ope.pickT rfl rfl ?_)
         refine Reg.op rfl (Ope.asg rfl ?_)
         refine Reg.nil (Run.bend (Run.region (cx_ok _ _ _) (Reg.op rfl (Ope.add rfl rfl (by omega) ?_))))
         refine Reg.op rfl (Ope.mov rfl ?_)
         refine Reg.nil ?_
         refine Run.lend ⟨(i+1,m+1+1+1,some (m+1),some (m+1+1),_),by show S.length - (i+1) < S.length - i;omega,⟨by show i+1≤S.length;omega,by show 2≤m+1+1+1;omega,(by rw [ex];exact (hget_tl hab).trans ((hget_tl (by omega)).trans ((killU_at (o:=o2) (fun j hj=>by have:=wB2 j hj;omega)).trans hget_hd))),(by rw [ey];exact hget_hd),⟨fun h=>absurd h (Nat.succ_ne_zero _),fun j hj=>by cases hj;exact ⟨by omega,by show m+1 < m+1+1+1;omega,(hget_tl (by omega)).trans ((hget_tl (by omega)).trans ((killU_at (o:=o2) (fun j hj=>by have:=wB2 j hj;omega)).trans ((hget_tl (by omega)).trans hget_hd))),Nat.succ_ne_zero _⟩⟩,⟨fun h=>absurd h (Nat.succ_ne_zero _),fun j hj=>by cases hj;exact ⟨by omega,by show m+1+1 < m+1+1+1;omega,(hget_tl (by omega)).trans hget_hd,Nat.succ_ne_zero _⟩⟩,fun j hj h=>by cases hj;have h':=Option.some.inj h;omega⟩,⟨rfl,rfl,rfl,rfl,rfl,(by show some _=some (B ((S.take (i+1)).all (fitO by')));rw [ef];first | (rw [hg,Bool.false_and];done) | (rw [hg,Bool.true_and];rfl)),rfl,rfl,rfl,trivial⟩,rfl,rfl⟩
        ·refine Reg.off rfl rfl rfl (Reg.off rfl rfl rfl (Reg.off rfl rfl rfl (Reg.off rfl rfl rfl (Reg.off rfl rfl rfl (Reg.off rfl rfl rfl (Reg.off rfl rfl rfl (Reg.off rfl rfl rfl (Reg.off rfl rfl rfl (Reg.off rfl rfl rfl (Reg.off rfl rfl rfl (Reg.off rfl rfl rfl (Reg.off rfl rfl rfl (Reg.off rfl rfl rfl (Reg.off rfl rfl rfl (Reg.off rfl rfl rfl (Reg.off rfl rfl rfl (Reg.off rfl rfl rfl (Reg.off rfl rfl rfl (Reg.off rfl rfl rfl (Reg.op rfl (Ope.pickF rfl rfl ?_)))))))))))))))))))))
         refine Reg.op rfl (Ope.asg rfl ?_)
         refine Reg.nil (Run.bend (Run.region (cx_ok _ _ _) (Reg.op rfl (Ope.add rfl rfl (by omega) ?_))))
         refine Reg.op rfl (Ope.mov rfl ?_)
         refine Reg.nil ?_
         refine Run.lend ⟨(i+1,m+1+1+1,some (m+1),some (m+1+1),_),by show S.length - (i+1) < S.length - i;omega,⟨by show i+1≤S.length;omega,by show 2≤m+1+1+1;omega,(by rw [ex];exact (hget_tl hab).trans ((hget_tl (by omega)).trans ((killU_at (o:=o2) (fun j hj=>by have:=wB2 j hj;omega)).trans hget_hd))),(by rw [ey];exact hget_hd),⟨fun h=>absurd h (Nat.succ_ne_zero _),fun j hj=>by cases hj;exact ⟨by omega,by show m+1 < m+1+1+1;omega,(hget_tl (by omega)).trans ((hget_tl (by omega)).trans ((killU_at (o:=o2) (fun j hj=>by have:=wB2 j hj;omega)).trans ((hget_tl (by omega)).trans hget_hd))),Nat.succ_ne_zero _⟩⟩,⟨fun h=>absurd h (Nat.succ_ne_zero _),fun j hj=>by cases hj;exact ⟨by omega,by show m+1+1 < m+1+1+1;omega,(hget_tl (by omega)).trans hget_hd,Nat.succ_ne_zero _⟩⟩,fun j hj h=>by cases hj;have h':=Option.some.inj h;omega⟩,⟨rfl,rfl,rfl,rfl,rfl,(by show some _=some (B ((S.take (i+1)).all (fitO by')));rw [ef];first | (rw [hg,Bool.false_and];done) | (rw [hg,Bool.true_and];rfl)),rfl,rfl,rfl,trivial⟩,rfl,rfl⟩
       ·refine Run.exit (Jmp.code (Jmp.round (Jmp.here ?_)))
        obtain rfl:i=S.length:=by omega
        rw [List.take_length] at hla hlb
        exact Run.lend ⟨m,l,o1,o2,⟨rfl,rfl,rfl,rfl,rfl,(by show some (B ((S.take S.length).all (fitO by')))=_;rw [List.take_length]),trivial⟩,rfl,rfl,hla,hlb⟩
      ·rintro e' d' h' ⟨m, l, o1, o2, hs, rfl, rfl, hla, hlb⟩; refine Run.less hs ?_
       refine Run.seq ?_
       refine Run.weakC (i:=a) (cs':=[I rest,.sl .no ((swpS S).map Sti.v)]) hla (fun t xs h=>by
         obtain ⟨y1,r1,rfl,g1,h⟩:=RVs_cons.1 h
         obtain ⟨y2,r2,rfl,g2,h⟩:=RVs_cons.1 h
         exact RVs_cons.2 ⟨_,_,rfl,g1,RVs_cons.2 ⟨_,_,rfl,RV_tl_no g2,h⟩⟩) ?_
       refine Run.weakC (i:=b) (cs':=[I rest,.sl .no ((latS by' S).map Sti.v)]) ((hget_tl (fun h=>hab h.symm)).trans hlb) (fun t xs h=>by
         obtain ⟨y1,r1,rfl,g1,h⟩:=RVs_cons.1 h
         obtain ⟨y2,r2,rfl,g2,h⟩:=RVs_cons.1 h
         exact RVs_cons.2 ⟨_,_,rfl,g1,RVs_cons.2 ⟨_,_,rfl,RV_tl_no g2,h⟩⟩) ?_
       refine Run.frz (d:=7) true rfl ((hget_tl hab).trans hget_hd) rfl ?_
       refine Run.frz (d:=8) true rfl ((hget_tl (fun h=>hab h.symm)).trans hget_hd) rfl ?_
       refine Run.wide (m:=m) (l':=[]) (Nat.le_refl _) trivial ?_
       have hne:S.map Sti.v≠[]:=by
         intro h
         have:S.length=0:=by simpa using congrArg List.length h
         omega
       refine Run.region (cx_ok _ _ _) (Reg.op rfl (Ope.bsl rfl rfl rfl rfl ?_))
       refine Reg.op rfl (Ope.fld rfl rfl ?_)
       refine Reg.op rfl (Ope.load rfl rfl ?_)
       refine Reg.op rfl (Ope.apO (vs:=[]) (ws:=S.map Sti.v) rfl rfl hne (by simp only [List.length_map,List.length_nil];omega) (by simp only [List.length_map,List.length_nil];omega) (by decide) (by simp) (by intro v hv;obtain ⟨_,_,rfl⟩:=List.mem_map.1 hv;exact ⟨rfl,rfl⟩) ?_)
       refine Reg.op rfl (Ope.asg rfl ?_)
       refine Reg.nil (Run.seq (Run.weakT (d:=13) rfl ?_))
       refine Run.wide (m:=m+1) (l':=[]) (Nat.le_refl _) trivial ?_
       have hk0:which % S.length < S.length:=Nat.mod_lt _ hpos
       have hq0:which % (4 * S.length) < 4 * S.length:=Nat.mod_lt _ (by omega)
       generalize hkk:which % S.length=k at *
       generalize hqq:which % (4 * S.length)=q at *
       have hp2:1 * 2 ^ q≤1048576:=by have:=pow20 (show q≤20 by omega);omega
       have hfree:=f38 rest tl htl S hS5 hpos (1 * 2 ^ q) (by omega)
       refine Run.region (cx_ok _ _ _) (Reg.op rfl (Ope.mov rfl ?_))
       refine Reg.op rfl (Ope.convN (p:=which) rfl rfl (by show _ < 2 ^ 63;omega) ?_)
       refine Reg.op rfl (Ope.fld rfl rfl ?_)
       refine Reg.op rfl (Ope.load rfl rfl ?_)
       refine Reg.op rfl (Ope.len (m:=S.length) rfl (by simp) ?_)
       refine Reg.op rfl (Ope.remN (p:=which) (q:=S.length) rfl rfl rfl rfl (by omega) ?_)
       refine Reg.op rfl (Ope.asg rfl ?_)
       refine Reg.nil (Run.seq ?_)
       rw [hkk]
       refine Run.cut (fun e' d' h'=>Lsub [(3,.fp (relV rest tl S)),(7,.fp (relV rest .no (swpS S))),(8,.fp (relV rest .no (latS by' S))),(9,I by'),(10,B (S.all (fitO by'))),(13,.sl .no (S.map Sti.v)),(14,I k),(15,.ptr (m+1) 0)] e'∧d'=[]∧h'=HE (m+2) [(m+1,some (.cells [I rest,.sl .no ((freeS S (1 * 2 ^ q)).map Sti.v)])),(m+1,some (.cells [I 0,.sl .ex []]))]) ?_ ?_
       ·refine Run.drawL (cx_ok _ _ _) [[(0,true),(1,true),(2,true),(3,true),(4,true),(5,true),(6,true),(7,true),(8,true),(9,true),(10,true),(11,true)],[(0,false),(1,true),(2,true),(3,true),(4,false),(5,false),(6,true),(7,true),(8,true),(10,true),(9,true),(11,true)]] (by kernel_rfl) ⟨?_,?_,trivial⟩
        ·refine Dra.op' rfl rfl rfl .sure (Ope.load rfl rfl ?_)
         refine Dra.op' rfl rfl rfl .sure (Ope.mov rfl ?_)
         refine Dra.op' rfl rfl rfl .sure (Ope.convN (p:=which) rfl rfl (by show _ < 2 ^ 63;omega) ?_)
         refine Dra.op' rfl rfl rfl .sure (Ope.fld rfl rfl ?_)
         refine Dra.op' rfl rfl rfl .sure (Ope.load rfl rfl ?_)
         refine Dra.op' rfl rfl rfl .sure (Ope.len (m:=S.length) rfl (by simp) ?_)
         refine Dra.op' rfl rfl rfl .sure (Ope.mul rfl rfl (by omega) ?_)
         refine Dra.op' rfl rfl rfl .sure (Ope.remN (p:=which) (q:=4 * S.length) rfl rfl rfl (by omega) (by omega) ?_)
         rw [hqq]
         refine Dra.op' rfl rfl rfl .sure (Ope.shlN (p:=1) (m:=q) rfl rfl rfl rfl (by omega) (by omega) ?_)
         refine Dra.op' rfl rfl rfl .sure (Ope.cf rfl rfl hfree (hbd _) ?_)
         refine Dra.op' rfl rfl rfl .sure (Ope.newL rfl ?_)
         refine Dra.op' rfl rfl rfl .sure (Ope.store rfl rfl hget_hd rfl rfl rfl ?_)
         refine Dra.nil (Run.lend ⟨⟨rfl,rfl,rfl,rfl,rfl,rfl,rfl,rfl,trivial⟩,rfl,rfl⟩)
        ·refine Dra.op' rfl rfl rfl (.load rfl) (Ope.load rfl rfl ?_)
         refine Dra.op' rfl rfl rfl .sure (Ope.mov rfl ?_)
         refine Dra.op' rfl rfl rfl .sure (Ope.convN (p:=which) rfl rfl (by show _ < 2 ^ 63;omega) ?_)
         refine Dra.op' rfl rfl rfl .sure (Ope.fld rfl rfl ?_)
         refine Dra.op' rfl rfl rfl (.load rfl) (Ope.load rfl rfl ?_)
         refine Dra.op' rfl rfl rfl (.len rfl) (Ope.len (m:=S.length) rfl (by simp) ?_)
         refine Dra.op' rfl rfl rfl .sure (Ope.mul rfl rfl (by omega) ?_)
         refine Dra.op' rfl rfl rfl .sure (Ope.remN (p:=which) (q:=4 * S.length) rfl rfl rfl (by omega) (by omega) ?_)
         rw [hqq]
         refine Dra.op' rfl rfl rfl .sure (Ope.shlN (p:=1) (m:=q) rfl rfl rfl rfl (by omega) (by omega) ?_)
         refine Dra.op' rfl rfl rfl .sure (Ope.newL rfl ?_)
         refine Dra.op' rfl rfl rfl .sure (Ope.cf rfl rfl hfree (hbd _) ?_)
         refine Dra.op' rfl rfl rfl .sure (Ope.store rfl rfl hget_hd rfl rfl rfl ?_)
         refine Dra.nil (Run.lend ⟨⟨rfl,rfl,rfl,rfl,rfl,rfl,rfl,rfl,trivial⟩,rfl,rfl⟩)
       ·rintro e' d' h' ⟨hs, rfl, rfl⟩; refine Run.less hs ?_
        refine Run.seq (Run.frz (d:=15) true rfl hget_hd rfl ?_)
        refine Run.wide (m:=m+2) (l':=[]) (Nat.le_refl _) trivial ?_
        obtain ⟨A,Bq,Cq,e,n,j,d,h,z,H⟩:=turH htl hS hr (k:=k) (q:=q) hk0 (y:=(by':Int)) (by omega)
        obtain ⟨⟨Hon,Hoff,Hlen,Hhan⟩,HbA,Hgap,-,Hswg,-,-,⟨s,s',ms,Hc1,Hc2,hs20,hs20',Hz1,Hz2⟩,⟨w,w',mw,zw,Hw1,Hw2,hw20,hw20',Hy1,Hy2⟩⟩:=id H
        have Hthr:=fun (jj:Nat) hj hf=>thr_of H (jj:=jj) hj hf
        clear H
        replace Hthr:=Hide.mk Hthr
        refine Run.region (cx_ok _ _ _) (Reg.op rfl (Ope.load rfl rfl ?_))
        refine Reg.op rfl (Ope.mov rfl ?_)
        refine Reg.op rfl (Ope.cf rfl rfl Hon (hbd _) ?_)
        refine Reg.op rfl (Ope.mov rfl ?_)
        refine Reg.op rfl (Ope.ext rfl rfl ?_)
        refine Reg.op rfl (Ope.ext rfl rfl ?_)
        refine Reg.op rfl (Ope.newL rfl ?_)
        refine Reg.op0 (Ope.store rfl rfl hget_hd rfl rfl rfl ?_)
        refine Reg.op rfl (Ope.asg rfl ?_)
        refine Reg.nil (Run.seq (Run.frz (d:=16) true rfl hget_hd rfl ?_))
        refine Run.wide (m:=m+3) (l':=[]) (Nat.le_refl _) trivial ?_
        refine Run.region (cx_ok _ _ _) (Reg.op rfl (Ope.load rfl rfl ?_))
        refine Reg.op rfl (Ope.mov rfl ?_)
        refine Reg.op rfl (Ope.cf rfl rfl Hoff (hbd _) ?_)
        refine Reg.op rfl (Ope.mov rfl ?_)
        refine Reg.op rfl (Ope.ext rfl rfl ?_)
        refine Reg.op rfl (Ope.ext rfl rfl ?_)
        refine Reg.op rfl (Ope.newL rfl ?_)
        refine Reg.op0 (Ope.store rfl rfl hget_hd rfl rfl rfl ?_)
        refine Reg.op rfl (Ope.asg rfl ?_)
        refine Reg.nil (Run.seq (Run.frz (d:=18) true rfl hget_hd rfl ?_))
        refine Run.wide (m:=m+4) (l':=[]) (Nat.le_refl _) trivial ?_
        refine Run.region (cx_ok _ _ _) (Reg.op rfl (Ope.load rfl rfl ?_))
        refine Reg.op rfl (Ope.mov rfl ?_)
        refine Reg.op rfl (Ope.cf rfl rfl Hlen (hbd _) ?_)
        refine Reg.op rfl (Ope.mov rfl ?_)
        refine Reg.op rfl (Ope.ext rfl rfl ?_)
        refine Reg.op rfl (Ope.ext rfl rfl ?_)
        refine Reg.op rfl (Ope.newL rfl ?_)
        refine Reg.op0 (Ope.store rfl rfl hget_hd rfl rfl rfl ?_)
        refine Reg.op rfl (Ope.asg rfl ?_)
        refine Reg.nil (Run.seq (Run.frz (d:=20) true rfl hget_hd rfl ?_))
        refine Run.wide (m:=m+5) (l':=[]) (Nat.le_refl _) trivial ?_
        refine Run.region (cx_ok _ _ _) (Reg.op rfl (Ope.load rfl rfl ?_))
        refine Reg.op rfl (Ope.cf rfl rfl Hgap (hb2 tl htl _ _ _) ?_)
        refine Reg.op rfl (Ope.mov rfl ?_)
        refine Reg.op rfl (Ope.ext rfl rfl ?_)
        refine Reg.op rfl (Ope.ext rfl rfl ?_)
        refine Reg.op rfl (Ope.asg rfl ?_)
        refine Reg.op rfl (Ope.asg rfl ?_)
        refine Reg.nil (Run.seq (Run.region (cx_ok _ _ _) (Reg.op rfl (Ope.load rfl rfl ?_))))
        refine Reg.op rfl (Ope.mov rfl ?_)
        refine Reg.op rfl (Ope.cf rfl rfl Hhan (hbd _) ?_)
        refine Reg.op rfl (Ope.mov rfl ?_)
        refine Reg.op rfl (Ope.ext rfl rfl ?_)
        refine Reg.op rfl (Ope.ext rfl rfl ?_)
        refine Reg.op rfl (Ope.asg rfl ?_)
        refine Reg.op rfl (Ope.asg rfl ?_)
        refine Reg.nil (Run.seq (Run.seq (Run.region (cx_ok _ _ _) (Reg.op rfl (Ope.load rfl rfl ?_)))))
        refine Reg.op rfl (Ope.load rfl rfl ?_)
        refine Reg.op rfl (Ope.load rfl rfl ?_)
        refine Reg.op rfl (Ope.bsl rfl rfl rfl rfl ?_)
        refine Reg.op rfl (Ope.len (m:=3) rfl rfl ?_)
        refine Reg.op rfl (Ope.mov rfl ?_)
        refine Reg.nil (Run.block (Run.loop (α:=Nat×Nat) (fun s=>[(3,.fp (relV rest tl S)),(7,.fp (relV rest .no (swpS S))),(9,I by'),(10,B (S.all (fitO by'))),(13,.sl .no (S.map Sti.v)),(14,I k),(16,.fp (.agg [I A.1,I A.2])),(17,I e),(18,.fp (.agg [I Bq.1,I Bq.2])),(19,I e),(20,.fp (.agg [I Cq.1,I Cq.2])),(21,I e),(22,I d),(23,I h),(24,I n),(25,I j),(200,.sl .ex ([swpS S,latS by' S,freeS S (1 * 2 ^ q)].map (relV rest .no))),(201,I 3),(202,I s.1)]) (fun s=>HE s.2 []) (fun s=>s.1≤3) (fun s=>3 - s.1) (0,m+5) ⟨rfl,rfl,rfl,rfl,rfl,rfl,rfl,rfl,rfl,rfl,rfl,rfl,rfl,rfl,rfl,rfl,rfl,rfl,rfl,trivial⟩ rfl (Nat.zero_le _) (fun s hs=>?_)))
        obtain ⟨jj,r⟩:=s
        have hjj:jj≤3:=hs
        show Run _ _ _ _ [(3,.fp (relV rest tl S)),(7,.fp (relV rest .no (swpS S))),(9,I by'),(10,B (S.all (fitO by'))),(13,.sl .no (S.map Sti.v)),(14,I k),(16,.fp (.agg [I A.1,I A.2])),(17,I e),(18,.fp (.agg [I Bq.1,I Bq.2])),(19,I e),(20,.fp (.agg [I Cq.1,I Cq.2])),(21,I e),(22,I d),(23,I h),(24,I n),(25,I j),(200,.sl .ex ([swpS S,latS by' S,freeS S (1 * 2 ^ q)].map (relV rest .no))),(201,I 3),(202,I jj)] [] (HE r [])
        refine Run.seq (Run.region (cx_ok _ _ _) (Reg.op rfl (Ope.lt rfl rfl ?_)))
        refine Reg.nil (Run.seq (Run.condX rfl (fun hc=>?_) fun hc=>?_))
        ·refine Run.skip (Run.seq (Run.block (Run.seq ?_)))
         have hj3:jj < [swpS S,latS by' S,freeS S (1 * 2 ^ q)].length:=by show jj < 3;omega
         have hTh:=Hide.mk (Hthr.get jj hj3)
         have hjm:jj * by'≤3 * 49:=Nat.mul_le_mul (by omega) (by omega)
         have hjb:0≤(jj:Int) * (by':Int)∧(jj:Int) * (by':Int)≤147:=by
           have e0:((jj * by':Nat):Int)=(jj:Int) * (by':Int):=by simp
           omega
         refine Run.region (cx_ok _ _ _) (Reg.op rfl (Ope.mov rfl ?_))
         refine Reg.op rfl (Ope.idxM (m:=jj) (f:=relV rest .no) rfl rfl rfl hj3 (fun _=>rfl) ?_)
         generalize [swpS S,latS by' S,freeS S (1 * 2 ^ q)][jj]=Q at *
         refine Reg.op rfl (Ope.load rfl rfl ?_)
         refine Reg.op rfl (Ope.newL rfl ?_)
         refine Reg.op rfl (Ope.asg rfl ?_)
         refine Reg.op0 (Ope.store rfl rfl hget_hd rfl rfl rfl ?_)
         refine Reg.nil (Run.seq (Run.seq (Run.frz (d:=27) true rfl hget_hd rfl ?_)))
         refine Run.wide (m:=r+1) (l':=[]) (Nat.le_refl _) trivial ?_
         refine Run.region (cx_ok _ _ _) (Reg.op rfl (Ope.mov rfl ?_))
         refine Reg.op rfl (Ope.eq rfl rfl ?_)
         refine Reg.op rfl (Ope.mov rfl ?_)
         refine Reg.splitX rfl rfl (fun hg=>?_) fun hg=>?_
         ·refine Reg.on rfl rfl rfl (Ope.mov rfl ?_)
          refine Reg.on rfl rfl rfl (Ope.not rfl ?_)
          refine Reg.op rfl (Ope.pickT rfl rfl ?_)
          refine Reg.nil (Run.condX rfl (fun hc=>?_) fun hc=>?_)
          ·refine Run.exit (Jmp.code (Jmp.here (Run.region (cx_ok _ _ _) (Reg.op rfl (Ope.add rfl rfl (by omega) ?_)))))
           refine Reg.op rfl (Ope.mov rfl ?_)
           refine Reg.nil ?_
           first
           | exact Run.lend ⟨(jj+1,r+4),by show 3 - (jj+1) < 3 - jj;omega,by show jj+1≤3;omega,⟨rfl,rfl,rfl,rfl,rfl,rfl,rfl,rfl,rfl,rfl,rfl,rfl,rfl,rfl,rfl,rfl,rfl,rfl,rfl,trivial⟩,rfl,rfl⟩
           | exact Run.lend ⟨(jj+1,r+1),by show 3 - (jj+1) < 3 - jj;omega,by show jj+1≤3;omega,⟨rfl,rfl,rfl,rfl,rfl,rfl,rfl,rfl,rfl,rfl,rfl,rfl,rfl,rfl,rfl,rfl,rfl,rfl,rfl,trivial⟩,rfl,rfl⟩
          ·refine Run.skip (Run.seq ?_)
           obtain ⟨t1,t2,u1,u2,v1,v2,el,wl,pl,⟨Ton,Toff,Tlen,Than,Tis⟩⟩:=hTh.get (by
             rintro ⟨h1,h2⟩
             first
               | omega
               | (rw [h2] at hc;exact absurd hc (by decide)))
           refine Run.region (cx_ok _ _ _) (Reg.op rfl (Ope.load rfl rfl ?_))
           refine Reg.op rfl (Ope.mov rfl ?_)
           refine Reg.op rfl (Ope.cf rfl rfl Ton (bds_fr rest Q _) ?_)
           refine Reg.op rfl (Ope.mov rfl ?_)
           refine Reg.op rfl (Ope.ext rfl rfl ?_)
           refine Reg.op rfl (Ope.ext rfl rfl ?_)
           refine Reg.op rfl (Ope.newL rfl ?_)
           refine Reg.op0 (Ope.store rfl rfl hget_hd rfl rfl rfl ?_)
           refine Reg.op rfl (Ope.asg rfl ?_)
           refine Reg.nil (Run.seq (Run.frz (d:=28) true rfl hget_hd rfl ?_))
           refine Run.wide (m:=r+2) (l':=[]) (Nat.le_refl _) trivial ?_
           refine Run.region (cx_ok _ _ _) (Reg.op rfl (Ope.load rfl rfl ?_))
           refine Reg.op rfl (Ope.mov rfl ?_)
           refine Reg.op rfl (Ope.cf rfl rfl Toff (bds_fr rest Q _) ?_)
           refine Reg.op rfl (Ope.mov rfl ?_)
           refine Reg.op rfl (Ope.ext rfl rfl ?_)
           refine Reg.op rfl (Ope.ext rfl rfl ?_)
           refine Reg.op rfl (Ope.newL rfl ?_)
           refine Reg.op0 (Ope.store rfl rfl hget_hd rfl rfl rfl ?_)
           refine Reg.op rfl (Ope.asg rfl ?_)
           refine Reg.nil (Run.seq (Run.frz (d:=30) true rfl hget_hd rfl ?_))
           refine Run.wide (m:=r+3) (l':=[]) (Nat.le_refl _) trivial ?_
           refine Run.region (cx_ok _ _ _) (Reg.op rfl (Ope.load rfl rfl ?_))
           refine Reg.op rfl (Ope.mov rfl ?_)
           refine Reg.op rfl (Ope.cf rfl rfl Tlen (bds_fr rest Q _) ?_)
           refine Reg.op rfl (Ope.mov rfl ?_)
           refine Reg.op rfl (Ope.ext rfl rfl ?_)
           refine Reg.op rfl (Ope.ext rfl rfl ?_)
           refine Reg.op rfl (Ope.newL rfl ?_)
           refine Reg.op0 (Ope.store rfl rfl hget_hd rfl rfl rfl ?_)
           refine Reg.op rfl (Ope.asg rfl ?_)
           refine Reg.nil (Run.seq (Run.frz (d:=32) true rfl hget_hd rfl ?_))
           refine Run.wide (m:=r+4) (l':=[]) (Nat.le_refl _) trivial ?_
           refine Run.region (cx_ok _ _ _) (Reg.op rfl (Ope.load rfl rfl ?_))
           refine Reg.op rfl (Ope.mov rfl ?_)
           refine Reg.op rfl (Ope.cf rfl rfl Than (bds_fr rest Q _) ?_)
           refine Reg.op rfl (Ope.mov rfl ?_)
           refine Reg.op rfl (Ope.ext rfl rfl ?_)
           refine Reg.op rfl (Ope.ext rfl rfl ?_)
           refine Reg.op rfl (Ope.asg rfl ?_)
           refine Reg.op rfl (Ope.asg rfl ?_)
           refine Reg.nil (Run.seq (Run.seq (Run.region (cx_ok _ _ _) (Reg.op rfl (Ope.mov rfl ?_)))))
           refine Reg.op rfl (Ope.eq rfl rfl ?_)
           refine Reg.nil (Run.condX rfl (fun hc=>?_) fun hc=>?_)
           ·(first | (exfalso;omega))
           ·refine Run.skip (Run.seq (Run.seq (Run.region (cx_ok _ _ _) (Reg.op rfl (Ope.mov rfl ?_)))))
            refine Reg.op rfl (Ope.mov rfl ?_)
            refine Reg.op rfl (Ope.ne rfl rfl ?_)
            refine Reg.op rfl (Ope.mov rfl ?_)
            refine Reg.splitX rfl rfl (fun hg=>?_) fun hg=>?_
            ·(first | (exfalso;omega) | (exfalso;simp only [Bool.not_eq_true',Bool.not_eq_false',decide_eq_false_iff_not,decide_eq_true_eq] at *;omega))
            ·refine Reg.on rfl rfl rfl (Ope.mov rfl ?_)
             refine Reg.on rfl rfl rfl (Ope.mov rfl ?_)
             refine Reg.on rfl rfl rfl (Ope.ne rfl rfl ?_)
             refine Reg.op rfl (Ope.pickF rfl rfl ?_)
             refine Reg.op rfl (Ope.mov rfl ?_)
             refine Reg.splitX rfl rfl (fun hg=>?_) fun hg=>?_
             ·(first | (exfalso;omega) | (exfalso;simp only [Bool.not_eq_true',Bool.not_eq_false',decide_eq_false_iff_not,decide_eq_true_eq] at *;omega))
             ·refine Reg.on rfl rfl rfl (Ope.mov rfl ?_)
              refine Reg.on rfl rfl rfl (Ope.mov rfl ?_)
              refine Reg.on rfl rfl rfl (Ope.ne rfl rfl ?_)
              refine Reg.op rfl (Ope.pickF rfl rfl ?_)
              refine Reg.op rfl (Ope.mov rfl ?_)
              refine Reg.splitX rfl rfl (fun hg=>?_) fun hg=>?_
              ·(first | (exfalso;omega) | (exfalso;simp only [Bool.not_eq_true',Bool.not_eq_false',decide_eq_false_iff_not,decide_eq_true_eq] at *;omega))
              ·refine Reg.on rfl rfl rfl (Ope.load rfl rfl ?_)
               refine Reg.on rfl rfl rfl (Ope.load rfl rfl ?_)
               refine Reg.on rfl rfl rfl (Ope.neV rfl rfl (neSp _ _ v1 v2 Cq.1 Cq.2) ?_)
               refine Reg.op rfl (Ope.pickF rfl rfl ?_)
               refine Reg.op rfl (Ope.mov rfl ?_)
               refine Reg.splitX rfl rfl (fun hg=>?_) fun hg=>?_
               ·(first | (exfalso;omega) | (exfalso;simp only [Bool.not_eq_true',Bool.not_eq_false',decide_eq_false_iff_not,decide_eq_true_eq] at *;omega))
               ·refine Reg.on rfl rfl rfl (Ope.mov rfl ?_)
                refine Reg.on rfl rfl rfl (Ope.mov rfl ?_)
                refine Reg.on rfl rfl rfl (Ope.ne rfl rfl ?_)
                refine Reg.op rfl (Ope.pickF rfl rfl ?_)
                refine Reg.op rfl (Ope.mov rfl ?_)
                refine Reg.splitX rfl rfl (fun hg=>?_) fun hg=>?_
                ·(first | (exfalso;omega) | (exfalso;simp only [Bool.not_eq_true',Bool.not_eq_false',decide_eq_false_iff_not,decide_eq_true_eq] at *;omega))
                ·refine Reg.on rfl rfl rfl (Ope.mov rfl ?_)
                 refine Reg.on rfl rfl rfl (Ope.mov rfl ?_)
                 refine Reg.on rfl rfl rfl (Ope.ne rfl rfl ?_)
                 refine Reg.op rfl (Ope.pickF rfl rfl ?_)
                 refine Reg.nil (Run.condX rfl (fun hc=>?_) fun hc=>?_)
                 ·(first | (exfalso;omega))
                 ·refine Run.skip (Run.seq (Run.draw (cx_ok _ _ _) [(0,true),(1,true),(2,true),(3,false),(4,true),(5,true),(6,true),(7,true),(8,true),(9,true),(10,true),(11,false),(12,true),(13,true),(14,true),(15,true),(16,true),(17,true),(18,true),(19,true)] (by kernel_rfl) (Dra.op' rfl rfl rfl .sure (Ope.mov rfl ?_))))
                  refine Dra.op' rfl rfl rfl .sure (Ope.eq rfl rfl ?_)
                  refine Dra.op' rfl rfl rfl .sure (Ope.mov rfl ?_)
                  refine Dra.splitX rfl rfl rfl rfl (fun hg=>?_) fun hg=>?_
                  ·refine Dra.on' rfl rfl rfl rfl rfl (.load rfl) (Ope.load rfl rfl ?_)
                   refine Dra.on' rfl rfl rfl rfl rfl .sure (Ope.load rfl rfl ?_)
                   refine Dra.on' rfl rfl rfl rfl rfl .sure (Ope.mov rfl ?_)
                   refine Dra.on' rfl rfl rfl rfl rfl .sure (Ope.mov rfl ?_)
                   refine Dra.on' rfl rfl rfl rfl rfl .sure (Ope.mul rfl rfl (by omega) ?_)
                   refine Dra.on' rfl rfl rfl rfl rfl .sure (Ope.cf rfl rfl (f42 A.1 A.2 ((jj:Int) * (by':Int)) (by omega) (by omega) (by omega)) rfl ?_)
                   refine Dra.on' rfl rfl rfl rfl rfl .sure (Ope.neV rfl rfl (neSp _ _ t1 t2 (A.1+(jj:Int) * (by':Int)) (A.2+(jj:Int) * (by':Int))) ?_)
                   refine Dra.on' rfl rfl rfl rfl rfl .sure (Ope.mov rfl ?_)
                   refine Dra.splitX rfl rfl rfl rfl (fun hg=>?_) fun hg=>?_
                   ·(first | (exfalso;omega) | (exfalso;simp only [Bool.not_eq_true',Bool.not_eq_false',decide_eq_false_iff_not,decide_eq_true_eq] at *;omega))
                   ·refine Dra.on' rfl rfl rfl rfl rfl (.load rfl) (Ope.load rfl rfl ?_)
                    refine Dra.on' rfl rfl rfl rfl rfl .sure (Ope.load rfl rfl ?_)
                    refine Dra.on' rfl rfl rfl rfl rfl .sure (Ope.mov rfl ?_)
                    refine Dra.on' rfl rfl rfl rfl rfl .sure (Ope.mov rfl ?_)
                    refine Dra.on' rfl rfl rfl rfl rfl .sure (Ope.mul rfl rfl (by omega) ?_)
                    refine Dra.on' rfl rfl rfl rfl rfl .sure (Ope.cf rfl rfl (f42 Bq.1 Bq.2 ((jj:Int) * (by':Int)) (by omega) (by omega) (by omega)) rfl ?_)
                    refine Dra.on' rfl rfl rfl rfl rfl .sure (Ope.neV rfl rfl (neSp _ _ u1 u2 (Bq.1+(jj:Int) * (by':Int)) (Bq.2+(jj:Int) * (by':Int))) ?_)
                    refine Dra.on' rfl rfl rfl rfl rfl .sure (Ope.pickF rfl rfl ?_)
                    refine Dra.op' rfl rfl rfl .sure (Ope.pickT rfl rfl ?_)
                    refine Dra.nil (Run.condX rfl (fun hc=>?_) fun hc=>?_)
                    ·(first | (exfalso;omega))
                    ·refine Run.skip (Run.bend (Run.region (cx_ok _ _ _) (Reg.op rfl (Ope.add rfl rfl (by omega) ?_))))
                     refine Reg.op rfl (Ope.mov rfl ?_)
                     refine Reg.nil ?_
                     first
                     | exact Run.lend ⟨(jj+1,r+4),by show 3 - (jj+1) < 3 - jj;omega,by show jj+1≤3;omega,⟨rfl,rfl,rfl,rfl,rfl,rfl,rfl,rfl,rfl,rfl,rfl,rfl,rfl,rfl,rfl,rfl,rfl,rfl,rfl,trivial⟩,rfl,rfl⟩
                     | exact Run.lend ⟨(jj+1,r+1),by show 3 - (jj+1) < 3 - jj;omega,by show jj+1≤3;omega,⟨rfl,rfl,rfl,rfl,rfl,rfl,rfl,rfl,rfl,rfl,rfl,rfl,rfl,rfl,rfl,rfl,rfl,rfl,rfl,trivial⟩,rfl,rfl⟩
                  ·refine Dra.off' rfl rfl rfl (.inl rfl) rfl (Dra.off' rfl rfl rfl (.inl rfl) rfl (Dra.off' rfl rfl rfl (.inl rfl) rfl (Dra.off' rfl rfl rfl (.inl rfl) rfl (Dra.off' rfl rfl rfl (.inl rfl) rfl (Dra.off' rfl rfl rfl (.inl rfl) rfl (Dra.off' rfl rfl rfl (.inl rfl) rfl (Dra.off' rfl rfl rfl (.inl rfl) rfl (Dra.off' rfl rfl rfl (.inr rfl) rfl (Dra.off' rfl rfl rfl (.inr rfl) rfl (Dra.off' rfl rfl rfl (.inr rfl) rfl (Dra.off' rfl rfl rfl (.inr rfl) rfl (Dra.off' rfl rfl rfl (.inr rfl) rfl (Dra.off' rfl rfl rfl (.inr rfl) rfl (Dra.off' rfl rfl rfl (.inr rfl) rfl (Dra.off' rfl rfl rfl (.inl rfl) rfl (Dra.op' rfl rfl rfl .sure (Ope.pickF rfl rfl ?_)))))))))))))))))
                   refine Dra.nil (Run.condF rfl (Run.skip (Run.bend (Run.region (cx_ok _ _ _) (Reg.op rfl (Ope.add rfl rfl (by omega) ?_))))))
                   refine Reg.op rfl (Ope.mov rfl ?_)
                   refine Reg.nil ?_
                   first
                   | exact Run.lend ⟨(jj+1,r+4),by show 3 - (jj+1) < 3 - jj;omega,by show jj+1≤3;omega,⟨rfl,rfl,rfl,rfl,rfl,rfl,rfl,rfl,rfl,rfl,rfl,rfl,rfl,rfl,rfl,rfl,rfl,rfl,rfl,trivial⟩,rfl,rfl⟩
                   | exact Run.lend ⟨(jj+1,r+1),by show 3 - (jj+1) < 3 - jj;omega,by show jj+1≤3;omega,⟨rfl,rfl,rfl,rfl,rfl,rfl,rfl,rfl,rfl,rfl,rfl,rfl,rfl,rfl,rfl,rfl,rfl,rfl,rfl,trivial⟩,rfl,rfl⟩
         ·refine Reg.off rfl rfl rfl (Reg.off rfl rfl rfl (Reg.op rfl (Ope.pickF rfl rfl ?_)))
          refine Reg.nil (Run.condF rfl (Run.skip (Run.seq ?_)))
          obtain ⟨t1,t2,u1,u2,v1,v2,el,wl,pl,⟨Ton,Toff,Tlen,Than,Tis⟩⟩:=hTh.get (by
            rintro ⟨h1,h2⟩
            first
              | omega
              | (rw [h2] at hc;exact absurd hc (by decide)))
          refine Run.region (cx_ok _ _ _) (Reg.op rfl (Ope.load rfl rfl ?_))
          refine Reg.op rfl (Ope.mov rfl ?_)
          refine Reg.op rfl (Ope.cf rfl rfl Ton (bds_fr rest Q _) ?_)
          refine Reg.op rfl (Ope.mov rfl ?_)
          refine Reg.op rfl (Ope.ext rfl rfl ?_)
          refine Reg.op rfl (Ope.ext rfl rfl ?_)
          refine Reg.op rfl (Ope.newL rfl ?_)
          refine Reg.op0 (Ope.store rfl rfl hget_hd rfl rfl rfl ?_)
          refine Reg.op rfl (Ope.asg rfl ?_)
          refine Reg.nil (Run.seq (Run.frz (d:=28) true rfl hget_hd rfl ?_))
          refine Run.wide (m:=r+2) (l':=[]) (Nat.le_refl _) trivial ?_
          refine Run.region (cx_ok _ _ _) (Reg.op rfl (Ope.load rfl rfl ?_))
          refine Reg.op rfl (Ope.mov rfl ?_)
          refine Reg.op rfl (Ope.cf rfl rfl Toff (bds_fr rest Q _) ?_)
          refine Reg.op rfl (Ope.mov rfl ?_)
          refine Reg.op rfl (Ope.ext rfl rfl ?_)
          refine Reg.op rfl (Ope.ext rfl rfl ?_)
          refine Reg.op rfl (Ope.newL rfl ?_)
          refine Reg.op0 (Ope.store rfl rfl hget_hd rfl rfl rfl ?_)
          refine Reg.op rfl (Ope.asg rfl ?_)
          refine Reg.nil (Run.seq (Run.frz (d:=30) true rfl hget_hd rfl ?_))
          refine Run.wide (m:=r+3) (l':=[]) (Nat.le_refl _) trivial ?_
          refine Run.region (cx_ok _ _ _) (Reg.op rfl (Ope.load rfl rfl ?_))
          refine Reg.op rfl (Ope.mov rfl ?_)
          refine Reg.op rfl (Ope.cf rfl rfl Tlen (bds_fr rest Q _) ?_)
          refine Reg.op rfl (Ope.mov rfl ?_)
          refine Reg.op rfl (Ope.ext rfl rfl ?_)
          refine Reg.op rfl (Ope.ext rfl rfl ?_)
          refine Reg.op rfl (Ope.newL rfl ?_)
          refine Reg.op0 (Ope.store rfl rfl hget_hd rfl rfl rfl ?_)
          refine Reg.op rfl (Ope.asg rfl ?_)
          refine Reg.nil (Run.seq (Run.frz (d:=32) true rfl hget_hd rfl ?_))
          refine Run.wide (m:=r+4) (l':=[]) (Nat.le_refl _) trivial ?_
          refine Run.region (cx_ok _ _ _) (Reg.op rfl (Ope.load rfl rfl ?_))
          refine Reg.op rfl (Ope.mov rfl ?_)
          refine Reg.op rfl (Ope.cf rfl rfl Than (bds_fr rest Q _) ?_)
          refine Reg.op rfl (Ope.mov rfl ?_)
          refine Reg.op rfl (Ope.ext rfl rfl ?_)
          refine Reg.op rfl (Ope.ext rfl rfl ?_)
          refine Reg.op rfl (Ope.asg rfl ?_)
          refine Reg.op rfl (Ope.asg rfl ?_)
          refine Reg.nil (Run.seq (Run.seq (Run.region (cx_ok _ _ _) (Reg.op rfl (Ope.mov rfl ?_)))))
          refine Reg.op rfl (Ope.eq rfl rfl ?_)
          refine Reg.nil (Run.condX rfl (fun hc=>?_) fun hc=>?_)
          ·refine Run.seq (Run.seq (Run.region (cx_ok _ _ _) (Reg.op rfl (Ope.mov rfl ?_))))
           refine Reg.op rfl (Ope.eq rfl rfl ?_)
           refine Reg.op rfl (Ope.mov rfl ?_)
           refine Reg.splitX rfl rfl (fun hg=>?_) fun hg=>?_
           ·refine Reg.on rfl rfl rfl (Ope.mov rfl ?_)
            refine Reg.on rfl rfl rfl (Ope.ne rfl rfl ?_)
            refine Reg.on rfl rfl rfl (Ope.mov rfl ?_)
            refine Reg.splitX rfl rfl (fun hg=>?_) fun hg=>?_
            ·(first | (exfalso;omega) | (exfalso;simp only [Bool.not_eq_true',Bool.not_eq_false',decide_eq_false_iff_not,decide_eq_true_eq] at *;omega))
            ·refine Reg.on rfl rfl rfl (Ope.mov rfl ?_)
             refine Reg.on rfl rfl rfl (Ope.ne rfl rfl ?_)
             refine Reg.on rfl rfl rfl (Ope.pickF rfl rfl ?_)
             refine Reg.on rfl rfl rfl (Ope.mov rfl ?_)
             refine Reg.splitX rfl rfl (fun hg=>?_) fun hg=>?_
             ·(first | (exfalso;omega) | (exfalso;simp only [Bool.not_eq_true',Bool.not_eq_false',decide_eq_false_iff_not,decide_eq_true_eq] at *;omega))
             ·refine Reg.on rfl rfl rfl (Ope.mov rfl ?_)
              refine Reg.on rfl rfl rfl (Ope.ne rfl rfl ?_)
              refine Reg.on rfl rfl rfl (Ope.pickF rfl rfl ?_)
              refine Reg.on rfl rfl rfl (Ope.mov rfl ?_)
              refine Reg.splitX rfl rfl (fun hg=>?_) fun hg=>?_
              ·(first | (exfalso;omega) | (exfalso;simp only [Bool.not_eq_true',Bool.not_eq_false',decide_eq_false_iff_not,decide_eq_true_eq] at *;omega))
              ·refine Reg.on rfl rfl rfl (Ope.fld rfl rfl ?_)
               refine Reg.on rfl rfl rfl (Ope.load rfl rfl ?_)
               refine Reg.on rfl rfl rfl (Ope.fld rfl rfl ?_)
               refine Reg.on rfl rfl rfl (Ope.load rfl rfl ?_)
               refine Reg.on rfl rfl rfl (Ope.gt rfl rfl ?_)
               refine Reg.on rfl rfl rfl (Ope.pickF rfl rfl ?_)
               refine Reg.on rfl rfl rfl (Ope.mov rfl ?_)
               refine Reg.splitX rfl rfl (fun hg=>?_) fun hg=>?_
               ·(first | (exfalso;omega) | (exfalso;simp only [Bool.not_eq_true',Bool.not_eq_false',decide_eq_false_iff_not,decide_eq_true_eq] at *;omega))
               ·refine Reg.on rfl rfl rfl (Ope.fld rfl rfl ?_)
                refine Reg.on rfl rfl rfl (Ope.load rfl rfl ?_)
                refine Reg.on rfl rfl rfl (Ope.fld rfl rfl ?_)
                refine Reg.on rfl rfl rfl (Ope.load rfl rfl ?_)
                refine Reg.on rfl rfl rfl (Ope.lt rfl rfl ?_)
                refine Reg.on rfl rfl rfl (Ope.pickF rfl rfl ?_)
                refine Reg.on rfl rfl rfl (Ope.mov rfl ?_)
                refine Reg.splitX rfl rfl (fun hg=>?_) fun hg=>?_
                ·(first | (exfalso;omega) | (exfalso;simp only [Bool.not_eq_true',Bool.not_eq_false',decide_eq_false_iff_not,decide_eq_true_eq] at *;omega))
                ·refine Reg.on rfl rfl rfl (Ope.fld rfl rfl ?_)
                 refine Reg.on rfl rfl rfl (Ope.load rfl rfl ?_)
                 refine Reg.on rfl rfl rfl (Ope.fld rfl rfl ?_)
                 refine Reg.on rfl rfl rfl (Ope.load rfl rfl ?_)
                 refine Reg.on rfl rfl rfl (Ope.gt rfl rfl ?_)
                 refine Reg.on rfl rfl rfl (Ope.pickF rfl rfl ?_)
                 refine Reg.on rfl rfl rfl (Ope.mov rfl ?_)
                 refine Reg.splitX rfl rfl (fun hg=>?_) fun hg=>?_
                 ·(first | (exfalso;omega) | (exfalso;simp only [Bool.not_eq_true',Bool.not_eq_false',decide_eq_false_iff_not,decide_eq_true_eq] at *;omega))
                 ·refine Reg.on rfl rfl rfl (Ope.fld rfl rfl ?_)
                  refine Reg.on rfl rfl rfl (Ope.load rfl rfl ?_)
                  refine Reg.on rfl rfl rfl (Ope.fld rfl rfl ?_)
                  refine Reg.on rfl rfl rfl (Ope.load rfl rfl ?_)
                  refine Reg.on rfl rfl rfl (Ope.lt rfl rfl ?_)
                  refine Reg.on rfl rfl rfl (Ope.pickF rfl rfl ?_)
                  refine Reg.on rfl rfl rfl (Ope.mov rfl ?_)
                  refine Reg.splitX rfl rfl (fun hg=>?_) fun hg=>?_
                  ·(first | (exfalso;omega) | (exfalso;simp only [Bool.not_eq_true',Bool.not_eq_false',decide_eq_false_iff_not,decide_eq_true_eq] at *;omega))
                  ·refine Reg.on rfl rfl rfl (Ope.fld rfl rfl ?_)
                   refine Reg.on rfl rfl rfl (Ope.load rfl rfl ?_)
                   refine Reg.on rfl rfl rfl (Ope.fld rfl rfl ?_)
                   refine Reg.on rfl rfl rfl (Ope.load rfl rfl ?_)
                   refine Reg.on rfl rfl rfl (Ope.gt rfl rfl ?_)
                   refine Reg.on rfl rfl rfl (Ope.pickF rfl rfl ?_)
                   refine Reg.on rfl rfl rfl (Ope.mov rfl ?_)
                   refine Reg.splitX rfl rfl (fun hg=>?_) fun hg=>?_
                   ·(first | (exfalso;omega) | (exfalso;simp only [Bool.not_eq_true',Bool.not_eq_false',decide_eq_false_iff_not,decide_eq_true_eq] at *;omega))
                   ·refine Reg.on rfl rfl rfl (Ope.fld rfl rfl ?_)
                    refine Reg.on rfl rfl rfl (Ope.load rfl rfl ?_)
                    refine Reg.on rfl rfl rfl (Ope.fld rfl rfl ?_)
                    refine Reg.on rfl rfl rfl (Ope.load rfl rfl ?_)
                    refine Reg.on rfl rfl rfl (Ope.lt rfl rfl ?_)
                    refine Reg.on rfl rfl rfl (Ope.pickF rfl rfl ?_)
                    refine Reg.on rfl rfl rfl (Ope.mov rfl ?_)
                    refine Reg.splitX rfl rfl (fun hg=>?_) fun hg=>?_
                    ·(first | (exfalso;omega) | (exfalso;simp only [Bool.not_eq_true',Bool.not_eq_false',decide_eq_false_iff_not,decide_eq_true_eq] at *;omega))
                    ·refine Reg.on rfl rfl rfl (Ope.mov rfl ?_)
                     refine Reg.on rfl rfl rfl (Ope.eq rfl rfl ?_)
                     refine Reg.on rfl rfl rfl (Ope.mov rfl ?_)
                     refine Reg.splitX rfl rfl (fun hg=>?_) fun hg=>?_
                     ·refine Reg.on rfl rfl rfl (Ope.mov rfl ?_)
                      refine Reg.on rfl rfl rfl (Ope.mov rfl ?_)
                      refine Reg.on rfl rfl rfl (Ope.ne rfl rfl ?_)
                      refine Reg.on rfl rfl rfl (Ope.pickT rfl rfl ?_)
                      refine Reg.on rfl rfl rfl (Ope.mov rfl ?_)
                      refine Reg.splitX rfl rfl (fun hg=>?_) fun hg=>?_
                      ·refine Reg.on rfl rfl rfl (Ope.mov rfl ?_)
                       refine Reg.on rfl rfl rfl (Ope.ne rfl rfl ?_)
                       refine Reg.on rfl rfl rfl (Ope.pickT rfl rfl ?_)
                       refine Reg.on rfl rfl rfl (Ope.pickF rfl rfl ?_)
                       refine Reg.op rfl (Ope.pickT rfl rfl ?_)
                       refine Reg.nil (Run.condX rfl (fun hc=>?_) fun hc=>?_)
                       ·(first | (exfalso;omega))
                       ·refine Run.skip (Run.exit (Jmp.code (Jmp.here (Run.region (cx_ok _ _ _) (Reg.op rfl (Ope.add rfl rfl (by omega) ?_))))))
                        refine Reg.op rfl (Ope.mov rfl ?_)
                        refine Reg.nil ?_
                        first
                        | exact Run.lend ⟨(jj+1,r+4),by show 3 - (jj+1) < 3 - jj;omega,by show jj+1≤3;omega,⟨rfl,rfl,rfl,rfl,rfl,rfl,rfl,rfl,rfl,rfl,rfl,rfl,rfl,rfl,rfl,rfl,rfl,rfl,rfl,trivial⟩,rfl,rfl⟩
                        | exact Run.lend ⟨(jj+1,r+1),by show 3 - (jj+1) < 3 - jj;omega,by show jj+1≤3;omega,⟨rfl,rfl,rfl,rfl,rfl,rfl,rfl,rfl,rfl,rfl,rfl,rfl,rfl,rfl,rfl,rfl,rfl,rfl,rfl,trivial⟩,rfl,rfl⟩
                      ·refine Reg.off rfl rfl rfl (Reg.off rfl rfl rfl (Reg.on rfl rfl rfl (Ope.pickF rfl rfl ?_)))
                       refine Reg.on rfl rfl rfl (Ope.pickF rfl rfl ?_)
                       refine Reg.op rfl (Ope.pickT rfl rfl ?_)
                       refine Reg.nil (Run.condF rfl (Run.skip (Run.exit (Jmp.code (Jmp.here (Run.region (cx_ok _ _ _) (Reg.op rfl (Ope.add rfl rfl (by omega) ?_))))))))
                       refine Reg.op rfl (Ope.mov rfl ?_)
                       refine Reg.nil ?_
                       first
                       | exact Run.lend ⟨(jj+1,r+4),by show 3 - (jj+1) < 3 - jj;omega,by show jj+1≤3;omega,⟨rfl,rfl,rfl,rfl,rfl,rfl,rfl,rfl,rfl,rfl,rfl,rfl,rfl,rfl,rfl,rfl,rfl,rfl,rfl,trivial⟩,rfl,rfl⟩
                       | exact Run.lend ⟨(jj+1,r+1),by show 3 - (jj+1) < 3 - jj;omega,by show jj+1≤3;omega,⟨rfl,rfl,rfl,rfl,rfl,rfl,rfl,rfl,rfl,rfl,rfl,rfl,rfl,rfl,rfl,rfl,rfl,rfl,rfl,trivial⟩,rfl,rfl⟩
                     ·refine Reg.off rfl rfl rfl (Reg.off rfl rfl rfl (Reg.off rfl rfl rfl (Reg.on rfl rfl rfl (Ope.pickF rfl rfl ?_))))
                      refine Reg.on rfl rfl rfl (Ope.mov rfl ?_)
                      refine Reg.off rfl rfl rfl (Reg.off rfl rfl rfl (Reg.on rfl rfl rfl (Ope.pickF rfl rfl ?_)))
                      refine Reg.on rfl rfl rfl (Ope.pickF rfl rfl ?_)
                      refine Reg.op rfl (Ope.pickT rfl rfl ?_)
                      refine Reg.nil (Run.condF rfl (Run.skip (Run.exit (Jmp.code (Jmp.here (Run.region (cx_ok _ _ _) (Reg.op rfl (Ope.add rfl rfl (by omega) ?_))))))))
                      refine Reg.op rfl (Ope.mov rfl ?_)
                      refine Reg.nil ?_
                      first
                      | exact Run.lend ⟨(jj+1,r+4),by show 3 - (jj+1) < 3 - jj;omega,by show jj+1≤3;omega,⟨rfl,rfl,rfl,rfl,rfl,rfl,rfl,rfl,rfl,rfl,rfl,rfl,rfl,rfl,rfl,rfl,rfl,rfl,rfl,trivial⟩,rfl,rfl⟩
                      | exact Run.lend ⟨(jj+1,r+1),by show 3 - (jj+1) < 3 - jj;omega,by show jj+1≤3;omega,⟨rfl,rfl,rfl,rfl,rfl,rfl,rfl,rfl,rfl,rfl,rfl,rfl,rfl,rfl,rfl,rfl,rfl,rfl,rfl,trivial⟩,rfl,rfl⟩
           ·refine Reg.off rfl rfl rfl (Reg.off rfl rfl rfl (Reg.off rfl rfl rfl (Reg.past rfl rfl rfl (Reg.past rfl rfl rfl (Reg.off rfl rfl rfl (Reg.off rfl rfl rfl (Reg.past rfl rfl rfl (Reg.past rfl rfl rfl (Reg.off rfl rfl rfl (Reg.off rfl rfl rfl (Reg.past rfl rfl rfl (Reg.past rfl rfl rfl (Reg.past rfl rfl rfl (Reg.past rfl rfl rfl (Reg.past rfl rfl rfl (Reg.off rfl rfl rfl (Reg.off rfl rfl rfl (Reg.past rfl rfl rfl (Reg.past rfl rfl rfl (Reg.past rfl rfl rfl (Reg.past rfl rfl rfl (Reg.past rfl rfl rfl (Reg.off rfl rfl rfl (Reg.off rfl rfl rfl (Reg.past rfl rfl rfl (Reg.past rfl rfl rfl (Reg.past rfl rfl rfl ?_)))))))))))))))))))))))))))
            refine Reg.past rfl rfl rfl (Reg.past rfl rfl rfl (Reg.off rfl rfl rfl (Reg.off rfl rfl rfl (Reg.past rfl rfl rfl (Reg.past rfl rfl rfl (Reg.past rfl rfl rfl (Reg.past rfl rfl rfl (Reg.past rfl rfl rfl (Reg.off rfl rfl rfl (Reg.off rfl rfl rfl (Reg.past rfl rfl rfl (Reg.past rfl rfl rfl (Reg.past rfl rfl rfl (Reg.past rfl rfl rfl (Reg.past rfl rfl rfl (Reg.off rfl rfl rfl (Reg.off rfl rfl rfl (Reg.past rfl rfl rfl (Reg.past rfl rfl rfl (Reg.past rfl rfl rfl (Reg.past rfl rfl rfl (Reg.past rfl rfl rfl (Reg.off rfl rfl rfl (Reg.off rfl rfl rfl (Reg.past rfl rfl rfl (Reg.past rfl rfl rfl (Reg.past rfl rfl rfl (Reg.past rfl rfl rfl (Reg.past rfl rfl rfl (Reg.past rfl rfl rfl (Reg.past rfl rfl rfl (Reg.past rfl rfl rfl (Reg.past rfl rfl rfl (Reg.past rfl rfl rfl (Reg.past rfl rfl rfl (Reg.off rfl rfl rfl (Reg.op rfl (Ope.pickF rfl rfl ?_))))))))))))))))))))))))))))))))))))))
            refine Reg.nil (Run.condF rfl (Run.skip (Run.exit (Jmp.code (Jmp.here (Run.region (cx_ok _ _ _) (Reg.op rfl (Ope.add rfl rfl (by omega) ?_))))))))
            refine Reg.op rfl (Ope.mov rfl ?_)
            refine Reg.nil ?_
            first
            | exact Run.lend ⟨(jj+1,r+4),by show 3 - (jj+1) < 3 - jj;omega,by show jj+1≤3;omega,⟨rfl,rfl,rfl,rfl,rfl,rfl,rfl,rfl,rfl,rfl,rfl,rfl,rfl,rfl,rfl,rfl,rfl,rfl,rfl,trivial⟩,rfl,rfl⟩
            | exact Run.lend ⟨(jj+1,r+1),by show 3 - (jj+1) < 3 - jj;omega,by show jj+1≤3;omega,⟨rfl,rfl,rfl,rfl,rfl,rfl,rfl,rfl,rfl,rfl,rfl,rfl,rfl,rfl,rfl,rfl,rfl,rfl,rfl,trivial⟩,rfl,rfl⟩
          ·refine Run.skip (Run.seq (Run.seq (Run.region (cx_ok _ _ _) (Reg.op rfl (Ope.mov rfl ?_)))))
           refine Reg.op rfl (Ope.mov rfl ?_)
           refine Reg.op rfl (Ope.ne rfl rfl ?_)
           refine Reg.op rfl (Ope.mov rfl ?_)
           refine Reg.splitX rfl rfl (fun hg=>?_) fun hg=>?_
           ·(first | (exfalso;omega) | (exfalso;simp only [Bool.not_eq_true',Bool.not_eq_false',decide_eq_false_iff_not,decide_eq_true_eq] at *;omega))
           ·refine Reg.on rfl rfl rfl (Ope.mov rfl ?_)
            refine Reg.on rfl rfl rfl (Ope.mov rfl ?_)
            refine Reg.on rfl rfl rfl (Ope.ne rfl rfl ?_)
            refine Reg.op rfl (Ope.pickF rfl rfl ?_)
            refine Reg.op rfl (Ope.mov rfl ?_)
            refine Reg.splitX rfl rfl (fun hg=>?_) fun hg=>?_
            ·(first | (exfalso;omega) | (exfalso;simp only [Bool.not_eq_true',Bool.not_eq_false',decide_eq_false_iff_not,decide_eq_true_eq] at *;omega))
            ·refine Reg.on rfl rfl rfl (Ope.mov rfl ?_)
             refine Reg.on rfl rfl rfl (Ope.mov rfl ?_)
             refine Reg.on rfl rfl rfl (Ope.ne rfl rfl ?_)
             refine Reg.op rfl (Ope.pickF rfl rfl ?_)
             refine Reg.op rfl (Ope.mov rfl ?_)
             refine Reg.splitX rfl rfl (fun hg=>?_) fun hg=>?_
             ·(first | (exfalso;omega) | (exfalso;simp only [Bool.not_eq_true',Bool.not_eq_false',decide_eq_false_iff_not,decide_eq_true_eq] at *;omega))
             ·refine Reg.on rfl rfl rfl (Ope.load rfl rfl ?_)
              refine Reg.on rfl rfl rfl (Ope.load rfl rfl ?_)
              refine Reg.on rfl rfl rfl (Ope.neV rfl rfl (neSp _ _ v1 v2 Cq.1 Cq.2) ?_)
              refine Reg.op rfl (Ope.pickF rfl rfl ?_)
              refine Reg.op rfl (Ope.mov rfl ?_)
              refine Reg.splitX rfl rfl (fun hg=>?_) fun hg=>?_
              ·(first | (exfalso;omega) | (exfalso;simp only [Bool.not_eq_true',Bool.not_eq_false',decide_eq_false_iff_not,decide_eq_true_eq] at *;omega))
              ·refine Reg.on rfl rfl rfl (Ope.mov rfl ?_)
               refine Reg.on rfl rfl rfl (Ope.mov rfl ?_)
               refine Reg.on rfl rfl rfl (Ope.ne rfl rfl ?_)
               refine Reg.op rfl (Ope.pickF rfl rfl ?_)
               refine Reg.op rfl (Ope.mov rfl ?_)
               refine Reg.splitX rfl rfl (fun hg=>?_) fun hg=>?_
               ·(first | (exfalso;omega) | (exfalso;simp only [Bool.not_eq_true',Bool.not_eq_false',decide_eq_false_iff_not,decide_eq_true_eq] at *;omega))
               ·refine Reg.on rfl rfl rfl (Ope.mov rfl ?_)
                refine Reg.on rfl rfl rfl (Ope.mov rfl ?_)
                refine Reg.on rfl rfl rfl (Ope.ne rfl rfl ?_)
                refine Reg.op rfl (Ope.pickF rfl rfl ?_)
                refine Reg.nil (Run.condX rfl (fun hc=>?_) fun hc=>?_)
                ·(first | (exfalso;omega))
                ·refine Run.skip (Run.seq (Run.draw (cx_ok _ _ _) [(0,true),(1,true),(2,true),(3,false),(4,true),(5,true),(6,true),(7,true),(8,true),(9,true),(10,true),(11,false),(12,true),(13,true),(14,true),(15,true),(16,true),(17,true),(18,true),(19,true)] (by kernel_rfl) (Dra.op' rfl rfl rfl .sure (Ope.mov rfl ?_))))
                 refine Dra.op' rfl rfl rfl .sure (Ope.eq rfl rfl ?_)
                 refine Dra.op' rfl rfl rfl .sure (Ope.mov rfl ?_)
                 refine Dra.splitX rfl rfl rfl rfl (fun hg=>?_) fun hg=>?_
                 ·refine Dra.on' rfl rfl rfl rfl rfl (.load rfl) (Ope.load rfl rfl ?_)
                  refine Dra.on' rfl rfl rfl rfl rfl .sure (Ope.load rfl rfl ?_)
                  refine Dra.on' rfl rfl rfl rfl rfl .sure (Ope.mov rfl ?_)
                  refine Dra.on' rfl rfl rfl rfl rfl .sure (Ope.mov rfl ?_)
                  refine Dra.on' rfl rfl rfl rfl rfl .sure (Ope.mul rfl rfl (by omega) ?_)
                  refine Dra.on' rfl rfl rfl rfl rfl .sure (Ope.cf rfl rfl (f42 A.1 A.2 ((jj:Int) * (by':Int)) (by omega) (by omega) (by omega)) rfl ?_)
                  refine Dra.on' rfl rfl rfl rfl rfl .sure (Ope.neV rfl rfl (neSp _ _ t1 t2 (A.1+(jj:Int) * (by':Int)) (A.2+(jj:Int) * (by':Int))) ?_)
                  refine Dra.on' rfl rfl rfl rfl rfl .sure (Ope.mov rfl ?_)
                  refine Dra.splitX rfl rfl rfl rfl (fun hg=>?_) fun hg=>?_
                  ·(first | (exfalso;omega) | (exfalso;simp only [Bool.not_eq_true',Bool.not_eq_false',decide_eq_false_iff_not,decide_eq_true_eq] at *;omega))
                  ·refine Dra.on' rfl rfl rfl rfl rfl (.load rfl) (Ope.load rfl rfl ?_)
                   refine Dra.on' rfl rfl rfl rfl rfl .sure (Ope.load rfl rfl ?_)
                   refine Dra.on' rfl rfl rfl rfl rfl .sure (Ope.mov rfl ?_)
                   refine Dra.on' rfl rfl rfl rfl rfl .sure (Ope.mov rfl ?_)
                   refine Dra.on' rfl rfl rfl rfl rfl .sure (Ope.mul rfl rfl (by omega) ?_)
                   refine Dra.on' rfl rfl rfl rfl rfl .sure (Ope.cf rfl rfl (f42 Bq.1 Bq.2 ((jj:Int) * (by':Int)) (by omega) (by omega) (by omega)) rfl ?_)
                   refine Dra.on' rfl rfl rfl rfl rfl .sure (Ope.neV rfl rfl (neSp _ _ u1 u2 (Bq.1+(jj:Int) * (by':Int)) (Bq.2+(jj:Int) * (by':Int))) ?_)
                   refine Dra.on' rfl rfl rfl rfl rfl .sure (Ope.pickF rfl rfl ?_)
                   refine Dra.op' rfl rfl rfl .sure (Ope.pickT rfl rfl ?_)
                   refine Dra.nil (Run.condX rfl (fun hc=>?_) fun hc=>?_)
                   ·(first | (exfalso;omega))
                   ·refine Run.skip (Run.bend (Run.region (cx_ok _ _ _) (Reg.op rfl (Ope.add rfl rfl (by omega) ?_))))
                    refine Reg.op rfl (Ope.mov rfl ?_)
                    refine Reg.nil ?_
                    first
                    | exact Run.lend ⟨(jj+1,r+4),by show 3 - (jj+1) < 3 - jj;omega,by show jj+1≤3;omega,⟨rfl,rfl,rfl,rfl,rfl,rfl,rfl,rfl,rfl,rfl,rfl,rfl,rfl,rfl,rfl,rfl,rfl,rfl,rfl,trivial⟩,rfl,rfl⟩
                    | exact Run.lend ⟨(jj+1,r+1),by show 3 - (jj+1) < 3 - jj;omega,by show jj+1≤3;omega,⟨rfl,rfl,rfl,rfl,rfl,rfl,rfl,rfl,rfl,rfl,rfl,rfl,rfl,rfl,rfl,rfl,rfl,rfl,rfl,trivial⟩,rfl,rfl⟩
                 ·refine Dra.off' rfl rfl rfl (.inl rfl) rfl (Dra.off' rfl rfl rfl (.inl rfl) rfl (Dra.off' rfl rfl rfl (.inl rfl) rfl (Dra.off' rfl rfl rfl (.inl rfl) rfl (Dra.off' rfl rfl rfl (.inl rfl) rfl (Dra.off' rfl rfl rfl (.inl rfl) rfl (Dra.off' rfl rfl rfl (.inl rfl) rfl (Dra.off' rfl rfl rfl (.inl rfl) rfl (Dra.off' rfl rfl rfl (.inr rfl) rfl (Dra.off' rfl rfl rfl (.inr rfl) rfl (Dra.off' rfl rfl rfl (.inr rfl) rfl (Dra.off' rfl rfl rfl (.inr rfl) rfl (Dra.off' rfl rfl rfl (.inr rfl) rfl (Dra.off' rfl rfl rfl (.inr rfl) rfl (Dra.off' rfl rfl rfl (.inr rfl) rfl (Dra.off' rfl rfl rfl (.inl rfl) rfl (Dra.op' rfl rfl rfl .sure (Ope.pickF rfl rfl ?_)))))))))))))))))
                  refine Dra.nil (Run.condF rfl (Run.skip (Run.bend (Run.region (cx_ok _ _ _) (Reg.op rfl (Ope.add rfl rfl (by omega) ?_))))))
                  refine Reg.op rfl (Ope.mov rfl ?_)
                  refine Reg.nil ?_
                  first
                  | exact Run.lend ⟨(jj+1,r+4),by show 3 - (jj+1) < 3 - jj;omega,by show jj+1≤3;omega,⟨rfl,rfl,rfl,rfl,rfl,rfl,rfl,rfl,rfl,rfl,rfl,rfl,rfl,rfl,rfl,rfl,rfl,rfl,rfl,trivial⟩,rfl,rfl⟩
                  | exact Run.lend ⟨(jj+1,r+1),by show 3 - (jj+1) < 3 - jj;omega,by show jj+1≤3;omega,⟨rfl,rfl,rfl,rfl,rfl,rfl,rfl,rfl,rfl,rfl,rfl,rfl,rfl,rfl,rfl,rfl,rfl,rfl,rfl,trivial⟩,rfl,rfl⟩
        ·refine Run.exit (Jmp.code (Jmp.round (Jmp.here (Run.seq (Run.region (cx_ok _ _ _) (Reg.op rfl (Ope.load rfl rfl ?_)))))))
         refine Reg.op rfl (Ope.cf rfl rfl Hswg (hb2 .no rfl _ _ _) ?_)
         refine Reg.op rfl (Ope.mov rfl ?_)
         refine Reg.op rfl (Ope.ext rfl rfl ?_)
         refine Reg.op rfl (Ope.ext rfl rfl ?_)
         refine Reg.op rfl (Ope.asg rfl ?_)
         refine Reg.op rfl (Ope.asg rfl ?_)
         refine Reg.nil (Run.seq (Run.region (cx_ok _ _ _) (Reg.op rfl (Ope.load rfl rfl ?_))))
         refine Reg.op rfl (Ope.cf rfl rfl Hc1 hbr ?_)
         refine Reg.op rfl (Ope.mov rfl ?_)
         refine Reg.op rfl (Ope.ext rfl rfl ?_)
         refine Reg.op rfl (Ope.ext rfl rfl ?_)
         refine Reg.op rfl (Ope.asg rfl ?_)
         refine Reg.op rfl (Ope.asg rfl ?_)
         refine Reg.nil (Run.seq (Run.region (cx_ok _ _ _) (Reg.op rfl (Ope.load rfl rfl ?_))))
         refine Reg.op rfl (Ope.cf rfl rfl Hc2 (bd_rels rest .no rfl (swpS S)) ?_)
         refine Reg.op rfl (Ope.mov rfl ?_)
         refine Reg.op rfl (Ope.ext rfl rfl ?_)
         refine Reg.op rfl (Ope.ext rfl rfl ?_)
         refine Reg.op rfl (Ope.asg rfl ?_)
         refine Reg.op rfl (Ope.asg rfl ?_)
         refine Reg.nil (Run.seq (Run.region (cx_ok _ _ _) (Reg.op rfl (Ope.load rfl rfl ?_))))
         refine Reg.op rfl (Ope.cf rfl rfl Hw1 hbr ?_)
         refine Reg.op rfl (Ope.mov rfl ?_)
         refine Reg.op rfl (Ope.ext rfl rfl ?_)
         refine Reg.op rfl (Ope.ext rfl rfl ?_)
         refine Reg.op rfl (Ope.asg rfl ?_)
         refine Reg.op rfl (Ope.asg rfl ?_)
         refine Reg.nil (Run.seq (Run.region (cx_ok _ _ _) (Reg.op rfl (Ope.load rfl rfl ?_))))
         refine Reg.op rfl (Ope.cf rfl rfl Hw2 (bd_rels rest .no rfl (swpS S)) ?_)
         refine Reg.op rfl (Ope.mov rfl ?_)
         refine Reg.op rfl (Ope.ext rfl rfl ?_)
         refine Reg.op rfl (Ope.ext rfl rfl ?_)
         refine Reg.op rfl (Ope.asg rfl ?_)
         refine Reg.op rfl (Ope.asg rfl ?_)
         refine Reg.nil (Run.seq (Run.region (cx_ok _ _ _) (Reg.op rfl (Ope.asg rfl ?_))))
         refine Reg.nil (Run.seq (Run.seq (Run.region (cx_ok _ _ _) (Reg.op rfl (Ope.mov rfl ?_)))))
         refine Reg.op rfl (Ope.mov rfl ?_)
         refine Reg.op rfl (Ope.ne rfl rfl ?_)
         refine Reg.op rfl (Ope.mov rfl ?_)
         refine Reg.splitX rfl rfl (fun hg=>?_) fun hg=>?_
         ·(first | (exfalso;omega) | (exfalso;simp only [Bool.not_eq_true',Bool.not_eq_false',decide_eq_false_iff_not,decide_eq_true_eq] at *;omega))
         ·refine Reg.on rfl rfl rfl (Ope.mov rfl ?_)
          refine Reg.on rfl rfl rfl (Ope.mov rfl ?_)
          refine Reg.on rfl rfl rfl (Ope.ne rfl rfl ?_)
          refine Reg.op rfl (Ope.pickF rfl rfl ?_)
          refine Reg.op rfl (Ope.mov rfl ?_)
          refine Reg.splitX rfl rfl (fun hg=>?_) fun hg=>?_
          ·(first | (exfalso;omega) | (exfalso;simp only [Bool.not_eq_true',Bool.not_eq_false',decide_eq_false_iff_not,decide_eq_true_eq] at *;omega))
          ·refine Reg.on rfl rfl rfl (Ope.mov rfl ?_)
           refine Reg.on rfl rfl rfl (Ope.mov rfl ?_)
           refine Reg.on rfl rfl rfl (Ope.ne rfl rfl ?_)
           refine Reg.op rfl (Ope.pickF rfl rfl ?_)
           refine Reg.op rfl (Ope.mov rfl ?_)
           refine Reg.splitX rfl rfl (fun hg=>?_) fun hg=>?_
           ·(first | (exfalso;omega) | (exfalso;simp only [Bool.not_eq_true',Bool.not_eq_false',decide_eq_false_iff_not,decide_eq_true_eq] at *;omega))
           ·refine Reg.on rfl rfl rfl (Ope.mov rfl ?_)
            refine Reg.on rfl rfl rfl (Ope.lt rfl rfl ?_)
            refine Reg.op rfl (Ope.pickF rfl rfl ?_)
            refine Reg.op rfl (Ope.mov rfl ?_)
            refine Reg.splitX rfl rfl (fun hg=>?_) fun hg=>?_
            ·(first | (exfalso;omega) | (exfalso;simp only [Bool.not_eq_true',Bool.not_eq_false',decide_eq_false_iff_not,decide_eq_true_eq] at *;omega))
            ·refine Reg.on rfl rfl rfl (Ope.mov rfl ?_)
             refine Reg.on rfl rfl rfl (Ope.lt rfl rfl ?_)
             refine Reg.op rfl (Ope.pickF rfl rfl ?_)
             refine Reg.op rfl (Ope.mov rfl ?_)
             refine Reg.splitX rfl rfl (fun hg=>?_) fun hg=>?_
             ·(first | (exfalso;omega) | (exfalso;simp only [Bool.not_eq_true',Bool.not_eq_false',decide_eq_false_iff_not,decide_eq_true_eq] at *;omega))
             ·refine Reg.on rfl rfl rfl (Ope.mov rfl ?_)
              refine Reg.on rfl rfl rfl (Ope.mov rfl ?_)
              refine Reg.on rfl rfl rfl (Ope.cf rfl rfl Hz1 rfl ?_)
              refine Reg.on rfl rfl rfl (Ope.mov rfl ?_)
              refine Reg.on rfl rfl rfl (Ope.mov rfl ?_)
              refine Reg.on rfl rfl rfl (Ope.cf rfl rfl Hz2 rfl ?_)
              refine Reg.on rfl rfl rfl (Ope.ne rfl rfl ?_)
              refine Reg.op rfl (Ope.pickF rfl rfl ?_)
              refine Reg.op rfl (Ope.mov rfl ?_)
              refine Reg.splitX rfl rfl (fun hg=>?_) fun hg=>?_
              ·(first | (exfalso;omega) | (exfalso;simp only [Bool.not_eq_true',Bool.not_eq_false',decide_eq_false_iff_not,decide_eq_true_eq] at *;omega))
              ·refine Reg.on rfl rfl rfl (Ope.mov rfl ?_)
               refine Reg.on rfl rfl rfl (Ope.mov rfl ?_)
               refine Reg.on rfl rfl rfl (Ope.ne rfl rfl ?_)
               refine Reg.op rfl (Ope.pickF rfl rfl ?_)
               refine Reg.op rfl (Ope.mov rfl ?_)
               refine Reg.splitX rfl rfl (fun hg=>?_) fun hg=>?_
               ·(first | (exfalso;omega) | (exfalso;simp only [Bool.not_eq_true',Bool.not_eq_false',decide_eq_false_iff_not,decide_eq_true_eq] at *;omega))
               ·refine Reg.on rfl rfl rfl (Ope.mov rfl ?_)
                refine Reg.on rfl rfl rfl (Ope.lt rfl rfl ?_)
                refine Reg.op rfl (Ope.pickF rfl rfl ?_)
                refine Reg.op rfl (Ope.mov rfl ?_)
                refine Reg.splitX rfl rfl (fun hg=>?_) fun hg=>?_
                ·(first | (exfalso;omega) | (exfalso;simp only [Bool.not_eq_true',Bool.not_eq_false',decide_eq_false_iff_not,decide_eq_true_eq] at *;omega))
                ·refine Reg.on rfl rfl rfl (Ope.mov rfl ?_)
                 refine Reg.on rfl rfl rfl (Ope.lt rfl rfl ?_)
                 refine Reg.op rfl (Ope.pickF rfl rfl ?_)
                 refine Reg.op rfl (Ope.mov rfl ?_)
                 refine Reg.splitX rfl rfl (fun hg=>?_) fun hg=>?_
                 ·(first | (exfalso;omega) | (exfalso;simp only [Bool.not_eq_true',Bool.not_eq_false',decide_eq_false_iff_not,decide_eq_true_eq] at *;omega))
                 ·refine Reg.on rfl rfl rfl (Ope.mov rfl ?_)
                  refine Reg.on rfl rfl rfl (Ope.mov rfl ?_)
                  refine Reg.on rfl rfl rfl (Ope.cf rfl rfl Hy1 rfl ?_)
                  refine Reg.on rfl rfl rfl (Ope.mov rfl ?_)
                  refine Reg.on rfl rfl rfl (Ope.mov rfl ?_)
                  refine Reg.on rfl rfl rfl (Ope.cf rfl rfl Hy2 rfl ?_)
                  refine Reg.on rfl rfl rfl (Ope.ne rfl rfl ?_)
                  refine Reg.op rfl (Ope.pickF rfl rfl ?_)
                  refine Reg.nil (Run.condX rfl (fun hc=>?_) fun hc=>?_)
                  ·(first | (exfalso;omega))
                  ·refine Run.skip (Run.seq (Run.seq (Run.region (cx_ok _ _ _) (Reg.op rfl (Ope.mov rfl ?_)))))
                   refine Reg.op rfl (Ope.len (m:=S.length) rfl (by simp) ?_)
                   refine Reg.op rfl (Ope.mov rfl ?_)
                   refine Reg.nil (Run.block (Run.loop (α:=Nat) (fun i=>[(3,.fp (relV rest tl S)),(13,.sl .no (S.map Sti.v)),(435,I S.length),(436,I i)]) (fun _=>HE r []) (fun i=>i≤S.length) (fun i=>S.length - i) 0 ⟨rfl,rfl,rfl,rfl,trivial⟩ rfl (Nat.zero_le _) (fun i hi=>?_)))
                   refine Run.seq (Run.region (cx_ok _ _ _) (Reg.op rfl (Ope.lt rfl rfl ?_)))
                   refine Reg.nil (Run.seq (Run.condX rfl (fun hc=>?_) fun hc=>?_))
                   ·refine Run.skip (Run.seq (Run.block (Run.seq ?_)))
                    have hlt:i < S.length:=by omega
                    refine Run.region (cx_ok _ _ _) (Reg.op rfl (Ope.mov rfl ?_))
                    refine Reg.op rfl (Ope.asg rfl ?_)
                    refine Reg.nil (Run.seq (Run.draw (cx_ok _ _ _) [(0,true),(1,true),(2,true),(3,true),(4,true),(5,true),(6,true),(7,true),(8,true),(9,true)] (by kernel_rfl) (Dra.op' rfl rfl rfl .sure (Ope.mov rfl ?_))))
                    refine Dra.op' rfl rfl rfl .sure (Ope.mov rfl ?_)
                    refine Dra.op' rfl rfl rfl .sure (Ope.idxM (m:=i) (f:=Sti.v) rfl rfl rfl hlt (fun _=>rfl) ?_)
                    refine Dra.op' rfl rfl rfl .sure (Ope.load rfl rfl ?_)
                    refine Dra.op' rfl rfl rfl .sure (Ope.fld rfl rfl ?_)
                    refine Dra.op' rfl rfl rfl .sure (Ope.load rfl rfl ?_)
                    refine Dra.op' rfl rfl rfl .sure (Ope.mov rfl ?_)
                    refine Dra.op' rfl rfl rfl .sure (Ope.idxM (m:=i) (f:=Sti.v) rfl rfl rfl hlt (fun _=>rfl) ?_)
                    refine Dra.op' rfl rfl rfl .sure (Ope.load rfl rfl ?_)
                    refine Dra.op' rfl rfl rfl .sure (Ope.neV rfl rfl (neSt _ _ S[i]) ?_)
                    refine Dra.nil (Run.condX rfl (fun hc=>?_) fun hc=>?_)
                    ·(exfalso;exact absurd hc (by decide))
                    ·refine Run.skip (Run.bend (Run.region (cx_ok _ _ _) (Reg.op rfl (Ope.add rfl rfl (by omega) ?_))))
                     refine Reg.op rfl (Ope.mov rfl ?_)
                     exact Reg.nil (Run.lend ⟨i+1,by omega,by omega,⟨rfl,rfl,rfl,rfl,trivial⟩,rfl,rfl⟩)
                   ·refine Run.exit (Jmp.code (Jmp.round (Jmp.here (Run.seq (Run.region (cx_ok _ _ _) (Reg.op rfl (Ope.cf rfl rfl awakeF rfl ?_)))))))
                    refine Reg.op rfl (Ope.asg rfl ?_)
                    exact Reg.nil (Run.ret (fin_ret (.tmp rfl .nil) rfl rfl))
theorem f11l (rest:Int) (tl:Tail) (htl:tl.isOwn=false) (S:List Sti) (hl:40 < S.length) (a b:Nat):Fn P0 11 [relV rest tl S,U8 a,U8 b] (B true):=by
  have hbd:=fun k=>bd_is rest tl htl S k
  refine PFun.of (C:=c11) (cx_ok _ _ _) rfl (fn:=Try.f11) (by kernel_rfl) (c:=_) rfl rfl rfl ?_
  refine Run.seq (Run.region (cx_ok _ _ _) (Reg.op rfl (Ope.boxF rfl rfl ?_)))
  refine Reg.op rfl (Ope.asg rfl ?_)
  refine Reg.nil (Run.seq (Run.seq (Run.region (cx_ok _ _ _) (Reg.op rfl (Ope.load rfl rfl ?_)))))
  refine Reg.op rfl (Ope.cf rfl rfl (f12l rest tl S hl 5) (hbd 5) ?_)
  refine Reg.op rfl (Ope.mov rfl ?_)
  refine Reg.off rfl rfl rfl (Reg.off rfl rfl rfl (Reg.off rfl rfl rfl (Reg.op rfl (Ope.pickT rfl rfl ?_))))
  refine Reg.op rfl (Ope.mov rfl ?_)
  refine Reg.off rfl rfl rfl (Reg.off rfl rfl rfl (Reg.off rfl rfl rfl (Reg.off rfl rfl rfl (Reg.op rfl (Ope.pickT rfl rfl ?_)))))
  refine Reg.nil (Run.condT rfl (Run.seq (Run.region (cx_ok _ _ _) (Reg.op rfl (Ope.cf rfl rfl awakeF rfl ?_)))))
  refine Reg.op rfl (Ope.asg rfl ?_)
  exact Reg.nil (Run.ret (Jmp.code (fin_ret (.tmp rfl .nil) rfl rfl)))
theorem f11a (rest:Int) (tl:Tail) (htl:tl.isOwn=false) (S:List Sti) (a b:Nat) (ha:a < 256) (hb:b < 256):Fn P0 11 [relV rest tl S,U8 a,U8 b] (B true):=by
  rcases Nat.lt_or_ge 40 S.length with h | h
  · exact f11l rest tl htl S h a b
  · exact f11 rest tl htl S (by omega) a b ha hb
end Go.Pv
namespace Go.Pv
open Go.Proofs Go.Am
set_option maxRecDepth 10000
section
variable {H:Type} {enc:TypeId×Value→H} {w:World} {base:Nat} {held:Bool}
theorem reads_int:Reads enc Try.prog w base (fun _=>true) held 3 fun ps=>∃ n:Int,ps=[I n] :=
  (Reads.int Try.underlying3).mono fun ps ⟨n,h,_⟩=>⟨n,h⟩
theorem reads_span:Reads enc Try.prog w base (fun _=>true) held 28 fun ps=>∃ a b:Int,ps=[I a,I b] :=
  (Reads.struct (Qs:=[fun ps=>∃ n:Int,ps=[I n],fun ps=>∃ n:Int,ps=[I n]]) Try.underlying28 (by kernel_rfl) ⟨reads_int,reads_int,trivial⟩).mono fun ps h=>by
    obtain ⟨_,_,rfl,⟨a,rfl⟩,_,_,rfl,⟨b,rfl⟩,rfl⟩:=h
    exact ⟨a,b,rfl⟩
theorem reads_spans:Reads enc Try.prog w base (fun _=>true) held 44 fun ps=>∃ a b c d:Int,ps=[I a,I b,I c,I d] :=
  (Reads.array2 Try.underlying44 (by kernel_rfl) reads_span).mono fun ps h=>by
    obtain ⟨_,_,rfl,⟨a,b,rfl⟩,_,_,rfl,⟨c,d,rfl⟩,rfl⟩:=h
    exact ⟨a,b,c,d,rfl⟩
theorem reads_stint:Reads enc Try.prog w base (fun _=>true) held 46 fun ps=>∃ s:Sti,ps=s.v.cells :=
  (Reads.struct (Qs:=[fun ps=>∃ n:Int,ps=[I n],fun ps=>∃ a b c d:Int,ps=[I a,I b,I c,I d],fun ps=>∃ a b c d:Int,ps=[I a,I b,I c,I d]]) Try.underlying46 (by kernel_rfl) ⟨reads_int,reads_spans,reads_spans,trivial⟩).mono fun ps h=>by
    obtain ⟨_,_,rfl,⟨r,rfl⟩,_,_,rfl,⟨a,b,c,d,rfl⟩,_,_,rfl,⟨e,f,g,h,rfl⟩,rfl⟩:=h
    exact ⟨⟨r,a,b,c,d,e,f,g,h⟩,rfl⟩
theorem cells_stint:Try.prog.cellsOf 46=9:=by kernel_rfl
theorem reads_stints:Reads enc Try.prog w base (fun _=>true) held 22 fun ps=>∃ S:List Sti,ps=[.sl .no (S.map Sti.v)] :=
  (Reads.slice (Q:=fun _=>True) (f:=Sti.v) (fun _=>rfl) Try.underlying22 (by rw [cells_stint];decide) (reads_stint.mono fun ps ⟨s,h⟩=>⟨s,h,by rw [cells_stint];rfl,trivial⟩)).mono fun ps ⟨S,h,_⟩=>⟨S,h⟩
theorem reads_relays:Reads enc Try.prog w base (fun _=>true) held 24 fun ps=>∃ (rest:Int) (S:List Sti),ps=[I rest,.sl .no (S.map Sti.v)] :=
  (Reads.struct (Qs:=[fun ps=>∃ n:Int,ps=[I n],fun ps=>∃ S:List Sti,ps=[.sl .no (S.map Sti.v)]]) Try.underlying24 (by kernel_rfl) ⟨reads_int,reads_stints,trivial⟩).mono fun ps h=>by
    obtain ⟨_,_,rfl,⟨r,rfl⟩,_,_,rfl,⟨S,rfl⟩,rfl⟩:=h
    exact ⟨r,S,rfl⟩
theorem trod_relays {v:Value} {d:DataW H} {ps:List MemPlace} {r:Reach} {b:Nat} (hv:Value.okWide Try.prog w r b 24 v) (h:DataW.Trod enc Try.prog w base (fun _=>true) held 24 v d ps):∃ rest S,RV (St.froz w) (relV rest .no S) v:=by
  obtain ⟨l,h1,rest,S,rfl⟩:=trod_agg Try.underlying24 hv h reads_relays
  exact ⟨rest,S,h1⟩
end
end Go.Pv
