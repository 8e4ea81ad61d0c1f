/- Parts of the proof: Pv3, Pv4, Pv5, Pv6, Pv7, Pv8 -/
import Derived.Test.YtkabfhoicdeehaaGreatP3
set_option linter.unusedVariables false
set_option linter.unusedSimpArgs false
set_option linter.unusedSectionVars false
namespace Go.Pv
open Go.Am Go.RowKit
theorem lt_blt {a b:Nat} (h:a < b):Nat.blt a b=true:=(T.blt_iff a b).2 h
theorem one_snd {s:St} {f:Value→Prop} {p:Prop} (hf:∀ x,f x→p):(∀ x,(s.one f).1 x→p)∧∀ k o,(s.one f).2 k o→p :=
 ⟨hf,fun k o ⟨y,_,h2⟩=>hf y h2⟩
section
variable {w0:Base} {s:St}
mutual
theorem R2.bd:∀ v:PV,(∀ x,RV s v x→v.bd s.h.next=true)∧∀ k o,RM s v k o→v.bd s.h.next=true
 |.lit a=>⟨fun _ _=>rfl,fun _ _ _=>rfl⟩
 |.agg l=>by
  have ih:=R2s.bd l
  unfold RV RM R2
  exact ⟨fun x ⟨y,h1,h2⟩=>by simpa [PV.bd] using ih.1 _ h2,fun k o h1=>by simpa [PV.bd] using ih.2.1 k o h1⟩
 |.tup l=>by
  have ih:=R2s.bd l
  unfold RV RM R2
  exact one_snd fun x ⟨y,h1,h2⟩=>by simpa [PV.bd] using ih.1 _ h2
 |.ifc t v=>by
  have ih:=R2.bd v
  unfold RV RM R2
  exact one_snd fun x ⟨y,h1,h2⟩=>by simpa [PV.bd] using ih.1 _ h2
 |.sl tl l=>by
  have ih:=R2s.bd l
  unfold RV RM R2
  refine one_snd fun x hx=>?_
  rcases hx with ⟨rfl,h2,_⟩ | ⟨k,o,c,sz,h1,h2,h3,h4⟩
  ·cases tl<;>first | rfl | cases h2
  ·have:=ih.2.2 _ _ _ h3
   cases tl with
   |no=>simpa [PV.bd] using this
   |ex=>simpa [PV.bd] using this
   |own i=>simp only [PV.bd,this,Bool.and_true];exact lt_blt h4.1
 |.fp v=>by
  have ih:=R2.bd v
  unfold RV RM R2
  exact one_snd fun x ⟨k,o,h1,h2⟩=>by simpa [PV.bd] using ih.2 _ _ h2
 |.ptr i o=>by
  unfold RV RM R2
  exact one_snd fun x ⟨h1,h2⟩=>by simpa [PV.bd] using lt_blt h1
 |.ms i o len cap _=>by
  unfold RV RM R2
  exact one_snd fun x ⟨h1,h2⟩=>by simpa [PV.bd] using lt_blt h1
 |.mp i=>by
  unfold RV RM R2
  exact one_snd fun x ⟨h1,h2⟩=>by simpa [PV.bd] using lt_blt h1
 |.fn f a b=>by
  have iha:=R2s.bd a
  have ihb:=R2s.bd b
  unfold RV RM R2
  exact one_snd fun x ⟨y,z,h1,h2,h3⟩=>by simp only [PV.bd,iha.1 _ h2,ihb.1 _ h3,Bool.and_self]
 |.yld i=>by
  unfold RV RM R2
  exact one_snd fun x ⟨h1,h2⟩=>by simpa [PV.bd] using lt_blt h1
 |.fm ks vs=>by
  have ih:=R2s.bd vs
  unfold RV RM R2
  exact one_snd fun x ⟨k,c,zs,h1,h2,h3⟩=>by simpa [PV.bd] using ih.1 _ h3
theorem R2s.bd:∀ l:List PV,(∀ xs,RVs s l xs→PV.bds s.h.next l=true)∧(∀ k o,RMs s l k o→PV.bds s.h.next l=true)∧∀ sz k o,REs s l sz k o→PV.bds s.h.next l=true
 |[]=>⟨fun _ _=>rfl,fun _ _ _=>rfl,fun _ _ _ _=>rfl⟩
 |v::vs=>by
  have ih:=R2.bd v
  have ihs:=R2s.bd vs
  unfold RVs RMs REs R2s
  exact ⟨fun xs ⟨y,ys,h1,h2,h3⟩=>by simp only [PV.bds,ih.1 _ h2,ihs.1 _ h3,Bool.and_self],fun k o ⟨⟨y,h1,h2⟩,h3⟩=>by simp only [PV.bds,ih.1 _ h2,ihs.2.1 _ _ h3,Bool.and_self],fun sz k o ⟨h0,h1,h2⟩=>by simp only [PV.bds,ih.2 _ _ h1,ihs.2.2 _ _ _ h2,Bool.and_self]⟩
end
def PBlk.bd (n:Nat):PBlk→Prop
 |.cells l=>PV.bds n l=true
 |.map es _=>∀ e∈es,e.2.1.bd n=true
 |.iter m _ _ _=>∀ i,m=some i→i < n
 |.loop _ _ _ tmps _ _ _ _ d=>d < n∧∀ i v,tmps.get i=some v→v.bd n=true
 |.dfr=>True
 |.own=>True
 |.raw _ _ l=>PV.bds n l=true
 |.fit _ vs _=>PV.bds n vs=true
theorem RE3.bd:∀ {es:List (AV×PV×Nat)} {xs:List MapEntry},RE3 s es xs→∀ e∈es,e.2.1.bd s.h.next=true
 |[],_,_=>fun _ h=>(by cases h)
 |e::es,_,⟨y,ys,h1,h2,h3,h4,h5⟩=>by
  intro e' he
  rcases List.mem_cons.1 he with rfl | he
  ·exact (R2.bd _).1 _ h3
  ·exact RE3.bd h5 e' he
theorem PB.bd {k:Nat} {b:PBlk} (h:PB s k b):b.bd s.h.next:=by
 cases b with
 |cells l=>obtain ⟨arr,t,_,h2⟩:=h;exact (R2s.bd l).1 _ h2
 |map es clock=>obtain ⟨arr,_,h2⟩:=h;exact h2.bd
 |iter m since seen stepped=>exact h.1
 |loop st pend fn tmps sz ps asg body d =>
  obtain ⟨a,h1,_,h3,_⟩:=h
  exact ⟨h1,fun i v hi=>let ⟨x,_,h5⟩:=h3 i v hi;(R2.bd v).1 _ h5⟩
 |dfr=>trivial
 |own=>trivial
 |raw n o l=>obtain ⟨arr,t,z,_,_,_,ys,h4,_⟩:=h;exact (R2s.bd l).1 _ h4
 |fit ks vs seen=>obtain ⟨b,c,zs,_,h2,_⟩:=h;exact (R2s.bd vs).1 _ h2
def PH.Ok (h:PH):Prop:=∀ i b,h.get i=some b→i < h.next∧b.bd h.next
theorem PW.ok (h:PW w0 s):s.h.Ok:=fun i b hi=>let ⟨h1,_,h3⟩:=h.hp i b hi;⟨h1,h3.bd⟩
theorem RE3.cut {n:Nat}:∀ {es:List (AV×PV×Nat)} {xs:List MapEntry},(∀ e∈es,e.2.1.bd n=true)→RE3 s es xs→RE3 (s.cut n) es xs
 |[],_,_,h=>h
 |e::es,_,hb,⟨y,ys,h1,h2,h3,h4,h5⟩ =>
  ⟨y,ys,h1,h2,(R2.cut _ (hb e (by simp))).1 _ h3,h4,RE3.cut (fun e' he=>hb e' (by simp [he])) h5⟩
theorem PB.cut {n k:Nat} {b:PBlk} (hb:b.bd n) (h:PB s k b):PB (s.cut n) k b:=by
 cases b with
 |cells l=>obtain ⟨arr,t,h1,h2⟩:=h;exact ⟨arr,t,h1,(R2s.cut l hb).1 _ h2⟩
 |map es clock=>obtain ⟨arr,h1,h2⟩:=h;exact ⟨arr,h1,h2.cut hb⟩
 |iter m since seen stepped=>exact ⟨hb,h.2⟩
 |loop st pend fn tmps sz ps asg body d =>
  obtain ⟨a,h1,h2,h3,h4⟩:=h
  exact ⟨a,hb.1,h2,fun i v hi=>let ⟨x,p1,p2⟩:=h3 i v hi;⟨x,p1,(R2.cut v (hb.2 i v hi)).1 _ p2⟩,h4⟩
 |dfr=>exact h
 |own=>trivial
 |raw n o l=>obtain ⟨arr,t,z,h1,h2,h3,ys,h4,h5⟩:=h;exact ⟨arr,t,z,h1,h2,h3,ys,(R2s.cut l hb).1 _ h4,h5⟩
 |fit ks vs seen=>obtain ⟨b,c,zs,h1,h2,h3⟩:=h;exact ⟨b,c,zs,h1.cut,(R2s.cut vs hb).1 _ h2,h3⟩
theorem cut_own {n m i:Nat} {b:BS} (h:b.cut n=.fz m (some i)):b=.fz m (some i)∧i < n:=by
 cases b with
 |no=>cases h
 |fz m' own =>
  cases own with
  |none=>cases h
  |some j =>
   simp only [BS.cut] at h
   by_cases hj:j < n
   ·simp only [hj,if_true] at h
    cases h
    exact ⟨rfl,hj⟩
   ·simp only [hj,if_false] at h
    cases h
 |live j =>
  simp only [BS.cut] at h
  by_cases hj:j < n
  ·simp only [hj,if_true] at h;cases h
  ·simp only [hj,if_false] at h;cases h
theorem PW.cut (h:PW w0 s) {n:Nat} (hb:(s.h.cut n).Ok):PW w0 (s.cut n):=by
 refine ⟨h.os,h.tape,h.output,h.size,h.old,fun k hk=>?_,h.cold,fun k hk=>?_,fun k m i hk=>?_,fun i b hi=>?_⟩
 ·simp only [St.cut]
  rcases h.prot k hk with h1 | ⟨m,h1⟩
  ·exact .inl (by rw [h1];rfl)
  ·exact .inr ⟨m,by rw [h1];rfl⟩
 ·simp only [St.cut,h.inb k hk]
  rfl
 ·obtain ⟨h1,h2⟩:=cut_own hk
  obtain ⟨p1,p2⟩:=h.ob k m i h1
  exact ⟨h2,p2⟩
 ·have h2:=hb i b hi
  simp only [St.cut,PH.cut] at hi
  split at hi
  ·next hin =>
   obtain ⟨p1,p2,p3⟩:=h.hp i b hi
   refine ⟨hin,?_,p3.cut h2.2⟩
   cases b<;>simp only [BAt,St.cut] at p2 ⊢<;>first
    |(rw [p2];simp only [BS.cut,hin,if_true];done)
    |(obtain ⟨m,p2⟩:=p2;exact ⟨m,by rw [p2];simp only [BS.cut,hin,if_true]⟩)
  ·cases hi
theorem Ext.cut {a:St} (h:Ext a s) {n:Nat} (hn:a.h.next≤n):Ext a (s.cut n):=by
 refine Ext.mk' ⟨h.old.1,fun k hk=>⟨fun e=>by simp only [St.cut,(h.old.2 k hk).1 e,BS.cut],fun m e=>by simp only [St.cut,(h.old.2 k hk).2 m e,BS.cut]⟩⟩ (hn) (h.e) (fun k o y hy=>by rw [fcell_cut];exact h.cell _ _ _ hy) (fun i m hi hm=>?_) (fun k r hr=>fmp_cut (h.fmp _ _ hr))
 obtain ⟨h1,_⟩:=cut_own hm
 exact h.own i m hi h1
def St.freeze (s:St) (i n:Nat):St:={ s with σ:=upd s.σ (s.e i) (.fz n none),h:=s.h.del i }
theorem Ext.freeze {i n:Nat} (hl:s.σ (s.e i)=.live i):Ext s (s.freeze i n):=by
 refine Ext.mk' ⟨Nat.le_refl _,fun x _=>⟨fun e=>(upd_ne s.σ _ (fun c:x=s.e i=>by rw [c,hl] at e;cases e)).trans e,fun n' e=>(upd_ne s.σ _ (fun c:x=s.e i=>by rw [c,hl] at e;cases e)).trans e⟩⟩ (Nat.le_refl _) (fun _ _=>rfl) (fun k o y hy=>?_) (fun j m _ hm=>?_) (fun x r hr=>fmp_keep hr (fun n' own e=>⟨n',own,(upd_ne s.σ _ (fun c:x=s.e i=>by rw [c,hl] at e;cases e)).trans e⟩) fun _=>rfl)
 ·obtain ⟨m,own,h1,h2,h3⟩:=fcell_some hy
  have hk:k≠s.e i:=fun e=>by rw [e,hl] at h1;cases h1
  exact fcell_of (s:=s.freeze i n) ((upd_ne _ _ hk).trans h1) h2 h3
 ·simp only [St.freeze] at hm ⊢
  by_cases hk:s.e j=s.e i
  ·rw [hk,upd_self] at hm
   cases hm
  ·rw [upd_ne _ _ hk] at hm
   exact ⟨hm,fun arr t ha=>⟨arr,ha,rfl⟩⟩
theorem PW.freezeB (h:PW w0 s) {i n:Nat} {b0:PBlk} (hi:s.h.get i=some b0) (hno:BAt s i b0=(s.σ (s.e i)=.live i)):PW w0 (s.freeze i n):=by
 obtain ⟨p1,p2',p3⟩:=h.hp i _ hi
 have p2:s.σ (s.e i)=.live i:=by rw [hno] at p2';exact p2'
 have hx:=Ext.freeze (n:=n) p2
 refine ⟨h.os,h.tape,h.output,h.size,h.old,fun k hk=>?_,h.cold,fun k hk=>?_,fun k m j hk=>?_,fun j b hj=>?_⟩
 ·by_cases hk':k=s.e i
  ·exact .inr ⟨n,by simp only [St.freeze,hk',upd_self]⟩
  ·simp only [St.freeze,upd_ne _ _ hk']
   exact h.prot k hk
 ·have:=h.lt (k:=s.e i) (by rw [p2];simp)
  simp only [St.freeze,upd_ne s.σ (BS.fz n none) (show k≠s.e i from fun e=>by rw [e] at hk;exact absurd this (Nat.not_lt.2 hk))]
  exact h.inb k hk
 ·simp only [St.freeze] at hk
  by_cases hk':k=s.e i
  ·rw [hk',upd_self] at hk;cases hk
  ·rw [upd_ne _ _ hk'] at hk
   exact h.ob k m j hk
 ·simp only [St.freeze,PH.del] at hj
  split at hj
  ·cases hj
  ·next hji =>
   obtain ⟨q1,q2,q3⟩:=h.hp j b hj
   have hne:s.e j≠s.e i:=fun e=>hji (q2.inj (b':=b0) p2' e)
   exact ⟨q1,BAt.congr (s':=s.freeze i n) (s:=s) rfl (upd_ne _ _ hne) q2,q3.ext hx rfl⟩
theorem PW.freeze (h:PW w0 s) {i n:Nat} {l:List PV} (hi:s.h.get i=some (.cells l)):PW w0 (s.freeze i n):=h.freezeB hi rfl
end
end Go.Pv
namespace Go.Pv
open Go.Am Go.RowKit
section
variable {s:St}
theorem RVs_nil {xs:List Value}:RVs s [] xs↔xs=[]:=by unfold RVs R2s;exact Iff.rfl
theorem RVs_cons {v:PV} {vs:List PV} {xs:List Value}:RVs s (v::vs) xs↔∃ y ys,xs=y::ys∧RV s v y∧RVs s vs ys:=by
 unfold RVs RV
 rw [R2s]
theorem RMs_nil {k o:Nat}:RMs s [] k o:=by unfold RMs R2s;exact trivial
theorem RMs_cons {v:PV} {vs:List PV} {k o:Nat}:RMs s (v::vs) k o↔(∃ y,s.fcell k o=some y∧RV s v y)∧RMs s vs k (o+1):=by
 unfold RMs RV
 rw [R2s]
theorem REs_nil {sz k o:Nat}:REs s [] sz k o:=by unfold REs R2s;exact trivial
theorem REs_cons {v:PV} {vs:List PV} {sz k o:Nat}:REs s (v::vs) sz k o↔v.nc=sz∧RM s v k o∧REs s vs sz k (o+sz):=by
 unfold REs RM
 rw [R2s]
theorem RVs.length {v:List PV} {x:List Value} (h:RVs s v x):x.length=v.length:=by
 induction v generalizing x with
 |nil=>rw [RVs_nil] at h;subst h;rfl
 |cons a as ih =>
  rw [RVs_cons] at h
  obtain ⟨y,ys,rfl,_,h3⟩:=h
  simp [ih h3]
theorem RVs.get {v:List PV} {x:List Value} (h:RVs s v x) {i:Nat} {a:PV} (hi:v[i]?=some a):∃ y,x[i]?=some y∧RV s a y:=by
 induction v generalizing x i with
 |nil=>simp at hi
 |cons b bs ih =>
  rw [RVs_cons] at h
  obtain ⟨y,ys,rfl,h2,h3⟩:=h
  cases i with
  |zero=>simp at hi;subst hi;exact ⟨y,rfl,h2⟩
  |succ i=>simp at hi ⊢;exact ih h3 hi
theorem RVs.append {a b:List PV} {x y:List Value} (h:RVs s a x) (k:RVs s b y):RVs s (a++b) (x++y):=by
 induction a generalizing x with
 |nil=>rw [RVs_nil] at h;subst h;exact k
 |cons c cs ih =>
  rw [RVs_cons] at h
  obtain ⟨z,zs,rfl,h2,h3⟩:=h
  rw [List.cons_append,RVs_cons]
  exact ⟨z,zs++y,rfl,h2,ih h3⟩
theorem RVs.of_get {v:List PV} {x:List Value} (hl:x.length=v.length) (h:∀ (i:Nat) a y,v[i]?=some a→x[i]?=some y→RV s a y):RVs s v x:=by
 induction v generalizing x with
 |nil=>rw [RVs_nil];exact List.eq_nil_of_length_eq_zero hl
 |cons a as ih =>
  cases x with
  |nil=>simp at hl
  |cons y ys =>
   rw [RVs_cons]
   exact ⟨y,ys,rfl,h 0 a y rfl rfl,ih (by simpa using hl) fun i b z hb hz=>h (i+1) b z (by simpa using hb) (by simpa using hz)⟩
theorem RVs.drop {v:List PV} {x:List Value} (h:RVs s v x) (n:Nat):RVs s (v.drop n) (x.drop n) :=
 RVs.of_get (by simp [h.length]) fun i a y ha hy=>by
  rw [List.getElem?_drop] at ha hy
  obtain ⟨z,z1,z2⟩:=h.get ha
  rw [z1] at hy
  cases hy
  exact z2
theorem RVs.take {v:List PV} {x:List Value} (h:RVs s v x) (n:Nat):RVs s (v.take n) (x.take n) :=
 RVs.of_get (by simp [h.length]) fun i a y ha hy=>by
  have hi:i < n:=by
   rcases Nat.lt_or_ge i n with h1 | h1
   ·exact h1
   ·rw [List.getElem?_take_eq_none h1] at ha;cases ha
  rw [List.getElem?_take_of_lt hi] at ha hy
  obtain ⟨z,z1,z2⟩:=h.get ha
  rw [z1] at hy
  cases hy
  exact z2
theorem RMs.get {l:List PV} {k o:Nat} (h:RMs s l k o) {i:Nat} {a:PV} (hi:l[i]?=some a):∃ y,s.fcell k (o+i)=some y∧RV s a y:=by
 induction l generalizing o i with
 |nil=>simp at hi
 |cons b bs ih =>
  rw [RMs_cons] at h
  obtain ⟨⟨y,h1,h2⟩,h3⟩:=h
  cases i with
  |zero=>simp at hi;subst hi;exact ⟨y,h1,h2⟩
  |succ i =>
   have:=ih h3 (by simpa using hi)
   rwa [show o+1+i=o+(i+1) from by omega] at this
theorem RMs.of_get {l:List PV} {k o:Nat} (h:∀ (i:Nat) a,l[i]?=some a→∃ y,s.fcell k (o+i)=some y∧RV s a y):RMs s l k o:=by
 induction l generalizing o with
 |nil=>exact RMs_nil
 |cons b bs ih =>
  rw [RMs_cons]
  refine ⟨h 0 b rfl,ih fun i a ha=>?_⟩
  have:=h (i+1) a (by simpa using ha)
  rwa [show o+(i+1)=o+1+i from by omega] at this
theorem RMs.append {a b:List PV} {k o:Nat}:RMs s (a++b) k o↔RMs s a k o∧RMs s b k (o+a.length):=by
 induction a generalizing o with
 |nil=>simp [RMs_nil]
 |cons c cs ih =>
  rw [List.cons_append,RMs_cons,RMs_cons,ih,List.length_cons,show o+1+cs.length=o+(cs.length+1) from by omega,and_assoc]
theorem REs.append {a b:List PV} {sz k o:Nat}:REs s (a++b) sz k o↔REs s a sz k o∧REs s b sz k (o+a.length * sz):=by
 induction a generalizing o with
 |nil=>simp [REs_nil]
 |cons c cs ih =>
  rw [List.cons_append,REs_cons,REs_cons,ih,List.length_cons,show o+sz+cs.length * sz=o+(cs.length+1) * sz from by rw [Nat.add_mul];omega]
  exact ⟨fun ⟨p,q,r,t⟩=>⟨⟨p,q,r⟩,t⟩,fun ⟨⟨p,q,r⟩,t⟩=>⟨p,q,r,t⟩⟩
theorem REs.get {l:List PV} {sz k o:Nat} (h:REs s l sz k o) {i:Nat} {a:PV} (hi:l[i]?=some a):a.nc=sz∧RM s a k (o+i * sz):=by
 induction l generalizing o i with
 |nil=>simp at hi
 |cons b bs ih =>
  rw [REs_cons] at h
  obtain ⟨h1,h2,h3⟩:=h
  cases i with
  |zero=>simp at hi;subst hi;exact ⟨h1,by simpa using h2⟩
  |succ i =>
   have:=ih h3 (by simpa using hi)
   rwa [show o+sz+i * sz=o+(i+1) * sz from by rw [Nat.add_mul];omega] at this
def PV.cells:PV→List PV
 |.agg l=>l
 |v=>[v]
theorem PV.cells_length (v:PV):v.cells.length=v.nc:=by cases v<;>rfl
theorem RV.cells {v:PV} {x:Value} (h:RV s v x):RVs s v.cells x.cells.toList:=by
 have one:∀ v:PV,RV s v x→x.cells=#[x]→RVs s [v] x.cells.toList:=fun v hv hx=>by
  rw [hx,RVs_cons]
  exact ⟨x,[],rfl,hv,RVs_nil.2 rfl⟩
 cases v with
 |agg l =>
  unfold RV R2 at h
  obtain ⟨y,rfl,h2⟩:=h
  exact h2
 |lit a =>
  refine one _ h ?_
  unfold RV R2 at h
  obtain ⟨h1,h2⟩:=h
  cases a<;>simp only [AV.plain,Bool.false_eq_true] at h1<;>(simp only [VR] at h2;subst h2;rfl)
 |tup l=>refine one _ h ?_;unfold RV R2 at h;obtain ⟨y,rfl,_⟩:=h;rfl
 |ifc t v=>refine one _ h ?_;unfold RV R2 at h;obtain ⟨y,rfl,_⟩:=h;rfl
 |sl tl l =>
  refine one _ h ?_
  unfold RV R2 at h
  rcases h with ⟨_,_,_,rfl⟩ | ⟨k,o,c,sz,rfl,_⟩<;>rfl
 |fp v=>refine one _ h ?_;unfold RV R2 at h;obtain ⟨k,o,rfl,_⟩:=h;rfl
 |ptr i o=>refine one _ h ?_;unfold RV R2 at h;obtain ⟨_,rfl⟩:=h;rfl
 |ms i o len cap=>refine one _ h ?_;unfold RV R2 at h;obtain ⟨_,rfl⟩:=h;rfl
 |mp i=>refine one _ h ?_;unfold RV R2 at h;obtain ⟨_,rfl⟩:=h;rfl
 |fn f a b=>refine one _ h ?_;unfold RV R2 at h;obtain ⟨y,z,rfl,_⟩:=h;rfl
 |yld i=>refine one _ h ?_;unfold RV R2 at h;obtain ⟨_,rfl⟩:=h;rfl
 |fm ks vs=>refine one _ h ?_;unfold RV R2 at h;obtain ⟨_,_,_,rfl,_⟩:=h;rfl
def PV.isAgg:PV→Bool
 |.agg _=>true
 |_=>false
def PV.one:PV→Bool
 |.agg _=>false
 |.tup _=>false
 |_=>true
theorem RV.one {v:PV} {x:Value} (h:RV s v x) (hv:v.one=true):x.oneCell'=true:=by
 unfold RV at h
 cases v<;>simp only [PV.one,Bool.false_eq_true] at hv<;>unfold R2 at h
 ·next a =>
  obtain ⟨h1,h2⟩:=h
  cases a<;>simp only [AV.plain,Bool.false_eq_true] at h1<;>(simp only [VR] at h2;subst h2;rfl)
 ·obtain ⟨y,rfl,_⟩:=h;rfl
 ·rcases h with ⟨_,_,_,rfl⟩ | ⟨k,o,c,sz,rfl,_⟩<;>rfl
 ·obtain ⟨k,o,rfl,_⟩:=h;rfl
 ·obtain ⟨_,rfl⟩:=h;rfl
 ·obtain ⟨_,rfl⟩:=h;rfl
 ·obtain ⟨_,rfl⟩:=h;rfl
 ·obtain ⟨y,z,rfl,_⟩:=h;rfl
 ·obtain ⟨_,rfl⟩:=h;rfl
 ·obtain ⟨_,_,_,rfl,_⟩:=h;rfl
theorem RM_one {v:PV} (hv:v.isAgg=false) {k o:Nat}:RM s v k o↔∃ y,s.fcell k o=some y∧RV s v y:=by
 cases v<;>simp only [PV.isAgg,Bool.true_eq_false] at hv<;>(unfold RM RV R2;exact Iff.rfl)
theorem RM_agg {l:List PV} {k o:Nat}:RM s (.agg l) k o↔RMs s l k o:=by
 unfold RM RMs
 rw [R2]
theorem RV_agg {l:List PV} {x:Value}:RV s (.agg l) x↔∃ y,x=.agg y∧RVs s l y.toList:=by
 unfold RV RVs
 rw [R2]
theorem RV_tup {l:List PV} {x:Value}:RV s (.tup l) x↔∃ y,x=.tuple y∧RVs s l y.toList:=by
 unfold RV RVs
 rw [R2];rfl
theorem RV_lit {a:AV} {x:Value}:RV s (.lit a) x↔AV.plain a=true∧VR noEnv a x:=by
 unfold RV
 rw [R2];rfl
theorem RV_ifc {t:TypeId} {v:PV} {x:Value}:RV s (.ifc t v) x↔∃ y,x=.iface t y∧RV s v y:=by
 unfold RV
 rw [R2];rfl
theorem RV_fn {f:Fn} {a b:List PV} {x:Value}:RV s (.fn f a b) x↔∃ y z,x=.func f y z∧RVs s a y.toList∧RVs s b z.toList:=by
 unfold RV RVs
 rw [R2];rfl
theorem RV_fp {v:PV} {x:Value}:RV s (.fp v) x↔∃ k o,x=.pointer (some ⟨k,o,none⟩)∧RM s v k o:=by
 unfold RV RM
 rw [R2];rfl
theorem RV_ptr {i o:Nat} {x:Value}:RV s (.ptr i o) x↔i < s.h.next∧x=.pointer (some ⟨s.e i,o,none⟩):=by
 unfold RV
 rw [R2];rfl
theorem RV_ms {i o len cap:Nat} {ez:Option Nat} {x:Value}:RV s (.ms i o len cap ez) x↔i < s.h.next∧x=.slice (some ⟨s.e i,o,none⟩) len cap:=by
 unfold RV
 rw [R2];rfl
theorem RV_mp {i:Nat} {x:Value}:RV s (.mp i) x↔i < s.h.next∧x=.map (some (s.e i)):=by
 unfold RV
 rw [R2];rfl
theorem RV_yld {i:Nat} {x:Value}:RV s (.yld i) x↔i < s.h.next∧x=.func (.yield (s.e i)) #[] #[]:=by
 unfold RV
 rw [R2];rfl
theorem RV_sl {tl:Tail} {l:List PV} {x:Value}:RV s (.sl tl l) x↔(l=[]∧tl.isOwn=false∧∃ a,x=.slice a 0 0) ∨
   ∃ k o c sz,x=.slice (some ⟨k,o,none⟩) l.length c∧l.length≤c∧REs s l sz k o∧TailOk s tl k o l.length c sz:=by
 unfold RV REs
 rw [R2];rfl
mutual
def PV.ofAV:AV→Option PV
 |.nilsl=>some (.sl .ex [])
 |.agg l=>match PV.ofAVs l with
  |some l=>some (.agg l)
  |none=>none
 |.tup l=>match PV.ofAVs l with
  |some l=>some (.tup l)
  |none=>none
 |.ifc t a=>match PV.ofAV a with
  |some v=>some (.ifc t v)
  |none=>none
 |.fn f a b=>match PV.ofAVs a,PV.ofAVs b with
  |some a,some b=>some (.fn f a b)
  |_,_=>none
 |.bool b=>some (.lit (.bool b))
 |.int k n=>some (.lit (.int k n))
 |.str b=>some (.lit (.str b))
 |.nilptr=>some (.lit .nilptr)
 |.nilmap=>some (.lit .nilmap)
 |.nilfn=>some (.lit .nilfn)
 |.nilifc=>some (.lit .nilifc)
 |_=>none
def PV.ofAVs:List AV→Option (List PV)
 |[]=>some []
 |a::as=>match PV.ofAV a,PV.ofAVs as with
  |some v,some vs=>some (v::vs)
  |_,_=>none
end
mutual
theorem PV.ofAV_ok:∀ (a:AV) (v:PV) (x:Value),PV.ofAV a=some v→VR noEnv a x→RV s v x
 |.nilsl,v,x,h,hx=>by
  simp only [PV.ofAV,Option.some.injEq] at h
  subst h
  exact RV_sl.2 (.inl ⟨rfl,rfl,none,by simpa only [VR] using hx⟩)
 |.agg l,v,x,h,hx=>by
  simp only [PV.ofAV] at h
  split at h
  ·next l' hl =>
   cases h
   simp only [VR] at hx
   obtain ⟨y,h1,h2⟩:=hx
   exact RV_agg.2 ⟨y,h1,PV.ofAVs_ok l l' _ hl h2⟩
  ·cases h
 |.tup l,v,x,h,hx=>by
  simp only [PV.ofAV] at h
  split at h
  ·next l' hl =>
   cases h
   simp only [VR] at hx
   obtain ⟨y,h1,h2⟩:=hx
   exact RV_tup.2 ⟨y,h1,PV.ofAVs_ok l l' _ hl h2⟩
  ·cases h
 |.ifc t a,v,x,h,hx=>by
  simp only [PV.ofAV] at h
  split at h
  ·next v' hl =>
   cases h
   simp only [VR] at hx
   obtain ⟨y,h1,h2⟩:=hx
   exact RV_ifc.2 ⟨y,h1,PV.ofAV_ok a v' _ hl h2⟩
  ·cases h
 |.fn f a b,v,x,h,hx=>by
  simp only [PV.ofAV] at h
  split at h
  ·next a' b' ha hb =>
   cases h
   simp only [VR] at hx
   obtain ⟨y,z,h1,h2,h3⟩:=hx
   exact RV_fn.2 ⟨y,z,h1,PV.ofAVs_ok a a' _ ha h2,PV.ofAVs_ok b b' _ hb h3⟩
  ·cases h
 |.bool b,v,x,h,hx=>by cases h;exact RV_lit.2 ⟨rfl,hx⟩
 |.int k n,v,x,h,hx=>by cases h;exact RV_lit.2 ⟨rfl,hx⟩
 |.str b,v,x,h,hx=>by cases h;exact RV_lit.2 ⟨rfl,hx⟩
 |.nilptr,v,x,h,hx=>by cases h;exact RV_lit.2 ⟨rfl,hx⟩
 |.nilmap,v,x,h,hx=>by cases h;exact RV_lit.2 ⟨rfl,hx⟩
 |.nilfn,v,x,h,hx=>by cases h;exact RV_lit.2 ⟨rfl,hx⟩
 |.nilifc,v,x,h,hx=>by cases h;exact RV_lit.2 ⟨rfl,hx⟩
theorem PV.ofAVs_ok:∀ (l:List AV) (l':List PV) (xs:List Value),PV.ofAVs l=some l'→VRs noEnv l xs→RVs s l' xs
 |[],l',xs,h,hx=>by
  cases h
  exact RVs_nil.2 (by simpa only [VRs] using hx)
 |a::as,l',xs,h,hx=>by
  simp only [PV.ofAVs] at h
  split at h
  ·next v vs h1 h2 =>
   cases h
   simp only [VRs] at hx
   obtain ⟨y,ys,rfl,h3,h4⟩:=hx
   exact RVs_cons.2 ⟨y,ys,rfl,PV.ofAV_ok a v _ h1 h3,PV.ofAVs_ok as vs _ h2 h4⟩
  ·cases h
end
mutual
def PV.toAV:PV→Option AV
 |.lit a=>some a
 |.agg l=>match PV.toAVs l with
  |some l=>some (.agg l)
  |none=>none
 |.tup l=>match PV.toAVs l with
  |some l=>some (.tup l)
  |none=>none
 |.ifc t v=>match PV.toAV v with
  |some a=>some (.ifc t a)
  |none=>none
 |_=>none
def PV.toAVs:List PV→Option (List AV)
 |[]=>some []
 |v::vs=>match PV.toAV v,PV.toAVs vs with
  |some a,some as=>some (a::as)
  |_,_=>none
end
mutual
theorem PV.toAV_ok:∀ (v:PV) (a:AV) (x:Value),PV.toAV v=some a→RV s v x→VR noEnv a x
 |.lit a,_,x,h,hx=>by cases h;exact (RV_lit.1 hx).2
 |.agg l,a,x,h,hx=>by
  simp only [PV.toAV] at h
  split at h
  ·next l' hl =>
   cases h
   obtain ⟨y,h1,h2⟩:=RV_agg.1 hx
   simp only [VR]
   exact ⟨y,h1,PV.toAVs_ok l l' _ hl h2⟩
  ·cases h
 |.tup l,a,x,h,hx=>by
  simp only [PV.toAV] at h
  split at h
  ·next l' hl =>
   cases h
   obtain ⟨y,h1,h2⟩:=RV_tup.1 hx
   simp only [VR]
   exact ⟨y,h1,PV.toAVs_ok l l' _ hl h2⟩
  ·cases h
 |.ifc t v,a,x,h,hx=>by
  simp only [PV.toAV] at h
  split at h
  ·next a' hl =>
   cases h
   obtain ⟨y,h1,h2⟩:=RV_ifc.1 hx
   simp only [VR]
   exact ⟨y,h1,PV.toAV_ok v a' _ hl h2⟩
  ·cases h
 |.sl _ _,_,_,h,_=>by cases h
 |.fp _,_,_,h,_=>by cases h
 |.ptr _ _,_,_,h,_=>by cases h
 |.ms _ _ _ _ _,_,_,h,_=>by cases h
 |.mp _,_,_,h,_=>by cases h
 |.fn _ _ _,_,_,h,_=>by cases h
 |.yld _,_,_,h,_=>by cases h
 |.fm _ _,_,_,h,_=>by cases h
theorem PV.toAVs_ok:∀ (l:List PV) (l':List AV) (xs:List Value),PV.toAVs l=some l'→RVs s l xs→VRs noEnv l' xs
 |[],l',xs,h,hx=>by
  cases h
  simp only [VRs]
  exact RVs_nil.1 hx
 |v::vs,l',xs,h,hx=>by
  simp only [PV.toAVs] at h
  split at h
  ·next a as h1 h2 =>
   cases h
   obtain ⟨y,ys,rfl,h3,h4⟩:=RVs_cons.1 hx
   simp only [VRs]
   exact ⟨y,ys,rfl,PV.toAV_ok v a _ h1 h3,PV.toAVs_ok vs as _ h2 h4⟩
  ·cases h
end
theorem back_ok {a:AV} {v:PV} (h:PV.ofAV a=some v) {x:Value} (hx:VR noEnv a x):RV s v x:=PV.ofAV_ok a v x h hx
def zcells (z:Value):Option (List PV) :=
 match ofCells z.cells.toList with
 |some as=>PV.ofAVs as
 |none=>none
theorem zcells_ok {z:Value} {cs:List PV} (h:zcells z=some cs):RVs s cs z.cells.toList:=by
 unfold zcells at h
 split at h
 ·next as ha=>exact PV.ofAVs_ok as cs _ h (ofCells_ok (m:=noEnv) ha)
 ·cases h
def zval (z:Value):Option PV :=
 match ofValue z with
 |some a=>PV.ofAV a
 |none=>none
theorem zval_ok {z:Value} {v:PV} (h:zval z=some v):RV s v z:=by
 unfold zval at h
 split at h
 ·next a ha=>exact PV.ofAV_ok a v _ h (ofValue_ok (m:=noEnv) ha)
 ·cases h
end
end Go.Pv
namespace Go.Pv
open Go.Am Go.RowKit
def pputAt:List PV→Nat→List PV→List PV
 |[],_,_=>[]
 |c::cs,0,[]=>c::cs
 |_::cs,0,v::vs=>v::pputAt cs 0 vs
 |c::cs,n+1,vs=>c::pputAt cs n vs
theorem length_pputAt:∀ (l:List PV) (n:Nat) (vs:List PV),(pputAt l n vs).length=l.length
 |[],_,_=>rfl
 |_::_,0,[]=>rfl
 |_::cs,0,_::vs=>by simp [pputAt,length_pputAt cs 0 vs]
 |_::cs,n+1,vs=>by simp [pputAt,length_pputAt cs n vs]
theorem get_pputAt:∀ (l:List PV) (n:Nat) (vs:List PV) (i:Nat),i < l.length →
  (pputAt l n vs)[i]?=if n≤i∧i < n+vs.length then vs[i - n]? else l[i]?
 |[],n,vs,i,h=>by simp at h
 |c::cs,0,[],i,h=>by
  rw [if_neg (by simp)]
  rfl
 |c::cs,0,v::vs,i,h=>by
  cases i with
  |zero=>simp [pputAt]
  |succ i =>
   simp only [pputAt,List.getElem?_cons_succ]
   rw [get_pputAt cs 0 vs i (by simpa using h)]
   simp only [Nat.zero_le,Nat.zero_add,List.length_cons,Nat.sub_zero,true_and,Nat.add_lt_add_iff_right,List.getElem?_cons_succ]
 |c :: cs, n + 1, vs, i, h => by
  cases i with
  |zero=>simp [pputAt]
  |succ i =>
   simp only [pputAt,List.getElem?_cons_succ]
   rw [get_pputAt cs n vs i (by simpa using h)]
   by_cases hc:n≤i∧i < n+vs.length
   ·rw [if_pos hc,if_pos ⟨by omega,by omega⟩]
    congr 1
    omega
   ·rw [if_neg hc,if_neg (by omega)]
def pfill (place:Nat→Option (Nat×Nat)):List PV→List (Nat×PV)→Option (List PV)
 |cells,[]=>some cells
 |cells,(i,v)::rest=>match place i with
  |none=>none
  |some (off,size)=>match v.cells.length == size && Nat.ble (off+size) cells.length with
   |true=>pfill place (pputAt cells off v.cells) rest
   |false=>none
def PPR (s:St):List (Nat×PV)→List (Nat×Value)→Prop
 |[],xs=>xs=[]
 |a::as,xs=>∃ y ys,xs=y::ys∧a.1=y.1∧RV s a.2 y.2∧PPR s as ys
theorem pfill_ok {s:St} (place:Nat→Option (Nat×Nat)):∀ (parts:List (Nat×PV)) (cells out:List PV) (xs:Array Value) (ps:List (Nat×Value)),pfill place cells parts=some out→RVs s cells xs.toList→PPR s parts ps→∃ ys:Array Value,Instr.fill place xs ps=some ys∧RVs s out ys.toList
 |[],cells,out,xs,ps,h,hc,hp=>by
  simp only [pfill,Option.some.injEq] at h
  simp only [PPR] at hp
  subst h hp
  exact ⟨xs,rfl,hc⟩
 |(i, v) :: rest, cells, out, xs, ps, h, hc, hp => by
  simp only [PPR] at hp
  obtain ⟨⟨j,x⟩,ps',rfl,e1,e2,e3⟩:=hp
  simp only at e1 e2
  subst e1
  simp only [pfill] at h
  split at h
  ·cases h
  next off size hpl =>
  split at h
  case h_2=>cases h
  next hb =>
  simp only [Bool.and_eq_true,beq_iff_eq,Nat.ble_eq] at hb
  obtain ⟨hb1,hb2⟩:=hb
  have hvc:=e2.cells
  have hvl:=hvc.length
  have hcl:=hc.length
  have hxl:x.cells.size=size:=by simp at hvl;omega
  have hput:=foldl_put off x.cells.toList 0 xs (by simp at hvl hcl ⊢;omega)
  have hfold:x.cells.zipIdx.foldl (fun cs (c,j)=>cs.setIfInBounds (off+j) c) xs=(x.cells.toList.zipIdx 0).foldl (fun cs (c,j)=>cs.setIfInBounds (off+j) c) xs:=by
   rw [← Array.foldl_toList]
   simp
  have hnew:RVs s (pputAt cells off v.cells) (x.cells.zipIdx.foldl (fun cs (c,j)=>cs.setIfInBounds (off+j) c) xs).toList:=by
   rw [hfold]
   refine RVs.of_get (by rw [Array.length_toList,hput.1,length_pputAt];simpa using hcl) fun k a y ha hy=>?_
   rw [Array.getElem?_toList,hput.2] at hy
   have hk:k < cells.length:=by
    have:=(List.getElem?_eq_some_iff.1 ha).1
    rwa [length_pputAt] at this
   rw [get_pputAt _ _ _ _ hk] at ha
   have hsame:x.cells.toList.length=v.cells.length:=hvl
   by_cases hin:off≤k∧k < off+v.cells.length
   ·rw [if_pos hin] at ha
    rw [if_pos (by omega)] at hy
    obtain ⟨z,z1,z2⟩:=hvc.get ha
    rw [show k - (off+0)=k - off from by omega] at hy
    rw [z1] at hy
    cases hy
    exact z2
   ·rw [if_neg hin] at ha
    rw [if_neg (by omega)] at hy
    obtain ⟨z,z1,z2⟩:=hc.get ha
    rw [Array.getElem?_toList] at z1
    rw [z1] at hy
    cases hy
    exact z2
  obtain ⟨ys,y1,y2⟩:=pfill_ok place rest _ out _ ps' h hnew e3
  refine ⟨ys,?_,y2⟩
  simp only [Instr.fill,hpl]
  rw [if_neg (by simp at hcl;simp;omega)]
  exact y1
def pbuild (A : AP) (t : TypeId) (parts : List (Nat × PV)) : Option PV :=
 match A.info t,A.under t with
 |some it,some (.struct fields)=>match it.zero with
  |some z=>match zcells z,aplaces A fields.toList with
   |some cs,some places=>match pfill (fun i=>places[i]?) cs parts with
    |some out=>some (.agg out)
    |none=>none
   |_,_=>none
  |none=>none
 |some it,some (.array _ e)=>match it.zero,A.info e with
  |some z,some ie=>match zcells z with
   |some cs=>match pfill (fun i=>some (i * ie.size,ie.size)) cs parts with
    |some out=>some (.agg out)
    |none=>none
   |none=>none
  |_,_=>none
 |_,_=>none
def pcopies (l:List PV):Nat→List PV
 |0=>[]
 |n+1=>l++pcopies l n
def pbuildCells (A : AP) (t : TypeId) (len : Nat) (parts : List (Nat × PV)) : Option (TypeId × List PV) :=
 match A.under t with
 |some (.slice e)=>match A.info e with
  |some ie=>match len with
   |0=>match parts with
    |[]=>some (e,[])
    |_::_=>none
   |_ + 1 => match ie.zero with
    |some z=>match z.cells.size == ie.size && Nat.ble 1 ie.size && Nat.ble (len * ie.size) 16777216,zcells z with
     |true,some cs=>match pfill (fun i=>some (i * ie.size,ie.size)) (pcopies cs len) parts with
      |some out=>some (e,out)
      |none=>none
     |_,_=>none
    |none=>none
  |none=>none
 |_=>none
section
variable {s:St} {w:World} {A:AP} {P:Program}
theorem pbuild_ok (hA:A.Ok P) {t:TypeId} {parts:List (Nat×PV)} {v:PV} (h:pbuild A t parts=some v) {ps:Array (Nat×Value)} (hp:PPR s parts ps.toList) :
  ∃ r,(Instr.build t ps).run P w=.ok r w∧RV s v r:=by
 unfold pbuild at h
 split at h
 ·next it fields hi hu =>
  split at h
  ·next z hz =>
   split at h
   ·next cs places hcs hpl =>
    split at h
    ·next out hout =>
     cases h
     obtain ⟨ys,y1,y2⟩:=pfill_ok _ parts _ out z.cells ps.toList hout (zcells_ok hcs) hp
     refine ⟨.agg ys,run_build w t ps ys ?_,RV_agg.2 ⟨_,rfl,y2⟩⟩
     unfold Program.built
     simp only [hA.info _ _ hi,hA.under_ok hu,hz,aplaces_ok hA _ _ hpl]
     have e:(fun i=>places.toArray[i]?)=fun i:Nat=>places[i]?:=funext fun i=>by simp
     rw [e]
     exact y1
    ·cases h
   ·cases h
  ·cases h
 ·next it n e hi hu =>
  split at h
  ·next z ie hz hie =>
   split at h
   ·next cs hcs =>
    split at h
    ·next out hout =>
     cases h
     obtain ⟨ys,y1,y2⟩:=pfill_ok _ parts _ out z.cells ps.toList hout (zcells_ok hcs) hp
     refine ⟨.agg ys,run_build w t ps ys ?_,RV_agg.2 ⟨_,rfl,y2⟩⟩
     unfold Program.built
     simp only [hA.info _ _ hi,hA.under_ok hu,hz,hA.info _ _ hie]
     exact y1
    ·cases h
   ·cases h
  ·cases h
 ·cases h
theorem length_pcopies (l:List PV):∀ n,(pcopies l n).length=n * l.length
 |0=>by simp [pcopies]
 |n+1=>by simp [pcopies,length_pcopies l n,Nat.add_mul,Nat.add_comm]
theorem get_pcopies (l:List PV) (hl:0 < l.length):∀ (n i:Nat),i < n * l.length→(pcopies l n)[i]?=l[i % l.length]?
 |0,i,h=>by simp at h
 |n+1,i,h=>by
  simp only [pcopies]
  rcases Nat.lt_or_ge i l.length with h1 | h1
  ·rw [List.getElem?_append_left h1,Nat.mod_eq_of_lt h1]
  ·rw [Nat.add_mul] at h
   rw [List.getElem?_append_right h1,get_pcopies l hl n _ (by omega),← Nat.mod_eq_sub_mod h1]
theorem pbuildCells_ok (hA:A.Ok P) {t e:TypeId} {len:Nat} {parts:List (Nat×PV)} {cs:List PV} (h:pbuildCells A t len parts=some (e,cs)) {ps:Array (Nat×Value)} (hp:PPR s parts ps.toList) :
  ∃ xs:Array Value,RVs s cs xs.toList∧(Instr.buildSlice t len ps).run P w=.ok (.slice (some ⟨w.heap.size,0,none⟩) len len) (w.alloc (.cells xs e)):=by
 unfold pbuildCells at h
 split at h
 case h_2=>cases h
 next el hu =>
 split at h
 case h_2=>cases h
 next ie hie =>
 have hu':=hA.under_ok hu
 have hi:=hA.info _ _ hie
 split at h
 ·split at h
  ·cases h
   simp only [PPR] at hp
   have hp':ps=#[]:=by simpa using hp
   subst hp'
   refine ⟨#[],RVs_nil.2 rfl,?_⟩
   have e0:∀ (f:Nat→Value),Array.map f (Array.range 0)=#[]:=fun f=>by simp [Array.range]
   simp [Instr.buildSlice,run_underlying hu',sizeOf,typeInfo,hi,Instr.fill,newRow,e0]
  ·cases h
 ·next k =>
  split at h
  case h_2=>cases h
  next z hz =>
  split at h
  case h_2=>cases h
  next cs0 hb hcs =>
  split at h
  case h_2=>cases h
  next out hout =>
  cases h
  simp only [Bool.and_eq_true,beq_iff_eq,Nat.ble_eq] at hb
  obtain ⟨⟨hb1,hb2⟩,hb3⟩:=hb
  have hc0:=zcells_ok (s:=s) hcs
  have hcl:z.cells.size=cs0.length:=by simpa using hc0.length
  have hz0:RVs s (pcopies cs0 (k+1)) ((Array.range ((k+1) * ie.size)).map (z.cells[· % z.cells.size]!)).toList:=by
   refine RVs.of_get (by rw [length_pcopies];simp;rw [← hcl,hb1]) fun i a y ha hy=>?_
   have hlt:i < (k+1) * cs0.length:=by
    have:=(List.getElem?_eq_some_iff.1 ha).1
    rwa [length_pcopies] at this
   rw [get_pcopies cs0 (by omega) _ _ hlt] at ha
   obtain ⟨u,u1,u2⟩:=hc0.get ha
   have hmod:i % cs0.length < z.cells.size:=by rw [hcl];exact Nat.mod_lt _ (by omega)
   have hlt':i < (k+1) * ie.size:=by rw [← hb1,hcl];exact hlt
   simp [hlt'] at hy
   rw [hcl] at hy
   rw [Array.getElem?_toList] at u1
   rw [← hy,getElem!_pos z.cells _ hmod]
   rw [Array.getElem?_eq_getElem hmod] at u1
   cases u1
   exact u2
  obtain ⟨ys,y1,y2⟩:=pfill_ok _ parts _ cs _ ps.toList hout hz0 hp
  refine ⟨ys,y2,?_⟩
  refine run_buildSlice w t e (k+1) ps ys ie z hu' hi hz ?_ ?_ y1
  ·have e24:(2:Nat) ^ 24=16777216:=rfl
   rw [e24]
   exact Nat.not_lt.2 hb3
  ·have:1 * 1≤(k+1) * ie.size:=Nat.mul_le_mul (by omega) hb2
   omega
end
end Go.Pv
namespace Go.Pv
open Go.Am Go.RowKit
def pev (t:Nat→Option PV):Operand→Option PV
 |.tmp i=>t i
 |.const v=>zval v
 |.global _=>none
 |.func f=>some (.fn (.func f) [] [])
def pargs (ρ:Operand→Option PV):List Operand→Option (List PV)
 |[]=>some []
 |x::xs=>match ρ x with
  |some v=>match pargs ρ xs with
   |some vs=>some (v::vs)
   |none=>none
  |none=>none
def pparts (ρ:Operand→Option PV):List (Nat×Operand)→Option (List (Nat×PV))
 |[]=>some []
 |x::xs=>match ρ x.2 with
  |some v=>match pparts ρ xs with
   |some vs=>some ((x.1,v)::vs)
   |none=>none
  |none=>none
def ppart (A:AP) (t:TypeId) (cs:List PV) (off:Nat):Option PV :=
 match A.under t,A.info t with
 |some d,some ti=>match isAggB d with
  |true=>some (.agg ((cs.drop off).take ti.size))
  |false=>cs[off]?
 |_,_=>none
def pfollow (A : AP) : List FieldStep → TypeId → PV → Option (TypeId × PV)
 |[],t,v=>some (t,v)
 |s :: rest, _, v => match s.deref, A.under s.struct, v with
  |false,some (.struct fields),.agg cs=>match fields.toList[s.index]? with
   |some f=>match ppart A f.type cs f.offset with
    |some u=>pfollow A rest f.type u
    |none=>none
   |none=>none
  |_,_,_=>none
def pmethod (A : AP) (t : TypeId) (v : PV) (name : String) : Option (FuncId × PV) :=
 match A.info t with
 |some ti=>match ti.methods.toList.find? (·.name == name) with
  |some mt=>match pfollow A mt.path.toList t v with
   |some (xt,u)=>match mt.func,A.under xt with
    |some (f,ptr),some d=>match ptr == isPtrB d with
     |true=>some (f,u)
     |false=>none
    |_,_=>none
   |none=>none
  |none=>none
 |none=>none
def pload (A : AP) (h : PH) (t : TypeId) (v : PV) : Option PV :=
 match A.under t,A.info t with
 |some d,some ti=>match v with
  |.fp u=>match isAggB d,u with
   |true,.agg l=>match Nat.beq l.length ti.size with
    |true=>some (.agg l)
    |false=>none
   |true,_=>none
   |false,.agg _=>none
   |false,u=>some u
  |.ptr i o=>match h.get i with
   |some (.cells l)=>match isAggB d with
    |true=>match Nat.ble (o+ti.size) l.length with
     |true=>some (.agg ((l.drop o).take ti.size))
     |false=>none
    |false=>l[o]?
   |_=>none
  |_=>none
 |_,_=>none
def pnilCheck (A:AP):PV→Bool
 |.fp _=>true
 |.ptr _ _=>true
 |.ifc _ _=>true
 |.fn (.func _) _ _=>true
 |.fn (.method name) (.ifc t v::_) _=>match pmethod A t v name with
  |some _=>true
  |none=>false
 |_=>false
def pnil (A:AP) (t:TypeId) (x y:PV):Option Bool :=
 match A.under t,x,y with
 |some (.interface _),.lit .nilifc,.ifc _ _=>some false
 |some (.interface _),.ifc _ _,.lit .nilifc=>some false
 |some (.func _ _ _),.fn _ _ _,.lit .nilfn=>some false
 |some (.pointer _),.fp _,.lit .nilptr=>some false
 |some (.pointer _),.ptr _ _,.lit .nilptr=>some false
 |_,_,_=>none
def plit (o:Option AV):Option PV :=
 match o with
 |some a=>PV.ofAV a
 |none=>none
def pcmp (op:BinOp) (b:Bool):Option PV :=
 match op with
 |.eql=>some (.lit (.bool b))
 |.neq=>some (.lit (.bool (!b)))
 |_=>none
def pbin (A:AP) (E:Eqs) (op:BinOp) (t:TypeId) (xo yo:Operand) (x y:PV):Option PV :=
 match PV.toAV x,PV.toAV y with
 |some a,some b=>match bothNil a b with
  |true=>plit (anils A op t xo yo)
  |false=>match pnil A t x y with
   |some b=>pcmp op b
   |none=>plit (abin A E op t a b)
 |_,_=>match pnil A t x y with
  |some b=>pcmp op b
  |none=>none
def pun (op:UnOp) (x:PV):Option PV :=
 match x with
 |.lit a=>plit (aun op a)
 |_=>none
def pconv (A:AP) (src dst:TypeId) (x:PV):Option PV :=
 match x with
 |.lit a=>plit (aconv A src dst a)
 |_=>none
def pmakeInterface (A:AP) (t:TypeId) (x:PV):Option PV :=
 match A.under t with
 |some (.interface _)=>none
 |some _=>some (.ifc t x)
 |none=>none
def pbound (x:Option PV) (dflt y:Nat):Option Nat :=
 match x with
 |none=>some dflt
 |some (.lit (.int _ i))=>aidx i (y+1)
 |some _=>none
def popt (ρ:Operand→Option PV):Option Operand→Option (Option PV)
 |none=>some none
 |some x=>match ρ x with
  |some v=>some (some v)
  |none=>none
def stail (tl:Tail) (h n:Nat):Tail :=
 match tl with
 |.ex=>match Nat.beq h n with
  |true=>.ex
  |false=>.no
 |_=>.no
def pslice (A : AP) (t : TypeId) (x : PV) (lo hi : Option PV) : Option PV :=
 match A.under t,x with
 |some (.slice e),.sl tl l=>match A.info e with
  |some ti=>match pbound hi l.length l.length with
   |some h=>match pbound lo 0 h with
    |some n=>match l.all (fun v=>Nat.beq v.nc ti.size) with
     |true=>some (.sl (stail tl h l.length) ((l.take h).drop n))
     |false=>none
    |none=>none
   |none=>none
  |none=>none
 |some (.slice e),.ms i o len cap ez=>match A.info e with
  |some ti=>match Nat.ble len cap,pbound hi len cap with
   |true,some h=>match pbound lo 0 h with
    |some n=>match Nat.beq cap n with
     |true=>some (.ms i o (h - n) 0 ez)
     |false=>some (.ms i (o+n * ti.size) (h - n) (cap - n) ez)
    |none=>none
   |_,_=>none
  |none=>none
 |some .string,.lit (.str s)=>match pbound hi s.size s.size with
  |some h=>match pbound lo 0 h with
   |some l=>some (.lit (.str (s.extract l h)))
   |none=>none
  |none=>none
 |some (.array n e),.fp (.agg vs)=>match A.info e,lo with
  |some ti,none=>match Nat.beq ti.size 1,Nat.beq vs.length n,vs.all (fun v=>!v.isAgg) with
   |true,true,true=>match hi with
    |none=>some (.sl .ex vs)
    |some hv=>match pbound (some hv) vs.length vs.length with
     |some h=>some (.sl .no (vs.take h))
     |none=>none
   |_,_,_=>none
  |_,_=>none
 |_,_=>none
def pslice3 (A : AP) (t : TypeId) (x lo hi mx : PV) : Option PV :=
 match A.under t,x with
 |some (.slice e),.ms i o _ cap ez=>match A.info e with
  |some ti=>match pbound (some mx) 0 cap with
   |some m=>match pbound (some hi) 0 m with
    |some h=>match pbound (some lo) 0 h with
     |some n=>match Nat.beq m n with
      |true=>some (.ms i o (h - n) 0 ez)
      |false=>some (.ms i (o+n * ti.size) (h - n) (m - n) ez)
     |none=>none
    |none=>none
   |none=>none
  |none=>none
 |_,_=>none
def pfieldAddr (A : AP) (s : TypeId) (x : PV) (f : Nat) : Option PV :=
 match A.under s with
 |some (.struct fields) => match fields.toList[f]? with
  |some fd=>match x with
   |.fp (.agg cs)=>match A.info fd.type with
    |some ti=>match Nat.ble 1 ti.size,ppart A fd.type cs fd.offset with
     |true,some v=>match A.under fd.type with
      |some d=>match isAggB d,v.isAgg with
       |true,_=>some (.fp v)
       |false,false=>some (.fp v)
       |false,true=>none
      |none=>none
     |_,_=>none
    |none=>none
   |.ptr i o=>match A.info fd.type with
    |some ti=>match ti.size with
     |0=>none
     |_+1=>some (.ptr i (o+fd.offset))
    |none=>none
   |_=>none
  |none=>none
 |_=>none
def pfield (A:AP) (t:TypeId) (x:PV) (f:Nat):Option PV :=
 match A.under t,x with
 |some (.struct fields),.agg cs=>match fields.toList[f]? with
  |some fd=>ppart A fd.type cs fd.offset
  |none=>none
 |_,_=>none
def pindexAddr (A : AP) (t : TypeId) (x ix : PV) : Option PV :=
 match ix with
 |.lit (.int _ i)=>match A.under t,x with
  |some (.slice e),.sl _ l=>match aidx i l.length,A.info e with
   |some n,some ti=>match l[n]? with
    |some v=>match Nat.beq v.nc ti.size with
     |true=>some (.fp v)
     |false=>none
    |none=>none
   |_,_=>none
  |some (.slice e),.ms i0 o len _ _=>match aidx i len,A.info e with
   |some n,some ti=>some (.ptr i0 (o+n * ti.size))
   |_,_=>none
  |some (.array len e),.ptr i0 o=>match aidx i len,A.info e with
   |some n,some ti=>some (.ptr i0 (o+n * ti.size))
   |_,_=>none
  |some (.array len e),.fp (.agg cs)=>match aidx i len,A.info e with
   |some n,some ti=>match ppart A e cs (n * ti.size),A.under e with
    |some v,some d=>match isAggB d,v.isAgg with
     |true,_=>some (.fp v)
     |false,false=>some (.fp v)
     |false,true=>none
    |_,_=>none
   |_,_=>none
  |_,_=>none
 |_=>none
def pindex (A : AP) (t : TypeId) (x ix : PV) : Option PV :=
 match ix with
 |.lit (.int _ i)=>match A.under t,x with
  |some (.array len e),.agg cs=>match aidx i len,A.info e with
   |some n,some ti=>ppart A e cs (n * ti.size)
   |_,_=>none
  |some .string,.lit (.str s)=>match aidx i s.size with
   |some n=>match s[n]? with
    |some b=>some (.lit (.int .u8 b.toNat))
    |none=>none
   |none=>none
  |_,_=>none
 |_=>none
def ptypeAssert (A : AP) (x : PV) (asserted : TypeId) (ok : Bool) : Option PV :=
 match A.under asserted with
 |some (.interface _)=>none
 |none=>none
 |some _=>match x with
  |.ifc t v=>match Nat.beq t asserted with
   |true=>some (match ok with
    |true=>.tup [v,.lit (.bool true)]
    |false=>v)
   |false=>match ok,A.info asserted with
    |true,some ti=>match ti.zero with
     |some z=>match zval z with
      |some z=>some (.tup [z,.lit (.bool false)])
      |none=>none
     |none=>none
    |_,_=>none
  |.lit .nilifc=>match ok,A.info asserted with
   |true,some ti=>match ti.zero with
    |some z=>match zval z with
     |some z=>some (.tup [z,.lit (.bool false)])
     |none=>none
    |none=>none
   |_,_=>none
  |_=>none
def plen (A:AP) (h:PH) (t:TypeId) (x:PV):Option PV :=
 match A.under t,x with
 |some (.slice _),.sl _ l=>some (.lit (.int .i64 (.ofNat l.length)))
 |some (.slice _),.ms _ _ len _ _=>some (.lit (.int .i64 (.ofNat len)))
 |some .string,.lit (.str s)=>some (.lit (.int .i64 (.ofNat s.size)))
 |some (.map _ _),.lit .nilmap=>some (.lit (.int .i64 0))
 |some (.map _ _),.mp i=>match h.get i with
  |some (.map es _)=>some (.lit (.int .i64 (.ofNat es.length)))
  |_=>none
 |_,_=>none
def pminmax (mx:Bool) (x:PV) (xs:List PV):Option PV :=
 match PV.toAV x,PV.toAVs xs with
 |some a,some as=>plit (aminmax mx a as)
 |_,_=>none
section
variable {s:St} {A:AP} {P:Program} {E:Eqs}
theorem pev_ok {t:Nat→Option PV} {a:Act} (ht:TV s t a.tmps):∀ x v,pev t x=some v→RV s v (a.eval x):=by
 intro x v h
 cases x with
 |tmp i =>
  obtain ⟨y,h1,h2⟩:=ht i v h
  show RV s v (a.tmps.getD i undef)
  rw [Array.getD_eq_getD_getElem?,h1]
  exact h2
 |const c=>exact zval_ok h
 |global g=>cases h
 |func f =>
  cases h
  exact RV_fn.2 ⟨#[],#[],rfl,RVs_nil.2 rfl,RVs_nil.2 rfl⟩
theorem pargs_ok {ρ:Operand→Option PV} {ρ':Operand→Value} (hρ:∀ x v,ρ x=some v→RV s v (ρ' x)):∀ (l:List Operand) (vs:List PV),pargs ρ l=some vs→RVs s vs (l.map ρ')
 |[],vs,h=>by cases h;exact RVs_nil.2 rfl
 |x :: xs, vs, h => by
  simp only [pargs] at h
  split at h
  ·next v hv =>
   split at h
   ·next vs' hvs =>
    cases h
    exact RVs_cons.2 ⟨_,_,rfl,hρ _ _ hv,pargs_ok hρ xs vs' hvs⟩
   ·cases h
  ·cases h
theorem pparts_ok {ρ:Operand→Option PV} {ρ':Operand→Value} (hρ:∀ x v,ρ x=some v→RV s v (ρ' x)):∀ (l:List (Nat×Operand)) (vs:List (Nat×PV)),pparts ρ l=some vs→PPR s vs (l.map fun p=>(p.1,ρ' p.2))
 |[],vs,h=>by cases h;simp only [PPR,List.map_nil]
 |x :: xs, vs, h => by
  simp only [pparts] at h
  split at h
  ·next v hv =>
   split at h
   ·next vs' hvs =>
    cases h
    simp only [PPR,List.map_cons]
    exact ⟨_,_,rfl,rfl,hρ _ _ hv,pparts_ok hρ xs vs' hvs⟩
   ·cases h
  ·cases h
theorem ppart_ok (hA:A.Ok P) {t:TypeId} {cs:List PV} {off:Nat} {v:PV} (h:ppart A t cs off=some v) {xs:Array Value} (hx:RVs s cs xs.toList) (w:World) :
  ∃ r,(part t xs off).run P w=.ok r w∧RV s v r:=by
 unfold ppart at h
 split at h
 case h_2=>cases h
 next d ti hu hi =>
 have hag:=run_isAgg (w:=w) (hA.under_ok hu)
 split at h
 ·next hd =>
  rw [hd] at hag
  cases h
  refine ⟨.agg (xs.extract off (off+ti.size)),?_,RV_agg.2 ⟨_,rfl,?_⟩⟩
  ·simp [part,hag,sizeOf,run_typeInfo' (hA.info _ _ hi)]
  ·have:=(hx.drop off).take ti.size
   rw [Array.toList_extract,List.extract_eq_take_drop]
   rw [show off+ti.size - off=ti.size from by omega]
   exact this
 ·next hd =>
  rw [hd] at hag
  obtain ⟨y,h1,h2⟩:=hx.get h
  refine ⟨y,?_,h2⟩
  rw [Array.getElem?_toList] at h1
  simp [part,hag,h1]
theorem plit_ok {o:Option AV} {v:PV} (h:plit o=some v):∃ a,o=some a∧PV.ofAV a=some v:=by
 unfold plit at h
 split at h
 ·next a=>exact ⟨a,rfl,h⟩
 ·cases h
theorem pnil_eq (hA:A.Ok P) {t:TypeId} {x y:PV} {b:Bool} (h:pnil A t x y=some b) {xv yv:Value} (hx:RV s x xv) (hy:RV s y yv) (w:World) (d:Nat) :
  (Op.equalIn (d+1) t xv yv).run P w=.ok b w:=by
 unfold pnil at h
 split at h<;>first
  |(cases h;done)
  |(next hu =>
    have hu':=hA.under_ok hu
    cases h
    first
     |(have hx:=(RV_lit.1 hx).2;obtain ⟨z,rfl,_⟩:=RV_ifc.1 hy;simp only [VR] at hx;subst hx;simp [Op.equalIn,run_underlying hu'];done)
     |(have hy:=(RV_lit.1 hy).2;obtain ⟨z,rfl,_⟩:=RV_ifc.1 hx;simp only [VR] at hy;subst hy;simp [Op.equalIn,run_underlying hu'];done)
     |(have hy:=(RV_lit.1 hy).2;obtain ⟨z,z',rfl,_⟩:=RV_fn.1 hx;simp only [VR] at hy;subst hy;simp [Op.equalIn,run_underlying hu'];done)
     |(have hy:=(RV_lit.1 hy).2;obtain ⟨z,z',rfl,_⟩:=RV_fp.1 hx;simp only [VR] at hy;subst hy;simp [Op.equalIn,run_underlying hu'];done)
     |(have hy:=(RV_lit.1 hy).2;obtain ⟨_,rfl⟩:=RV_ptr.1 hx;simp only [VR] at hy;subst hy;simp [Op.equalIn,run_underlying hu'];done))
theorem pnil_plain {t:TypeId} {x y:PV} {b:Bool} (h:pnil A t x y=some b) {xv yv:Value} (hx:RV s x xv) (hy:RV s y yv) :
  b=false∧plainV xv=true∧¬ (xv=.nilIface∧yv=.nilIface)∧∀ p q,xv=.agg p→yv=.agg q→P.eqGuardType P.depth t=false:=by
 unfold pnil at h
 split at h<;>first
  |(cases h;done)
  |(cases h
    first
     |(have hx:=(RV_lit.1 hx).2;obtain ⟨z,rfl,_⟩:=RV_ifc.1 hy;simp only [VR] at hx;subst hx;exact ⟨rfl,rfl,by simp,fun _ _ e=>(by cases e)⟩)
     |(have hy:=(RV_lit.1 hy).2;obtain ⟨z,rfl,_⟩:=RV_ifc.1 hx;simp only [VR] at hy;subst hy;exact ⟨rfl,rfl,by simp,fun _ _ e=>(by cases e)⟩)
     |(have hy:=(RV_lit.1 hy).2;obtain ⟨z,z',rfl,_⟩:=RV_fn.1 hx;simp only [VR] at hy;subst hy;exact ⟨rfl,rfl,by simp,fun _ _ e=>(by cases e)⟩)
     |(have hy:=(RV_lit.1 hy).2;obtain ⟨z,z',rfl,_⟩:=RV_fp.1 hx;simp only [VR] at hy;subst hy;exact ⟨rfl,rfl,by simp,fun _ _ e=>(by cases e)⟩)
     |(have hy:=(RV_lit.1 hy).2;obtain ⟨_,rfl⟩:=RV_ptr.1 hx;simp only [VR] at hy;subst hy;exact ⟨rfl,rfl,by simp,fun _ _ e=>(by cases e)⟩))
theorem pnil_ok (hA:A.Ok P) {t:TypeId} {x y:PV} {b:Bool} (h:pnil A t x y=some b) {xv yv:Value} (hx:RV s x xv) (hy:RV s y yv) (w:World) :
  b=false∧(Op.equal t xv yv).run P w=.ok false w∧plainV xv=true∧¬ (xv=.nilIface∧yv=.nilIface)∧∀ p q,xv=.agg p→yv=.agg q→P.eqGuardType P.depth t=false:=by
 obtain ⟨h1,h2,h3,h4⟩:=pnil_plain (P:=P) h hx hy
 subst h1
 exact ⟨rfl,pnil_eq hA h hx hy w 9999,h2,h3,h4⟩
theorem pbin_ok (hA:A.Ok P) (hE:E.Ok P) {op:BinOp} {t:TypeId} {xo yo:Operand} {x y v:PV} (h:pbin A E op t xo yo x y=some v) {ρ':Operand→Value} (hx:RV s x (ρ' xo)) (hy:RV s y (ρ' yo)) (w:World) :
  ∃ r,(do eqGuard op t xo yo (ρ' xo) (ρ' yo);binOp op t (ρ' xo) (ρ' yo):Sem Value).run P w=.ok r w∧RV s v r:=by
 have nilc:∀ b,pnil A t x y=some b→pcmp op b=some v →
   ∃ r,(do eqGuard op t xo yo (ρ' xo) (ρ' yo);binOp op t (ρ' xo) (ρ' yo):Sem Value).run P w=.ok r w∧RV s v r:=by
  intro b hb h
  obtain ⟨rfl,h1,h2,h3,h4⟩:=pnil_ok hA hb hx hy w
  unfold pcmp at h
  split at h
  ·cases h
   refine ⟨.bool false,?_,RV_lit.2 ⟨rfl,by simp only [VR]⟩⟩
   simp only [Sem.run_bind,eqGuard_ok _ _ _ _ _ _ h3 h4,Result.andThen_ok,Go.Am.binOp_eql h2,h1,Sem.run_pure]
  ·cases h
   refine ⟨.bool true,?_,RV_lit.2 ⟨rfl,by simp only [VR];rfl⟩⟩
   simp only [Sem.run_bind,eqGuard_ok _ _ _ _ _ _ h3 h4,Result.andThen_ok,Go.Am.binOp_neq h2,h1,Sem.run_pure,Bool.not_false]
  ·cases h
 unfold pbin at h
 split at h
 ·next a b ha hb =>
  have hxa:=PV.toAV_ok x a _ ha hx
  have hyb:=PV.toAV_ok y b _ hb hy
  split at h
  ·next hn =>
   obtain ⟨u,hu,hv⟩:=plit_ok h
   unfold bothNil at hn
   split at hn
   ·simp only [VR] at hxa hyb
    rw [hxa,hyb]
    obtain ⟨r,r1,r2⟩:=anils_ok (m:=noEnv) (w:=w) hA hu
    exact ⟨r,r1,back_ok hv r2⟩
   ·cases hn
  ·split at h
   ·next b' hb'=>exact nilc b' hb' h
   ·obtain ⟨u,hu,hv⟩:=plit_ok h
    obtain ⟨r,r1,r2⟩:=abin_ok (w:=w) hA hE hu hxa hyb xo yo
    exact ⟨r,r1,back_ok hv r2⟩
 ·split at h
  ·next b' hb'=>exact nilc b' hb' h
  ·cases h
end
end Go.Pv
namespace Go.Pv
open Go.Am Go.RowKit
section
variable {s:St} {A:AP} {P:Program} {E:Eqs} {w0:Base}
theorem fcell_cell {k o:Nat} {y:Value} (h:s.fcell k o=some y):s.w.cell? ⟨k,o,none⟩=some y :=
 let ⟨_,_,_,_,h3⟩:=fcell_some h;h3
theorem RMs.vals {l:List PV} {k o:Nat} (h:RMs s l k o):∃ ys:List Value,RVs s l ys∧∀ j y,ys[j]?=some y→s.fcell k (o+j)=some y:=by
 induction l generalizing o with
 |nil=>exact ⟨[],RVs_nil.2 rfl,fun j y h=>by simp at h⟩
 |cons v vs ih =>
  rw [RMs_cons] at h
  obtain ⟨⟨y,h1,h2⟩,h3⟩:=h
  obtain ⟨ys,h4,h5⟩:=ih h3
  refine ⟨y::ys,RVs_cons.2 ⟨y,ys,rfl,h2,h4⟩,fun j z hj=>?_⟩
  cases j with
  |zero=>simp at hj;subst hj;exact h1
  |succ j =>
   have:=h5 j z (by simpa using hj)
   rwa [show o+1+j=o+(j+1) from by omega] at this
theorem run_loadAgg (hA:A.Ok P) {t:TypeId} {d:TypeDesc} {ti:TypeInfo} (hu:A.under t=some d) (hi:A.info t=some ti) (hd:isAggB d=true) {k o:Nat} {ys:List Value} (hl:ys.length=ti.size) {w:World}
  (h:∀ j y,ys[j]?=some y→w.cell? ⟨k,o+j,none⟩=some y):(Instr.loadAt t (.pointer (some ⟨k,o,none⟩))).run P w=.ok (.agg ys.toArray) w:=by
 have hag:=run_isAgg (w:=w) (hA.under_ok hu)
 rw [hd] at hag
 have h1:(loadCells ⟨k,o,none⟩ ti.size).run P w=.ok ys.toArray w:=by
  rw [← hl]
  exact run_loadCells_list w _ ys fun j y hj=>by rw [addr_add];exact h j y hj
 simp [Instr.loadAt,Instr.sureAddr,loadVar,hag,sizeOf,run_typeInfo' (hA.info _ _ hi),h1]
theorem run_loadOne (hA:A.Ok P) {t:TypeId} {d:TypeDesc} (hu:A.under t=some d) (hd:isAggB d=false) {k o:Nat} {y:Value} {w:World}
  (h:w.cell? ⟨k,o,none⟩=some y):(Instr.loadAt t (.pointer (some ⟨k,o,none⟩))).run P w=.ok y w:=by
 have hag:=run_isAgg (w:=w) (hA.under_ok hu)
 rw [hd] at hag
 simp [Instr.loadAt,Instr.sureAddr,loadVar,hag,h]
theorem PW.cells (h:PW w0 s) {i:Nat} {l:List PV} (hi:s.h.get i=some (.cells l)):∃ arr t,s.w.heap[s.e i]?=some (.cells arr t (0,0))∧RVs s l arr.toList∧i < s.h.next∧s.σ (s.e i)=.live i:=by
 obtain ⟨h1,h2,arr,t,h3,h4⟩:=h.hp i _ hi
 exact ⟨arr,t,h3,h4,h1,h2⟩
theorem pload_ok (hA:A.Ok P) (hw:PW w0 s) {t:TypeId} {v u:PV} (h:pload A s.h t v=some u) {x:Value} (hx:RV s v x):∃ r,(Instr.loadAt t x).run P s.w=.ok r s.w∧RV s u r:=by
 unfold pload at h
 split at h
 case h_2=>cases h
 next d ti hu hi =>
 split at h
 ·next u' =>
  obtain ⟨k,o,rfl,hm⟩:=RV_fp.1 hx
  split at h
  ·next l hd =>
   split at h
   case h_2=>cases h
   next hl =>
   cases h
   obtain ⟨ys,h1,h2⟩:=RMs.vals (RM_agg.1 hm)
   refine ⟨.agg ys.toArray,run_loadAgg hA hu hi hd ?_ fun j y hj=>fcell_cell (h2 j y hj),RV_agg.2 ⟨_,rfl,h1⟩⟩
   rw [h1.length]
   exact Nat.eq_of_beq_eq_true hl
  ·cases h
  ·cases h
  ·next hd hna =>
   cases h
   have hagg:u.isAgg=false:=by
    cases u<;>first | rfl | (next l=>exact absurd rfl (hna l))
   obtain ⟨y,h1,h2⟩:=(RM_one hagg).1 hm
   exact ⟨y,run_loadOne hA hu hd (fcell_cell h1),h2⟩
 ·next i o =>
  obtain ⟨_,rfl⟩:=RV_ptr.1 hx
  split at h
  case h_2=>cases h
  next l hl =>
  obtain ⟨arr,t',h1,h2,_,_⟩:=hw.cells hl
  have hc:∀ j y,arr[j]?=some y→s.w.cell? ⟨s.e i,j,none⟩=some y:=fun j y hj=>by simp [World.cell?,h1,hj]
  split at h
  ·next hd =>
   split at h
   case h_2=>cases h
   next hle =>
   cases h
   rw [Nat.ble_eq] at hle
   have h3:=(h2.drop o).take ti.size
   have hlen:=h2.length
   refine ⟨.agg ((arr.toList.drop o).take ti.size).toArray,run_loadAgg hA hu hi hd ?_ fun j y hj=>hc _ _ ?_,RV_agg.2 ⟨_,rfl,h3⟩⟩
   ·simp
    simp at hlen
    omega
   ·have hj':j < ti.size:=by
     rcases Nat.lt_or_ge j ti.size with h4 | h4
     ·exact h4
     ·rw [List.getElem?_take_eq_none h4] at hj;cases hj
    rw [List.getElem?_take_of_lt hj',List.getElem?_drop] at hj
    simpa using hj
  ·next hd =>
   obtain ⟨y,h3,h4⟩:=h2.get h
   exact ⟨y,run_loadOne hA hu hd (hc _ _ (by simpa using h3)),h4⟩
 ·cases h
theorem pfollow_ok (hA:A.Ok P) (w:World):∀ (path:List FieldStep) (t xt:TypeId) (v u:PV) (x:Value),pfollow A path t v=some (xt,u)→RV s v x →
  ∃ y,(follow path t (.val x)).run P w=.ok (xt,.val y) w∧(followBlind path t (some x)).run P w=.ok (.ok (xt,some y)) w∧RV s u y
 |[],t,xt,v,u,x,h,hv=>by
  simp only [pfollow,Option.some.injEq,Prod.mk.injEq] at h
  obtain ⟨rfl,rfl⟩:=h
  exact ⟨x,rfl,rfl,hv⟩
 |st :: rest, t, xt, v, u, x, h, hv => by
  simp only [pfollow] at h
  split at h
  ·next fields cs hd hu =>
   split at h
   ·next f hf =>
    split at h
    ·next z hz =>
     obtain ⟨xs,rfl,hv2⟩:=RV_agg.1 hv
     obtain ⟨r,r1,r2⟩:=ppart_ok hA hz hv2 w
     obtain ⟨y,y1,y2,y3⟩:=pfollow_ok hA w rest f.type xt z u r h r2
     have hf':fields[st.index]?=some f:=by simpa using hf
     refine ⟨y,?_,?_,y3⟩
     ·simp [follow,run_underlying (hA.under_ok hu),hf',hd,r1,y1]
     ·simp [followBlind,run_underlying (hA.under_ok hu),hf',hd,r1,y2]
    ·cases h
   ·cases h
  ·cases h
theorem pmethod_ok (hA:A.Ok P) {t:TypeId} {v u:PV} {name:String} {f:FuncId} (h:pmethod A t v name=some (f,u)) {x:Value} (hx:RV s v x) (fuel:Nat) (w:World) :
  ∃ y,(method (fuel+1) t x name).run P w=.ok (f,y) w∧(nilAhead (fuel+1) t x name).run P w=.ok (some false) w∧RV s u y:=by
 unfold pmethod at h
 split at h
 case h_2=>cases h
 next ti hti =>
 split at h
 case h_2=>cases h
 next mt hmt =>
 split at h
 case h_2=>cases h
 next xt u' hfol =>
 split at h
 case h_2=>cases h
 next g ptr d hfn hd =>
 split at h
 case h_2=>cases h
 next hp =>
 cases h
 have hp:=eq_of_beq hp
 obtain ⟨y,y1,y2,y3⟩:=pfollow_ok hA w _ _ _ _ _ x hfol hx
 have hfind:ti.methods.find? (·.name == name)=some mt:=by
  rw [← Array.find?_toList]
  exact hmt
 refine ⟨y,?_,?_,y3⟩
 ·simp only [method,Sem.run_bind,run_typeInfo' (hA.info _ _ hti),Result.andThen_ok,hfind,y1,hfn]
  subst hp
  cases d<;>simp [receiverAt,run_underlying (hA.under_ok hd),isPtrB,Place.get]
 ·simp only [nilAhead,Sem.run_bind,run_typeInfo' (hA.info _ _ hti),Result.andThen_ok,hfind,y2,hfn]
  subst hp
  cases d<;>simp [run_underlying (hA.under_ok hd),isPtrB]
theorem pnilCheck_ok (hA:A.Ok P) {v:PV} (h:pnilCheck A v=true) {x:Value} (hx:RV s v x) (o:Oper) (y:Operand) (ho:o.op=.nilCheck y) (ρ':Operand→Value) (hy:ρ' y=x) :
  (execOp ρ' o).run P s.w=.ok (.value x) s.w:=by
 unfold pnilCheck at h
 split at h
 ·obtain ⟨k,o',rfl,_⟩:=RV_fp.1 hx
  simp [execOp,ho,hy]
 ·obtain ⟨_,rfl⟩:=RV_ptr.1 hx
  simp [execOp,ho,hy]
 ·obtain ⟨z,rfl,_⟩:=RV_ifc.1 hx
  simp [execOp,ho,hy]
 ·obtain ⟨z,z',rfl,_⟩:=RV_fn.1 hx
  simp [execOp,ho,hy]
 ·next name t v first cap =>
  split at h
  case h_2=>cases h
  next r hm =>
  obtain ⟨g,u⟩:=r
  obtain ⟨z,z',rfl,h1,_⟩:=RV_fn.1 hx
  obtain ⟨y0,ys,e1,e2,_⟩:=RVs_cons.1 h1
  obtain ⟨q,rfl,hq⟩:=RV_ifc.1 e2
  obtain ⟨_,_,n2,_⟩:=pmethod_ok hA hm hq (P.types.size+99) s.w
  have h0:z[0]?=some (.iface t q):=by
   rw [← Array.getElem?_toList,e1]
   rfl
  simp only [execOp,ho,hy,h0,Sem.run_bind,run_program,Result.andThen_ok]
  rw [show P.types.size+Made.depth=P.types.size+99+1 from rfl,n2]
  simp
 ·cases h
theorem pun_ok {op:UnOp} {x v:PV} (h:pun op x=some v) {xv:Value} (hx:RV s x xv) (w:World):∃ r,(Op.unary op xv).run P w=.ok r w∧RV s v r:=by
 unfold pun at h
 split at h
 case h_2=>cases h
 obtain ⟨u,hu,hv⟩:=plit_ok h
 obtain ⟨r,r1,r2⟩:=aun_ok (w:=w) (P:=P) hu (RV_lit.1 hx).2
 exact ⟨r,r1,back_ok hv r2⟩
theorem pconv_ok (hA:A.Ok P) {src dst:TypeId} {x v:PV} (h:pconv A src dst x=some v) {xv:Value} (hx:RV s x xv) (w:World):∃ r,(convert src dst xv).run P w=.ok r w∧RV s v r:=by
 unfold pconv at h
 split at h
 case h_2=>cases h
 obtain ⟨u,hu,hv⟩:=plit_ok h
 obtain ⟨r,r1,r2⟩:=aconv_ok (w:=w) hA hu (RV_lit.1 hx).2
 exact ⟨r,r1,back_ok hv r2⟩
theorem pmakeInterface_ok (hA:A.Ok P) {t:TypeId} {x v:PV} (h:pmakeInterface A t x=some v) {xv:Value} (hx:RV s x xv) (w:World) :
  ∃ r,(Instr.makeInterface t xv).run P w=.ok r w∧RV s v r:=by
 unfold pmakeInterface at h
 split at h
 ·cases h
 ·next d hn hu =>
  cases h
  refine ⟨.iface t xv,?_,RV_ifc.2 ⟨_,rfl,hx⟩⟩
  have hu':=hA.under_ok hu
  simp only [Instr.makeInterface,Sem.run_bind,run_underlying hu',Result.andThen_ok]
  cases d<;>first
   |rfl
   |exact absurd rfl (hn _)
 ·cases h
theorem pfield_ok (hA:A.Ok P) {t:TypeId} {x v:PV} {f:Nat} (h:pfield A t x f=some v) {xv:Value} (hx:RV s x xv) (w:World) :
  ∃ r,(Instr.field t xv f).run P w=.ok r w∧RV s v r:=by
 unfold pfield at h
 split at h
 case h_2=>cases h
 next fields cs hu =>
 split at h
 case h_2=>cases h
 next fd hfd =>
 obtain ⟨xs,rfl,hx2⟩:=RV_agg.1 hx
 have hf:fields[f]?=some fd:=by simpa using hfd
 obtain ⟨r,r1,r2⟩:=ppart_ok hA h hx2 w
 exact ⟨r,by simp [Instr.field,run_underlying (hA.under_ok hu),hf,asAgg,r1],r2⟩
theorem pextract_ok {l:List PV} {v:PV} {i:Nat} (h:l[i]?=some v) {xv:Value} (hx:RV s (.tup l) xv) (w:World):∃ r,(Instr.extract xv i).run P w=.ok r w∧RV s v r:=by
 obtain ⟨xs,rfl,hx2⟩:=RV_tup.1 hx
 obtain ⟨y,y1,y2⟩:=hx2.get h
 have:xs[i]?=some y:=by simpa using y1
 exact ⟨y,by simp [Instr.extract,this],y2⟩
theorem pindex_ok (hA:A.Ok P) {t:TypeId} {x ix v:PV} (h:pindex A t x ix=some v) {xv iv:Value} (hx:RV s x xv) (hi:RV s ix iv) (w:World) :
  ∃ r,(Instr.index t xv iv).run P w=.ok r w∧RV s v r:=by
 unfold pindex at h
 split at h
 case h_2=>cases h
 next k i =>
 have hi:=(RV_lit.1 hi).2
 simp only [VR] at hi
 subst hi
 split at h
 ·next len e cs hu =>
  split at h
  ·next n ti hn hti =>
   obtain ⟨rfl,hlt⟩:=aidx_ok hn
   obtain ⟨xs,rfl,hx2⟩:=RV_agg.1 hx
   obtain ⟨r,r1,r2⟩:=ppart_ok hA h hx2 w
   have hlt':(n:Int) < (len:Int):=by omega
   exact ⟨r,by simp [Instr.index,run_asIntOf,run_underlying (hA.under_ok hu),sizeOf,run_typeInfo' (hA.info _ _ hti),hlt',r1],r2⟩
  ·cases h
 ·next st hu =>
  split at h
  ·next n hn =>
   split at h
   ·next b hb =>
    cases h
    obtain ⟨rfl,hlt⟩:=aidx_ok hn
    have hx:=(RV_lit.1 hx).2
    simp only [VR] at hx
    subst hx
    refine ⟨.int .u8 b.toNat,?_,RV_lit.2 ⟨rfl,by simp only [VR]⟩⟩
    simp [Instr.index,run_asIntOf,run_underlying (hA.under_ok hu),hb]
   ·cases h
  ·cases h
 ·cases h
theorem pindexAddr_ok (hA:A.Ok P) {t:TypeId} {x ix v:PV} (h:pindexAddr A t x ix=some v) {xv iv:Value} (hx:RV s x xv) (hi:RV s ix iv) (w:World) :
  ∃ r,(Instr.indexAt t xv iv).run P w=.ok r w∧RV s v r:=by
 unfold pindexAddr at h
 split at h
 case h_2=>cases h
 next kk i =>
 have hi:=(RV_lit.1 hi).2
 simp only [VR] at hi
 subst hi
 split at h
 ·next e tl l hu =>
  split at h
  case h_2=>cases h
  next n ti hn hti =>
  split at h
  case h_2=>cases h
  next u hu' =>
  split at h
  case h_2=>cases h
  next hsz =>
  cases h
  obtain ⟨rfl,hlt⟩:=aidx_ok hn
  have hsz:=Nat.eq_of_beq_eq_true hsz
  rcases RV_sl.1 hx with ⟨rfl,_,_⟩ | ⟨k,o,c,sz,rfl,h1,h2,_⟩
  ·simp at hlt
  ·obtain ⟨q1,q2⟩:=h2.get hu'
   rw [← q1,hsz] at q2
   refine ⟨.pointer (some ⟨k,o+n * ti.size,none⟩),?_,RV_fp.2 ⟨_,_,rfl,q2⟩⟩
   have hlt':(n:Int) < (l.length:Int):=by omega
   simp [Instr.indexAt,run_asIntOf,run_underlying (hA.under_ok hu),sizeOf,run_typeInfo' (hA.info _ _ hti),hlt',addr_add]
 ·next e i0 o len cap _ hu =>
  split at h
  case h_2=>cases h
  next n ti hn hti =>
  cases h
  obtain ⟨rfl,hlt⟩:=aidx_ok hn
  obtain ⟨h1,rfl⟩:=RV_ms.1 hx
  refine ⟨_,?_,RV_ptr.2 ⟨h1,rfl⟩⟩
  have hlt':(n:Int) < (len:Int):=by omega
  simp [Instr.indexAt,run_asIntOf,run_underlying (hA.under_ok hu),sizeOf,run_typeInfo' (hA.info _ _ hti),hlt',addr_add]
 ·next len e i0 o hu =>
  split at h
  case h_2=>cases h
  next n ti hn hti =>
  cases h
  obtain ⟨rfl,hlt⟩:=aidx_ok hn
  obtain ⟨h1,rfl⟩:=RV_ptr.1 hx
  refine ⟨_,?_,RV_ptr.2 ⟨h1,rfl⟩⟩
  have hlt':(n:Int) < (len:Int):=by omega
  simp [Instr.indexAt,run_asIntOf,run_underlying (hA.under_ok hu),Instr.sureAddr,sizeOf,run_typeInfo' (hA.info _ _ hti),hlt',addr_add]
 ·next len e cs hu =>
  split at h
  case h_2=>cases h
  next n ti hn hti =>
  split at h
  case h_2=>cases h
  next u d hp hd =>
  obtain ⟨rfl,hlt⟩:=aidx_ok hn
  obtain ⟨k,o,rfl,hm⟩:=RV_fp.1 hx
  have hm:=RM_agg.1 hm
  have hlt':(n:Int) < (len:Int):=by omega
  have hrun:(Instr.indexAt t (.pointer (some ⟨k,o,none⟩)) (.int kk (n:Int))).run P w=.ok (.pointer (some ⟨k,o+n * ti.size,none⟩)) w:=by
   simp [Instr.indexAt,run_asIntOf,run_underlying (hA.under_ok hu),Instr.sureAddr,sizeOf,run_typeInfo' (hA.info _ _ hti),hlt',addr_add]
  unfold ppart at hp
  rw [hd,hti] at hp
  split at h
  ·next hag =>
   cases h
   simp only [hag,Option.some.injEq] at hp
   subst hp
   refine ⟨_,hrun,RV_fp.2 ⟨_,_,rfl,RM_agg.2 (RMs.of_get fun i a ha=>?_)⟩⟩
   have hlt2:i < ti.size:=by
    rcases Nat.lt_or_ge i ti.size with h1 | h1
    ·exact h1
    ·rw [List.getElem?_take_eq_none h1] at ha;cases ha
   rw [List.getElem?_take_of_lt hlt2,List.getElem?_drop] at ha
   have:=hm.get ha
   rwa [← Nat.add_assoc] at this
  ·next hag hua =>
   cases h
   simp only [hag] at hp
   exact ⟨_,hrun,RV_fp.2 ⟨_,_,rfl,(RM_one hua).2 (hm.get hp)⟩⟩
  ·cases h
 ·cases h
theorem pfieldAddr_ok (hA:A.Ok P) {t:TypeId} {x v:PV} {f:Nat} (h:pfieldAddr A t x f=some v) {xv:Value} (hx:RV s x xv) (w:World) :
  ∃ r,(Instr.fieldAt t xv f).run P w=.ok r w∧RV s v r:=by
 unfold pfieldAddr at h
 split at h
 case h_2=>cases h
 next fields hu =>
 split at h
 case h_2=>cases h
 next fd hfd =>
 have hf:fields[f]?=some fd:=by simpa using hfd
 split at h
 ·next cs =>
  split at h
  case h_2=>cases h
  next ti hti =>
  split at h
  case h_2=>cases h
  next u hb hp =>
  rw [Nat.ble_eq] at hb
  split at h
  case h_2=>cases h
  next d hd =>
  obtain ⟨k,o,rfl,hm⟩:=RV_fp.1 hx
  have hm:=RM_agg.1 hm
  have hk:ti.size≠0:=by omega
  have hrun:(Instr.fieldAt t (.pointer (some ⟨k,o,none⟩)) f).run P w=.ok (.pointer (some ⟨k,o+fd.offset,none⟩)) w:=by
   simp [Instr.fieldAt,run_underlying (hA.under_ok hu),hf,Instr.sureAddr,fieldPlace,sizeOf,run_typeInfo' (hA.info _ _ hti),hk,addr_add]
  unfold ppart at hp
  rw [hd,hti] at hp
  split at h
  ·next hag =>
   cases h
   simp only [hag,Option.some.injEq] at hp
   subst hp
   refine ⟨_,hrun,RV_fp.2 ⟨_,_,rfl,RM_agg.2 (RMs.of_get fun i a ha=>?_)⟩⟩
   have hlt:i < ti.size:=by
    rcases Nat.lt_or_ge i ti.size with h1 | h1
    ·exact h1
    ·rw [List.getElem?_take_eq_none h1] at ha;cases ha
   rw [List.getElem?_take_of_lt hlt,List.getElem?_drop] at ha
   have:=hm.get ha
   rwa [← Nat.add_assoc] at this
  ·next hag hua =>
   cases h
   simp only [hag] at hp
   exact ⟨_,hrun,RV_fp.2 ⟨_,_,rfl,(RM_one hua).2 (hm.get hp)⟩⟩
  ·cases h
 ·next i o =>
  split at h
  case h_2=>cases h
  next ti hti =>
  split at h
  ·cases h
  next hk =>
  cases h
  obtain ⟨h1,rfl⟩:=RV_ptr.1 hx
  refine ⟨_,?_,RV_ptr.2 ⟨h1,rfl⟩⟩
  simp [Instr.fieldAt,run_underlying (hA.under_ok hu),hf,Instr.sureAddr,fieldPlace,sizeOf,run_typeInfo' (hA.info _ _ hti),hk,addr_add]
 ·cases h
end
end Go.Pv
namespace Go.Pv
open Go.Am Go.RowKit
def pfind (A:AP) (E:Eqs) (kt:TypeId) (k:AV):List (AV×PV×Nat)→Nat→Option (Option (Nat×PV))
 |[],_=>some none
 |e::es,i=>match aeqv A E 20 kt k e.1 with
  |some true=>some (some (i,e.2.1))
  |some false=>pfind A E kt k es (i+1)
  |none=>none
def pzero (A:AP) (t:TypeId):Option PV :=
 match A.info t with
 |some ti=>match ti.zero with
  |some z=>zval z
  |none=>none
 |none=>none
def pentries (h:PH):PV→Option (List (AV×PV×Nat))
 |.lit .nilmap=>some []
 |.mp i=>match h.get i with
  |some (.map es _)=>some es
  |_=>none
 |_=>none
def pfindF (A:AP) (E:Eqs) (kt:TypeId) (k:AV):List AV→List PV→Option (Option PV)
 |[],[]=>some none
 |a::ks,v::vs=>match aeqv A E 20 kt k a,pfindF A E kt k ks vs with
  |some true,some none=>some (some v)
  |some false,r=>r
  |_,_=>none
 |_,_=>none
def pok (ok:Bool) (v:PV) (b:Bool):PV :=
 match ok with
 |true=>.tup [v,.lit (.bool b)]
 |false=>v
def plookup (A : AP) (E : Eqs) (h : PH) (t : TypeId) (x k : PV) (ok : Bool) : Option PV :=
 match A.under t,PV.toAV k,pentries h x with
 |some (.map kt et),some ka,some es=>match acheck A 20 kt ka,pfind A E kt ka es 0 with
  |true,some r=>match r with
   |some (_,v)=>some (pok ok v true)
   |none=>match pzero A et with
    |some z=>some (pok ok z false)
    |none=>none
  |_,_=>none
 |some (.map kt et),some ka,none=>match x with
  |.fm ks vs=>match acheck A 20 kt ka,pfindF A E kt ka ks vs with
   |true,some r=>match r with
    |some v=>some (pok ok v true)
    |none=>match pzero A et with
     |some z=>some (pok ok z false)
     |none=>none
   |_,_=>none
  |_=>none
 |_,_,_=>none
section
variable {s:St} {w:World} {A:AP} {P:Program} {E:Eqs} {w0:Base}
def FR3 (s:St):Option (Nat×PV)→Option (Nat×Value)→Prop
 |none,r=>r=none
 |some (i,v),r=>∃ x,r=some (i,x)∧RV s v x
theorem pfindAsking_ok (hA:A.Ok P) (hE:E.Ok P) {kt:TypeId} {k:AV} {kv:Value} (hk:VR noEnv k kv):∀ (es:List (AV×PV×Nat)) (xs:List MapEntry) (i:Nat) (r:Option (Nat×PV)),pfind A E kt k es i=some r→RE3 s es xs→∃ r',(Instr.findAsking kt kv xs i).run P w=.ok r' w∧FR3 s r r'
 |[],xs,i,r,h,he=>by
  simp only [pfind,Option.some.injEq] at h
  simp only [RE3] at he
  subst h he
  exact ⟨none,by simp [Instr.findAsking],rfl⟩
 |e::es,xs,i,r,h,he=>by
  simp only [RE3] at he
  obtain ⟨y,ys,rfl,e1,e2,_,e4⟩:=he
  simp only [pfind] at h
  split at h
  ·next hq =>
   cases h
   have:=(aeq_ok (w:=w) hA hE 20).1 _ _ _ _ _ _ 10000 hq hk e1 (by omega)
   exact ⟨some (i,y.val),by simp [Instr.findAsking,Op.equal,Op.maxDepth,this],y.val,rfl,e2⟩
  ·next hq =>
   have:=(aeq_ok (w:=w) hA hE 20).1 _ _ _ _ _ _ 10000 hq hk e1 (by omega)
   obtain ⟨r',r1,r2⟩:=pfindAsking_ok hA hE hk es ys (i+1) r h e4
   exact ⟨r',by simp [Instr.findAsking,Op.equal,Op.maxDepth,this,r1],r2⟩
  ·cases h
theorem pfindNow_ok {kind:TypeDesc} {kt:TypeId} {k:AV} {kv:Value} (hk:VR noEnv k kv):∀ (es:List (AV×PV×Nat)) (xs:List MapEntry) (i:Nat) (r:Option (Nat×PV)) (r':Option (Nat×Value)),pfind A E kt k es i=some r→RE3 s es xs→Instr.findNow kind kv xs i=some r'→FR3 s r r'
 |[],xs,i,r,r',h,he,hn=>by
  simp only [pfind,Option.some.injEq] at h
  simp only [RE3] at he
  subst h he
  simp only [Instr.findNow,Option.some.injEq] at hn
  exact hn.symm
 |e :: es, xs, i, r, r', h, he, hn => by
  simp only [RE3] at he
  obtain ⟨y,ys,rfl,e1,e2,_,e4⟩:=he
  simp only [Instr.findNow] at hn
  simp only [pfind] at h
  split at h
  ·next hq =>
   cases h
   split at hn
   ·cases hn
    exact ⟨y.val,rfl,e2⟩
   ·next hs=>exact absurd (sameNow_ok hk e1 hq hs) (by simp)
   ·cases hn
  ·next hq =>
   split at hn
   ·next hs=>exact absurd (sameNow_ok hk e1 hq hs) (by simp)
   ·exact pfindNow_ok hk es ys (i+1) r r' h e4 hn
   ·cases hn
  ·cases h
theorem pfindKey_ok (hA:A.Ok P) (hE:E.Ok P) {kt:TypeId} {d:TypeDesc} (hu:A.under kt=some d) {k:AV} {kv:Value} (hk:VR noEnv k kv) {es:List (AV×PV×Nat)} {xs:List MapEntry} {r:Option (Nat×PV)}
  (h:pfind A E kt k es 0=some r) (he:RE3 s es xs):∃ r',(Instr.findKey kt kv xs).run P w=.ok r' w∧FR3 s r r':=by
 simp only [Instr.findKey,Sem.run_bind,run_underlying (hA.under_ok hu),Result.andThen_ok]
 cases hn:Instr.findNow d kv xs 0 with
 |some r'=>exact ⟨r',rfl,pfindNow_ok hk es xs 0 r r' h he hn⟩
 |none=>exact pfindAsking_ok hA hE hk es xs 0 r h he
def z3:List AV→List PV→List MapEntry→List (AV×PV×Nat)
 |a::as,v::vs,z::zs=>(a,v,z.born)::z3 as vs zs
 |_,_,_=>[]
theorem RE3_z3:∀ {ks:List AV} {vs:List PV} {zs:List MapEntry},KL ks (zs.map (·.key))→RVs s vs (zs.map (·.val))→RE3 s (z3 ks vs zs) zs
 |ks,vs,[],h1,h2=>by
  cases ks with
  |nil=>cases vs<;>rfl
  |cons a as=>obtain ⟨y,ys,e,_⟩:=h1;cases e
 |ks,vs,z::zs,h1,h2=>by
  cases ks with
  |nil=>cases h1
  |cons a as =>
   cases vs with
   |nil=>have:=RVs_nil.1 h2;cases this
   |cons v vs =>
    obtain ⟨y,ys,e,h3,h4⟩:=h1
    obtain ⟨y',ys',e',h5,h6⟩:=RVs_cons.1 h2
    simp only [List.map_cons,List.cons.injEq] at e e'
    obtain ⟨rfl,rfl⟩:=e
    obtain ⟨rfl,rfl⟩:=e'
    exact ⟨z,zs,rfl,h3,h5,rfl,RE3_z3 h4 h6⟩
theorem RE3_perm {xs ys:List MapEntry} (hp:xs.Perm ys):∀ {es:List (AV×PV×Nat)},RE3 s es xs→∃ es',es'.Perm es∧RE3 s es' ys:=by
 induction hp with
 |nil=>intro es h;exact ⟨es,List.Perm.refl _,h⟩
 |cons x _ ih =>
  intro es h
  cases es with
  |nil=>cases h
  |cons e es =>
   obtain ⟨y,ys,e1,h1,h2,h3,h4⟩:=h
   cases e1
   obtain ⟨es',p1,p2⟩:=ih h4
   exact ⟨e::es',p1.cons e,_,_,rfl,h1,h2,h3,p2⟩
 |swap x y l =>
  intro es h
  cases es with
  |nil=>cases h
  |cons e es =>
   obtain ⟨_,_,e1,h1,h2,h3,h4⟩:=h
   cases e1
   cases es with
   |nil=>cases h4
   |cons e' es =>
    obtain ⟨_,_,e1,g1,g2,g3,g4⟩:=h4
    cases e1
    exact ⟨e'::e::es,List.Perm.swap _ _ _,_,_,rfl,g1,g2,g3,_,_,rfl,h1,h2,h3,g4⟩
 |trans _ _ ih1 ih2 =>
  intro es h
  obtain ⟨es1,p1,p2⟩:=ih1 h
  obtain ⟨es2,q1,q2⟩:=ih2 p2
  exact ⟨es2,q1.trans p1,q2⟩
theorem FM0.re3 {k c:Nat} {ks:List AV} {vs:List PV} {zs:List MapEntry} (hf:FM0 s k ks c zs) (hv:RVs s vs (zs.map (·.val))) :
  ∃ arr es,s.w.heap[k]?=some (.map arr c)∧RE3 s es arr.toList∧es.Perm (z3 ks vs zs):=by
 obtain ⟨arr,h1,h2,h3,_⟩:=hf
 obtain ⟨es,p1,p2⟩:=RE3_perm h2 (RE3_z3 h3 hv)
 exact ⟨arr,es,(fmp_some.1 h1).2,p2,p1⟩
theorem KL.length:∀ {ks:List AV} {xs:List Value},KL ks xs→xs.length=ks.length
 |[],_,h=>by cases h;rfl
 |a::as,_,⟨y,ys,e,_,h⟩=>by subst e;simp [KL.length h]
def PF (A:AP) (E:Eqs) (kt:TypeId) (k:AV) (es:List (AV×PV×Nat)) (r:Option PV):Prop :=
 (∀ e∈es,aeqv A E 20 kt k e.1≠none)∧(es.filter fun e=>aeqv A E 20 kt k e.1 == some true).map (·.2.1)=r.toList
theorem PF.perm {kt:TypeId} {k:AV} {es es':List (AV×PV×Nat)} {r:Option PV} (hp:es'.Perm es) (h:PF A E kt k es r):PF A E kt k es' r:=by
 refine ⟨fun e he=>h.1 e (hp.mem_iff.1 he),?_⟩
 have h1:=((hp.filter fun e=>aeqv A E 20 kt k e.1 == some true).map (·.2.1))
 rw [h.2] at h1
 cases r with
 |none=>exact List.perm_nil.1 h1
 |some v=>exact List.perm_singleton.1 h1
theorem PF.find {kt:TypeId} {k:AV}:∀ {es:List (AV×PV×Nat)} {r:Option PV} (i:Nat),PF A E kt k es r→∃ r',pfind A E kt k es i=some r'∧r'.map (·.2)=r
 |[],r,i,h=>by
  cases r with
  |none=>exact ⟨none,rfl,rfl⟩
  |some v=>have:=h.2;simp at this
 |e :: es, r, i, h => by
  simp only [pfind]
  cases hq:aeqv A E 20 kt k e.1 with
  |none=>exact absurd hq (h.1 e (by simp))
  |some b =>
   cases b with
   |true =>
    have:=h.2
    simp only [List.filter_cons,hq,beq_self_eq_true,if_true,List.map_cons] at this
    cases r with
    |none=>cases this
    |some v =>
     simp only [Option.toList_some,List.cons.injEq] at this
     exact ⟨some (i,e.2.1),rfl,by rw [this.1];rfl⟩
   |false =>
    refine PF.find (i+1) ⟨fun e' he'=>h.1 e' (List.mem_cons_of_mem _ he'),?_⟩
    have:=h.2
    simpa [List.filter_cons,hq] using this
theorem pfindF_PF {kt:TypeId} {k:AV}:∀ {ks:List AV} {vs:List PV} {zs:List MapEntry} {r:Option PV},zs.length=ks.length→pfindF A E kt k ks vs=some r→PF A E kt k (z3 ks vs zs) r
 |[],[],zs,r,_,h=>by simp only [pfindF,Option.some.injEq] at h;subst h;exact ⟨fun e he=>by simp [z3] at he,rfl⟩
 |[],_::_,zs,r,_,h=>by cases h
 |_::_,[],zs,r,_,h=>by cases h
 |a::ks,v::vs,[],r,hl,h=>by cases hl
 |a :: ks, v :: vs, z :: zs, r, hl, h => by
  simp only [pfindF] at h
  have hl':zs.length=ks.length:=by simpa using hl
  cases hq:aeqv A E 20 kt k a with
  |none=>rw [hq] at h;cases h
  |some b =>
   rw [hq] at h
   cases b with
   |true =>
    cases hr:pfindF A E kt k ks vs with
    |none=>rw [hr] at h;cases h
    |some r' =>
     rw [hr] at h
     cases r' with
     |some _=>cases h
     |none =>
      simp only [Option.some.injEq] at h
      subst h
      obtain ⟨h1,h2⟩:=pfindF_PF hl' hr
      refine ⟨fun e he=>?_,?_⟩
      ·rcases List.mem_cons.1 he with rfl | he
       ·rw [hq];simp
       ·exact h1 e he
      ·simp only [z3,List.filter_cons,hq,beq_self_eq_true,if_true,List.map_cons,h2,Option.toList_none,Option.toList_some]
   |false =>
    simp only at h
    obtain ⟨h1,h2⟩:=pfindF_PF hl' h
    refine ⟨fun e he=>?_,?_⟩
    ·rcases List.mem_cons.1 he with rfl | he
     ·rw [hq];simp
     ·exact h1 e he
    ·simp only [z3,List.filter_cons,hq]
     simpa using h2
theorem pzero_ok (hA:A.Ok P) {t:TypeId} {v:PV} (h:pzero A t=some v) (w:World):∃ z,(zeroValue t).run P w=.ok z w∧RV s v z:=by
 unfold pzero at h
 split at h
 case h_2=>cases h
 next ti hti =>
 split at h
 case h_2=>cases h
 next z hz =>
 exact ⟨z,by simp [zeroValue,run_typeInfo' (hA.info _ _ hti),hz],zval_ok h⟩
theorem plookup_ok (hA:A.Ok P) (hE:E.Ok P) (hw:PW w0 s) {t:TypeId} {x k v:PV} {ok:Bool} (hl:plookup A E s.h t x k ok=some v) {xv kv:Value} (hx:RV s x xv) (hk:RV s k kv) :
  ∃ r,(Instr.lookup t xv kv ok).run P s.w=.ok r s.w∧RV s v r:=by
 have fin:∀ (v':PV) (b:Bool) y,RV s v' y→RV s (pok ok v' b) (if ok then .tuple #[y,.bool b] else y):=by
  intro v' b y hy
  unfold pok
  cases ok
  ·exact hy
  ·simp only [if_true]
   exact RV_tup.2 ⟨_,rfl,RVs_cons.2 ⟨_,_,rfl,hy,RVs_cons.2 ⟨_,_,rfl,RV_lit.2 ⟨rfl,by simp only [VR]⟩,RVs_nil.2 rfl⟩⟩⟩
 have main:∀ (kt et:TypeId) (ka:AV) (es:List (AV×PV×Nat)) (r:Option (Nat×PV)),A.under t=some (.map kt et)→PV.toAV k=some ka→acheck A 20 kt ka=true→pfind A E kt ka es 0=some r →
   (∃ arr:Array MapEntry,((xv=.map none∧arr=#[])∨∃ l clock,xv=.map (some l)∧(getObj l).run P s.w=.ok (.map arr clock) s.w)∧RE3 s es arr.toList) →
   (match r.map (·.2) with
    |some v=>some (pok ok v true)
    |none=>match pzero A et with
     |some z=>some (pok ok z false)
     |none=>none)=some v→∃ r,(Instr.lookup t xv kv ok).run P s.w=.ok r s.w∧RV s v r:=by
  intro kt et ka es r hu hka hc hr harr' hl
  obtain ⟨arr,harr,hER⟩:=harr'
  have hka:=PV.toAV_ok k ka _ hka hk
  obtain ⟨d,hd⟩:=acheck_under hc
  obtain ⟨r',r1,r2⟩:=pfindKey_ok (w:=s.w) hA hE hd hka hr hER
  have hck:=acheck_ok (w:=s.w) hA arr.isEmpty 20 kt ka kv 10000 hc hka (by omega)
  have hu':=hA.under_ok hu
  cases r with
  |some iu =>
   obtain ⟨i,u⟩:=iu
   simp only [Option.map_some] at hl
   cases hl
   obtain ⟨z,rfl,hz⟩:=r2
   refine ⟨_,?_,fin u true z hz⟩
   rcases harr with ⟨rfl,rfl⟩ | ⟨l,clock,rfl,hg⟩
   ·simp only [Array.isEmpty_empty] at hck
    simp [Instr.lookup,run_underlying hu',hck]
    simp at r1
    simp [r1]
   ·simp [Instr.lookup,run_underlying hu',hg,hck,r1]
  |none =>
   simp only [FR3] at r2
   subst r2
   simp only [Option.map_none] at hl
   split at hl
   case h_2=>cases hl
   next z hz =>
   cases hl
   obtain ⟨zv,z1,z2⟩:=pzero_ok (s:=s) hA hz s.w
   refine ⟨_,?_,fin z false zv z2⟩
   rcases harr with ⟨rfl,rfl⟩ | ⟨l,clock,rfl,hg⟩
   ·simp only [Array.isEmpty_empty] at hck
    simp [Instr.lookup,run_underlying hu',hck]
    simp at r1
    simp [r1,z1]
   ·simp [Instr.lookup,run_underlying hu',hg,hck,r1,z1]
 unfold plookup at hl
 split at hl
 ·next kt et ka es hu hka hes =>
  split at hl
  case h_2=>cases hl
  next r hc hr =>
  refine main kt et ka es r hu hka hc hr ?_ ?_
  ·unfold pentries at hes
   split at hes
   ·cases hes
    have hx:=(RV_lit.1 hx).2
    simp only [VR] at hx
    subst hx
    exact ⟨#[],.inl ⟨rfl,rfl⟩,rfl⟩
   ·next i =>
    split at hes
    ·next es' clock hb =>
     cases hes
     obtain ⟨_,rfl⟩:=RV_mp.1 hx
     obtain ⟨_,_,arr,h2,h3⟩:=hw.hp i _ hb
     exact ⟨arr,.inr ⟨s.e i,clock,rfl,by simp [getObj,Sem.run,h2]⟩,h3⟩
    ·cases hes
   ·cases hes
  ·cases r with
   |none=>exact hl
   |some iu=>exact hl
 ·next kt et ka hu hka hes =>
  split at hl
  case h_2=>cases hl
  next ks vs =>
  split at hl
  case h_2=>cases hl
  next r hc hr =>
  unfold RV R2 at hx
  obtain ⟨b,c,zs,rfl,hf,hv⟩:=hx
  obtain ⟨arr,es,h1,h2,h3⟩:=hf.re3 hv
  have hlen:zs.length=ks.length:=by
   obtain ⟨_,_,_,h4,_⟩:=hf
   simpa using h4.length
  obtain ⟨r',r1,r2⟩:=((pfindF_PF hlen hr).perm h3).find 0
  refine main kt et ka es r' hu hka hc r1 ⟨arr,.inr ⟨b,c,rfl,by simp [getObj,Sem.run,h1]⟩,h2⟩ ?_
  rw [r2]
  cases r with
  |none=>exact hl
  |some iu=>exact hl
 ·cases hl
def POV (s:St):Option PV→Option Value→Prop
 |none,v=>v=none
 |some a,v=>∃ x,v=some x∧RV s a x
theorem popt_ok {ρ:Operand→Option PV} {ρ':Operand→Value} (hρ:∀ x v,ρ x=some v→RV s v (ρ' x)) {x:Option Operand} {v:Option PV} (h:popt ρ x=some v):POV s v (x.map ρ'):=by
 unfold popt at h
 split at h
 ·cases h;rfl
 ·split at h
  ·next u hu=>cases h;exact ⟨_,rfl,hρ _ _ hu⟩
  ·cases h
theorem pbound_ok {x:Option PV} {d y n:Nat} (h:pbound x d y=some n) {v:Option Value} (hv:POV s x v):∃ a,abound a d y=some n∧OVR noEnv a v:=by
 unfold pbound at h
 split at h
 ·cases h;exact ⟨none,rfl,hv⟩
 ·next k i =>
  obtain ⟨u,rfl,hu⟩:=hv
  exact ⟨some (.int k i),h,u,rfl,(RV_lit.1 hu).2⟩
 ·cases h
theorem REs.drop {l:List PV} {sz k o:Nat} (h:REs s l sz k o) (n:Nat) (hn:n≤l.length):REs s (l.drop n) sz k (o+n * sz):=by
 have h1:REs s (l.take n++l.drop n) sz k o:=by rw [List.take_append_drop];exact h
 have h2:=(REs.append.1 h1).2
 rwa [List.length_take,Nat.min_eq_left hn] at h2
theorem REs.take {l:List PV} {sz k o:Nat} (h:REs s l sz k o) (n:Nat):REs s (l.take n) sz k o:=by
 have h1:REs s (l.take n++l.drop n) sz k o:=by rw [List.take_append_drop];exact h
 exact (REs.append.1 h1).1
theorem REs.ones:∀ {l:List PV} {k o:Nat},l.all (fun v=>!v.isAgg)=true→RMs s l k o→REs s l 1 k o
 |[],_,_,_,_=>REs_nil
 |v::vs,k,o,h,hm=>by
  simp only [List.all_cons,Bool.and_eq_true,Bool.not_eq_true'] at h
  obtain ⟨h1,h2⟩:=RMs_cons.1 hm
  refine REs_cons.2 ⟨?_,(RM_one h.1).2 h1,REs.ones h.2 h2⟩
  cases v<;>first | rfl | (exact absurd h.1 (by simp [PV.isAgg]))
theorem pslice3_ok (hA:A.Ok P) {t:TypeId} {x v lo hi mx:PV} (h:pslice3 A t x lo hi mx=some v) {xv mxv:Value} {lov hiv:Option Value} (hx:RV s x xv) (hlo:POV s (some lo) lov) (hhi:POV s (some hi) hiv) (hmx:RV s mx mxv) (w:World) :
  ∃ r,(Instr.sliceAt t xv lov hiv (some mxv)).run P w=.ok r w∧RV s v r:=by
 unfold pslice3 at h
 split at h
 case h_2=>cases h
 next e i o len cap ez hu =>
 have hu':=hA.under_ok hu
 split at h
 case h_2=>cases h
 next ti hti =>
 have hi':=hA.info _ _ hti
 split at h
 case h_2=>cases h
 next m hme =>
 split at h
 case h_2=>cases h
 next hh hhe =>
 split at h
 case h_2=>cases h
 next n hle =>
 obtain ⟨am,a1,a2⟩:=pbound_ok hme (v:=some mxv) ⟨mxv,rfl,hmx⟩
 obtain ⟨ah,b1,b2⟩:=pbound_ok hhe hhi
 obtain ⟨al,c1,c2⟩:=pbound_ok hle hlo
 obtain ⟨hin,rfl⟩:=RV_ms.1 hx
 obtain ⟨lv,rfl,_⟩:=hlo
 obtain ⟨hv,rfl,_⟩:=hhi
 have r1:(Instr.sliceBounds true len cap (some lv) (some hv) (some mxv)).run P w=.ok (n,hh,m) w:=by
  rcases abound_ok (P:=P) (w:=w) a1 a2 with ⟨q,_⟩ | ⟨u,e1,d1,d2⟩
  ·cases q
  cases e1
  rcases abound_ok (P:=P) (w:=w) b1 b2 with ⟨q,_⟩ | ⟨u,e1,f1,f2⟩
  ·cases q
  cases e1
  rcases abound_ok (P:=P) (w:=w) c1 c2 with ⟨q,_⟩ | ⟨u,e1,g1,g2⟩
  ·cases q
  cases e1
  simp [Instr.sliceBounds,d2 cap _ (by omega),f2 m _ (by omega),g2 hh _ (by omega)]
 split at h
 ·next hcn =>
  cases h
  have hcn:=Nat.eq_of_beq_eq_true hcn
  subst hcn
  exact ⟨_,by simp [Instr.sliceAt,Instr.slice,run_underlying hu',r1,sizeOf,run_typeInfo' hi'],RV_ms.2 ⟨hin,rfl⟩⟩
 ·next hcn =>
  cases h
  have hcn:¬ m=n:=fun e=>by subst e;simp at hcn
  exact ⟨.slice (some ⟨s.e i,o+n * ti.size,none⟩) (hh - n) (m - n),by simp [Instr.sliceAt,Instr.slice,run_underlying hu',r1,sizeOf,run_typeInfo' hi',hcn,addr_add],RV_ms.2 ⟨hin,rfl⟩⟩
theorem pslice_ok (hA:A.Ok P) {t:TypeId} {x v:PV} {lo hi:Option PV} (h:pslice A t x lo hi=some v) {xv:Value} {lov hiv:Option Value} (hx:RV s x xv) (hlo:POV s lo lov) (hhi:POV s hi hiv) (w:World) :
  ∃ r,(Instr.sliceAt t xv lov hiv none).run P w=.ok r w∧RV s v r:=by
 unfold pslice at h
 split at h
 ·next e tl l hu =>
  have hu':=hA.under_ok hu
  split at h
  case h_2=>cases h
  next ti hti =>
  have hi':=hA.info _ _ hti
  split at h
  case h_2=>cases h
  next hh hhe =>
  split at h
  case h_2=>cases h
  next n hle =>
  split at h
  case h_2=>cases h
  next hall =>
  cases h
  obtain ⟨ah,a1,a2⟩:=pbound_ok hhe hhi
  obtain ⟨al,b1,b2⟩:=pbound_ok hle hlo
  have bnd:hh≤l.length:=by
   rcases abound_ok (P:=P) (w:=w) a1 a2 with ⟨_,rfl⟩ | ⟨_,_,h1,_⟩<;>omega
  have gen:∀ b c,l.length≤c→(Instr.sliceAt t (.slice b l.length c) lov hiv none).run P w=.ok (.slice (if c=n then b else b.map (·.add (n * ti.size))) (hh - n) (c - n)) w∧n≤hh:=by
   intro b c hc
   obtain ⟨r1,r2,r3⟩:=run_sliceBounds (P:=P) (w:=w) true a1 b1 hc hc a2 b2
   exact ⟨by simp [Instr.sliceAt,Instr.slice,run_underlying hu',r1,sizeOf,run_typeInfo' hi'],r2⟩
  have hlen:((l.take hh).drop n).length=hh - n:=by
   rw [List.length_drop,List.length_take,Nat.min_eq_left bnd]
  have hno:∀ x y,(stail tl x y).isOwn=false:=by
   intro x y
   unfold stail
   split
   ·split<;>rfl
   ·rfl
  rcases RV_sl.1 hx with ⟨rfl,_,ad,rfl⟩ | ⟨k,o,c,sz,rfl,h1,h2,h0⟩
  ·obtain ⟨g1,g2⟩:=gen ad 0 (Nat.le_refl _)
   have e1:hh=0:=by simpa using bnd
   subst e1
   have e2:n=0:=by omega
   subst e2
   exact ⟨_,g1,RV_sl.2 (.inl ⟨by simp,hno _ _,_,rfl⟩)⟩
  ·obtain ⟨g1,g2⟩:=gen (some ⟨k,o,none⟩) c h1
   have tail:∀ o' sz',TailOk s (stail tl hh l.length) k o' (hh - n) (c - n) sz':=by
    intro o' sz'
    unfold stail
    split
    ·split
     ·next hb =>
      have hb:=Nat.eq_of_beq_eq_true hb
      have h0:c=l.length:=h0
      show c - n=hh - n
      omega
     ·trivial
    ·trivial
   refine ⟨_,g1,RV_sl.2 (.inr ?_)⟩
   by_cases hcn:c=n
   ·have e1:hh - n=0:=by omega
    have e2:(l.take hh).drop n=[]:=List.eq_nil_of_length_eq_zero (by omega)
    rw [if_pos hcn,e2,e1]
    have:=tail o 0
    rw [e1] at this
    exact ⟨k,o,_,0,rfl,Nat.zero_le _,REs_nil,this⟩
   ·rw [if_neg hcn, hlen]
    refine ⟨k,o+n * ti.size,c - n,sz,?_,by omega,?_,tail _ _⟩
    ·simp [addr_add]
    ·by_cases hl:l=[]
     ·subst hl
      simp only [List.take_nil,List.drop_nil]
      exact REs_nil
     ·obtain ⟨u,us,rfl⟩:=List.exists_cons_of_ne_nil hl
      have hsz:sz=ti.size:=by
       have q1:=(REs_cons.1 h2).1
       simp only [List.all_cons,Bool.and_eq_true] at hall
       have q2:=Nat.eq_of_beq_eq_true hall.1
       omega
      subst hsz
      exact (h2.take hh).drop n (by rw [List.length_take,Nat.min_eq_left bnd];exact g2)
 ·next e i o len cap ez hu =>
  have hu':=hA.under_ok hu
  split at h
  case h_2=>cases h
  next ti hti =>
  have hi':=hA.info _ _ hti
  split at h
  case h_2=>cases h
  next hh hlc hhe =>
  rw [Nat.ble_eq] at hlc
  split at h
  case h_2=>cases h
  next n hle =>
  obtain ⟨ah,a1,a2⟩:=pbound_ok hhe hhi
  obtain ⟨al,b1,b2⟩:=pbound_ok hle hlo
  obtain ⟨hin,rfl⟩:=RV_ms.1 hx
  obtain ⟨r1,r2,r3⟩:=run_sliceBounds (P:=P) (w:=w) true a1 b1 hlc (Nat.le_refl _) a2 b2
  split at h
  ·next hcn =>
   cases h
   have hcn:=Nat.eq_of_beq_eq_true hcn
   subst hcn
   exact ⟨_,by simp [Instr.sliceAt,Instr.slice,run_underlying hu',r1,sizeOf,run_typeInfo' hi'],RV_ms.2 ⟨hin,rfl⟩⟩
  ·next hcn =>
   cases h
   have hcn:¬ cap=n:=fun e=>by subst e;simp at hcn
   exact ⟨.slice (some ⟨s.e i,o+n * ti.size,none⟩) (hh - n) (cap - n),by simp [Instr.sliceAt,Instr.slice,run_underlying hu',r1,sizeOf,run_typeInfo' hi',hcn,addr_add],RV_ms.2 ⟨hin,rfl⟩⟩
 ·next st hu =>
  have hu':=hA.under_ok hu
  split at h
  case h_2=>cases h
  next hh hhe =>
  split at h
  case h_2=>cases h
  next n hle =>
  cases h
  obtain ⟨ah,a1,a2⟩:=pbound_ok hhe hhi
  obtain ⟨al,b1,b2⟩:=pbound_ok hle hlo
  have hx:=(RV_lit.1 hx).2
  simp only [VR] at hx
  subst hx
  obtain ⟨r1,r2,r3⟩:=run_sliceBounds (P:=P) (w:=w) false a1 b1 (Nat.le_refl _) (Nat.le_refl _) a2 b2
  refine ⟨_,?_,RV_lit.2 ⟨rfl,by simp only [VR];rfl⟩⟩
  simp [Instr.sliceAt,Instr.slice,run_underlying hu',r1]
 ·next n e vs hu =>
  have hu':=hA.under_ok hu
  split at h
  case h_2=>cases h
  next ti hti =>
  have hi':=hA.info _ _ hti
  split at h
  case h_2=>cases h
  next b1 b2 b3 =>
  have b1:=Nat.eq_of_beq_eq_true b1
  have b2:=Nat.eq_of_beq_eq_true b2
  obtain ⟨k,o,rfl,hm⟩:=RV_fp.1 hx
  have hlo':lov=none:=hlo
  subst hlo' b2
  split at h
  ·cases h
   have hhi:hiv=none:=hhi
   subst hhi
   refine ⟨.slice (some ⟨k,o,none⟩) vs.length vs.length,?_,RV_sl.2 (.inr ⟨k,o,_,1,rfl,Nat.le_refl _,REs.ones b3 (RM_agg.1 hm),rfl⟩)⟩
   simp [Instr.sliceAt,run_underlying hu',Instr.sureAddr,Instr.sliceBounds,sizeOf,run_typeInfo' hi',addr_add]
  ·next hvv =>
   split at h
   case h_2=>cases h
   next hh hhe =>
   cases h
   obtain ⟨ah,a1,a2⟩:=pbound_ok hhe hhi
   obtain ⟨al,c1,c2⟩:=pbound_ok (show pbound none 0 hh=some 0 from rfl) hlo
   obtain ⟨r1,r2,r3⟩:=run_sliceBounds (P:=P) (w:=w) false a1 c1 (Nat.le_refl _) (Nat.le_refl _) a2 c2
   have hl:(vs.take hh).length=hh:=by rw [List.length_take];omega
   refine ⟨.slice (some ⟨k,o,none⟩) hh vs.length,?_,RV_sl.2 (.inr ⟨k,o,_,1,by rw [hl],by rw [hl];exact r3,(REs.ones b3 (RM_agg.1 hm)).take hh,trivial⟩)⟩
   simp [Instr.sliceAt,run_underlying hu',Instr.sureAddr,r1,sizeOf,run_typeInfo' hi',addr_add]
 ·cases h
theorem ptypeAssert_ok (hA:A.Ok P) {x v:PV} {asserted xt:TypeId} {ok:Bool} (h:ptypeAssert A x asserted ok=some v) {xv:Value} (hx:RV s x xv) (w:World) :
  ∃ r,(Instr.typeAssert xv xt asserted ok).run P w=.ok r w∧RV s v r:=by
 have tup:∀ (a:PV) y b,RV s a y→RV s (.tup [a,.lit (.bool b)]) (.tuple #[y,.bool b]):=fun a y b hy =>
  RV_tup.2 ⟨_,rfl,RVs_cons.2 ⟨_,_,rfl,hy,RVs_cons.2 ⟨_,_,rfl,RV_lit.2 ⟨rfl,by simp only [VR]⟩,RVs_nil.2 rfl⟩⟩⟩
 unfold ptypeAssert at h
 split at h
 ·cases h
 ·cases h
 ·next d hn hu =>
  have hu':=hA.under_ok hu
  split at h
  ·next t y =>
   obtain ⟨yv,rfl,hy⟩:=RV_ifc.1 hx
   split at h
   ·next ht =>
    have ht:=Nat.eq_of_beq_eq_true ht
    subst ht
    cases h
    cases ok
    ·refine ⟨yv,?_,hy⟩
     cases d<;>first
      |exact absurd rfl (hn _)
      |simp [Instr.typeAssert,run_underlying hu']
    ·refine ⟨.tuple #[yv,.bool true],?_,tup _ _ _ hy⟩
     cases d<;>first
      |exact absurd rfl (hn _)
      |simp [Instr.typeAssert,run_underlying hu']
   ·next ht =>
    have ht:¬ t=asserted:=fun e=>by subst e;simp at ht
    split at h
    case h_2=>cases h
    next ti hti =>
    split at h
    case h_2=>cases h
    next z hz =>
    split at h
    case h_2=>cases h
    next z' hz' =>
    cases h
    refine ⟨.tuple #[z,.bool false],?_,tup _ _ _ (zval_ok hz')⟩
    cases d<;>first
     |exact absurd rfl (hn _)
     |simp [Instr.typeAssert,run_underlying hu',ht,zeroValue,run_typeInfo' (hA.info _ _ hti),hz]
  ·have hx:=(RV_lit.1 hx).2
   simp only [VR] at hx
   subst hx
   split at h
   case h_2=>cases h
   next ti hti =>
   split at h
   case h_2=>cases h
   next z hz =>
   split at h
   case h_2=>cases h
   next z' hz' =>
   cases h
   refine ⟨.tuple #[z,.bool false],?_,tup _ _ _ (zval_ok hz')⟩
   cases d<;>first
    |exact absurd rfl (hn _)
    |simp [Instr.typeAssert,run_underlying hu',zeroValue,run_typeInfo' (hA.info _ _ hti),hz]
  ·cases h
theorem RE3.length {es:List (AV×PV×Nat)} {xs:List MapEntry} (h:RE3 s es xs):xs.length=es.length:=by
 induction es generalizing xs with
 |nil=>simp only [RE3] at h;subst h;rfl
 |cons a as ih =>
  simp only [RE3] at h
  obtain ⟨y,ys,rfl,_,_,_,h4⟩:=h
  simp [ih h4]
theorem plen_ok (hA:A.Ok P) (hw:PW w0 s) {t ty:TypeId} {x v:PV} (e:plen A s.h t x=some v) {xv:Value} (hx:RV s x xv) :
  ∃ r,(Builtin.len_ #[t] ty #[xv]).run P s.w=.ok r s.w∧RV s v r:=by
 have nat:∀ n:Nat,RV s (.lit (.int .i64 (.ofNat n))) (goInt n):=fun n=>RV_lit.2 ⟨rfl,by simp only [VR,goInt];rfl⟩
 unfold plen at e
 split at e
 ·next el tl l hu =>
  cases e
  refine ⟨goInt l.length,?_,nat _⟩
  rcases RV_sl.1 hx with ⟨rfl,_,ad,rfl⟩ | ⟨k,o,c,sz,rfl,_⟩
  ·simp [Builtin.len_,run_underlying (hA.under_ok hu)]
  ·simp [Builtin.len_,run_underlying (hA.under_ok hu)]
 ·next el i o len cap _ hu =>
  cases e
  obtain ⟨_,rfl⟩:=RV_ms.1 hx
  exact ⟨goInt len,by simp [Builtin.len_,run_underlying (hA.under_ok hu)],nat _⟩
 ·next st hu =>
  cases e
  have hx:=(RV_lit.1 hx).2
  simp only [VR] at hx
  subst hx
  exact ⟨goInt st.size,by simp [Builtin.len_,run_underlying (hA.under_ok hu)],nat _⟩
 ·next k el hu =>
  cases e
  have hx:=(RV_lit.1 hx).2
  simp only [VR] at hx
  subst hx
  exact ⟨goInt 0,by simp [Builtin.len_,run_underlying (hA.under_ok hu)],nat 0⟩
 ·next k el i hu =>
  split at e
  ·next es clock hb =>
   cases e
   obtain ⟨_,rfl⟩:=RV_mp.1 hx
   obtain ⟨_,_,arr,h2,h3⟩:=hw.hp i _ hb
   have hsz:arr.size=es.length:=by simpa using h3.length
   have hget:(getObj (s.e i)).run P s.w=.ok (.map arr clock) s.w:=by simp [getObj,Sem.run,h2]
   exact ⟨goInt arr.size,by simp [Builtin.len_,run_underlying (hA.under_ok hu),hget],by rw [hsz];exact nat _⟩
  ·cases e
 ·cases e
end
end Go.Pv
