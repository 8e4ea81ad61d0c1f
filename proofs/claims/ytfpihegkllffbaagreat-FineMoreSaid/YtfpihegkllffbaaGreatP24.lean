/- Parts of the proof: E42, E43, E44, E45, E51, E52 -/
import Derived.Test.YtfpihegkllffbaaGreatP23
set_option linter.unusedVariables false
set_option linter.unusedSimpArgs false
set_option linter.unusedSectionVars false
namespace Go.Pv
open Go.Proofs Go.Am
set_option maxRecDepth 10000
end Go.Pv
namespace Go.Pv
open Go.Proofs Go.Am
set_option maxRecDepth 10000
structure TD (kn len:Nat) (RI X:List Int) (FI PA:Nat→List Int):Prop where
  rl:RI.length=len
  xl:X.length=len
  xb:∀ i (h:i < X.length),0≤X[i]∧X[i]≤1000
  fl:∀ i,(FI i).length=kn
  pl:∀ i,(PA i).length=kn
  f0:FI 0=List.replicate kn 0
  p0:PA 0=List.replicate kn 0
  fb:∀ i r (h:r < (FI i).length),0≤(FI i)[r]∧(FI i)[r]≤5005
  pb:∀ i r (h:r < (PA i).length),0≤(PA i)[r]∧(PA i)[r]≤5005
  st:∀ i (h1:i < RI.length) (h2:i < X.length),∃ w:Nat,RI[i]=(w:Int)∧w < kn∧w ^^^ 1 < kn∧∃ (a:w < (FI i).length) (b:w < (PA i).length) (c:w ^^^ 1 < ((PA i).set w ((PA i)[w]+(X[i]+1) / 2)).length),
    FI (i+1)=(FI i).set w ((FI i)[w]+X[i])∧PA (i+1)=((PA i).set w ((PA i)[w]+(X[i]+1) / 2)).set (w ^^^ 1) (((PA i).set w ((PA i)[w]+(X[i]+1) / 2))[w ^^^ 1]+X[i] / 2)
  af:isum (FI len)=isum X
  ap:isum (PA len)=isum X
  tw:∀ r (h:r+1 < kn),r % 2=0→(FI len)[r+1]'(by rw [fl];exact h)+(FI len)[r]'(by rw [fl];omega)=(PA len)[r+1]'(by rw [pl];exact h)+(PA len)[r]'(by rw [pl];omega)
end Go.Pv
namespace Go.Pv
open Go.Proofs Go.Am
set_option maxRecDepth 10000
set_option maxHeartbeats 4000000
section
variable (f:Fns) {t1 t2:Tail} (h1:t1.isOwn=false) (h2:t2.isOwn=false)
include h1 h2
end
end Go.Pv
namespace Go.Pv
open Go.Proofs Go.Am
set_option maxRecDepth 10000
end Go.Pv
namespace Go.Pv
open Go.Proofs Go.Am
set_option maxRecDepth 10000
def Fns.wl (f:Fns) (L:List Ofc):Fns:=⟨f.ru,f.n,L⟩
theorem hul_in {A B:Int→Prop} {e e':Spn} (h:Hul A e) (h':Hul B e') (hs:∀ x,A x→B x):e'.lo≤e.lo∧e.hi≤e'.hi:=⟨(h'.bd _ (hs _ h.lo)).1,(h'.bd _ (hs _ h.hi)).2⟩
theorem spn_in {f:Fns} {L:List Ofc} (hf:f.ok) (hx:(f.wl L).ok) (hT:∀ T,(f.wl L).Tru T→f.Tru T) {g:Deed→Int→Int} (hg:Gok g):(f.spn g).lo≤((f.wl L).spn g).lo∧((f.wl L).spn g).hi≤(f.spn g).hi :=
  hul_in (spn_hul hx hg) (spn_hul hf hg) fun x ⟨T,h,e⟩=>⟨T,hT T h,e⟩
theorem ofc_set {f:Fns} {n:Nat} (hn:n < f.li.length) (o:Ofc) (i:Nat):(f.wl (f.li.set n o)).ofc i=if i=n then o else f.ofc i:=by
  show (f.li.set n o).getD i default=if i=n then o else f.li.getD i default
  rw [List.getD_eq_getElem?_getD,List.getD_eq_getElem?_getD,List.getElem?_set]
  by_cases h:n=i
  · subst h
    rw [if_pos rfl,if_pos hn,if_pos rfl];rfl
  · rw [if_neg h,if_neg (Ne.symm h)]
theorem nar_ok {f:Fns} (hf:f.ok) {n:Nat} {o:Ofc} (ho:(0≤o.kd∧o.kd < f.ru.length)∧(0 < o.ri∧o.ri < 2 ^ f.n.toNat)∧(0≤o.lo∧o.lo≤o.hi∧o.hi≤144∧o.hi - o.lo≤2)):(f.wl (f.li.set n o)).ok :=
  ⟨hf.ru,hf.n,by show (f.li.set n o).length≤5;rw [List.length_set];exact hf.li,hf.rv,fun x hx=>by
    rcases List.mem_or_eq_of_mem_set hx with h | rfl
    · exact hf.lv x h
    · exact ho⟩
theorem nar_tru {f:Fns} {n:Nat} (hn:n < f.li.length) {o:Ofc} (hk:o.kd=(f.ofc n).kd) (hr:∀ r,o.ri.toNat.testBit r=true→(f.ofc n).ri.toNat.testBit r=true) (hlo:(f.ofc n).lo≤o.lo) (hhi:o.hi≤(f.ofc n).hi) (T:List Deed) (h:(f.wl (f.li.set n o)).Tru T):f.Tru T:=by
  have hl:(f.li.set n o).length=f.li.length:=List.length_set ..
  refine ⟨h.ln.trans hl,fun i hi=>⟨(h.at' i hi).1,?_⟩⟩
  obtain ⟨h1,h2,⟨h3,h4,h5⟩,h6,h7⟩:=(h.at' i hi).2
  rw [ofc_set hn] at h2 h5 h6 h7
  have h1':T[i].nu < f.li.length:=hl ▸ h1
  have h4':T[i].ri < f.n:=h4
  by_cases he:T[i].nu=n
  · rw [if_pos he] at h2 h5 h6 h7
    refine ⟨h1',?_,⟨h3,h4',?_⟩,?_,?_⟩
    · rw [he,← hk];exact h2
    · rw [he];exact hr _ h5
    · rw [he];omega
    · rw [he];omega
  · rw [if_neg he] at h2 h5 h6 h7
    exact ⟨h1',h2,⟨h3,h4',h5⟩,h6,h7⟩
theorem keepN_one (n : Nat) : ∀ (li : List Ofc) (i : Nat), keepN (1 * 2 ^ n) i li = if i ≤ n then li.eraseIdx (n - i) else li
  | [],i=>by simp [keepN]
  | o :: li, i => by
    have hb:(1 * 2 ^ n).testBit i=decide (n=i):=by rw [Nat.one_mul,Nat.testBit_two_pow]
    rw [keepN,hb,keepN_one n li (i+1)]
    by_cases h:n=i
    · subst h
      rw [decide_eq_true rfl,if_pos rfl,if_neg (by omega),if_pos (Nat.le_refl _),Nat.sub_self]
      rfl
    · rw [decide_eq_false h, if_neg (by decide)]
      by_cases h2:i≤n
      · rw [if_pos (by omega), if_pos h2, show n - i = (n - (i + 1)) + 1 by omega]
        rfl
      · rw [if_neg (by omega),if_neg h2]
theorem wo_one (f:Fns) (n:Nat):f.wo (1 * 2 ^ n)=f.wl (f.li.eraseIdx n):=by
  unfold Fns.wo
  rw [keepN_one,if_pos (Nat.zero_le _),Nat.sub_zero]
  rfl
def dnD (n:Nat) (d:Deed):Deed:=⟨d.kd,if d.nu < n then d.nu else d.nu - 1,d.ri,d.ho⟩
def upD (n:Nat) (d:Deed):Deed:=⟨d.kd,if d.nu < n then d.nu else d.nu+1,d.ri,d.ho⟩
theorem dn_up (n:Nat) (d:Deed):dnD n (upD n d)=d:=by
  obtain ⟨kd,nu,ri,ho⟩:=d
  unfold dnD upD
  by_cases h:nu < n
  · simp only [h,if_true]
  · simp only [h,if_false,show ¬ nu+1 < n by omega,Nat.add_sub_cancel]
def dnT (n:Nat) (T:List Deed):List Deed:=(T.eraseIdx n).map (dnD n)
theorem ofc_less {f:Fns} (n i:Nat):(f.wl (f.li.eraseIdx n)).ofc i=if i < n then f.ofc i else f.ofc (i+1):=by
  show (f.li.eraseIdx n).getD i default=if i < n then f.li.getD i default else f.li.getD (i+1) default
  rw [List.getD_eq_getElem?_getD,List.getElem?_eraseIdx]
  split<;>rw [List.getD_eq_getElem?_getD]
theorem len_less {f:Fns} {n:Nat} (hn:n < f.li.length):(f.li.eraseIdx n).length+1=f.li.length:=by
  rw [List.length_eraseIdx,if_pos hn];omega
theorem dn_tru {f:Fns} {n:Nat} (hn:n < f.li.length) {T:List Deed} (h:f.Tru T):(f.wl (f.li.eraseIdx n)).Tru (dnT n T):=by
  have hnT:n < T.length:=by rw [h.ln];exact hn
  have hle:(T.eraseIdx n).length+1=T.length:=by rw [List.length_eraseIdx,if_pos hnT];omega
  have hl:=len_less hn
  have hT:=h.ln
  refine ⟨by show ((T.eraseIdx n).map (dnD n)).length=(f.li.eraseIdx n).length;rw [List.length_map];omega,fun i hi=>?_⟩
  have hi2:i < (T.eraseIdx n).length:=by simpa [dnT] using hi
  have e:(dnT n T)[i]=dnD n (T.eraseIdx n)[i]:=by simp [dnT]
  rw [e,List.getElem_eraseIdx]
  split
  · next hlt =>
    obtain ⟨a,h1,h2,⟨h3,h4,h5⟩,h6,h7⟩:=h.at' i (by omega)
    rw [a] at h1 h2 h5 h6 h7
    have e2:dnD n T[i]=T[i]:=by unfold dnD;rw [if_pos (by rw [a];exact hlt)]
    rw [e2]
    refine ⟨a,?_⟩
    unfold Fns.alw
    rw [a,ofc_less,if_pos hlt]
    exact ⟨by show i < (f.li.eraseIdx n).length;omega,h2,⟨h3,h4,h5⟩,h6,h7⟩
  · next hlt =>
    obtain ⟨a,h1,h2,⟨h3,h4,h5⟩,h6,h7⟩:=h.at' (i+1) (by omega)
    rw [a] at h1 h2 h5 h6 h7
    have en:(dnD n T[i+1]).nu=i:=by show (if T[i+1].nu < n then T[i+1].nu else T[i+1].nu - 1)=i;rw [a,if_neg (by omega)];rfl
    refine ⟨en,?_⟩
    unfold Fns.alw
    rw [en,ofc_less,if_neg hlt]
    exact ⟨by show i < (f.li.eraseIdx n).length;omega,h2,⟨h3,h4,h5⟩,h6,h7⟩
theorem dn_back {f : Fns} (hf : f.ok) {n : Nat} (hn : n < f.li.length) {T' : List Deed} (h : (f.wl (f.li.eraseIdx n)).Tru T') : ∃ T, f.Tru T ∧ dnT n T = T' := by
  obtain ⟨T0,hT0⟩:=tru_some hf
  have hn0:n < T0.length:=by rw [hT0.ln];exact hn
  obtain ⟨d0,hd0⟩:∃ d,T0[n]=d:=⟨_,rfl⟩
  have ha0:=hT0.at' n hn0
  rw [hd0] at ha0
  have hl:=len_less hn
  have hT':T'.length=(f.li.eraseIdx n).length:=h.ln
  have hm:(T'.map (upD n)).length=T'.length:=List.length_map ..
  have hin:((T'.map (upD n)).insertIdx n d0).length=T'.length+1:=by rw [List.length_insertIdx,if_pos (by omega),hm]
  refine ⟨(T'.map (upD n)).insertIdx n d0,⟨by omega,fun i hi=>?_⟩,?_⟩
  · have hq : ∀ d : Deed, ((T'.map (upD n)).insertIdx n d0)[i]? = some d → d.nu = i ∧ f.alw d := fun d hd => by
      rw [List.getElem?_insertIdx] at hd
      by_cases h1:i < n
      · rw [if_pos h1, List.getElem?_map, List.getElem?_eq_getElem (by omega : i < T'.length)] at hd
        obtain rfl:=Option.some.inj hd
        obtain ⟨a,b1,b2,⟨b3,b4,b5⟩,b6,b7⟩:=h.at' i (by omega)
        rw [a] at b1 b2 b5 b6 b7
        rw [ofc_less,if_pos h1] at b2 b5 b6 b7
        have en:(upD n T'[i]).nu=i:=by show (if T'[i].nu < n then T'[i].nu else T'[i].nu+1)=i;rw [a,if_pos h1]
        refine ⟨en,?_⟩
        unfold Fns.alw
        rw [en]
        exact ⟨by omega,b2,⟨b3,b4,b5⟩,b6,b7⟩
      · rw [if_neg h1] at hd
        by_cases h2:i=n
        · rw [if_pos h2, if_pos (by omega)] at hd
          obtain rfl:=Option.some.inj hd
          rw [h2]
          exact ha0
        · rw [if_neg h2, List.getElem?_map, List.getElem?_eq_getElem (by omega : i - 1 < T'.length)] at hd
          obtain rfl:=Option.some.inj hd
          obtain ⟨a,b1,b2,⟨b3,b4,b5⟩,b6,b7⟩:=h.at' (i - 1) (by omega)
          rw [a] at b1 b2 b5 b6 b7
          rw [ofc_less,if_neg (by omega),show i - 1+1=i by omega] at b2 b5 b6 b7
          have en:(upD n T'[i - 1]).nu=i:=by show (if T'[i - 1].nu < n then T'[i - 1].nu else T'[i - 1].nu+1)=i;rw [a,if_neg (by omega)];omega
          refine ⟨en,?_⟩
          unfold Fns.alw
          rw [en]
          exact ⟨by omega,b2,⟨b3,b4,b5⟩,b6,b7⟩
    exact hq _ (List.getElem?_eq_getElem hi)
  · unfold dnT
    rw [List.eraseIdx_insertIdx_self,List.map_map]
    conv=>rhs;rw [← List.map_id T']
    exact List.map_congr_left fun d _=>dn_up n d
theorem bef_dn {n:Nat} {a b:Deed} (ha:a.nu≠n) (hb:b.nu≠n):bef (dnD n a) (dnD n b)=bef a b:=by
  unfold bef dnD
  simp only
  split
  · congr 1
    apply propext
    split<;>split<;>omega
  · rfl
theorem erase_ne {f:Fns} {n:Nat} {T:List Deed} (h:f.Tru T):∀ d∈T.eraseIdx n,d∈T∧d.nu≠n:=fun d hd=>by
  obtain ⟨i,hi,rfl⟩:=List.getElem_of_mem hd
  have hm:=List.mem_of_mem_eraseIdx hd
  refine ⟨hm,?_⟩
  rw [List.getElem_eraseIdx]
  have hle:=List.length_eraseIdx_le T n
  split
  · next hlt=>rw [(h.at' i (by omega)).1];omega
  · next hlt =>
    have:i+1 < T.length:=by
      rw [List.length_eraseIdx] at hi
      split at hi<;>omega
    rw [(h.at' (i+1) this).1];omega
theorem earl_dn {f:Fns} {n:Nat} {T:List Deed} (h:f.Tru T) {d:Deed} (hd:d.nu≠n):f.earl ((dnT n T).filter fun o=>bef o (dnD n d)) (dnD n d)=f.earl ((T.eraseIdx n).filter fun o=>bef o d) d:=by
  unfold Fns.earl dnT
  rw [List.filter_map,List.filter_map,List.length_map]
  congr 1
  have e1:(T.eraseIdx n).filter ((fun o=>bef o (dnD n d)) ∘ dnD n)=(T.eraseIdx n).filter fun o=>bef o d:=List.filter_congr fun o ho=>bef_dn (erase_ne h o ho).2 hd
  rw [e1]
  rfl
theorem cst_mono {f:Fns} (hf:f.ok) (d:Deed) {a b:Nat} (h:a≤b):f.cst d a≤f.cst d b:=by
  obtain ⟨_,h2,_,_⟩:=hf.rule d.kd
  unfold Fns.cst
  have:=Int.mul_le_mul_of_nonneg_left (show (a:Int)≤(b:Int) by omega) h2.1
  omega
theorem cin_dn {f:Fns} (hf:f.ok) {n:Nat} {T:List Deed} (h:f.Tru T) {d:Deed} (hd:d.nu≠n):f.cin (dnT n T) (dnD n d)≤f.cin T d:=by
  show f.cst d (f.earl ((dnT n T).filter fun o=>bef o (dnD n d)) (dnD n d))≤f.cst d _
  rw [earl_dn h hd]
  exact cst_mono hf d (List.Sublist.length_le (((List.eraseIdx_sublist ..).filter _).filter _))
theorem cons_erase:∀ (T:List Deed) (n:Nat) (h:n < T.length),(T[n]::T.eraseIdx n).Perm T
  | d::T,0,_=>List.Perm.refl _
  | d::T,n+1,h=>(List.Perm.swap _ _ _).trans ((cons_erase T n (by simpa using h)).cons d)
structure Gmo (g:Deed→Int→Int):Prop where
  nn:∀ d c,0≤c→0≤g d c
  mo:∀ d c c',c≤c'→g d c≤g d c'
  nu:∀ n d c,g (dnD n d) c=g d c
def gA (_:Deed) (c:Int):Int:=c
theorem gA_ok:Gok gA:=fun d c h1 h2=>⟨h1,by show c≤1001;omega⟩
theorem gA_mo:Gmo gA:=⟨fun d c h=>h,fun d c c' h=>h,fun n d c=>rfl⟩
theorem gF_mo (r:Int):Gmo (gF r):=⟨fun d c h=>by unfold gF;split<;>omega,fun d c c' h=>by unfold gF;split<;>omega,fun n d c=>rfl⟩
theorem gP_mo (r:Int):Gmo (gP r):=⟨fun d c h=>by unfold gP;split<;>split<;>omega,fun d c c' h=>by unfold gP;split<;>split<;>omega,fun n d c=>rfl⟩
theorem spn_total {f:Fns} (hf:f.ok):f.spn (gC (2 ^ f.li.length - 1))=f.spn gA :=
  (spn_hul hf (gC_ok _)).uniq (Hul.congr (spn_hul hf gA_ok) fun x=>⟨fun ⟨T,hT,e⟩=>⟨T,hT,by rw [val_gCall hT];exact e⟩,fun ⟨T,hT,e⟩=>⟨T,hT,by rw [val_gCall hT] at e;exact e⟩⟩)
theorem isum_sub:∀ {l:List Deed} {g g':Deed→Int},(∀ d∈l,g d≤g' d)→isum (l.map g)≤isum (l.map g')
  | [],_,_,_=>Int.le_refl _
  | d :: l, g, g', h => by
    have h1:=isum_sub (l:=l) fun x hx=>h x (List.mem_cons_of_mem _ hx)
    have h2:=h d (by simp)
    rw [List.map_cons,List.map_cons,isum,isum]
    omega
theorem dn_val {f:Fns} (hf:f.ok) {n:Nat} (hn:n < f.li.length) {T:List Deed} (h:f.Tru T) {g:Deed→Int→Int} (hg:Gmo g):f.val g (dnT n T)≤f.val g T:=by
  have hnT:n < T.length:=by rw [h.ln];exact hn
  unfold Fns.val
  have hp:=isum_perm ((cons_erase T n hnT).map fun d=>g d (f.cin T d))
  rw [List.map_cons,isum] at hp
  have h0:=hg.nn T[n] (f.cin T T[n]) (cin_bd hf T _).1
  have h1:isum ((dnT n T).map fun d=>g d (f.cin (dnT n T) d))≤isum ((T.eraseIdx n).map fun d=>g d (f.cin T d)):=by
    conv=>lhs;arg 1;arg 2;rw [dnT]
    rw [List.map_map]
    refine isum_sub fun d hd=>?_
    show g (dnD n d) (f.cin (dnT n T) (dnD n d))≤g d (f.cin T d)
    rw [hg.nu]
    exact hg.mo _ _ _ (cin_dn hf h (erase_ne h d hd).2)
  omega
theorem less_ok {f:Fns} (hf:f.ok) (n:Nat):(f.wl (f.li.eraseIdx n)).ok:=by rw [← wo_one];exact hf.wo _
theorem dn_spn {f:Fns} (hf:f.ok) {n:Nat} (hn:n < f.li.length) {g:Deed→Int→Int} (hg:Gok g) (hm:Gmo g):((f.wl (f.li.eraseIdx n)).spn g).lo≤(f.spn g).lo∧((f.wl (f.li.eraseIdx n)).spn g).hi≤(f.spn g).hi:=by
  have h1:=spn_hul (less_ok hf n) hg
  have h2:=spn_hul hf hg
  constructor
  · obtain ⟨T, hT, e⟩ := h2.lo
    have h3:=(h1.bd _ ⟨_,dn_tru hn hT,rfl⟩).1
    have h4:(f.wl (f.li.eraseIdx n)).val g (dnT n T)≤f.val g T:=dn_val hf hn hT hm
    omega
  · obtain ⟨T', hT', e⟩ := h1.hi
    obtain ⟨T,hT,rfl⟩:=dn_back hf hn hT'
    have h3:=(h2.bd _ ⟨_,hT,rfl⟩).2
    have h4:(f.wl (f.li.eraseIdx n)).val g (dnT n T)≤f.val g T:=dn_val hf hn hT hm
    omega
theorem dn_cost {f : Fns} (hf : f.ok) {n i : Nat} (hn : n < f.li.length) (hi : i < f.li.length) (hin : i ≠ n) (hal : (f.ofc i).kd ≠ (f.ofc n).kd) : (f.wl (f.li.eraseIdx n)).spn (gC (1 * 2 ^ (if n < i then i - 1 else i))) = f.spn (gC (1 * 2 ^ i)) := by
  have hl:=len_less hn
  have hv:∀ T,f.Tru T→(f.wl (f.li.eraseIdx n)).val (gC (1 * 2 ^ (if n < i then i - 1 else i))) (dnT n T)=f.val (gC (1 * 2 ^ i)) T:=fun T hT=>by
    have hnT:n < T.length:=by rw [hT.ln];exact hn
    have hiT:i < T.length:=by rw [hT.ln];exact hi
    have hd:=dn_tru hn hT
    have hat:(if n < i then i - 1 else i) < (dnT n T).length:=by
      rw [hd.ln]
      show _ < (f.li.eraseIdx n).length
      split<;>omega
    have hnu:=(hT.at' i hiT).1
    have hkn:=(hT.at' n hnT).2.2.1
    have hki:=(hT.at' i hiT).2.2.1
    rw [(hT.at' n hnT).1] at hkn
    rw [hnu] at hki
    rw [val_gC1 hT hiT,val_gC1 hd hat]
    have e:(dnT n T)[if n < i then i - 1 else i]=dnD n T[i]:=by
      have hm:(if n < i then i - 1 else i) < (T.eraseIdx n).length:=by simpa [dnT] using hat
      have e1:(dnT n T)[if n < i then i - 1 else i]=dnD n (T.eraseIdx n)[if n < i then i - 1 else i]:=by simp [dnT]
      rw [e1,List.getElem_eraseIdx]
      congr 1
      by_cases hc:n < i
      · simp only [hc, if_true]
        rw [dif_neg (by omega)]
        congr 1
        omega
      · simp only [hc, if_false]
        rw [dif_pos (by omega)]
    rw [e]
    show f.cst T[i] (f.earl ((dnT n T).filter fun o=>bef o (dnD n T[i])) (dnD n T[i]))=f.cst T[i] _
    rw [earl_dn hT (by rw [hnu];exact hin)]
    congr 1
    unfold Fns.earl
    have hp:=(((cons_erase T n hnT).filter fun o=>bef o T[i]).filter (f.win T[i])).length_eq
    rw [← hp,List.filter_cons]
    split
    · rw [List.filter_cons, if_neg]
      unfold Fns.win
      rw [decide_eq_false (by rw [← hkn,← hki];exact fun e=>hal e.symm)]
      simp
    · rfl
  refine (spn_hul (less_ok hf n) (gC_ok _)).uniq (Hul.congr (spn_hul hf (gC_ok _)) fun x=>⟨fun ⟨T,hT,e⟩=>⟨_,dn_tru hn hT,by rw [hv T hT];exact e⟩,fun ⟨T',hT',e⟩=>?_⟩)
  obtain ⟨T,hT,rfl⟩:=dn_back hf hn hT'
  exact ⟨T,hT,by rw [hv T hT] at e;exact e⟩
end Go.Pv
namespace Go.Pv
open Go.Proofs Go.Am
set_option maxRecDepth 10000
set_option maxHeartbeats 4000000
theorem neSp (xo yo:Operand) (x y x' y':Int):pbin A0 E0 .neq 30 xo yo (.agg [I x,I y]) (.agg [I x',I y'])=some (B (decide (¬(x=x'∧y=y')))):=by
  have hn:pnil A0 30 (.agg [I x,I y]) (.agg [I x',I y'])=none:=by
    have h:=eqSu
    unfold pnil
    cases hu:A0.under 30 with
    | none=>rfl
    | some d =>
      rw [hu] at h
      cases d<;>first | rfl | (exact absurd h (by decide))
  have hv:=eqSv x y x' y'
  have hd:decide (¬(x=x'∧y=y'))=!(x == x' && y == y'):=by
    by_cases h1:x=x'<;>by_cases h2:y=y'<;>simp [h1,h2]
  rw [hd]
  simp only [pbin,PV.toAV,PV.toAVs,bothNil,hn,abin,aequal,eqSe,hv]
  cases (x == x')<;>cases (y == y')<;>rfl
theorem ofcs_len (L:List Ofc) (post:List PV):(flat (L.map Ofc.v)++post).length=4 * L.length+post.length:=by
  have:(flat (L.map Ofc.v)).length=4 * L.length:=by
    induction L with
    | nil=>rfl
    | cons d L ih =>
      simp only [List.map_cons,flat,List.length_append,ih,List.length_cons]
      show 4+_=_
      omega
  rw [List.length_append,this]
theorem ofc_cell (post:List PV):∀ (L:List Ofc) (p:Nat) (h:p < L.length) (c:Nat),c < 4→(flat (L.map Ofc.v)++post)[p * 4+c]?=L[p].v.cells[c]?
  | o :: L, 0, _, c, hc => by
    simp only [List.map_cons,flat,List.append_assoc,Nat.zero_mul,Nat.zero_add,List.getElem_cons_zero]
    rw [List.getElem?_append_left (by show c < 4;omega)]
  | o :: L, p + 1, h, c, hc => by
    have ih:=ofc_cell post L p (by simpa using h) c hc
    simp only [List.map_cons,flat,List.append_assoc,List.getElem_cons_succ]
    rw [show (p+1) * 4+c=4+(p * 4+c) by omega,List.getElem?_append_right (by show 4≤_;omega)]
    rw [show 4+(p * 4+c) - (Ofc.v o).cells.length=p * 4+c by show 4+(p * 4+c) - 4=_;omega]
    exact ih
theorem ld_ofc {l:HL} {a:Nat} {L:List Ofc} {post:List PV} (hg:hget l a=some (.cells (flat (L.map Ofc.v)++post))) {p c o:Nat} (h:p < L.length) (hc:c < 4) (ho:o=p * 4+c) {v:Int} (hv:L[p].v.cells[c]?=some (I v)):loadK false 1 l (.ptr a o)=some (I v):=by
  subst ho
  simp only [loadK,hg]
  show nthK _ _=_
  rw [nthK_eq,ofc_cell post L p h c hc,hv]
theorem put_ri (post:List PV) (x:Int):∀ (L:List Ofc) (p:Nat) (h:p < L.length) (q:Nat),q=p * 4+1→pputs (flat (L.map Ofc.v)++post) q [I x]=flat ((L.set p ⟨L[p].kd,x,L[p].lo,L[p].hi⟩).map Ofc.v)++post
  | d::L,0,_,q,hq=>by subst hq;simp [pputs,flat,Ofc.v,PV.cells]
  | d :: L, p + 1, h, q, hq => by
    subst hq
    simp only [List.map_cons,flat,List.set_cons_succ,List.append_assoc,List.getElem_cons_succ]
    rw [show (p+1) * 4+1=4+(p * 4+1) from by omega,pputs_app _ _ 4 _ _ rfl,put_ri post x L p (by simpa using h) _ rfl]
theorem put_lo (post:List PV) (x:Int):∀ (L:List Ofc) (p:Nat) (h:p < L.length) (q:Nat),q=p * 4+2→pputs (flat (L.map Ofc.v)++post) q [I x]=flat ((L.set p ⟨L[p].kd,L[p].ri,x,L[p].hi⟩).map Ofc.v)++post
  | d::L,0,_,q,hq=>by subst hq;simp [pputs,flat,Ofc.v,PV.cells]
  | d :: L, p + 1, h, q, hq => by
    subst hq
    simp only [List.map_cons,flat,List.set_cons_succ,List.append_assoc,List.getElem_cons_succ]
    rw [show (p+1) * 4+2=4+(p * 4+2) from by omega,pputs_app _ _ 4 _ _ rfl,put_lo post x L p (by simpa using h) _ rfl]
section
variable {C:Cx} {X:EX} {e:EL} {ds:List Nat} {K:PV→PH→Prop} {h:PH}
variable {d:Option Tmp} {type:TypeId} {pos:String} {after:Array Edge} {guard:Option (Nat×Bool)}
theorem Ope.gtF {t t':TypeId} {x y:Operand} {kk:IntKind} {a b:Int} (hab:a≤b) (hx:pev (lget e) x=some (.lit (.int kk a))) (hy:pev (lget e) y=some (.lit (.int kk b))) (hK:K (B false) h) :
    Ope C X { dst:=d,op:=.binOp .gtr t x y t',type,pos,after,guard } e ds h K :=
  Ope.gt hx hy (by rw [decide_eq_false (by omega)];exact hK)
end
theorem f35 (a b c d:Int) (h:c≤a∧b≤d):Fn P0 35 [.agg [I a,I b],.agg [I c,I d]] (B true):=by
  have hb:=h.2
  refine PFun.of (C:=c35) (cx_ok _ _ _) rfl (fn:=Tryz.f35) (by kernel_rfl) (c:=_) rfl rfl rfl ?_
  refine Run.seq (Run.region (cx_ok _ _ _) (Reg.op rfl (Ope.boxF rfl rfl ?_)))
  refine Reg.op rfl (Ope.boxF rfl rfl ?_)
  refine Reg.op rfl (Ope.asg rfl ?_)
  refine Reg.nil (Run.seq (Run.region (cx_ok _ _ _) (Reg.op rfl (Ope.fld rfl rfl ?_))))
  refine Reg.op rfl (Ope.load rfl rfl ?_)
  refine Reg.op rfl (Ope.fld rfl rfl ?_)
  refine Reg.op rfl (Ope.load rfl rfl ?_)
  refine Reg.op rfl (Ope.ge rfl rfl ?_)
  refine Reg.op rfl (Ope.mov rfl ?_)
  refine Reg.splitX rfl rfl (fun hg=>?_) fun hg=>?_
  ·first
   |(exfalso;omega)
   |refine Reg.on rfl rfl rfl (Ope.fld rfl rfl ?_)
    refine Reg.on rfl rfl rfl (Ope.load rfl rfl ?_)
    refine Reg.on rfl rfl rfl (Ope.fld rfl rfl ?_)
    refine Reg.on rfl rfl rfl (Ope.load rfl rfl ?_)
    refine Reg.on rfl rfl rfl (Ope.le rfl rfl ?_)
    refine Reg.op rfl (Ope.pickT rfl rfl ?_)
    refine Reg.op rfl (Ope.asg rfl ?_)
    refine Reg.nil (Run.ret (fin_ret (.tmp rfl .nil) rfl ?_))
    (show B (decide (b≤d))=B true;rw [decide_eq_true h.2])
  ·first
   |(exfalso;omega)
   |refine Reg.off rfl rfl rfl (Reg.off rfl rfl rfl (Reg.off rfl rfl rfl (Reg.off rfl rfl rfl (Reg.off rfl rfl rfl (Reg.op rfl (Ope.pickF rfl rfl ?_))))))
    refine Reg.op rfl (Ope.asg rfl ?_)
    refine Reg.nil (Run.ret (fin_ret (.tmp rfl .nil) rfl ?_))
    (show B (decide (b≤d))=B true;rw [decide_eq_true h.2])
section
variable (f:Fns) {t1 t2:Tail} (h1:t1.isOwn=false) (h2:t2.isOwn=false)
include h1 h2
theorem f9a (hS:f.ru.length≤9223372036854775807) (hJ:f.li.length≤9223372036854775807) (p q r:PV) (bh:Bool) (hh:Fn P0 11 [f.v t1 t2,I 4000,.sl .ex []] (B bh)) (hv:bh=true∨f.B=false∨(f.li.length:Int)=0):Fn P0 9 [f.v t1 t2,p,q,r] (B true):=by
  have hfi:=f26 f h1 h2 hS hJ
  have hb:PV.bds 0 [f.v t1 t2,I 4000,.sl .ex []]=true:=bd_fnsV f h1 h2 rfl
  have hb0:PV.bds 0 [f.v t1 t2]=true:=bd_fnsV f h1 h2 rfl
  generalize f.B=y at *
  refine PFun.of (C:=c9) (cx_ok _ _ _) rfl (fn:=Tryz.f9) (by kernel_rfl) (c:=_) rfl rfl rfl ?_
  refine Run.seq (Run.region (cx_ok _ _ _) (Reg.op rfl (Ope.boxF rfl rfl ?_)))
  refine Reg.op rfl (Ope.asg rfl ?_)
  refine Reg.nil (Run.seq (Run.seq (Run.region (cx_ok _ _ _) (Reg.op rfl (Ope.load rfl rfl ?_)))))
  refine Reg.op rfl (Ope.cf rfl rfl hh hb ?_)
  refine Reg.op rfl (Ope.mov rfl ?_)
  refine Reg.splitX rfl rfl (fun hg=>?_) fun hg=>?_
  ·refine Reg.off rfl rfl rfl (Reg.off rfl rfl rfl (Reg.off rfl rfl rfl (Reg.op rfl (Ope.pickT rfl rfl ?_))))
   refine Reg.op rfl (Ope.mov rfl ?_)
   refine Reg.off rfl rfl rfl (Reg.off rfl rfl rfl (Reg.off rfl rfl rfl (Reg.off rfl rfl rfl (Reg.op rfl (Ope.pickT rfl rfl ?_)))))
   refine Reg.nil (Run.condT rfl (Run.seq (Run.region (cx_ok _ _ _) (Reg.op rfl (Ope.cf rfl rfl (aliveF) rfl ?_)))))
   refine Reg.op rfl (Ope.asg rfl ?_)
   exact Reg.nil (Run.ret (Jmp.code (fin_ret (.tmp rfl .nil) rfl rfl)))
  ·refine Reg.on rfl rfl rfl (Ope.load rfl rfl ?_)
   refine Reg.on rfl rfl rfl (Ope.cf rfl rfl hfi hb0 ?_)
   refine Reg.on rfl rfl rfl (Ope.not rfl ?_)
   refine Reg.op rfl (Ope.pickF rfl rfl ?_)
   refine Reg.op rfl (Ope.mov rfl ?_)
   refine Reg.splitX rfl rfl (fun hg=>?_) fun hg=>?_
   ·refine Reg.off rfl rfl rfl (Reg.off rfl rfl rfl (Reg.off rfl rfl rfl (Reg.off rfl rfl rfl (Reg.op rfl (Ope.pickT rfl rfl ?_)))))
    refine Reg.nil (Run.condT rfl (Run.seq (Run.region (cx_ok _ _ _) (Reg.op rfl (Ope.cf rfl rfl (aliveF) rfl ?_)))))
    refine Reg.op rfl (Ope.asg rfl ?_)
    exact Reg.nil (Run.ret (Jmp.code (fin_ret (.tmp rfl .nil) rfl rfl)))
   ·refine Reg.on rfl rfl rfl (Ope.fld rfl rfl ?_)
    refine Reg.on rfl rfl rfl (Ope.load rfl rfl ?_)
    refine Reg.on rfl rfl rfl (Ope.len (m:=f.li.length) rfl (by simp) ?_)
    refine Reg.on rfl rfl rfl (Ope.eq rfl rfl ?_)
    refine Reg.op rfl (Ope.pickF rfl rfl ?_)
    refine Reg.nil (Run.condX rfl (fun hc=>?_) fun hc=>?_)
    ·refine Run.seq (Run.region (cx_ok _ _ _) (Reg.op rfl (Ope.cf rfl rfl (aliveF) rfl ?_)))
     refine Reg.op rfl (Ope.asg rfl ?_)
     exact Reg.nil (Run.ret (Jmp.code (fin_ret (.tmp rfl .nil) rfl rfl)))
    ·(exfalso;simp_all;done)
end
end Go.Pv
