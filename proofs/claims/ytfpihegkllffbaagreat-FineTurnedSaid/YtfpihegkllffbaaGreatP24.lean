/- Parts of the proof: E42, E43, E44, E45, E51, E61 -/
import Derived.Test.YtfpihegkllffbaaGreatP23
set_option linter.unusedVariables false
set_option linter.unusedSimpArgs false
set_option linter.unusedSectionVars false
namespace Go.Pv
open Go.Proofs Go.Am
set_option maxRecDepth 10000
theorem tru_ri {f:Fns} {T:List Deed} (h:f.Tru T):∀ d∈T,0≤d.ri∧d.ri < f.n:=fun d hd=>by
  obtain ⟨i,hi,rfl⟩:=List.getElem_of_mem hd
  have:=(h.at' i hi).2.2.2.1
  exact ⟨this.1,this.2.1⟩
end Go.Pv
namespace Go.Pv
open Go.Proofs Go.Am
set_option maxRecDepth 10000
structure TD (kn len:Nat) (RI X:List Int) (FI PA:Nat→List Int):Prop where
  rl:RI.length=len
  xl:X.length=len
  xb:∀ i (h:i < X.length),0≤X[i]∧X[i]≤1000
  fl:∀ i,(FI i).length=kn
  pl:∀ i,(PA i).length=kn
  f0:FI 0=List.replicate kn 0
  p0:PA 0=List.replicate kn 0
  fb:∀ i r (h:r < (FI i).length),0≤(FI i)[r]∧(FI i)[r]≤5005
  pb:∀ i r (h:r < (PA i).length),0≤(PA i)[r]∧(PA i)[r]≤5005
  st:∀ i (h1:i < RI.length) (h2:i < X.length),∃ w:Nat,RI[i]=(w:Int)∧w < kn∧w ^^^ 1 < kn∧∃ (a:w < (FI i).length) (b:w < (PA i).length) (c:w ^^^ 1 < ((PA i).set w ((PA i)[w]+(X[i]+1) / 2)).length),
    FI (i+1)=(FI i).set w ((FI i)[w]+X[i])∧PA (i+1)=((PA i).set w ((PA i)[w]+(X[i]+1) / 2)).set (w ^^^ 1) (((PA i).set w ((PA i)[w]+(X[i]+1) / 2))[w ^^^ 1]+X[i] / 2)
  af:isum (FI len)=isum X
  ap:isum (PA len)=isum X
  tw:∀ r (h:r+1 < kn),r % 2=0→(FI len)[r+1]'(by rw [fl];exact h)+(FI len)[r]'(by rw [fl];omega)=(PA len)[r+1]'(by rw [pl];exact h)+(PA len)[r]'(by rw [pl];omega)
end Go.Pv
namespace Go.Pv
open Go.Proofs Go.Am
set_option maxRecDepth 10000
set_option maxHeartbeats 4000000
section
variable (f:Fns) {t1 t2:Tail} (h1:t1.isOwn=false) (h2:t2.isOwn=false)
include h1 h2
end
end Go.Pv
namespace Go.Pv
open Go.Proofs Go.Am
set_option maxRecDepth 10000
end Go.Pv
namespace Go.Pv
open Go.Proofs Go.Am
set_option maxRecDepth 10000
def Fns.wl (f:Fns) (L:List Ofc):Fns:=⟨f.ru,f.n,L⟩
def dnD (n:Nat) (d:Deed):Deed:=⟨d.kd,if d.nu < n then d.nu else d.nu - 1,d.ri,d.ho⟩
structure Gmo (g:Deed→Int→Int):Prop where
  nn:∀ d c,0≤c→0≤g d c
  mo:∀ d c c',c≤c'→g d c≤g d c'
  nu:∀ n d c,g (dnD n d) c=g d c
end Go.Pv
namespace Go.Pv
open Go.Proofs Go.Am
set_option maxRecDepth 10000
def numZ (n t r:Nat):Nat:=((r / 2+t) * 2) % n+(r+t / 16) % 2
structure Trn (n:Int) (σ:Int→Int):Prop where
  rg:∀ r,0≤r→r < n→0≤σ r∧σ r < n
  inj:∀ r q,0≤r→r < n→0≤q→q < n→σ r=σ q→r=q
  sur:∀ y,0≤y→y < n→∃ r,0≤r∧r < n∧σ r=y
  pt:∀ r,0≤r→r < n→part (σ r)=σ (part r)
  ev:∀ r,0≤r→r < n→0≤part r∧part r < n
def sgm (n t:Nat) (r:Int):Int:=(numZ n t r.toNat:Nat)
theorem trn_num {n:Nat} (hn:n=2∨n=4∨n=6) (t:Nat):Trn (n:Int) (sgm n t):=by
  have hs:∀ r:Nat,sgm n t (r:Int)=(numZ n t r:Nat):=fun r=>by unfold sgm;rw [Int.toNat_natCast]
  refine ⟨fun r h0 h1=>?_,fun r q h0 h1 h2 h3 e=>?_,fun y h0 h1=>?_,fun r h0 h1=>?_,fun r h0 h1=>?_⟩
  · obtain ⟨a, rfl⟩ : ∃ a : Nat, r = (a : Int) := ⟨r.toNat, by omega⟩
    rw [hs]
    unfold numZ
    rcases hn with rfl | rfl | rfl<;>omega
  · obtain ⟨a, rfl⟩ : ∃ a : Nat, r = (a : Int) := ⟨r.toNat, by omega⟩
    obtain ⟨b,rfl⟩:∃ a:Nat,q=(a:Int):=⟨q.toNat,by omega⟩
    rw [hs,hs] at e
    unfold numZ at e
    rcases hn with rfl | rfl | rfl<;>omega
  · obtain ⟨a, rfl⟩ : ∃ a : Nat, y = (a : Int) := ⟨y.toNat, by omega⟩
    rcases hn with rfl | rfl | rfl
    · refine ⟨((a + t / 16) % 2 : Nat), by omega, by omega, ?_⟩
      rw [hs];unfold numZ;omega
    · refine ⟨(2 * ((a / 2 + (2 - t % 2)) % 2) + (a + t / 16) % 2 : Nat), by omega, by omega, ?_⟩
      rw [hs];unfold numZ;omega
    · refine ⟨(2 * ((a / 2 + (3 - t % 3)) % 3) + (a + t / 16) % 2 : Nat), by omega, by omega, ?_⟩
      rw [hs];unfold numZ;omega
  · obtain ⟨a, rfl⟩ : ∃ a : Nat, r = (a : Int) := ⟨r.toNat, by omega⟩
    have hp:part (a:Int)=((if a % 2=0 then a+1 else a - 1:Nat):Int):=by
      unfold part
      by_cases h:a % 2=0
      · rw [if_pos (by omega),if_pos h];omega
      · rw [if_neg (by omega),if_neg h];omega
    rw [hp,hs,hs]
    unfold part numZ
    rcases hn with rfl | rfl | rfl<;>(split<;>split<;>omega)
  · unfold part
    rcases hn with rfl | rfl | rfl<;>(split<;>omega)
def rnD (σ:Int→Int) (d:Deed):Deed:=⟨d.kd,d.nu,σ d.ri,d.ho⟩
section
variable {f:Fns} {σ:Int→Int} (hσ:Trn f.n σ)
include hσ
theorem cin_rn {T:List Deed} (hT:∀ d∈T,0≤d.ri∧d.ri < f.n) {d:Deed} (hd:0≤d.ri∧d.ri < f.n):f.cin (T.map (rnD σ)) (rnD σ d)=f.cin T d:=by
  show f.cst d (f.earl ((T.map (rnD σ)).filter fun o=>bef o (rnD σ d)) (rnD σ d))=f.cst d _
  congr 1
  unfold Fns.earl
  rw [List.filter_map,List.filter_map,List.length_map]
  congr 1
  have e1:T.filter ((fun o=>bef o (rnD σ d)) ∘ rnD σ)=T.filter fun o=>bef o d:=List.filter_congr fun o _=>rfl
  rw [e1]
  refine List.filter_congr fun o ho=>?_
  have hoT:=hT o (List.mem_filter.1 ho).1
  show ((decide (o.kd=d.kd) && decide (σ o.ri=σ d.ri)) && _)=((decide (o.kd=d.kd) && decide (o.ri=d.ri)) && _)
  congr 2
  exact decide_eq_decide.2 ⟨fun e=>hσ.inj _ _ hoT.1 hoT.2 hd.1 hd.2 e,fun e=>by rw [e]⟩
theorem val_rn {T:List Deed} (hT:∀ d∈T,0≤d.ri∧d.ri < f.n) {g g':Deed→Int→Int} (hg:∀ d∈T,∀ c,g' (rnD σ d) c=g d c):f.val g' (T.map (rnD σ))=f.val g T:=by
  unfold Fns.val
  rw [List.map_map]
  congr 1
  refine List.map_congr_left fun d hd=>?_
  show g' (rnD σ d) (f.cin (T.map (rnD σ)) (rnD σ d))=g d (f.cin T d)
  rw [cin_rn hσ hT (hT d hd),hg d hd]
structure TrL (f:Fns) (σ:Int→Int) (L:List Ofc):Prop where
  ln:L.length=f.li.length
  kd:∀ i,i < f.li.length→((f.wl L).ofc i).kd=(f.ofc i).kd
  lo:∀ i,i < f.li.length→((f.wl L).ofc i).lo=(f.ofc i).lo
  hi:∀ i,i < f.li.length→((f.wl L).ofc i).hi=(f.ofc i).hi
  bt:∀ i,i < f.li.length→∀ r,0≤r→r < f.n→((f.wl L).ofc i).ri.toNat.testBit (σ r).toNat=(f.ofc i).ri.toNat.testBit r.toNat
theorem tru_rn {L:List Ofc} (hL:TrL f σ L) {T:List Deed} (h:f.Tru T):(f.wl L).Tru (T.map (rnD σ)):=by
  refine ⟨by rw [List.length_map,h.ln];exact hL.ln.symm,fun i hi=>?_⟩
  have hiT:i < T.length:=by simpa using hi
  have e:(T.map (rnD σ))[i]=rnD σ T[i]:=List.getElem_map ..
  obtain ⟨a,b1,b2,⟨b3,b4,b5⟩,b6,b7⟩:=h.at' i hiT
  rw [a] at b1 b2 b5 b6 b7
  rw [e]
  refine ⟨a,?_⟩
  have hr:=hσ.rg _ b3 b4
  unfold Fns.alw
  rw [show (rnD σ T[i]).nu=i from a,hL.kd i b1,hL.lo i b1,hL.hi i b1]
  exact ⟨by show i < L.length;rw [hL.ln];exact b1,b2,⟨hr.1,hr.2,by show _=true;rw [show (rnD σ T[i]).ri=σ T[i].ri from rfl,hL.bt i b1 _ b3 b4];exact b5⟩,b6,b7⟩
theorem tru_nr {L:List Ofc} (hL:TrL f σ L) {T':List Deed} (h:(f.wl L).Tru T'):∃ T,f.Tru T∧T.map (rnD σ)=T':=by
  have hx:∀ y:Int,∃ r,0≤y→y < f.n→0≤r∧r < f.n∧σ r=y:=fun y=>by
    by_cases hy:0≤y∧y < f.n
    · obtain ⟨r, a, b, c⟩ := hσ.sur y hy.1 hy.2
      exact ⟨r,fun _ _=>⟨a,b,c⟩⟩
    · exact ⟨0,fun a b=>absurd ⟨a,b⟩ hy⟩
  obtain ⟨τ,hτ⟩:∃ τ:Int→Int,∀ y,0≤y→y < f.n→0≤τ y∧τ y < f.n∧σ (τ y)=y:=⟨fun y=>Classical.choose (hx y),fun y=>Classical.choose_spec (hx y)⟩
  have hri:∀ i (hi:i < T'.length),0≤T'[i].ri∧T'[i].ri < f.n:=fun i hi=>⟨(h.at' i hi).2.2.2.1.1,(h.at' i hi).2.2.2.1.2.1⟩
  refine ⟨T'.map (rnD τ),⟨by rw [List.length_map,h.ln];exact hL.ln,fun i hi=>?_⟩,?_⟩
  · have hiT : i < T'.length := by simpa using hi
    have e:(T'.map (rnD τ))[i]=rnD τ T'[i]:=List.getElem_map ..
    obtain ⟨a,b1,b2,⟨b3,b4,b5⟩,b6,b7⟩:=h.at' i hiT
    rw [a] at b1 b2 b5 b6 b7
    have b1':i < f.li.length:=by rw [← hL.ln];exact b1
    rw [hL.kd i b1'] at b2
    rw [hL.lo i b1'] at b6
    rw [hL.hi i b1'] at b7
    obtain ⟨c1,c2,c3⟩:=hτ T'[i].ri b3 b4
    rw [← c3,hL.bt i b1' _ c1 c2] at b5
    rw [e]
    refine ⟨a,?_⟩
    unfold Fns.alw
    rw [show (rnD τ T'[i]).nu=i from a]
    exact ⟨b1',b2,⟨c1,c2,b5⟩,b6,b7⟩
  · rw [List.map_map]
    refine List.ext_getElem (by simp) fun i h1 h2=>?_
    rw [List.getElem_map]
    have hc:=(hτ T'[i].ri (hri i h2).1 (hri i h2).2).2.2
    show rnD σ (rnD τ T'[i])=T'[i]
    generalize T'[i]=d at hc ⊢
    obtain ⟨kd,nu,ri,ho⟩:=d
    unfold rnD
    simp only at hc ⊢
    rw [hc]
theorem spn_rn {L:List Ofc} (hf:f.ok) (hx:(f.wl L).ok) (hL:TrL f σ L) {g g':Deed→Int→Int} (hg:Gok g) (hg':Gok g') (he:∀ d,0≤d.ri→d.ri < f.n→∀ c,g' (rnD σ d) c=g d c):(f.wl L).spn g'=f.spn g:=by
  have hv:∀ T,f.Tru T→(f.wl L).val g' (T.map (rnD σ))=f.val g T:=fun T hT=>by
    show f.val g' (T.map (rnD σ))=f.val g T
    exact val_rn hσ (tru_ri hT) fun d hd=>he d (tru_ri hT d hd).1 (tru_ri hT d hd).2
  refine (spn_hul hx hg').uniq (Hul.congr (spn_hul hf hg) fun x=>⟨fun ⟨T,hT,e⟩=>⟨_,tru_rn hσ hL hT,by rw [hv T hT];exact e⟩,fun ⟨T',hT',e⟩=>?_⟩)
  obtain ⟨T,hT,rfl⟩:=tru_nr hσ hL hT'
  exact ⟨T,hT,by rw [hv T hT] at e;exact e⟩
theorem gF_rn {r:Int} (h0:0≤r) (h1:r < f.n) (d:Deed) (d0:0≤d.ri) (d1:d.ri < f.n) (c:Int):gF (σ r) (rnD σ d) c=gF r d c:=by
  unfold gF
  by_cases h:d.ri=r
  · rw [if_pos h,if_pos (by show σ d.ri=σ r;rw [h])]
  · rw [if_neg h,if_neg (show ¬ (rnD σ d).ri=σ r from fun e=>h (hσ.inj _ _ d0 d1 h0 h1 e))]
theorem gP_rn {r:Int} (h0:0≤r) (h1:r < f.n) (d:Deed) (d0:0≤d.ri) (d1:d.ri < f.n) (c:Int):gP (σ r) (rnD σ d) c=gP r d c:=by
  have hp:=hσ.ev r h0 h1
  have e1:=gF_rn hσ h0 h1 d d0 d1 c
  have e2:=gF_rn hσ hp.1 hp.2 d d0 d1 c
  rw [← hσ.pt r h0 h1] at e2
  unfold gF at e1 e2
  unfold gP
  rw [e1,e2]
end
def setZ (n t R:Nat):Nat→Nat
  | 0=>0
  | k+1=>setZ n t R k ||| (R >>> k &&& 1) * 2 ^ numZ n t k
theorem setZ_bit (n t R : Nat) : ∀ k y, (setZ n t R k).testBit y = true ↔ ∃ r, r < k ∧ R.testBit r = true ∧ numZ n t r = y
  | 0, y => by
    simp only [setZ,Nat.zero_testBit]
    exact ⟨fun h=>(by cases h),fun ⟨r,h,_⟩=>absurd h (Nat.not_lt_zero _)⟩
  | k + 1, y => by
    have hb:R >>> k &&& 1=if R.testBit k=true then 1 else 0:=by
      rw [Nat.testBit,Nat.and_comm 1 (R >>> k),Nat.and_one_is_mod]
      rcases Nat.mod_two_eq_zero_or_one (R >>> k) with h | h<;>simp [h]
    rw [setZ,Nat.testBit_or,Bool.or_eq_true,setZ_bit n t R k y,hb]
    constructor
    · rintro (⟨r, h1, h2, h3⟩ | h)
      · exact ⟨r,by omega,h2,h3⟩
      · by_cases hk : R.testBit k = true
        · rw [if_pos hk, Nat.one_mul, Nat.testBit_two_pow, decide_eq_true_eq] at h
          exact ⟨k,Nat.lt_succ_self _,hk,h⟩
        · rw [if_neg hk, Nat.zero_mul] at h
          simp at h
    · rintro ⟨r, h1, h2, h3⟩
      by_cases hr:r=k
      · subst hr
        right
        rw [if_pos h2,Nat.one_mul,Nat.testBit_two_pow,decide_eq_true_eq]
        exact h3
      · exact .inl ⟨r,by omega,h2,h3⟩
theorem setZ_lt {n t R:Nat} (hn:n=2∨n=4∨n=6):∀ k,k≤n→setZ n t R k < 2 ^ n:=fun k hk=>by
  refine Nat.lt_pow_two_of_testBit _ fun i hi=>?_
  cases h:(setZ n t R k).testBit i with
  | false=>rfl
  | true =>
    obtain ⟨r,h1,h2,h3⟩:=(setZ_bit n t R k i).1 h
    exfalso
    unfold numZ at h3
    rcases hn with rfl | rfl | rfl<;>omega
theorem setZ_at {n t R:Nat} (hn:n=2∨n=4∨n=6) {r:Nat} (hr:r < n):(setZ n t R n).testBit (numZ n t r)=R.testBit r:=by
  rw [Bool.eq_iff_iff,setZ_bit]
  constructor
  · rintro ⟨q, h1, h2, h3⟩
    have hi:=(trn_num hn t).inj (q:Int) (r:Int) (by omega) (by omega) (by omega) (by omega) (by unfold sgm;rw [Int.toNat_natCast,Int.toNat_natCast,h3])
    have:q=r:=by omega
    subst this;exact h2
  · intro h
    exact ⟨r,hr,h,rfl⟩
def trO (n t:Nat) (o:Ofc):Ofc:=⟨o.kd,(setZ n t o.ri.toNat n:Nat),o.lo,o.hi⟩
theorem trL_of {f:Fns} (hf:f.ok) {n:Nat} (hn:f.n=(n:Int)) (t:Nat):TrL f (sgm n t) (f.li.map (trO n t)):=by
  have h3:n=2∨n=4∨n=6:=by have:=hf.n;omega
  have ho:∀ i,i < f.li.length→(f.wl (f.li.map (trO n t))).ofc i=trO n t (f.ofc i):=fun i hi=>by
    rw [Fns.ofc_at (f:=f.wl (f.li.map (trO n t))) (by show i < (f.li.map (trO n t)).length;rw [List.length_map];exact hi),Fns.ofc_at hi]
    show (f.li.map (trO n t))[i]'_=_
    rw [List.getElem_map]
  refine ⟨List.length_map ..,fun i hi=>by rw [ho i hi];rfl,fun i hi=>by rw [ho i hi];rfl,fun i hi=>by rw [ho i hi];rfl,fun i hi r h0 h1=>?_⟩
  obtain ⟨a,rfl⟩:∃ a:Nat,r=(a:Int):=⟨r.toNat,by omega⟩
  rw [ho i hi]
  show ((setZ n t (f.ofc i).ri.toNat n:Nat):Int).toNat.testBit (sgm n t (a:Int)).toNat=_
  unfold sgm
  rw [Int.toNat_natCast,Int.toNat_natCast,Int.toNat_natCast,setZ_at h3 (by omega)]
theorem tr_ok {f:Fns} (hf:f.ok) {n:Nat} (hn:f.n=(n:Int)) (t:Nat):(f.wl (f.li.map (trO n t))).ok:=by
  have h3:n=2∨n=4∨n=6:=by have:=hf.n;omega
  refine ⟨hf.ru,hf.n,by show (f.li.map (trO n t)).length≤5;rw [List.length_map];exact hf.li,hf.rv,fun o ho=>?_⟩
  obtain ⟨p,hp,rfl⟩:=List.mem_map.1 ho
  obtain ⟨q1,q2,q3⟩:=hf.lv p hp
  have hlt:=setZ_lt (t:=t) (R:=p.ri.toNat) h3 n (Nat.le_refl _)
  have e1:(2:Int) ^ f.n.toNat=((2 ^ n:Nat):Int):=by rw [hn,Int.toNat_natCast];push_cast;rfl
  refine ⟨q1,⟨?_,?_⟩,q3⟩
  · obtain ⟨r, hr, hb⟩ := some_bit (x := p.ri.toNat) (k := n) (by omega) (by rw [e1] at q2; omega)
    have h9:=setZ_at (t:=t) (R:=p.ri.toNat) h3 hr
    rw [hb] at h9
    show (0:Int) < ((setZ n t p.ri.toNat n:Nat):Int)
    rcases Nat.eq_zero_or_pos (setZ n t p.ri.toNat n) with h0 | h0
    · rw [h0] at h9;simp at h9
    · omega
  · show ((setZ n t p.ri.toNat n : Nat) : Int) < 2 ^ f.n.toNat
    rw [e1];omega
def Fns.wr (f:Fns) (r:Rul):Fns:=⟨f.ru++[r],f.n,f.li⟩
theorem wr_ok {f:Fns} (hf:f.ok) {r:Rul} (hl:f.ru.length < 4) (hr:(0≤r.ba∧r.ba≤1000)∧(0≤r.st∧r.st≤1000)∧(0≤r.mo∧r.mo≤1000)∧(0≤r.wi∧r.wi≤144)):(f.wr r).ok:=by
  have e:(f.wr r).ru.length=f.ru.length+1:=by show (f.ru++[r]).length=_;simp
  refine ⟨by rw [e];omega,hf.n,hf.li,fun x hx=>?_,fun o ho=>?_⟩
  · rcases List.mem_append.1 hx with h | h
    · exact hf.rv x h
    · rw [List.mem_singleton] at h;subst h;exact hr
  · obtain ⟨q1, q2, q3⟩ := hf.lv o ho
    exact ⟨⟨q1.1,by rw [e];omega⟩,q2,q3⟩
theorem wr_spn {f:Fns} (hf:f.ok) {r:Rul} (hx:(f.wr r).ok) {g:Deed→Int→Int} (hg:Gok g):(f.wr r).spn g=f.spn g:=by
  have hv:∀ T,f.Tru T→(f.wr r).val g T=f.val g T:=fun T hT=>by
    unfold Fns.val
    congr 1
    refine List.map_congr_left fun d hd=>?_
    obtain ⟨i,hi,rfl⟩:=List.getElem_of_mem hd
    have ha:=(hT.at' i hi)
    have hk:=(hf.lv _ (List.getElem_mem ha.2.1)).1
    rw [← Fns.ofc_at ha.2.1,ha.2.2.1] at hk
    have hru:(f.wr r).rule T[i].kd=f.rule T[i].kd:=by
      show (f.ru++[r]).getD T[i].kd.toNat default=f.ru.getD T[i].kd.toNat default
      rw [List.getD_eq_getElem?_getD,List.getD_eq_getElem?_getD,List.getElem?_append_left (by omega)]
    congr 1
    unfold Fns.cin Fns.cst Fns.earl
    rw [hru]
    congr 5
    unfold Fns.win
    rw [hru]
  refine (spn_hul hx hg).uniq (Hul.congr (spn_hul hf hg) fun x=>⟨fun ⟨T,hT,e⟩=>⟨T,⟨hT.ln,hT.at'⟩,by rw [hv T hT];exact e⟩,fun ⟨T,hT,e⟩=>⟨T,⟨hT.ln,hT.at'⟩,?_⟩⟩)
  have hT':f.Tru T:=⟨hT.ln,hT.at'⟩
  rw [hv T hT'] at e
  exact e
end Go.Pv
