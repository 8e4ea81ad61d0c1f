/- Parts of the proof: M31, M32, M33, M29, M35, M37 -/
import Derived.Test.YtgpcfkpenkaipaaP20
set_option linter.unusedVariables false
set_option linter.unusedSimpArgs false
set_option linter.unusedSectionVars false
namespace Go.Pv
open Go.Proofs Go.Am
set_option maxRecDepth 10000
theorem get_job (post:List PV) {c:Nat} (hc:c < 8):∀ (js:List Job) (i:Nat) (h:i < js.length),(flat (js.map Job.v)++post)[8 * i+c]?=js[i].v.cells[c]?
  | j :: js, 0, _ => by
    simp only [List.map_cons,flat,List.getElem_cons_zero,Nat.mul_zero,Nat.zero_add,List.append_assoc]
    exact List.getElem?_append_left (by show c < 8;exact hc)
  | j :: js, i + 1, h => by
    have ih:=get_job post hc js i (by simpa using h)
    simp only [List.map_cons,flat,List.getElem_cons_succ,List.append_assoc]
    have h8:j.v.cells.length=8:=rfl
    rw [List.getElem?_append_right (by rw [h8];omega),h8,← ih]
    congr 1
    omega
theorem set_job (post:List PV) {c:Nat} (hc:c < 8) {x:PV} {g:Job→Job} (hg:∀ j:Job,(g j).v.cells=j.v.cells.set c x):∀ (js:List Job) (i:Nat) (h:i < js.length),(flat (js.map Job.v)++post).set (8 * i+c) x=flat ((js.set i (g js[i])).map Job.v)++post
  | j :: js, 0, _ => by
    simp only [List.map_cons,flat,List.getElem_cons_zero,Nat.mul_zero,Nat.zero_add,List.set_cons_zero,List.append_assoc,hg]
    rw [List.set_append_left _ _ (by show c < 8;exact hc)]
  | j :: js, i + 1, h => by
    have ih:=set_job post hc hg js i (by simpa using h)
    simp only [List.map_cons,flat,List.getElem_cons_succ,List.set_cons_succ,List.append_assoc]
    have h8:j.v.cells.length=8:=rfl
    rw [List.set_append_right _ _ (by rw [h8];omega),h8,← ih]
    congr 2
    omega
theorem jobs_len (js:List Job) (post:List PV):(flat (js.map Job.v)++post).length=8 * js.length+post.length:=by rw [List.length_append,flat_jobs]
section
variable (s:Shp) {t1 t2:Tail} (h1:t1.isOwn=false) (h2:t2.isOwn=false)
include h1 h2
end
end Go.Pv
namespace Go.Pv
open Go.Proofs Go.Am
set_option maxRecDepth 10000
structure LaxJ (j k:Job):Prop where
  kd:k.kd=j.kd
  hi:k.hi≤j.hi
  fr:k.fr≤j.fr
  so:j.so≤k.so
  bt:j.bt≤k.bt
  co:k.co≤j.co
  c0:0≤k.co
  af:∀ q,k.af.toNat.testBit q=true→j.af.toNat.testBit q=true
structure Lax (s x:Shp):Prop where
  su:x.su=s.su
  n:x.jo.length=s.jo.length
  j:∀ i,i < s.jo.length→LaxJ (s.job i) (x.job i)
structure PLax (p q:Pst):Prop where
  J:q.J=p.J
  kd:q.kd=p.kd
  f1:q.f1≤p.f1
section
variable {s x:Shp} (hL:Lax s x)
include hL
end
theorem olk_n (L:List Sq):(olk L).n=L.length:=by cases L<;>rfl
structure SameJ (j k:Job):Prop where
  kd:k.kd=j.kd
  hi:k.hi=j.hi
  fr:k.fr=j.fr
  so:k.so=j.so
  bt:k.bt=j.bt
  co:k.co=j.co
  af:k.af=j.af
structure Same (s x:Shp):Prop where
  su:x.su=s.su
  n:x.jo.length=s.jo.length
  j:∀ i,i < s.jo.length→SameJ (s.job i) (x.job i)
structure PSame (p q:Pst):Prop where
  J:q.J=p.J
  kd:q.kd=p.kd
  f1:q.f1=p.f1
section
variable {s x:Shp} (hL:Same s x)
include hL
end
theorem ok_val {s:Shp} (hs:s.ok 30):s.val=true:=by
  refine val_yes s hs.su hs.jo (fun i h=>?_) fun i h=>?_
  · have := hs.sv _ (List.getElem_mem h)
    unfold upB
    simp only [Bool.and_eq_true,decide_eq_true_eq]
    exact this
  · have hj := hs.jv i h
    have haf:=hj.af
    have hp:=pow6 hs.jo
    exact (job_ok hs.jo h (by omega)).2 hj
end Go.Pv
namespace Go.Pv
open Go.Proofs Go.Am
set_option maxRecDepth 10000
end Go.Pv
namespace Go.Pv
open Go.Proofs Go.Am
set_option maxRecDepth 10000
def GI (s:Shp) (ws:List Wrk) (J R:Int) (i:Nat) (G:Int):Prop :=
  (G=4∧s.flt ws=none)∨(G=0∧(∃ j:Nat,J=j∧s.flt ws=some (j,R))∧∀ k (hk:k < ws.length),k < i→s.bad ws[k]=0)∨(G=11∧s.flt ws≠none)
theorem GI.zero {s:Shp} {ws:List Wrk} {J R:Int} {i:Nat} {G:Int} (h:GI s ws J R i G) (hG:G=0):(∃ j:Nat,J=j∧s.flt ws=some (j,R))∧∀ k (hk:k < ws.length),k < i→s.bad ws[k]=0:=by
  rcases h with h | h | h
  · have:=h.1;omega
  · exact h.2
  · have:=h.1;omega
theorem neB (x y:Operand):∀ a b:Bool,a=b→pbin A0 E0 .neq 4 x y (B a) (B b)=some (B false):=by
  rintro a _ rfl
  cases a<;>rfl
section
variable (s:Shp) {t1 t2:Tail} (h1:t1.isOwn=false) (h2:t2.isOwn=false)
include h1 h2
end
end Go.Pv
namespace Go.Pv
open Go.Proofs Go.Am
set_option maxRecDepth 10000
section
variable (s:Shp) {t1 t2:Tail} (h1:t1.isOwn=false) (h2:t2.isOwn=false)
include h1 h2
end
end Go.Pv
namespace Go.Pv
open Go.Proofs Go.Am
set_option maxRecDepth 10000
section
variable (s:Shp) {t1 t2:Tail} (h1:t1.isOwn=false) (h2:t2.isOwn=false)
include h1 h2
end
end Go.Pv
