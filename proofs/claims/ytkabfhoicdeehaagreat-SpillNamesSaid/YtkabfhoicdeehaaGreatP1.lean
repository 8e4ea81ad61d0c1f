/- Parts of the proof: Am1, Am2, Am3, Am4, Am5, Am6 -/
import Derived.Calls
import Derived.Below
import Derived.Laws.Append
import Derived.WalkKit
import Derived.Laws.CopyRow
import Derived.Laws.OwnMore
set_option linter.unusedVariables false
set_option linter.unusedSimpArgs false
set_option linter.unusedSectionVars false
namespace Go.Am
structure N8 (β:Type) where
 a:β
 b:β
 c:β
 d:β
 e:β
 f:β
 g:β
 h:β
namespace N8
variable {β:Type}
def rep (b:β):N8 β:=⟨b,b,b,b,b,b,b,b⟩
def sel (j : Nat) (n : N8 β) : β :=
 match n with
 |⟨a, b, c, d, e, f, g, h⟩ => match j with
  |0=>a
  |j + 1 => match j with
   |0=>b
   |j + 1 => match j with
    |0=>c
    |j + 1 => match j with
     |0=>d
     |j + 1 => match j with
      |0=>e
      |j+1=>match j with
       |0=>f
       |j+1=>match j with
        |0=>g
        |j+1=>h
def upd (j : Nat) (F : β → β) (n : N8 β) : N8 β :=
 match n with
 |⟨a, b, c, d, e, f, g, h⟩ => match j with
  |0=>⟨F a,b,c,d,e,f,g,h⟩
  |j + 1 => match j with
   |0=>⟨a,F b,c,d,e,f,g,h⟩
   |j + 1 => match j with
    |0=>⟨a,b,F c,d,e,f,g,h⟩
    |j + 1 => match j with
     |0=>⟨a,b,c,F d,e,f,g,h⟩
     |j + 1 => match j with
      |0=>⟨a,b,c,d,F e,f,g,h⟩
      |j+1=>match j with
       |0=>⟨a,b,c,d,e,F f,g,h⟩
       |j+1=>match j with
        |0=>⟨a,b,c,d,e,f,F g,h⟩
        |j+1=>⟨a,b,c,d,e,f,g,F h⟩
theorem sel_upd (j q:Nat) (F:β→β) (n:N8 β) (hj:j < 8) (hq:q < 8):sel q (upd j F n)=if q=j then F (sel j n) else sel q n:=by
 obtain ⟨a,b,c,d,e,f,g,h⟩:=n
 match j,hj with
 |0,_=>match q,hq with | 0,_ | 1,_ | 2,_ | 3,_ | 4,_ | 5,_ | 6,_ | 7,_=>rfl
 |1,_=>match q,hq with | 0,_ | 1,_ | 2,_ | 3,_ | 4,_ | 5,_ | 6,_ | 7,_=>rfl
 |2,_=>match q,hq with | 0,_ | 1,_ | 2,_ | 3,_ | 4,_ | 5,_ | 6,_ | 7,_=>rfl
 |3,_=>match q,hq with | 0,_ | 1,_ | 2,_ | 3,_ | 4,_ | 5,_ | 6,_ | 7,_=>rfl
 |4,_=>match q,hq with | 0,_ | 1,_ | 2,_ | 3,_ | 4,_ | 5,_ | 6,_ | 7,_=>rfl
 |5,_=>match q,hq with | 0,_ | 1,_ | 2,_ | 3,_ | 4,_ | 5,_ | 6,_ | 7,_=>rfl
 |6,_=>match q,hq with | 0,_ | 1,_ | 2,_ | 3,_ | 4,_ | 5,_ | 6,_ | 7,_=>rfl
 |7,_=>match q,hq with | 0,_ | 1,_ | 2,_ | 3,_ | 4,_ | 5,_ | 6,_ | 7,_=>rfl
theorem sel_rep (j:Nat) (b:β):sel j (rep b)=b:=by
 unfold sel rep
 simp only []
 repeat' split
 all_goals rfl
def get2 (w:N8 (N8 β)) (n:Nat):β:=sel (n % 8) (sel (n / 8 % 8) w)
def upd2 (w:N8 (N8 β)) (n:Nat) (F:β→β):N8 (N8 β):=upd (n / 8 % 8) (upd (n % 8) F) w
theorem get2_upd2 (w:N8 (N8 β)) (n k:Nat) (F:β→β) (hn:n < 64) (hk:k < 64):get2 (upd2 w n F) k=if k=n then F (get2 w n) else get2 w k:=by
 have h8:∀ m,m % 8 < 8:=fun m=>Nat.mod_lt _ (by omega)
 unfold get2 upd2
 rw [sel_upd _ _ _ _ (h8 _) (h8 _)]
 by_cases h1:k / 8 % 8=n / 8 % 8
 ·rw [if_pos h1,sel_upd _ _ _ _ (h8 _) (h8 _)]
  by_cases h2:k % 8=n % 8
  ·rw [if_pos h2,if_pos (by omega)]
  ·rw [if_neg h2,if_neg (fun e=>h2 (by rw [e])),h1]
 ·rw [if_neg h1,if_neg (fun e=>h1 (by rw [e]))]
theorem get2_rep (b:β) (n:Nat):get2 (rep (rep b)) n=b:=by
 unfold get2
 rw [sel_rep,sel_rep]
def get4 (w:N8 (N8 (N8 (N8 β)))) (n:Nat):β:=get2 (get2 w (n / 64)) (n % 64)
def upd4 (w:N8 (N8 (N8 (N8 β)))) (n:Nat) (F:β→β):N8 (N8 (N8 (N8 β))):=upd2 w (n / 64) fun u=>upd2 u (n % 64) F
theorem get4_upd4 (w:N8 (N8 (N8 (N8 β)))) (n k:Nat) (F:β→β) (hn:n < 4096) (hk:k < 4096):get4 (upd4 w n F) k=if k=n then F (get4 w n) else get4 w k:=by
 unfold get4 upd4
 rw [get2_upd2 _ _ _ _ (by omega) (by omega)]
 by_cases h1:k / 64=n / 64
 ·rw [if_pos h1,get2_upd2 _ _ _ _ (by omega) (by omega)]
  by_cases h2:k % 64=n % 64
  ·rw [if_pos h2,if_pos (by omega)]
  ·rw [if_neg h2,if_neg (fun e=>h2 (by rw [e])),h1]
 ·rw [if_neg h1,if_neg (fun e=>h1 (by rw [e]))]
theorem get4_rep (b:β) (n:Nat):get4 (rep (rep (rep (rep b)))) n=b:=by
 unfold get4
 rw [get2_rep,get2_rep]
end N8
inductive Z (α:Type) where
 |nil
 |node (v:Option α) (k:N8 (Z α))
namespace Z
variable {α:Type}
open N8
def getF:Nat→Z α→Nat→Option α
 |0,_,_=>none
 |f+1,t,n=>match t with
  |.nil=>none
  |.node v k=>match n with
   |0=>v
   |m+1=>getF f (sel (m % 8) k) (m / 8)
def get (t:Z α) (n:Nat):Option α:=getF (n+1) t n
def setF:Nat→Z α→Nat→Option α→Z α
 |0,t,_,_=>t
 |f+1,t,n,v=>match t with
  |.nil=>match n with
   |0=>.node v (rep .nil)
   |m+1=>.node none (upd (m % 8) (fun t=>setF f t (m / 8) v) (rep .nil))
  |.node x k=>match n with
   |0=>.node v k
   |m+1=>.node x (upd (m % 8) (fun t=>setF f t (m / 8) v) k)
def set (t:Z α) (n:Nat) (v:Option α):Z α:=setF (n+1) t n v
theorem getF_fuel (f:Nat):∀ (g:Nat) (t:Z α) (n:Nat),n < f→n < g→getF f t n=getF g t n:=by
 induction f with
 |zero=>intro g t n h;omega
 |succ f ih =>
  intro g t n h1 h2
  obtain ⟨g,rfl⟩:∃ g',g=g'+1:=⟨g - 1,by omega⟩
  cases t with
  |nil=>rfl
  |node v k =>
   cases n with
   |zero=>rfl
   |succ m=>simp only [getF];exact ih _ _ _ (by omega) (by omega)
theorem get_nil (n:Nat):(Z.nil:Z α).get n=none:=rfl
theorem get_zero (v:Option α) (k:N8 (Z α)):(Z.node v k).get 0=v:=rfl
theorem get_succ (v:Option α) (k:N8 (Z α)) (m:Nat):(Z.node v k).get (m+1)=(sel (m % 8) k).get (m / 8):=by
 exact getF_fuel (m+1) (m / 8+1) _ (m / 8) (by omega) (by omega)
theorem get_upd (j:Nat) (F:Z α→Z α) (v:Option α) (n:N8 (Z α)) (m:Nat) (hj:j < 8) :
  (Z.node v (upd j F n)).get (m+1)=(if m % 8=j then F (sel j n) else sel (m % 8) n).get (m / 8):=by
 rw [get_succ,sel_upd _ _ _ _ hj (Nat.mod_lt _ (by omega))]
theorem get_setF (f:Nat):∀ (t:Z α) (n:Nat) (v:Option α),n < f→(setF f t n v).get n=v:=by
 induction f with
 |zero=>intro t n v h;omega
 |succ f ih =>
  intro t n v h
  have hm:∀ m,m % 8 < 8:=fun m=>Nat.mod_lt _ (by omega)
  cases t<;>cases n<;>try rfl
  all_goals
   simp only [setF]
   rw [get_upd _ _ _ _ _ (hm _),if_pos rfl]
   exact ih _ _ _ (by omega)
theorem get_setF_ne (f:Nat):∀ (t:Z α) (n k:Nat) (v:Option α),k≠n→(setF f t n v).get k=t.get k:=by
 induction f with
 |zero=>intro t n k v h;rfl
 |succ f ih =>
  intro t n k v h
  have hm:∀ m,m % 8 < 8:=fun m=>Nat.mod_lt _ (by omega)
  cases t with
  |nil =>
   cases n with
   |zero=>cases k with
    |zero=>exact absurd rfl h
    |succ k=>simp only [setF];rw [get_succ,sel_rep];rfl
   |succ m =>
    simp only [setF]
    cases k with
    |zero=>rw [get_zero];rfl
    |succ k =>
     rw [get_upd _ _ _ _ _ (hm m)]
     split
     ·rw [sel_rep,ih _ _ _ _ (by omega)];rfl
     ·rw [sel_rep];rfl
  |node x q =>
   cases n with
   |zero=>cases k with
    |zero=>exact absurd rfl h
    |succ k=>simp only [setF];rw [get_succ,get_succ]
   |succ m =>
    simp only [setF]
    cases k with
    |zero=>rw [get_zero,get_zero]
    |succ k =>
     rw [get_upd _ _ _ _ _ (hm m),get_succ]
     split
     ·next h1=>rw [h1,ih _ _ _ _ (by omega)]
     ·rfl
theorem get_set (t:Z α) (n k:Nat) (v:Option α):(t.set n v).get k=if k=n then v else t.get k:=by
 unfold set
 split
 ·next h=>subst h;exact get_setF _ _ _ _ (by omega)
 ·next h=>exact get_setF_ne _ _ _ _ _ h
end Z
structure T (α:Type) where
 a:N8 (N8 (Option α))
 b:N8 (N8 (N8 (N8 (Option α))))
 z:Z α
namespace T
variable {α:Type}
open N8
def nil:T α:=⟨rep (rep none),rep (rep (rep (rep none))),.nil⟩
def get (t:T α) (n:Nat):Option α :=
 match Nat.blt n 64 with
 |true=>get2 t.a n
 |false=>match Nat.blt n 4160 with
  |true=>get4 t.b (n - 64)
  |false=>t.z.get (n - 4160)
def setO (t:T α) (n:Nat) (v:Option α):T α :=
 match Nat.blt n 64 with
 |true=>⟨upd2 t.a n fun _=>v,t.b,t.z⟩
 |false=>match Nat.blt n 4160 with
  |true=>⟨t.a,upd4 t.b (n - 64) fun _=>v,t.z⟩
  |false=>⟨t.a,t.b,t.z.set (n - 4160) v⟩
theorem blt_iff (n k:Nat):Nat.blt n k=true↔n < k:=by
 unfold Nat.blt
 rw [Nat.ble_eq]
 exact Iff.rfl
theorem blt_false (n k:Nat) (h:¬ n < k):Nat.blt n k=false:=by
 cases hb:Nat.blt n k with
 |false=>rfl
 |true=>exact absurd ((blt_iff n k).1 hb) h
theorem get_a (a b z) (n:Nat) (h:n < 64):(T.mk a b z:T α).get n=get2 a n:=by
 unfold get
 rw [(blt_iff n 64).2 h]
theorem get_b (a b z) (n:Nat) (h:¬ n < 64) (h':n < 4160):(T.mk a b z:T α).get n=get4 b (n - 64):=by
 unfold get
 rw [blt_false n 64 h,(blt_iff n 4160).2 h']
theorem get_z (a b z) (n:Nat) (h:¬ n < 64) (h':¬ n < 4160):(T.mk a b z:T α).get n=z.get (n - 4160):=by
 unfold get
 rw [blt_false n 64 h,blt_false n 4160 h']
theorem set_a (a b z) (n:Nat) (v:Option α) (h:n < 64):(T.mk a b z:T α).setO n v=⟨upd2 a n fun _=>v,b,z⟩:=by
 unfold setO
 rw [(blt_iff n 64).2 h]
theorem set_b (a b z) (n:Nat) (v:Option α) (h:¬ n < 64) (h':n < 4160):(T.mk a b z:T α).setO n v=⟨a,upd4 b (n - 64) fun _=>v,z⟩:=by
 unfold setO
 rw [blt_false n 64 h,(blt_iff n 4160).2 h']
theorem set_z (a b z) (n:Nat) (v:Option α) (h:¬ n < 64) (h':¬ n < 4160):(T.mk a b z:T α).setO n v=⟨a,b,z.set (n - 4160) v⟩:=by
 unfold setO
 rw [blt_false n 64 h,blt_false n 4160 h']
theorem get_nil (n:Nat):(nil:T α).get n=none:=by
 unfold nil
 by_cases h:n < 64
 ·rw [get_a _ _ _ _ h];exact get2_rep _ _
 ·by_cases h':n < 4160
  ·rw [get_b _ _ _ _ h h'];exact get4_rep _ _
  ·rw [get_z _ _ _ _ h h'];exact Z.get_nil _
theorem get_setO (t:T α) (n k:Nat) (v:Option α):(t.setO n v).get k=if k=n then v else t.get k:=by
 obtain ⟨a,b,z⟩:=t
 by_cases n1:n < 64
 ·rw [set_a _ _ _ _ _ n1]
  by_cases k1:k < 64
  ·rw [get_a _ _ _ _ k1,get_a _ _ _ _ k1,get2_upd2 _ _ _ _ n1 k1]
  ·have hk:¬ k=n:=by omega
   rw [if_neg hk]
   by_cases k2:k < 4160
   ·rw [get_b _ _ _ _ k1 k2,get_b _ _ _ _ k1 k2]
   ·rw [get_z _ _ _ _ k1 k2,get_z _ _ _ _ k1 k2]
 ·by_cases n2:n < 4160
  ·rw [set_b _ _ _ _ _ n1 n2]
   by_cases k1:k < 64
   ·have hk:¬ k=n:=by omega
    rw [if_neg hk,get_a _ _ _ _ k1,get_a _ _ _ _ k1]
   ·by_cases k2:k < 4160
    ·rw [get_b _ _ _ _ k1 k2,get_b _ _ _ _ k1 k2,get4_upd4 _ _ _ _ (by omega) (by omega)]
     by_cases h:k=n
     ·rw [if_pos h,if_pos (by omega)]
     ·rw [if_neg h,if_neg (by omega)]
    ·have hk:¬ k=n:=by omega
     rw [if_neg hk,get_z _ _ _ _ k1 k2,get_z _ _ _ _ k1 k2]
  ·rw [set_z _ _ _ _ _ n1 n2]
   by_cases k1:k < 64
   ·have hk:¬ k=n:=by omega
    rw [if_neg hk,get_a _ _ _ _ k1,get_a _ _ _ _ k1]
   ·by_cases k2:k < 4160
    ·have hk:¬ k=n:=by omega
     rw [if_neg hk,get_b _ _ _ _ k1 k2,get_b _ _ _ _ k1 k2]
    ·rw [get_z _ _ _ _ k1 k2,get_z _ _ _ _ k1 k2,Z.get_set]
     by_cases h:k=n
     ·rw [if_pos h,if_pos (by omega)]
     ·rw [if_neg h,if_neg (by omega)]
def set (t:T α) (n:Nat) (v:α):T α:=t.setO n (some v)
def del (t:T α) (n:Nat):T α:=t.setO n none
theorem get_set (t:T α) (n k:Nat) (v:α):(t.set n v).get k=if k=n then some v else t.get k:=get_setO _ _ _ _
theorem get_del (t:T α) (n k:Nat):(t.del n).get k=if k=n then none else t.get k:=get_setO _ _ _ _
def ofList:List α→Nat→T α→T α
 |[],_,t=>t
 |x::l,i,t=>ofList l (i+1) (t.set i x)
theorem get_ofList:∀ (l:List α) (i:Nat) (t:T α) (k:Nat),(ofList l i t).get k=if i≤k∧k < i+l.length then l[k - i]? else t.get k
 |[],i,t,k=>by simp [ofList];omega
 |x::l,i,t,k=>by
  simp only [ofList,get_ofList l,get_set,List.length_cons]
  by_cases h1:i+1≤k∧k < i+1+l.length
  ·rw [if_pos h1,if_pos (by omega),show k - i=(k - (i+1))+1 from by omega];simp
  ·rw [if_neg h1]
   by_cases h2:k=i
   ·subst h2;simp
   ·rw [if_neg h2,if_neg (by omega)]
end T
inductive ACap where
 |ex (c:Nat)
 |un (esz lb:Nat)
inductive AV where
 |bool (b:Bool)
 |int (k:IntKind) (n:Int)
 |str (s:ByteArray)
 |ptr (a o:Nat)
 |nilptr
 |zptr
 |sl (a o len:Nat) (cap:ACap)
 |nilsl
 |map (a:Nat)
 |nilmap
 |fn (f:Fn) (first cap:List AV)
 |yld (l:Nat)
 |nilfn
 |ifc (t:TypeId) (v:AV)
 |nilifc
 |agg (l:List AV)
 |tup (l:List AV)
structure Loc where
 blk:Nat
 sh:Nat
 size:Nat
def ACap.ok (l:Loc) (o:Nat) (p:Addr) (c:Nat):ACap→Prop
 |.ex c'=>c=c'∧p=⟨l.blk,o+l.sh,none⟩
 |.un esz lb=>0 < esz∧o+l.sh+c * esz≤l.size∧(p=⟨l.blk,o+l.sh,none⟩∨c=0)∧lb≤c
abbrev Env:=Nat→Option Loc
def Env.le (m m':Env):Prop:=∀ a l,m a=some l→m' a=some l
mutual
def VR (m:Env):AV→Value→Prop
 |.bool b,v=>v=.bool b
 |.int k n,v=>v=.int k n
 |.str s,v=>v=.string s
 |.ptr a o,v=>∃ l,m a=some l∧v=.pointer (some ⟨l.blk,o+l.sh,none⟩)
 |.nilptr,v=>v=.pointer none
 |.zptr,v=>∃ p,v=.pointer (some p)
 |.sl a o len cap,v=>∃ l p c,m a=some l∧v=.slice (some p) len c∧len≤c∧cap.ok l o p c
 |.nilsl,v=>v=.slice none 0 0
 |.map a,v=>∃ l,m a=some l∧v=.map (some l.blk)
 |.nilmap,v=>v=.map none
 |.fn f a b,v=>∃ x y,v=.func f x y∧VRs m a x.toList∧VRs m b y.toList
 |.yld a,v=>∃ l,m a=some l∧v=.func (.yield l.blk) #[] #[]
 |.nilfn,v=>v=.nilFunc
 |.ifc t a,v=>∃ x,v=.iface t x∧VR m a x
 |.nilifc,v=>v=.nilIface
 |.agg l,v=>∃ x,v=.agg x∧VRs m l x.toList
 |.tup l,v=>∃ x,v=.tuple x∧VRs m l x.toList
def VRs (m:Env):List AV→List Value→Prop
 |[],xs=>xs=[]
 |a::as,xs=>∃ y ys,xs=y::ys∧VR m a y∧VRs m as ys
end
variable {m m':Env}
mutual
theorem VR.mono (h:m.le m'):∀ (v:AV) (x:Value),VR m v x→VR m' v x
 |.bool _,_,e=>by simpa only [VR] using e
 |.int _ _,_,e=>by simpa only [VR] using e
 |.str _,_,e=>by simpa only [VR] using e
 |.nilptr,_,e=>by simpa only [VR] using e
 |.zptr,_,e=>by simpa only [VR] using e
 |.nilsl,_,e=>by simpa only [VR] using e
 |.nilmap,_,e=>by simpa only [VR] using e
 |.nilfn,_,e=>by simpa only [VR] using e
 |.nilifc,_,e=>by simpa only [VR] using e
 |.ptr _ _,_,e=>by
  simp only [VR] at e ⊢
  obtain ⟨l,h1,h2⟩:=e
  exact ⟨l,h _ _ h1,h2⟩
 |.sl _ _ _ _,_,e=>by
  simp only [VR] at e ⊢
  obtain ⟨l,p,c,h1,h2⟩:=e
  exact ⟨l,p,c,h _ _ h1,h2⟩
 |.map _,_,e=>by
  simp only [VR] at e ⊢
  obtain ⟨l,h1,h2⟩:=e
  exact ⟨l,h _ _ h1,h2⟩
 |.yld _,_,e=>by
  simp only [VR] at e ⊢
  obtain ⟨l,h1,h2⟩:=e
  exact ⟨l,h _ _ h1,h2⟩
 |.fn _ a b,_,e=>by
  simp only [VR] at e ⊢
  obtain ⟨x,y,h1,h2,h3⟩:=e
  exact ⟨x,y,h1,VRs.mono h a _ h2,VRs.mono h b _ h3⟩
 |.ifc _ a,_,e=>by
  simp only [VR] at e ⊢
  obtain ⟨x,h1,h2⟩:=e
  exact ⟨x,h1,VR.mono h a _ h2⟩
 |.agg l,_,e=>by
  simp only [VR] at e ⊢
  obtain ⟨x,h1,h2⟩:=e
  exact ⟨x,h1,VRs.mono h l _ h2⟩
 |.tup l,_,e=>by
  simp only [VR] at e ⊢
  obtain ⟨x,h1,h2⟩:=e
  exact ⟨x,h1,VRs.mono h l _ h2⟩
theorem VRs.mono (h:m.le m'):∀ (v:List AV) (x:List Value),VRs m v x→VRs m' v x
 |[],_,e=>by simpa only [VRs] using e
 |a::as,_,e=>by
  simp only [VRs] at e ⊢
  obtain ⟨y,ys,h1,h2,h3⟩:=e
  exact ⟨y,ys,h1,VR.mono h a _ h2,VRs.mono h as _ h3⟩
end
theorem Env.le_refl (m:Env):m.le m:=fun _ _ h=>h
theorem Env.le_trans {a b c:Env} (h:a.le b) (k:b.le c):a.le c:=fun x l e=>k x l (h x l e)
theorem VRs.length {v:List AV} {x:List Value} (h:VRs m v x):x.length=v.length:=by
 induction v generalizing x with
 |nil=>simp only [VRs] at h;subst h;rfl
 |cons a as ih =>
  simp only [VRs] at h
  obtain ⟨y,ys,rfl,_,h3⟩:=h
  simp [ih h3]
theorem VRs.get {v:List AV} {x:List Value} (h:VRs m v x) {i:Nat} {a:AV} (hi:v[i]?=some a):∃ y,x[i]?=some y∧VR m a y:=by
 induction v generalizing x i with
 |nil=>simp at hi
 |cons b bs ih =>
  simp only [VRs] at h
  obtain ⟨y,ys,rfl,h2,h3⟩:=h
  cases i with
  |zero=>simp at hi;subst hi;exact ⟨y,rfl,h2⟩
  |succ i=>simp at hi ⊢;exact ih h3 hi
theorem VRs.append {a b:List AV} {x y:List Value} (h:VRs m a x) (k:VRs m b y):VRs m (a++b) (x++y):=by
 induction a generalizing x with
 |nil=>simp only [VRs] at h;subst h;exact k
 |cons c cs ih =>
  simp only [VRs] at h
  obtain ⟨z,zs,rfl,h2,h3⟩:=h
  simp only [List.cons_append,VRs]
  exact ⟨z,zs++y,rfl,h2,ih h3⟩
theorem VRs.of_get {v:List AV} {x:List Value} (hl:x.length=v.length) (h:∀ (i:Nat) a y,v[i]?=some a→x[i]?=some y→VR m a y):VRs m v x:=by
 induction v generalizing x with
 |nil=>simp only [VRs];exact List.eq_nil_of_length_eq_zero hl
 |cons a as ih =>
  cases x with
  |nil=>simp at hl
  |cons y ys =>
   simp only [VRs]
   refine ⟨y,ys,rfl,h 0 a y rfl rfl,ih (by simpa using hl) fun i b z hb hz=>h (i+1) b z (by simpa using hb) (by simpa using hz)⟩
end Go.Am
namespace Go.Am
open Go.RowKit
inductive ADef where
 |call (f:Fn) (cap args:List AV)
 |collected (r:Nat)
def DR (m:Env):ADef→Deferred→Prop
 |.call f cap args,d=>∃ c a,d={ target:=.fn f c,args:=a }∧VRs m cap c.toList∧VRs m args a.toList
 |.collected r,d=>∃ l,m r=some l∧d={ target:=.collected l.blk,args:=#[] }
def DRs (m:Env):List ADef→List Deferred→Prop
 |[],xs=>xs=[]
 |a::as,xs=>∃ y ys,xs=y::ys∧DR m a y∧DRs m as ys
inductive ABlk where
 |cells (t:TypeId) (fam n:Nat) (c:T AV)
 |map (es:List (AV×AV×Nat)) (clock:Nat)
 |loop (st:LoopState) (pend:Option Code) (fn:FuncId) (sz:Nat) (tmps:T AV) (params:Array Tmp) (assign body:Code) (defers:Nat)
 |dfr (ds:Option (List ADef))
def TR (m:Env) (sz:Nat) (t:T AV) (arr:Array Value):Prop :=
 arr.size=sz∧∀ i v,t.get i=some v→∃ x,arr[i]?=some x∧VR m v x
def ER (m:Env):List (AV×AV×Nat)→List MapEntry→Prop
 |[],xs=>xs=[]
 |e::es,xs=>∃ y ys,xs=y::ys∧VR m e.1 y.key∧VR m e.2.1 y.val∧e.2.2=y.born∧ER m es ys
def BR (m:Env):ABlk→Loc→Option Obj→Prop
 |.cells t _ n c,l,o=>∃ arr,o=some (.cells arr t (0,0))∧arr.size=l.size∧n+l.sh≤l.size ∧
   ∀ i v,c.get i=some v→i < n∧∃ x,arr[i+l.sh]?=some x∧VR m v x
 |.map es clock,_,o=>∃ arr,o=some (.map arr clock)∧ER m es arr.toList
 |.loop st pend fn sz tmps ps asg body d,_,o=>∃ (a:Array Value) (ld:Loc),m d=some ld ∧
   o=some (.loop { state:=st,pending:=pend,fn,tmps:=a,params:=ps,assign:=asg,body,defers:=ld.blk })∧TR m sz tmps a
 |.dfr none,_,o=>o=some (.deferred none)
 |.dfr (some ds),_,o=>∃ xs,o=some (.deferred (some xs))∧DRs m ds xs
structure Heap where
 blks:T ABlk
 next:Nat
 fams:T (List Nat)
def Cold (o:Obj):Prop:=∀ arr t z,o=.cells arr t z→z.2≤z.1
theorem BR.cold {m:Env} {b:ABlk} {l:Loc} {o:Obj} (h:BR m b l (some o)):Cold o:=by
 intro arr t z e
 subst e
 cases b with
 |cells =>
  obtain ⟨arr',h1,_⟩:=h
  cases h1
  exact Nat.le_refl _
 |map=>obtain ⟨_,h1,_⟩:=h;cases h1
 |loop=>obtain ⟨_,_,_,h1,_⟩:=h;cases h1
 |dfr ds =>
  cases ds with
  |none=>cases h
  |some ds=>obtain ⟨_,h1,_⟩:=h;cases h1
theorem Cold.frozen {w:World} {a:Addr} {o:Obj} (h:Cold o) (e:w.heap[a.block]?=some o):w.frozen? a=false:=by
 cases o with
 |cells arr t z =>
  have:=h arr t z rfl
  obtain ⟨lo,hi⟩:=z
  simp only at this
  simp only [World.frozen?,e,Bool.and_eq_false_iff,decide_eq_false_iff_not]
  omega
 |_=>simp [World.frozen?,e]
theorem frozen_none {w:World} {a:Addr} (e:w.heap[a.block]?=none):w.frozen? a=false:=by simp [World.frozen?,e]
structure Prot where
 blk:Nat→Prop
 ids:Nat→Prop
instance:CoeFun Prot fun _=>Nat→Prop:=⟨Prot.blk⟩
structure Keep (B0:Prot) (w0 w:World):Prop where
 os:w.os=w0.os
 tape:w.tape=w0.tape
 output:w.output=w0.output
 size:w0.heap.size≤w.heap.size
 block:∀ k,B0 k→w.heap[k]?=w0.heap[k]?
 there:∀ k,B0 k→k < w0.heap.size
 froz:∀ a,w.frozen? a=w0.frozen? a
theorem Keep.refl {B0:Prot} {w:World} (h:∀ k,B0 k→k < w.heap.size):Keep B0 w w:=⟨rfl,rfl,rfl,Nat.le_refl _,fun _ _=>rfl,h,fun _=>rfl⟩
theorem Keep.lt {B0:Prot} {w0 w:World} (h:Keep B0 w0 w) {k:Nat} (hk:B0 k):k < w.heap.size:=Nat.lt_of_lt_of_le (h.there k hk) h.size
theorem Keep.drew {B0:Prot} {w0 w:World} (h:Keep B0 w0 w):Keep B0 w0 w.drew:=⟨h.os,h.tape,h.output,h.size,h.block,h.there,h.froz⟩
theorem Keep.alloc {B0:Prot} {w0 w:World} (h:Keep B0 w0 w) (o:Obj) (hc:Cold o):Keep B0 w0 (w.alloc o) :=
 ⟨h.os, h.tape, h.output, by have := h.size; simp; omega, fun k hk => by rw [Below.heap_alloc _ _ _ (h.lt hk)]; exact h.block k hk, h.there, fun a => by
  rw [← h.froz a]
  rcases Nat.lt_trichotomy a.block w.heap.size with h1 | h1 | h1
  ·exact World.frozen?_of_block (Below.heap_alloc _ _ _ h1)
  ·have h2:(w.alloc o).heap[a.block]?=some o:=by
    show (w.heap.push o)[a.block]?=some o
    rw [h1,Array.getElem?_push,if_pos rfl]
   rw [hc.frozen h2,frozen_none (Array.getElem?_eq_none (by omega))]
  ·have h2:(w.alloc o).heap[a.block]?=none:=by
    show (w.heap.push o)[a.block]?=none
    exact Array.getElem?_eq_none (by simp;omega)
   rw [frozen_none h2,frozen_none (Array.getElem?_eq_none (by omega))]⟩
theorem Keep.new {B0:Prot} {w0 w:World} (h:Keep B0 w0 w) {k:Nat} (hk:w.heap.size≤k):¬ B0 k:=fun e=>by have:=h.lt e;omega
structure HR (B0:Prot) (w0:World) (m:Env) (H:Heap) (w:World):Prop where
 below:Keep B0 w0 w
 fresh:∀ a l,m a=some l→a < H.next∧¬ B0.ids a
 inb:∀ a l,m a=some l→l.blk < w.heap.size
 blk:∀ a b,H.blks.get a=some b→∃ l,m a=some l∧BR m b l (w.heap[l.blk]?)
 sep:∀ a a' b b' l l',H.blks.get a=some b→H.blks.get a'=some b'→m a=some l→m a'=some l'→l.blk=l'.blk →
  a=a'∨∃ t f n c t' n' c',b=.cells t f n c∧b'=.cells t' f n' c'∧l.sh=l'.sh
 fam:∀ a t f n c,H.blks.get a=some (.cells t f n c)→f < H.next∧∃ L,H.fams.get f=some L∧a∈L
 live:∀ a b l,H.blks.get a=some b→m a=some l→¬ B0 l.blk
 idsb:∀ a,B0.ids a→a < H.next
section
variable {m m':Env}
theorem DR.mono (h:m.le m') {d:ADef} {x:Deferred} (e:DR m d x):DR m' d x:=by
 cases d with
 |call f cap args =>
  obtain ⟨c,a,h1,h2,h3⟩:=e
  exact ⟨c,a,h1,VRs.mono h _ _ h2,VRs.mono h _ _ h3⟩
 |collected r =>
  obtain ⟨l,h1,h2⟩:=e
  exact ⟨l,h _ _ h1,h2⟩
theorem DRs.mono (h:m.le m'):∀ {d:List ADef} {x:List Deferred},DRs m d x→DRs m' d x
 |[],_,e=>e
 |_::_,_,⟨y,ys,h1,h2,h3⟩=>⟨y,ys,h1,h2.mono h,DRs.mono h h3⟩
theorem ER.mono (h:m.le m'):∀ {d:List (AV×AV×Nat)} {x:List MapEntry},ER m d x→ER m' d x
 |[],_,e=>e
 |_::_,_,⟨y,ys,h1,h2,h3,h4,h5⟩=>⟨y,ys,h1,VR.mono h _ _ h2,VR.mono h _ _ h3,h4,ER.mono h h5⟩
theorem TR.mono (h:m.le m') {sz:Nat} {t:T AV} {arr:Array Value} (e:TR m sz t arr):TR m' sz t arr :=
 ⟨e.1,fun i v hi=>let ⟨x,h1,h2⟩:=e.2 i v hi;⟨x,h1,VR.mono h _ _ h2⟩⟩
theorem TR.set {sz:Nat} {t:T AV} {arr:Array Value} (e:TR m sz t arr) {d:Nat} (hd:d < sz) {v:AV} {x:Value} (hv:VR m v x) :
  TR m sz (t.set d v) (arr.setIfInBounds d x):=by
 refine ⟨by simp [e.1],fun i u hi=>?_⟩
 rw [T.get_set] at hi
 by_cases h:i=d
 ·subst h
  simp only [if_true,Option.some.injEq] at hi
  subst hi
  exact ⟨x,by simp [e.1,hd],hv⟩
 ·simp only [h,if_false] at hi
  obtain ⟨y,h1,h2⟩:=e.2 i u hi
  exact ⟨y,by rw [Array.getElem?_setIfInBounds_ne (fun e=>h e.symm)];exact h1,h2⟩
theorem BR.mono (h:m.le m') {b:ABlk} {l:Loc} {o:Option Obj} (e:BR m b l o):BR m' b l o:=by
 cases b with
 |cells t f n c =>
  obtain ⟨arr,h1,h2,h3,h4⟩:=e
  exact ⟨arr,h1,h2,h3,fun i v hi=>let ⟨k1,x,k2,k3⟩:=h4 i v hi;⟨k1,x,k2,VR.mono h _ _ k3⟩⟩
 |map es clock =>
  obtain ⟨arr,h1,h2⟩:=e
  exact ⟨arr,h1,h2.mono h⟩
 |loop =>
  obtain ⟨a,ld,h1,h2,h3⟩:=e
  exact ⟨a,ld,h _ _ h1,h2,h3.mono h⟩
 |dfr ds =>
  cases ds with
  |none=>exact e
  |some ds =>
   obtain ⟨xs,h1,h2⟩:=e
   exact ⟨xs,h1,h2.mono h⟩
end
def Env.ext (m:Env) (a:Nat) (l:Loc):Env:=fun x=>if x=a then some l else m x
theorem Env.ext_self (m:Env) (a:Nat) (l:Loc):m.ext a l a=some l:=by simp [Env.ext]
theorem Env.ext_ne (m:Env) {a x:Nat} (l:Loc) (h:x≠a):m.ext a l x=m x:=by simp [Env.ext,h]
theorem heap_alloc_new (w:World) (o:Obj):(w.alloc o).heap[w.heap.size]?=some o:=by
 show (w.heap.push o)[w.heap.size]?=some o
 rw [Array.getElem?_push,if_pos rfl]
section
variable {B0:Prot} {w0:World} {m:Env} {H:Heap} {w:World}
theorem HR.le_ext (h:HR B0 w0 m H w) (l:Loc):m.le (m.ext H.next l):=by
 intro a k e
 have:=(h.fresh a k e).1
 rw [Env.ext_ne _ _ (by omega)]
 exact e
theorem HR.drew (h:HR B0 w0 m H w):HR B0 w0 m H w.drew :=
 ⟨h.below.drew,h.fresh,h.inb,h.blk,h.sep,h.fam,h.live,h.idsb⟩
structure Upd (w w':World) (k:Nat) (o:Obj):Prop where
 os:w'.os=w.os
 tape:w'.tape=w.tape
 output:w'.output=w.output
 size:w'.heap.size=w.heap.size
 new:w'.heap[k]?=some o
 old:∀ i,i≠k→w'.heap[i]?=w.heap[i]?
theorem Upd.below {w w':World} {k:Nat} {o:Obj} (u:Upd w w' k o) (hb:Keep B0 w0 w) (hk:¬ B0 k) (hc:Cold o) (hc':∀ o',w.heap[k]?=some o'→Cold o'):Keep B0 w0 w' :=
 ⟨u.os.trans hb.os,u.tape.trans hb.tape,u.output.trans hb.output,by rw [u.size];exact hb.size,fun i hi=>(u.old i (fun e=>hk (e ▸ hi))).trans (hb.block i hi),hb.there,fun a=>by
   rw [← hb.froz a]
   by_cases h1:a.block=k
   ·rw [hc.frozen (by rw [h1];exact u.new)]
    cases h2:w.heap[a.block]? with
    |none=>rw [frozen_none h2]
    |some o'=>rw [(hc' o' (by rw [← h1];exact h2)).frozen h2]
   ·exact World.frozen?_of_block (u.old _ h1)⟩
theorem HR.cold (h:HR B0 w0 m H w) {a:Nat} {b:ABlk} {l:Loc} (hb:H.blks.get a=some b) (hl:m a=some l) (o:Obj) (ho:w.heap[l.blk]?=some o):Cold o:=by
 obtain ⟨l',h1,h2⟩:=h.blk a b hb
 rw [hl] at h1
 cases h1
 rw [ho] at h2
 exact h2.cold
theorem upd_setIf (w:World) (k:Nat) (o:Obj) (hk:k < w.heap.size):Upd w { w with heap:=w.heap.setIfInBounds k o } k o :=
 ⟨rfl, rfl, rfl, by simp, by simp [hk], fun i hi => by
  show (w.heap.setIfInBounds k o)[i]?=_
  rw [Array.getElem?_setIfInBounds_ne (fun e=>hi e.symm)]⟩
theorem HR.upd (h:HR B0 w0 m H w) {a:Nat} {l:Loc} {b0 b':ABlk} {o':Obj} {w':World} {H':Heap} (hb0:H.blks.get a=some b0) (ha:m a=some l) (hnp:¬ B0 l.blk)
  (u:Upd w w' l.blk o') (hb:BR m b' l (some o')) (hn:H'.next=H.next) (hga:H'.blks.get a=some b')
  (hget:∀ x b,x≠a→H'.blks.get x=some b→H.blks.get x=some b∧∀ l',m x=some l'→l'.blk≠l.blk)
  (hfam:∀ x t f n c,H'.blks.get x=some (.cells t f n c)→f < H.next∧∃ L,H'.fams.get f=some L∧x∈L):HR B0 w0 m H' w':=by
 refine ⟨u.below h.below hnp hb.cold (h.cold hb0 ha),fun x k e=>by rw [hn];exact h.fresh x k e,fun x k e=>by rw [u.size];exact h.inb x k e,?_,?_,?_,?_,fun x k=>by rw [hn];exact h.idsb x k⟩
 ·intro x b hx
  by_cases hxa:x=a
  ·subst hxa
   rw [hga] at hx
   cases hx
   exact ⟨l,ha,by rw [u.new];exact hb⟩
  ·obtain ⟨hx',hne⟩:=hget x b hxa hx
   obtain ⟨k,k1,k2⟩:=h.blk x b hx'
   refine ⟨k,k1,?_⟩
   rw [u.old k.blk (hne k k1)]
   exact k2
 ·intro x y bx byy lx ly hx hy hlx hly hblk
  by_cases hxy:x=y
  ·exact .inl hxy
  by_cases hxa:x=a
  ·subst hxa
   rw [ha] at hlx
   cases hlx
   exact absurd hblk.symm ((hget y byy (fun e=>hxy e.symm) hy).2 ly hly)
  ·obtain ⟨hx',hne⟩:=hget x bx hxa hx
   by_cases hya:y=a
   ·subst hya
    rw [ha] at hly
    cases hly
    exact absurd hblk (hne lx hlx)
   ·exact h.sep x y bx byy lx ly hx' (hget y byy hya hy).1 hlx hly hblk
 ·intro x t f n c hx
  rw [hn]
  exact hfam x t f n c hx
 ·intro x b k hx hk
  by_cases hxa:x=a
  ·subst hxa
   rw [ha] at hk
   cases hk
   exact hnp
  ·exact h.live x b k (hget x b hxa hx).1 hk
theorem HR.alloc (h:HR B0 w0 m H w) (l:Loc) (hl:l.blk=w.heap.size) (b:ABlk) (o:Obj) (hb:BR (m.ext H.next l) b l (some o))
  (F:T (List Nat)) (hF:(∃ t n c,b=.cells t H.next n c∧F=H.fams.set H.next [H.next])∨((∀ t f n c,b≠.cells t f n c)∧F=H.fams)) :
  HR B0 w0 (m.ext H.next l) { blks:=H.blks.set H.next b,next:=H.next+1,fams:=F } (w.alloc o):=by
 have hle:=h.le_ext l
 have hold:∀ a k,a≠H.next→m.ext H.next l a=some k→m a=some k:=fun a k ha e=>by rwa [Env.ext_ne _ _ ha] at e
 refine ⟨h.below.alloc o hb.cold,?_,?_,?_,?_,?_,?_,fun a ha=>Nat.lt_succ_of_lt (h.idsb a ha)⟩
 ·intro a k e
  by_cases ha:a=H.next
  ·subst ha;exact ⟨Nat.lt_succ_self _,fun hc=>Nat.lt_irrefl _ (h.idsb _ hc)⟩
  ·exact ⟨Nat.lt_succ_of_lt (h.fresh a k (hold a k ha e)).1,(h.fresh a k (hold a k ha e)).2⟩
 ·intro a k e
  by_cases ha:a=H.next
  ·subst ha
   rw [Env.ext_self] at e
   cases e
   simp
   omega
  ·have:=h.inb a k (hold a k ha e)
   simp
   omega
 ·intro a b' hg
  rw [T.get_set] at hg
  by_cases ha:a=H.next
  ·subst ha
   simp only [if_true,Option.some.injEq] at hg
   subst hg
   refine ⟨l,Env.ext_self _ _ _,?_⟩
   rw [hl,heap_alloc_new]
   exact hb
  ·simp only [ha,if_false] at hg
   obtain ⟨k,k1,k2⟩:=h.blk a b' hg
   refine ⟨k,hle _ _ k1,?_⟩
   rw [Below.heap_alloc _ _ _ (h.inb a k k1)]
   exact k2.mono hle
 ·intro a a' b1 b2 l1 l2 h1 h2 e1 e2 hblk
  by_cases hxy:a=a'
  ·exact .inl hxy
  rw [T.get_set] at h1 h2
  by_cases ha:a=H.next
  ·subst ha
   rw [Env.ext_self] at e1
   cases e1
   have:=h.inb a' l2 (hold a' l2 (fun e=>hxy e.symm) e2)
   omega
  ·by_cases ha':a'=H.next
   ·subst ha'
    rw [Env.ext_self] at e2
    cases e2
    have:=h.inb a l1 (hold a l1 ha e1)
    omega
   ·simp only [ha,if_false] at h1
    simp only [ha',if_false] at h2
    exact h.sep a a' b1 b2 l1 l2 h1 h2 (hold _ _ ha e1) (hold _ _ ha' e2) hblk
 ·intro a t f n c hg
  rw [T.get_set] at hg
  by_cases ha:a=H.next
  ·subst ha
   simp only [if_true,Option.some.injEq] at hg
   rcases hF with ⟨t',n',c',hb',hF⟩ | ⟨hb',_⟩
   ·rw [hb'] at hg
    cases hg
    exact ⟨Nat.lt_succ_self _,[H.next],by rw [hF,T.get_set];simp,by simp⟩
   ·exact absurd hg (hb' _ _ _ _)
  ·simp only [ha,if_false] at hg
   obtain ⟨h1,L,h2,h3⟩:=h.fam a t f n c hg
   refine ⟨Nat.lt_succ_of_lt h1,L,?_,h3⟩
   rcases hF with ⟨_,_,_,_,hF⟩ | ⟨_,hF⟩
   ·rw [hF,T.get_set,if_neg (by omega)];exact h2
   ·rw [hF];exact h2
 ·intro a b' k hg hk
  rw [T.get_set] at hg
  by_cases ha:a=H.next
  ·subst ha
   rw [Env.ext_self] at hk
   cases hk
   exact h.below.new (by omega)
  ·simp only [ha,if_false] at hg
   exact h.live a b' k hg (hold a k ha hk)
end
end Go.Am
namespace Go.Am
open Go.RowKit
def AV.one:AV→Bool
 |.agg _=>false
 |.tup _=>false
 |_=>true
theorem VR.one {m:Env} {v:AV} {x:Value} (h:VR m v x) (hv:v.one=true):x.oneCell'=true:=by
 cases v<;>simp only [VR,AV.one,Bool.false_eq_true] at h hv<;>first
  |(subst h;rfl)
  |(obtain ⟨l,_,rfl⟩:=h;rfl)
  |(obtain ⟨l,rfl⟩:=h;rfl)
  |(obtain ⟨l,p,c,_,rfl,_⟩:=h;rfl)
  |(obtain ⟨x,y,rfl,_⟩:=h;rfl)
  |(obtain ⟨x,rfl,_⟩:=h;rfl)
def kill (keep:Nat→ABlk→Bool):List Nat→T ABlk→T ABlk
 |[],t=>t
 |x::L,t=>kill keep L (match t.get x with
  |some b=>match keep x b with
   |true=>t
   |false=>t.del x
  |none=>t)
theorem get_kill (keep:Nat→ABlk→Bool):∀ (L:List Nat) (t:T ABlk) (k:Nat) (b:ABlk),(kill keep L t).get k=some b →
  t.get k=some b∧(k∈L→keep k b=true)
 |[],t,k,b,h=>⟨h,fun e=>by cases e⟩
 |x :: L, t, k, b, h => by
  have ih:=get_kill keep L _ k b h
  by_cases hk:k=x
  ·subst hk
   cases hx:t.get k with
   |none=>simp only [hx] at ih;exact absurd ih.1 (by simp)
   |some b' =>
    simp only [hx] at ih
    cases hkeep:keep k b' with
    |false =>
     simp only [hkeep] at ih
     rw [T.get_del,if_pos rfl] at ih
     exact absurd ih.1 (by simp)
    |true =>
     simp only [hkeep] at ih
     have e:b'=b:=Option.some.inj (hx.symm.trans ih.1)
     subst e
     exact ⟨rfl,fun _=>hkeep⟩
  ·have hget:t.get k=some b:=by
    cases hx:t.get x with
    |none=>simp only [hx] at ih;exact ih.1
    |some b' =>
     simp only [hx] at ih
     cases hkeep:keep x b' with
     |false=>simp only [hkeep] at ih;rw [T.get_del,if_neg hk] at ih;exact ih.1
     |true=>simp only [hkeep] at ih;exact ih.1
   exact ⟨hget,fun e=>by
    rcases List.mem_cons.1 e with e | e
    ·exact absurd e hk
    ·exact ih.2 e⟩
def Heap.cell (H:Heap) (a i:Nat):Option AV :=
 match H.blks.get a with
 |some (.cells _ _ _ c)=>c.get i
 |_=>none
def Heap.put (H:Heap) (a i:Nat) (v:AV):Option Heap :=
 match H.blks.get a with
 |some (.cells t f n c)=>match c.get i with
  |none=>none
  |some _=>match H.fams.get f with
   |none=>none
   |some []=>none
   |some [_]=>some { H with blks:=H.blks.set a (.cells t f n (c.set i v)) }
   |some L=>some { H with blks:=(kill (fun _ _=>false) L H.blks).set a (.cells t f n (c.set i v)),fams:=H.fams.set f [a] }
 |_=>none
section
variable {B0:Prot} {w0:World} {m:Env} {H:Heap} {w:World}
theorem upd_setCell (w:World) (k i:Nat) (x:Value) {arr:Array Value} {t:TypeId} (h:w.heap[k]?=some (.cells arr t (0,0))) :
  Upd w (w.setCell ⟨k,i,none⟩ x) k (.cells (arr.setIfInBounds i x) t (0,0)):=by
 refine ⟨rfl,rfl,rfl,by simp,?_,fun j hj=>Below.heap_setCell _ _ _ _ hj⟩
 simp only [World.setCell,Array.getElem?_modify,if_true,h]
 rfl
theorem HR.get_cells (h:HR B0 w0 m H w) {a:Nat} {t:TypeId} {f n:Nat} {c:T AV} (hb:H.blks.get a=some (.cells t f n c)) :
  ∃ l arr,m a=some l∧w.heap[l.blk]?=some (.cells arr t (0,0))∧arr.size=l.size∧n+l.sh≤l.size ∧
   ∀ i v,c.get i=some v→i < n∧∃ x,arr[i+l.sh]?=some x∧VR m v x:=by
 obtain ⟨l,h1,arr,h2,h3⟩:=h.blk a _ hb
 exact ⟨l,arr,h1,h2,h3⟩
theorem HR.cell (h:HR B0 w0 m H w) {a i:Nat} {v:AV} (hc:H.cell a i=some v) :
  ∃ l x,m a=some l∧w.cell? ⟨l.blk,i+l.sh,none⟩=some x∧w.frozen? ⟨l.blk,i+l.sh,none⟩=false∧VR m v x:=by
 unfold Heap.cell at hc
 split at hc
 ·next t f n c hb =>
  obtain ⟨l,arr,h1,h2,h3,h4,h5⟩:=h.get_cells hb
  obtain ⟨_,x,k1,k2⟩:=h5 i v hc
  exact ⟨l,x,h1,by simp [World.cell?,h2,k1],by simp [World.frozen?,h2],k2⟩
 ·cases hc
theorem HR.alone (h:HR B0 w0 m H w) {a:Nat} {t:TypeId} {f n:Nat} {c:T AV} (hb:H.blks.get a=some (.cells t f n c)) {l:Loc} (hl:m a=some l)
  {L:List Nat} (hL:H.fams.get f=some L) {x:Nat} {b:ABlk} (hx:H.blks.get x=some b) (hxa:x≠a) (hnot:∀ t' n' c',b=.cells t' f n' c'→x ∉ L) :
  ∀ l',m x=some l'→l'.blk≠l.blk:=by
 intro l' hl' e
 rcases h.sep x a b _ l' l hx hb hl' hl e with rfl | ⟨t1,f1,n1,c1,t2,n2,c2,e1,e2,_⟩
 ·exact hxa rfl
 ·cases e2
  obtain ⟨_,L',hL',hmem⟩:=h.fam x t1 f n1 c1 (e1 ▸ hx)
  rw [hL] at hL'
  cases hL'
  exact hnot _ _ _ e1 hmem
theorem HR.put (h:HR B0 w0 m H w) {a i:Nat} {v:AV} {H':Heap} (hp:H.put a i v=some H') {x:Value} (hv:VR m v x) :
  ∃ l u,m a=some l∧w.cell? ⟨l.blk,i+l.sh,none⟩=some u∧w.frozen? ⟨l.blk,i+l.sh,none⟩=false ∧
   HR B0 w0 m H' (w.setCell ⟨l.blk,i+l.sh,none⟩ x):=by
 unfold Heap.put at hp
 split at hp
 case h_2=>cases hp
 next t f n c hb =>
 split at hp
 case h_1=>cases hp
 next u hu =>
 obtain ⟨l,arr,h1,h2,h3,h4,h5⟩:=h.get_cells hb
 obtain ⟨hin,y,k1,k2⟩:=h5 i u hu
 have hlt:i+l.sh < arr.size:=by omega
 have hbr:BR m (.cells t f n (c.set i v)) l (some (.cells (arr.setIfInBounds (i+l.sh) x) t (0,0))):=by
  refine ⟨_,rfl,by simpa using h3,h4,fun j z hj=>?_⟩
  rw [T.get_set] at hj
  by_cases hji:j=i
  ·subst hji
   simp only [if_true,Option.some.injEq] at hj
   subst hj
   exact ⟨hin,x,by simp [hlt],hv⟩
  ·simp only [hji,if_false] at hj
   obtain ⟨q1,z',q2,q3⟩:=h5 j z hj
   exact ⟨q1,z',by rw [Array.getElem?_setIfInBounds_ne (by omega)];exact q2,q3⟩
 have hu':=upd_setCell w l.blk (i+l.sh) x h2
 obtain ⟨hfn,L0,hL0,hmem0⟩:=h.fam a t f n c hb
 refine ⟨l,y,h1,by simp [World.cell?,h2,k1],by simp [World.frozen?,h2],?_⟩
 split at hp
 ·cases hp
 ·cases hp
 ·next z hL =>
  cases hp
  rw [hL] at hL0
  cases hL0
  have haz:a=z:=by simpa using hmem0
  refine h.upd hb h1 (h.live a _ l hb h1) hu' hbr rfl (by rw [T.get_set];simp) ?_ ?_
  ·intro k b hka hk
   simp only [T.get_set,hka,if_false] at hk
   refine ⟨hk,h.alone hb h1 hL hk hka fun _ _ _ _=>?_⟩
   simp only [List.mem_singleton]
   omega
  ·intro k t' f' n' c' hk
   by_cases hka:k=a
   ·subst hka
    simp only [T.get_set,if_true,Option.some.injEq,ABlk.cells.injEq] at hk
    obtain ⟨_,rfl,_⟩:=hk
    exact ⟨hfn,[z],hL,by simp [haz]⟩
   ·simp only [T.get_set,hka,if_false] at hk
    exact h.fam k t' f' n' c' hk
 ·next L hne1 hne2 hL =>
  cases hp
  rw [hL] at hL0
  cases hL0
  refine h.upd hb h1 (h.live a _ l hb h1) hu' hbr rfl (by rw [T.get_set];simp) ?_ ?_
  ·intro k b hka hk
   simp only [T.get_set,hka,if_false] at hk
   obtain ⟨hk1,hk2⟩:=get_kill _ _ _ _ _ hk
   exact ⟨hk1,h.alone hb h1 hL hk1 hka fun _ _ _ _ hm=>absurd (hk2 hm) (by simp)⟩
  ·intro k t' f' n' c' hk
   by_cases hka:k=a
   ·subst hka
    simp only [T.get_set,if_true,Option.some.injEq,ABlk.cells.injEq] at hk
    obtain ⟨_,rfl,_⟩:=hk
    exact ⟨hfn,[k],by rw [T.get_set];simp,by simp⟩
   ·simp only [T.get_set,hka,if_false] at hk
    obtain ⟨hk1,hk2⟩:=get_kill _ _ _ _ _ hk
    obtain ⟨q1,L',q2,q3⟩:=h.fam k t' f' n' c' hk1
    refine ⟨q1,L',?_,q3⟩
    rw [T.get_set]
    by_cases hff:f'=f
    ·subst hff
     rw [hL] at q2
     cases q2
     exact absurd (hk2 q3) (by simp)
    ·rw [if_neg hff];exact q2
end
end Go.Am
namespace Go.Am
open Go.RowKit
structure AP where
 types:T TypeInfo
 funcs:T Func
def AP.info (A:AP) (t:TypeId):Option TypeInfo:=A.types.get t
def AP.under (A:AP) (t:TypeId):Option TypeDesc :=
 match A.types.get t with
 |some i=>match i.desc with
  |.named _ u=>match A.types.get u with
   |some j=>some j.desc
   |none=>none
  |d=>some d
 |none=>none
structure AP.Ok (A:AP) (P:Program):Prop where
 info:∀ t i,A.types.get t=some i→P.info? t=some i
 funcs:∀ f fn,A.funcs.get f=some fn→P.funcs[f]?=some fn
 names : ∀ f fn, A.funcs.get f = some fn → (fn.name == "runtime.NumGoroutine") = false
def AP.of (P:Program):AP:={ types:=T.ofList P.types.toList 0 .nil,funcs:=T.ofList P.funcs.toList 0 .nil }
theorem AP.of_ok (P : Program) (hN : P.funcs.toList.all (fun F => !(F.name == "runtime.NumGoroutine")) = true) : (AP.of P).Ok P := by
 refine ⟨fun t i h=>?_,fun f fn h=>?_,fun f fn h=>?_⟩
 ·simp only [AP.of,T.get_ofList,T.get_nil] at h
  split at h
  ·next hlt =>
   simp only [Nat.sub_zero,Array.getElem?_toList] at h
   have:t < P.types.size:=by simpa using hlt.2
   unfold Tables.info?
   rw [if_pos this]
   exact h
  ·cases h
 ·simp only [AP.of,T.get_ofList,T.get_nil] at h
  split at h
  ·simpa only [Nat.sub_zero,Array.getElem?_toList] using h
  ·cases h
 ·simp only [AP.of,T.get_ofList,T.get_nil] at h
  split at h
  ·have:=List.all_eq_true.1 hN fn (List.mem_of_getElem? h)
   simpa only [Bool.not_eq_true'] using this
  ·cases h
theorem AP.Ok.under_ok {A:AP} {P:Program} (hA:A.Ok P) {t:TypeId} {d:TypeDesc} (h:A.under t=some d):P.underlying t=some d:=by
 unfold AP.under at h
 unfold Program.underlying
 split at h
 ·next i hi =>
  rw [hA.info t i hi]
  split at h
  ·next n u hd =>
   split at h
   ·next j hj =>
    obtain ⟨desc,_⟩:=i
    simp only at hd
    subst hd
    simp only [hA.info u j hj]
    exact h
   ·cases h
  ·next d' hd =>
   obtain ⟨desc,_⟩:=i
   simp only at h hd ⊢
   cases desc<;>first
    |exact h
    |exact absurd rfl (hd _ _)
 ·cases h
def ofCell:Value→Option AV
 |.bool b=>some (.bool b)
 |.int k n=>some (.int k n)
 |.string s=>some (.str s)
 |.pointer none=>some .nilptr
 |.slice none 0 0=>some .nilsl
 |.map none=>some .nilmap
 |.nilFunc=>some .nilfn
 |.nilIface=>some .nilifc
 |_=>none
def ofCells:List Value→Option (List AV)
 |[]=>some []
 |v::vs=>match ofCell v with
  |some a=>match ofCells vs with
   |some as=>some (a::as)
   |none=>none
  |none=>none
def ofValue:Value→Option AV
 |.agg cs=>match ofCells cs.toList with
  |some l=>some (.agg l)
  |none=>none
 |v=>ofCell v
theorem ofCell_ok {m:Env} {v:Value} {a:AV} (h:ofCell v=some a):VR m a v:=by
 unfold ofCell at h
 split at h<;>cases h<;>simp only [VR]
theorem ofCells_ok {m:Env}:∀ {v:List Value} {a:List AV},ofCells v=some a→VRs m a v
 |[],a,h=>by cases h;simp only [VRs]
 |v :: vs, a, h => by
  simp only [ofCells] at h
  split at h
  ·next b hb =>
   split at h
   ·next bs hbs =>
    cases h
    simp only [VRs]
    exact ⟨v,vs,rfl,ofCell_ok hb,ofCells_ok hbs⟩
   ·cases h
  ·cases h
theorem ofValue_ok {m:Env} {v:Value} {a:AV} (h:ofValue v=some a):VR m a v:=by
 unfold ofValue at h
 split at h
 ·split at h
  ·next l hl =>
   cases h
   simp only [VR]
   exact ⟨_,rfl,ofCells_ok hl⟩
  ·cases h
 ·exact ofCell_ok h
def AV.cells:AV→List AV
 |.agg l=>l
 |v=>[v]
theorem VR.cells {m:Env} {v:AV} {x:Value} (h:VR m v x):VRs m v.cells x.cells.toList:=by
 cases v<;>simp only [VR] at h<;>first
  |(subst h;simp only [AV.cells,VRs,Value.cells,VR];exact ⟨_,_,rfl,rfl,rfl⟩)
  |(obtain ⟨l,h1,rfl⟩:=h;simp only [AV.cells,VRs,Value.cells,VR];exact ⟨_,_,rfl,⟨l,h1,rfl⟩,rfl⟩)
  |(obtain ⟨l,rfl⟩:=h;simp only [AV.cells,VRs,Value.cells,VR];exact ⟨_,_,rfl,⟨l,rfl⟩,rfl⟩)
  |(obtain ⟨l,p,c,h1,rfl,h2⟩:=h;simp only [AV.cells,VRs,Value.cells,VR];exact ⟨_,_,rfl,⟨l,p,c,h1,rfl,h2⟩,rfl⟩)
  |(obtain ⟨x,y,rfl,h1,h2⟩:=h;simp only [AV.cells,VRs,Value.cells,VR];exact ⟨_,_,rfl,⟨x,y,rfl,h1,h2⟩,rfl⟩)
  |(obtain ⟨x,rfl,h1⟩:=h;simp only [AV.cells,Value.cells];exact h1)
  |(obtain ⟨x,rfl,h1⟩:=h;simp only [AV.cells,VRs,Value.cells,VR];exact ⟨_,_,rfl,⟨x,rfl,h1⟩,rfl⟩)
def Heap.cellsAt (H:Heap) (a:Nat):Nat→Nat→Option (List AV)
 |_,0=>some []
 |i,n+1=>match H.cell a i with
  |some v=>match H.cellsAt a (i+1) n with
   |some vs=>some (v::vs)
   |none=>none
  |none=>none
def Heap.puts (H:Heap) (a:Nat):Nat→List AV→Option Heap
 |_,[]=>some H
 |i,v::vs=>match v.one with
  |true=>match H.put a i v with
   |some H'=>H'.puts a (i+1) vs
   |none=>none
  |false=>none
def Heap.newB (H:Heap) (t:TypeId) (vs:List AV):Heap :=
 { blks:=H.blks.set H.next (.cells t H.next vs.length (T.ofList vs 0 .nil)),next:=H.next+1,fams:=H.fams.set H.next [H.next] }
section
variable {B0:Prot} {w0:World} {m:Env} {H:Heap} {w:World}
theorem addr_add (k o j:Nat):(⟨k,o,none⟩:Addr).add j=⟨k,o+j,none⟩:=by
 unfold Addr.add
 split
 ·next h=>subst h;rfl
 ·rfl
theorem HR.cellsAt (h:HR B0 w0 m H w) {a:Nat} {l:Loc} (hl:m a=some l):∀ (n i:Nat) {vs:List AV},H.cellsAt a i n=some vs →
  ∃ xs:List Value,VRs m vs xs∧xs.length=n∧∀ j x,xs[j]?=some x→w.cell? ⟨l.blk,i+l.sh+j,none⟩=some x
 |0,i,vs,e=>by
  simp only [Heap.cellsAt,Option.some.injEq] at e
  subst e
  exact ⟨[],by simp only [VRs],rfl,fun j x hj=>by simp at hj⟩
 |n + 1, i, vs, e => by
  simp only [Heap.cellsAt] at e
  split at e
  ·next v hv =>
   split at e
   ·next vs' hvs =>
    cases e
    obtain ⟨l',x,h1,h2,_,h3⟩:=h.cell hv
    rw [hl] at h1
    cases h1
    obtain ⟨xs,k1,k2,k3⟩:=h.cellsAt hl n (i+1) hvs
    refine ⟨x::xs,by simp only [VRs];exact ⟨x,xs,rfl,h3,k1⟩,by simp [k2],fun j y hj=>?_⟩
    cases j with
    |zero=>simp at hj;subst hj;exact h2
    |succ j =>
     simp at hj
     have:=k3 j y hj
     rw [show i+l.sh+(j+1)=i+1+l.sh+j from by omega]
     exact this
   ·cases e
  ·cases e
theorem HR.puts (P:Program) {a:Nat} {l:Loc} (hl:m a=some l):∀ (vs:List AV) (i o j:Nat) (H H':Heap) (w:World) (xs:List Value),HR B0 w0 m H w→H.puts a i vs=some H'→VRs m vs xs →
  i=o+j→∃ w',(storeCells ⟨l.blk,o+l.sh,none⟩ xs j).run P w=.ok () w'∧HR B0 w0 m H' w'
 |[],i,o,j,H,H',w,xs,h,e,hv,_=>by
  simp only [Heap.puts,Option.some.injEq] at e
  simp only [VRs] at hv
  subst e hv
  exact ⟨w,by simp [storeCells],h⟩
 |v :: vs, i, o, j, H, H', w, xs, h, e, hv, hij => by
  simp only [Heap.puts] at e
  split at e
  ·next hone =>
   split at e
   ·next H1 hp =>
    simp only [VRs] at hv
    obtain ⟨x,ys,rfl,h1,h2⟩:=hv
    obtain ⟨l',u,k1,k2,k3,k4⟩:=h.put hp h1
    rw [hl] at k1
    cases k1
    obtain ⟨w',r1,r2⟩:=HR.puts P hl vs (i+1) o (j+1) H1 H' _ ys k4 e h2 (by omega)
    refine ⟨w',?_,r2⟩
    have ea:(⟨l.blk,o+l.sh,none⟩:Addr).add j=⟨l.blk,i+l.sh,none⟩:=by
     rw [addr_add]
     congr 1
     omega
    simp only [storeCells,Sem.run_bind,run_store _ _ _ _ _ (h1.one hone),ea,k2,k3]
    simpa using r1
   ·cases e
  ·cases e
theorem HR.newB (h:HR B0 w0 m H w) (t:TypeId) {vs:List AV} {arr:Array Value} (hn:vs.length≤arr.size)
  (hv:∀ (i:Nat) (v:AV),vs[i]?=some v→∃ x,arr[i]?=some x∧VR m v x) :
  HR B0 w0 (m.ext H.next ⟨w.heap.size,0,arr.size⟩) (H.newB t vs) (w.alloc (.cells arr t)):=by
 refine h.alloc ⟨w.heap.size,0,arr.size⟩ rfl _ _ ?_ _ (.inl ⟨t,_,_,rfl,rfl⟩)
 refine ⟨arr,rfl,rfl,by simpa using hn,fun i v hi=>?_⟩
 rw [T.get_ofList] at hi
 split at hi
 ·next hlt =>
  rw [Nat.sub_zero] at hi
  obtain ⟨x,h1,h2⟩:=hv i v hi
  exact ⟨by omega,x,h1,VR.mono (h.le_ext _) _ _ h2⟩
 ·simp [T.get_nil] at hi
theorem HR.newB_of (h:HR B0 w0 m H w) (t:TypeId) {vs:List AV} {xs rest:List Value} (hv:VRs m vs xs) :
  HR B0 w0 (m.ext H.next ⟨w.heap.size,0,(xs++rest).length⟩) (H.newB t vs) (w.alloc (.cells (xs++rest).toArray t)):=by
 have hl:=hv.length
 refine h.newB t (arr:=(xs++rest).toArray) (by simp;omega) fun i v hi=>?_
 obtain ⟨x,h1,h2⟩:=hv.get hi
 refine ⟨x,?_,h2⟩
 have hlt:i < xs.length:=by
  rcases Nat.lt_or_ge i xs.length with h | h
  ·exact h
  ·simp [List.getElem?_eq_none h] at h1
 simp only [List.getElem?_toArray]
 rw [List.getElem?_append_left hlt]
 exact h1
end
def Heap.load (A:AP) (H:Heap) (t:TypeId) (a o:Nat):Option AV :=
 match A.info t with
 |some ti=>match A.under t with
  |some (.struct _)=>match H.cellsAt a o ti.size with
   |some vs=>some (.agg vs)
   |none=>none
  |some (.array _ _)=>match H.cellsAt a o ti.size with
   |some vs=>some (.agg vs)
   |none=>none
  |some _=>H.cell a o
  |none=>none
 |none=>none
def Heap.store (A:AP) (H:Heap) (t:TypeId) (a o:Nat) (v:AV):Option Heap :=
 match A.info t with
 |some ti=>match v.cells.length == ti.size with
  |true=>H.puts a o v.cells
  |false=>none
 |none=>none
section
variable {B0:Prot} {w0:World} {m:Env} {H:Heap} {w:World} {A:AP} {P:Program}
theorem run_typeInfo' {t:TypeId} {i:TypeInfo} (h:P.info? t=some i) (w:World):(typeInfo t).run P w=.ok i w:=by
 simp [typeInfo,h]
theorem HR.load (hA:A.Ok P) (h:HR B0 w0 m H w) {t:TypeId} {a o:Nat} {v:AV} (e:H.load A t a o=some v) {l:Loc} (hl:m a=some l) :
  ∃ x,(loadVar t ⟨l.blk,o+l.sh,none⟩).run P w=.ok x w∧VR m v x:=by
 unfold Heap.load at e
 split at e
 case h_2=>cases e
 next ti hti =>
 have hi:=hA.info t ti hti
 have many:∀ vs,H.cellsAt a o ti.size=some vs→∃ xs:List Value,(loadCells ⟨l.blk,o+l.sh,none⟩ ti.size).run P w=.ok xs.toArray w∧VRs m vs xs:=by
  intro vs hvs
  obtain ⟨xs,h1,h2,h3⟩:=h.cellsAt hl _ _ hvs
  refine ⟨xs,?_,h1⟩
  rw [← h2]
  exact run_loadCells_list w _ xs fun j x hj=>by rw [addr_add];exact h3 j x hj
 split at e
 ·next fs hu =>
  split at e
  ·next vs hvs =>
   cases e
   obtain ⟨xs,h1,h2⟩:=many vs hvs
   refine ⟨.agg xs.toArray,?_,by simp only [VR];exact ⟨_,rfl,h2⟩⟩
   simp [loadVar,isAgg,run_underlying (hA.under_ok hu),sizeOf,run_typeInfo' hi,h1]
  ·cases e
 ·next n el hu =>
  split at e
  ·next vs hvs =>
   cases e
   obtain ⟨xs,h1,h2⟩:=many vs hvs
   refine ⟨.agg xs.toArray,?_,by simp only [VR];exact ⟨_,rfl,h2⟩⟩
   simp [loadVar,isAgg,run_underlying (hA.under_ok hu),sizeOf,run_typeInfo' hi,h1]
  ·cases e
 ·next d hn1 hn2 hu =>
  obtain ⟨l',x,k1,k2,_,k3⟩:=h.cell e
  rw [hl] at k1
  cases k1
  refine ⟨x,?_,k3⟩
  have hagg:(isAgg t).run P w=.ok false w:=by
   simp only [isAgg,Sem.run_bind,run_underlying (hA.under_ok hu),Result.andThen_ok]
   cases d<;>first
    |rfl
    |exact absurd rfl (hn1 _)
    |exact absurd rfl (hn2 _ _)
  simp only [loadVar,Sem.run_bind,hagg,Result.andThen_ok]
  simp [k2]
 ·cases e
theorem HR.store (hA:A.Ok P) (h:HR B0 w0 m H w) {t:TypeId} {a o:Nat} {v:AV} {x:Value} {H':Heap} (e:H.store A t a o v=some H') (hv:VR m v x) {l:Loc} (hl:m a=some l) :
  ∃ w',(storeVar t ⟨l.blk,o+l.sh,none⟩ x).run P w=.ok () w'∧HR B0 w0 m H' w':=by
 unfold Heap.store at e
 split at e
 case h_2=>cases e
 next ti hti =>
 split at e
 ·next hsz =>
  have hc:=hv.cells
  have hlen:=hc.length
  obtain ⟨w',h1,h2⟩:=HR.puts P hl v.cells o o 0 H H' w _ h e hc rfl
  refine ⟨w',?_,h2⟩
  have hs:x.cells.size=ti.size:=by
   have:=eq_of_beq hsz
   simp at hlen
   omega
  simp [storeVar,sizeOf,run_typeInfo' (hA.info t ti hti),hs,h1]
 ·cases e
theorem HR.newVar (h:HR B0 w0 m H w) (t:TypeId) {v:AV} {x:Value} (hv:VR m v x) :
  ∃ l,(newVar t x).run P w=.ok ⟨l.blk,l.sh,none⟩ (w.alloc (.cells x.cells t))∧HR B0 w0 (m.ext H.next l) (H.newB t v.cells) (w.alloc (.cells x.cells t)):=by
 refine ⟨⟨w.heap.size,0,(x.cells.toList++[]).length⟩,by simp [Go.newVar,newRow],?_⟩
 have:=h.newB_of t (rest:=[]) hv.cells
 simpa using this
end
end Go.Am
namespace Go.Am
open Go.RowKit
def Heap.grow (H : Heap) (e : TypeId) (a o clen : Nat) (new : List AV) : Option Heap :=
 match H.blks.get a with
 |some (.cells t f n c)=>match H.fams.get f with
  |none=>none
  |some L=>match t == e with
   |false=>none
   |true=>match o == 0 && n == clen with
    |true=>some { blks:=(kill (fun x _=>x == a) L H.blks).set H.next (.cells t f (clen+new.length) (T.ofList new clen c)),next:=H.next+1,fams:=H.fams.set f [H.next,a] }
    |false=>match H.cellsAt a o clen with
     |none=>none
     |some old=>some { blks:=(kill (fun _ _=>false) L H.blks).set H.next (.cells t f (clen+new.length) (T.ofList (old++new) 0 .nil)),next:=H.next+1,fams:=H.fams.set f [H.next] }
 |_=>none
def zeroOk (ti:TypeInfo):Bool :=
 match ti.zero with
 |some z=>z.cells.size == ti.size
 |none=>false
def AV.allOne:List AV→Bool
 |[]=>true
 |v::vs=>match v.one with
  |true=>allOne vs
  |false=>false
def Heap.append (A : AP) (H : Heap) (t tx : TypeId) (s x : AV) : Option (AV × Heap) :=
 match A.under t,A.under tx with
 |some (.slice e), some (.slice _) => match A.info e with
  |none=>none
  |some ti =>
   let src:Option (Nat×List AV):=match x with
    |.nilsl=>some (0,[])
    |.sl a o len _=>match H.cellsAt a o (len * ti.size) with
     |some vs=>some (len,vs)
     |none=>none
    |_=>none
   match src with
   |none=>none
   |some (n, news) => match s with
    |.nilsl=>match n with
     |0=>some (.nilsl,H)
     |_+1=>match Nat.ble (n * ti.bytes) 140737488355328 && Nat.ble n 1000000000 && Nat.ble 1 ti.size && zeroOk ti with
      |true=>some (.sl H.next 0 n (.un ti.size n),H.newB e news)
      |false=>none
    |.sl a o len cap => match Nat.ble ((len + n) * ti.bytes) 140737488355328 && Nat.ble (len + n) 1000000000 && zeroOk ti with
     |false=>none
     |true => match cap with
      |.ex c=>match Nat.ble (len+n) c with
       |true=>match H.puts a (o+len * ti.size) news with
        |some H'=>some (.sl a o (len+n) (.ex c),H')
        |none=>none
       |false=>match Nat.ble 1 ti.size && Nat.ble (c+1) (len+n),H.cellsAt a o (len * ti.size) with
        |true,some olds=>some (.sl H.next 0 (len+n) (.un ti.size (len+n)),H.newB e (olds++news))
        |_,_=>none
      |.un esz lb => match esz == ti.size with
       |false=>none
       |true=>match n with
        |0=>some (.sl a o len (.un esz lb),H)
        |_ + 1 => match AV.allOne news with
         |false=>none
         |true=>match Nat.ble (len+n) lb with
          |true=>match H.puts a (o+len * ti.size) news with
           |some H'=>some (.sl a o (len+n) (.un esz lb),H')
           |none=>none
          |false=>match H.grow e a o (len * ti.size) news with
           |some H'=>some (.sl H.next 0 (len+n) (.un ti.size (len+n)),H')
           |none=>none
    |_=>none
 |_,_=>none
theorem allOne_ok {m:Env}:∀ {v:List AV} {x:List Value},AV.allOne v=true→VRs m v x→∀ y∈x,y.oneCell'=true
 |[],x,_,h=>by simp only [VRs] at h;subst h;simp
 |v::vs,x,e,h=>by
  simp only [VRs] at h
  obtain ⟨y,ys,rfl,h1,h2⟩:=h
  simp only [AV.allOne] at e
  split at e
  ·next hone =>
   intro z hz
   rcases List.mem_cons.1 hz with rfl | hz
   ·exact h1.one hone
   ·exact allOne_ok e h2 z hz
  ·cases e
section
variable {B0:Prot} {w0:World} {m:Env} {H:Heap} {w:World} {A:AP} {P:Program}
theorem upd_setRow (w:World) (g:Nat) (old cs:Array Value) (t:TypeId) (hg:w.heap[g]?=some (.cells old t (0,0))):Upd w (w.setRow g cs) g (.cells cs t (0,0)) :=
 ⟨rfl,rfl,rfl,by simp [World.setRow],setRow_heap w g old cs t _ hg,fun i hi=>setRow_other w g i cs (by omega)⟩
theorem HR.derive (h:HR B0 w0 m H w) {a f:Nat} {t:TypeId} {n:Nat} {c:T AV} (hb:H.blks.get a=some (.cells t f n c)) {L:List Nat} (hL:H.fams.get f=some L)
  {l:Loc} (hl:m a=some l) (l':Loc) {w':World} (hbelow:Keep B0 w0 w') (hsz:w.heap.size≤w'.heap.size) (hl1:¬ B0 l'.blk) (hl2:l'.blk < w'.heap.size)
  (keep:Nat→ABlk→Bool) (K:List Nat) (hK:∀ x,keep x (.cells t f n c)=true→x=a→x∈K) (hkeepa:∀ x b,x∈L→keep x b=true→x=a)
  (old:∀ i,i < w.heap.size→i≠l'.blk→w'.heap[i]?=w.heap[i]?)
  (hloc:l'.blk=l.blk∨w.heap.size≤l'.blk)
  (hsame:l'.blk=l.blk→keep a (.cells t f n c)=true→l'.sh=l.sh∧BR m (.cells t f n c) l (w'.heap[l.blk]?))
  {N:Nat} {c':T AV} (hnew:BR m (.cells t f N c') l' (w'.heap[l'.blk]?)) :
  HR B0 w0 (m.ext H.next l') { blks:=(kill keep L H.blks).set H.next (.cells t f N c'),next:=H.next+1,fams:=H.fams.set f (H.next::K) } w':=by
 have hle:=h.le_ext l'
 have hold:∀ x k,x≠H.next→m.ext H.next l' x=some k→m x=some k:=fun x k hx e=>by rwa [Env.ext_ne _ _ hx] at e
 obtain ⟨hfn,L',hL',hmem⟩:=h.fam a t f n c hb
 rw [hL] at hL'
 cases hL'
 have apart:∀ x b,x≠H.next→(kill keep L H.blks).get x=some b→x≠a→∀ k,m x=some k→k.blk≠l.blk:=by
  intro x b hx hg hxa k hk
  obtain ⟨h1,h2⟩:=get_kill _ _ _ _ _ hg
  refine h.alone hb hl hL h1 hxa (fun _ _ _ _ hm=>hxa (hkeepa x b hm (h2 hm))) k hk
 have keptA:∀ b,(kill keep L H.blks).get a=some b→b=.cells t f n c∧keep a (.cells t f n c)=true:=by
  intro b hg
  obtain ⟨h1,h2⟩:=get_kill _ _ _ _ _ hg
  rw [hb] at h1
  cases h1
  exact ⟨rfl,h2 hmem⟩
 refine ⟨hbelow,?_,?_,?_,?_,?_,?_,fun a ha=>Nat.lt_succ_of_lt (h.idsb a ha)⟩
 ·intro x k e
  by_cases hx:x=H.next
  ·subst hx;exact ⟨Nat.lt_succ_self _,fun hc=>Nat.lt_irrefl _ (h.idsb _ hc)⟩
  ·exact ⟨Nat.lt_succ_of_lt (h.fresh x k (hold x k hx e)).1,(h.fresh x k (hold x k hx e)).2⟩
 ·intro x k e
  by_cases hx:x=H.next
  ·subst hx
   rw [Env.ext_self] at e
   cases e
   exact hl2
  ·have:=h.inb x k (hold x k hx e)
   omega
 ·intro x b hg
  rw [T.get_set] at hg
  by_cases hx:x=H.next
  ·subst hx
   simp only [if_true,Option.some.injEq] at hg
   subst hg
   exact ⟨l',Env.ext_self _ _ _,hnew.mono hle⟩
  ·simp only [hx,if_false] at hg
   by_cases hxa:x=a
   ·subst hxa
    obtain ⟨rfl,hkp⟩:=keptA b hg
    refine ⟨l,hle _ _ hl,?_⟩
    by_cases hbl:l'.blk=l.blk
    ·exact (hsame hbl hkp).2.mono hle
    ·rw [old l.blk (h.inb _ l hl) (fun e=>hbl e.symm)]
     obtain ⟨k,k1,k2⟩:=h.blk _ _ hb
     rw [hl] at k1
     cases k1
     exact k2.mono hle
   ·have hne:=apart x b hx hg hxa
    obtain ⟨h1,_⟩:=get_kill _ _ _ _ _ hg
    obtain ⟨k,k1,k2⟩:=h.blk x b h1
    refine ⟨k,hle _ _ k1,?_⟩
    have hk2:=h.inb x k k1
    rw [old k.blk hk2 (fun e=>by rcases hloc with e' | e'<;>first | exact hne k k1 (e.trans e') | omega)]
    exact k2.mono hle
 ·intro x y bx byy lx ly hx hy hlx hly hblk
  by_cases hxy:x=y
  ·exact .inl hxy
  rw [T.get_set] at hx hy
  have one:∀ z bz lz,z≠H.next→(kill keep L H.blks).get z=some bz→m z=some lz→l'.blk=lz.blk →
    (∃ t1 f1 n1 c1,bz=.cells t1 f1 n1 c1∧f1=f)∧lz.sh=l'.sh:=by
   intro z bz lz hz hg hlz e
   have hz2:=h.inb z lz hlz
   rcases hloc with e' | e'
   ·by_cases hza:z=a
    ·subst hza
     obtain ⟨rfl,hkp⟩:=keptA bz hg
     rw [hl] at hlz
     cases hlz
     exact ⟨⟨_,_,_,_,rfl,rfl⟩,(hsame e' hkp).1.symm⟩
    ·exact absurd (e.symm.trans e') (apart z bz hz hg hza lz hlz)
   ·omega
  by_cases hxn:x=H.next
  ·subst hxn
   rw [Env.ext_self] at hlx
   cases hlx
   simp only [if_true,Option.some.injEq] at hx
   subst hx
   have hyn:y≠H.next:=fun e=>hxy e.symm
   simp only [hyn,if_false] at hy
   obtain ⟨⟨t1,f1,n1,c1,rfl,rfl⟩,hs⟩:=one y byy ly hyn hy (hold y ly hyn hly) hblk
   exact .inr ⟨_,_,_,_,_,_,_,rfl,rfl,hs.symm⟩
  ·simp only [hxn,if_false] at hx
   by_cases hyn:y=H.next
   ·subst hyn
    rw [Env.ext_self] at hly
    cases hly
    simp only [if_true,Option.some.injEq] at hy
    subst hy
    obtain ⟨⟨t1,f1,n1,c1,rfl,rfl⟩,hs⟩:=one x bx lx hxn hx (hold x lx hxn hlx) hblk.symm
    exact .inr ⟨_,_,_,_,_,_,_,rfl,rfl,hs⟩
   ·simp only [hyn,if_false] at hy
    exact h.sep x y bx byy lx ly (get_kill _ _ _ _ _ hx).1 (get_kill _ _ _ _ _ hy).1 (hold _ _ hxn hlx) (hold _ _ hyn hly) hblk
 ·intro x t1 f1 n1 c1 hg
  rw [T.get_set] at hg
  by_cases hx:x=H.next
  ·subst hx
   simp only [if_true,Option.some.injEq,ABlk.cells.injEq] at hg
   obtain ⟨_,rfl,_⟩:=hg
   exact ⟨by show f < H.next+1;omega,H.next::K,by rw [T.get_set];simp,by simp⟩
  ·simp only [hx,if_false] at hg
   obtain ⟨h1,h2⟩:=get_kill _ _ _ _ _ hg
   obtain ⟨q1,L1,q2,q3⟩:=h.fam x t1 f1 n1 c1 h1
   by_cases hff:f1=f
   ·subst hff
    rw [hL] at q2
    cases q2
    have hxa:=hkeepa x _ q3 (h2 q3)
    subst hxa
    obtain ⟨_,hkp⟩:=keptA _ hg
    exact ⟨by show _ < H.next+1;omega,H.next::K,by rw [T.get_set];simp,List.mem_cons_of_mem _ (hK x hkp rfl)⟩
   ·exact ⟨by show _ < H.next+1;omega,L1,by rw [T.get_set,if_neg hff];exact q2,q3⟩
 ·intro x b k hg hk
  rw [T.get_set] at hg
  by_cases hx:x=H.next
  ·subst hx
   rw [Env.ext_self] at hk
   cases hk
   exact hl1
  ·simp only [hx,if_false] at hg
   exact h.live x b k (get_kill _ _ _ _ _ hg).1 (hold x k hx hk)
end
end Go.Am
namespace Go.Am
open Go.RowKit
section
variable {B0:Prot} {w0:World} {m:Env} {H:Heap} {w:World} {A:AP} {P:Program}
theorem rowCells {w:World} {k:Nat} {arr:Array Value} {t:TypeId} (h:w.heap[k]?=some (.cells arr t (0,0))) (o n j:Nat) {v:Value}
  (hj:((arr.toList.drop o).take n)[j]?=some v):w.cell? ⟨k,o+j,none⟩=some v:=by
 have hlt:j < n:=by
  rcases Nat.lt_or_ge j n with h | h
  ·exact h
  ·rw [List.getElem?_take_eq_none h] at hj;cases hj
 rw [List.getElem?_take_of_lt hlt,List.getElem?_drop] at hj
 simpa [World.cell?,h] using hj
theorem HR.grow (h:HR B0 w0 m H w) {e:TypeId} {a o clen:Nat} {new:List AV} {H':Heap} (hg:H.grow e a o clen new=some H') {l:Loc} (hl:m a=some l)
  {xs:List Value} (hv:VRs m new xs) (hfit0:o+l.sh+clen≤l.size) :
  ∃ arr : Array Value, w.heap[l.blk]? = some (.cells arr e (0, 0)) ∧ arr.size = l.size ∧
   (o + l.sh + clen + xs.length ≤ l.size → HR B0 w0 (m.ext H.next ⟨l.blk, o + l.sh, l.size⟩) H'
    (w.setRow l.blk (arr.toList.take (o+l.sh+clen)++xs++arr.toList.drop (o+l.sh+clen+xs.length)).toArray)) ∧
   (∀ rest : Array Value, HR B0 w0 (m.ext H.next ⟨w.heap.size, 0, clen + xs.length + rest.size⟩) H'
    (w.drew.alloc (.cells (((arr.toList.drop (o+l.sh)).take clen).toArray++xs.toArray++rest) e))):=by
 unfold Heap.grow at hg
 split at hg
 case h_2=>cases hg
 next t f n c hb =>
 split at hg
 ·cases hg
 next L hL =>
 split at hg
 ·cases hg
 next hte =>
 have hte:=eq_of_beq hte
 subst hte
 obtain ⟨l1,arr,k1,k2,k3,k4,k5⟩:=h.get_cells hb
 rw [hl] at k1
 cases k1
 have hxl:=hv.length
 have hin:¬ B0 l.blk∧l.blk < w.heap.size:=⟨h.live a _ l hb hl,h.inb a l hl⟩
 refine ⟨arr,k2,k3,?_⟩
 have inrow:∀ i,i < o+l.sh+clen→o+l.sh+clen+xs.length≤l.size →
   ((arr.toList.take (o+l.sh+clen)++xs++arr.toList.drop (o+l.sh+clen+xs.length)).toArray)[i]?=arr[i]?:=by
  intro i hi hfit
  simp only [List.getElem?_toArray]
  rw [List.append_assoc,List.getElem?_append_left (by simp;omega),List.getElem?_take_of_lt hi]
  simp
 have innew:∀ i,i < xs.length→o+l.sh+clen+xs.length≤l.size →
   ((arr.toList.take (o+l.sh+clen)++xs++arr.toList.drop (o+l.sh+clen+xs.length)).toArray)[o+l.sh+clen+i]?=xs[i]?:=by
  intro i hi hfit
  simp only [List.getElem?_toArray]
  have e1:(arr.toList.take (o+l.sh+clen)).length=o+l.sh+clen:=by simp;omega
  rw [List.append_assoc,List.getElem?_append_right (by omega),List.getElem?_append_left (by omega),e1]
  congr 1
  omega
 have insize:o+l.sh+clen+xs.length≤l.size→(arr.toList.take (o+l.sh+clen)++xs++arr.toList.drop (o+l.sh+clen+xs.length)).toArray.size=l.size:=by
  intro hfit
  simp
  omega
 have outold:∀ (rest:Array Value) i,i < clen→o+l.sh+clen≤l.size→((((arr.toList.drop (o+l.sh)).take clen).toArray++xs.toArray++rest))[i]?=arr[i+(o+l.sh)]?:=by
  intro rest i hi hfit
  have e1:((arr.toList.drop (o+l.sh)).take clen).length=clen:=by simp;omega
  rw [Array.getElem?_append_left (by simp;omega),Array.getElem?_append_left (by simp;omega)]
  simp only [List.getElem?_toArray]
  rw [List.getElem?_take_of_lt hi,List.getElem?_drop]
  simp [Nat.add_comm]
 have outnew:∀ (rest:Array Value) i,i < xs.length→o+l.sh+clen≤l.size→((((arr.toList.drop (o+l.sh)).take clen).toArray++xs.toArray++rest))[clen+i]?=xs[i]?:=by
  intro rest i hi hfit
  have e1:((arr.toList.drop (o+l.sh)).take clen).length=clen:=by simp;omega
  rw [Array.getElem?_append_left (by simp;omega),Array.getElem?_append_right (by simp;omega)]
  simp only [List.getElem?_toArray,List.size_toArray,e1]
  congr 1
  omega
 have outsize:∀ (rest:Array Value),o+l.sh+clen≤l.size→(((arr.toList.drop (o+l.sh)).take clen).toArray++xs.toArray++rest).size=clen+xs.length+rest.size:=by
  intro rest hfit
  have e1:((arr.toList.drop (o+l.sh)).take clen).length=clen:=by simp;omega
  simp only [Array.size_append,List.size_toArray,e1]
 have bold:∀ rest:Array Value,Keep B0 w0 (w.drew.alloc (.cells (((arr.toList.drop (o+l.sh)).take clen).toArray++xs.toArray++rest) t)):=fun rest =>
  h.below.drew.alloc _ fun _ _ _ e=>by cases e;exact Nat.le_refl _
 split at hg
 ·next hA =>
  cases hg
  simp only [Bool.and_eq_true,beq_iff_eq] at hA
  obtain ⟨rfl,rfl⟩:=hA
  refine ⟨fun hfit=>?_,fun rest=>?_⟩
  ·have hu:=upd_setRow w l.blk arr (arr.toList.take (0+l.sh+n)++xs++arr.toList.drop (0+l.sh+n+xs.length)).toArray t k2
   refine h.derive hb hL hl ⟨l.blk,0+l.sh,l.size⟩ (hu.below h.below hin.1 (fun _ _ _ e=>by cases e;exact Nat.le_refl _) (h.cold hb hl)) (by rw [hu.size];exact Nat.le_refl _) hin.1 (by rw [hu.size];exact hin.2) _ [a] (fun x _ e=>by simp [e])
    (fun x b _ hk=>eq_of_beq hk) (fun i _ hne=>hu.old i hne) (.inl rfl) (fun _ _=>⟨by simp,?_⟩) ?_
   ·rw [hu.new]
    refine ⟨_,rfl,insize hfit,k4,fun i v hi=>?_⟩
    obtain ⟨q1,x,q2,q3⟩:=k5 i v hi
    exact ⟨q1,x,by rw [inrow _ (by omega) hfit];exact q2,q3⟩
   ·rw [hu.new]
    refine ⟨_,rfl,insize hfit,by simp only [];omega,fun i v hi=>?_⟩
    rw [T.get_ofList] at hi
    split at hi
    ·next hlt =>
     obtain ⟨y,y1,y2⟩:=hv.get hi
     refine ⟨by omega,y,?_,y2⟩
     have:=innew (i - n) (by omega) hfit
     rw [show i+(0+l.sh)=0+l.sh+n+(i - n) from by omega,this]
     exact y1
    ·obtain ⟨q1,x,q2,q3⟩:=k5 i v hi
     exact ⟨by omega,x,by rw [inrow _ (by simp only [];omega) hfit];simpa using q2,q3⟩
  ·have hold:∀ i,i < w.heap.size→(w.drew.alloc (.cells (((arr.toList.drop (0+l.sh)).take n).toArray++xs.toArray++rest) t)).heap[i]?=w.heap[i]? :=
    fun i hi=>Below.heap_alloc w.drew _ i hi
   refine h.derive hb hL hl ⟨w.heap.size,0,n+xs.length+rest.size⟩ (bold rest) (by simp) (h.below.new (Nat.le_refl _)) (by simp) _ [a] (fun x _ e=>by simp [e])
    (fun x b _ hk=>eq_of_beq hk) (fun i hi _=>hold i hi) (.inr (Nat.le_refl _)) (fun e=>by simp only [] at e;omega) ?_
   ·rw [show (w.drew.alloc (.cells (((arr.toList.drop (0+l.sh)).take n).toArray++xs.toArray++rest) t)).heap[w.heap.size]?=_ from heap_alloc_new w.drew _]
    refine ⟨_,rfl,outsize rest hfit0,by simp only [];omega,fun i v hi=>?_⟩
    rw [T.get_ofList] at hi
    split at hi
    ·next hlt =>
     obtain ⟨y,y1,y2⟩:=hv.get hi
     refine ⟨by omega,y,?_,y2⟩
     have:=outnew rest (i - n) (by omega) hfit0
     rw [show i+0=n+(i - n) from by omega,this]
     exact y1
    ·obtain ⟨q1,x,q2,q3⟩:=k5 i v hi
     exact ⟨by omega,x,by rw [Nat.add_zero,outold rest i q1 hfit0];simpa using q2,q3⟩
 ·next hA =>
  split at hg
  ·cases hg
  next old hold0 =>
  cases hg
  obtain ⟨os,p1,p2,p3⟩:=h.cellsAt hl _ _ hold0
  have hol:=p1.length
  have hget:∀ j,j < clen→arr[o+l.sh+j]?=os[j]?:=by
   intro j hj
   have hj':j < os.length:=by omega
   have:=p3 j os[j] (List.getElem?_eq_getElem hj')
   rw [List.getElem?_eq_getElem hj']
   simpa [World.cell?,k2] using this
  have cells:∀ (arr':Array Value),(∀ i,i < clen→arr'[i+(o+l.sh)]?=arr[i+(o+l.sh)]?)→(∀ i,i < xs.length→arr'[clen+i+(o+l.sh)]?=xs[i]?) →
    ∀ i v,(T.ofList (old++new) 0 T.nil).get i=some v→i < clen+new.length∧∃ x,arr'[i+(o+l.sh)]?=some x∧VR m v x:=by
   intro arr' hO hN i v hi
   rw [T.get_ofList] at hi
   split at hi
   ·next hlt =>
    rw [Nat.sub_zero] at hi
    have hlt':i < old.length+new.length:=by simpa using hlt.2
    refine ⟨by omega,?_⟩
    by_cases hio:i < clen
    ·rw [List.getElem?_append_left (by omega)] at hi
     obtain ⟨x,x1,x2⟩:=p1.get hi
     refine ⟨x,?_,x2⟩
     rw [hO i hio,Nat.add_comm,hget i hio]
     exact x1
    ·rw [List.getElem?_append_right (by omega)] at hi
     obtain ⟨x,x1,x2⟩:=hv.get hi
     refine ⟨x,?_,x2⟩
     have:=hN (i - clen) (by omega)
     rw [show clen+(i - clen)=i from by omega] at this
     rw [this,show i - clen=i - old.length from by omega]
     exact x1
   ·simp [T.get_nil] at hi
  refine ⟨fun hfit=>?_,fun rest=>?_⟩
  ·have hu:=upd_setRow w l.blk arr (arr.toList.take (o+l.sh+clen)++xs++arr.toList.drop (o+l.sh+clen+xs.length)).toArray t k2
   refine h.derive hb hL hl ⟨l.blk,o+l.sh,l.size⟩ (hu.below h.below hin.1 (fun _ _ _ e=>by cases e;exact Nat.le_refl _) (h.cold hb hl)) (by rw [hu.size];exact Nat.le_refl _) hin.1 (by rw [hu.size];exact hin.2) _ [] (fun x e _=>by cases e)
    (fun x b _ hk=>by cases hk) (fun i _ hne=>hu.old i hne) (.inl rfl) (fun _ e=>by cases e) ?_
   rw [hu.new]
   refine ⟨_,rfl,insize hfit,by simp only [];omega,cells _ (fun i hi=>inrow _ (by omega) hfit) fun i hi=>?_⟩
   rw [show clen+i+(o+l.sh)=o+l.sh+clen+i from by omega]
   exact innew i hi hfit
  ·have hold:∀ i,i < w.heap.size→(w.drew.alloc (.cells (((arr.toList.drop (o+l.sh)).take clen).toArray++xs.toArray++rest) t)).heap[i]?=w.heap[i]? :=
    fun i hi=>Below.heap_alloc w.drew _ i hi
   refine h.derive hb hL hl ⟨w.heap.size,0,clen+xs.length+rest.size⟩ (bold rest) (by simp) (h.below.new (Nat.le_refl _)) (by simp) _ [] (fun x e _=>by cases e)
    (fun x b _ hk=>by cases hk) (fun i hi _=>hold i hi) (.inr (Nat.le_refl _)) (fun e=>by simp only [] at e;omega) ?_
   rw [show (w.drew.alloc (.cells (((arr.toList.drop (o+l.sh)).take clen).toArray++xs.toArray++rest) t)).heap[w.heap.size]?=_ from heap_alloc_new w.drew _]
   refine ⟨_,rfl,outsize rest hfit0,by simp only [];omega,fun i v hi=>?_⟩
   rw [T.get_ofList] at hi
   split at hi
   ·next hlt =>
    rw [Nat.sub_zero] at hi
    have hlt':i < old.length+new.length:=by simpa using hlt.2
    refine ⟨by omega,?_⟩
    by_cases hio:i < clen
    ·rw [List.getElem?_append_left (by omega)] at hi
     obtain ⟨x,x1,x2⟩:=p1.get hi
     refine ⟨x,?_,x2⟩
     rw [Nat.add_zero,outold rest i hio hfit0,Nat.add_comm,hget i hio]
     exact x1
    ·rw [List.getElem?_append_right (by omega)] at hi
     obtain ⟨x,x1,x2⟩:=hv.get hi
     refine ⟨x,?_,x2⟩
     have:=outnew rest (i - clen) (by omega) hfit0
     rw [show i+0=clen+(i - clen) from by omega,this,show i - clen=i - old.length from by omega]
     exact x1
   ·simp [T.get_nil] at hi
theorem run_append_in (t tx ty e ex:TypeId) (i:TypeInfo) (ht:P.underlying t=some (.slice e)) (htx:P.underlying tx=some (.slice ex)) (hi:P.info? e=some i)
  (b:Addr) (sLen sCap:Nat) (xb:Option Addr) (n xc:Nat) (news:List Value) (hx:∀ w':World,w'.heap=w.heap→(Builtin.firstCells i.size n (.slice xb n xc)).run P w'=.ok news.toArray w')
  (hr:sLen+n≤sCap) {w':World} (hst:(storeCells (b.add (sLen * i.size)) news).run P w=.ok () w') :
  (Builtin.append_ #[t,tx] ty #[.slice (some b) sLen sCap,.slice xb n xc]).run P w=.ok (.slice (some b) (sLen+n) sCap) w':=by
 simp [Builtin.append_,run_underlying ht,run_underlying htx,sizeOf,typeInfo,hi,Builtin.lenOf,hr,hx w rfl,hst]
theorem run_append_none (t tx ty e ex:TypeId) (i:TypeInfo) (ht:P.underlying t=some (.slice e)) (htx:P.underlying tx=some (.slice ex)) (hi:P.info? e=some i)
  (xb:Option Addr) (xc:Nat) (hx:∀ w':World,w'.heap=w.heap→(Builtin.firstCells i.size 0 (.slice xb 0 xc)).run P w'=.ok #[] w') :
  (Builtin.append_ #[t,tx] ty #[.slice none 0 0,.slice xb 0 xc]).run P w=.ok (.slice none 0 0) w:=by
 simp [Builtin.append_,run_underlying ht,run_underlying htx,sizeOf,typeInfo,hi,Builtin.lenOf,hx w rfl]
theorem run_append_new (t tx ty e ex:TypeId) (i:TypeInfo) (z:Value) (ht:P.underlying t=some (.slice e)) (htx:P.underlying tx=some (.slice ex)) (hi:P.info? e=some i) (hz:i.zero=some z)
  (b:Option Addr) (sLen sCap:Nat) (olds:List Value) (hold:∀ w':World,w'.heap=w.heap→(Builtin.firstCells i.size sLen (.slice b sLen sCap)).run P w'=.ok olds.toArray w')
  (xb:Option Addr) (n xc:Nat) (news:List Value) (hx:∀ w':World,w'.heap=w.heap→(Builtin.firstCells i.size n (.slice xb n xc)).run P w'=.ok news.toArray w')
  (hg:sCap < sLen+n) (h63:sLen+n≤1000000000) (hfit:(sLen+n) * i.bytes≤140737488355328) :
  ∃ cap rest,sLen+n≤cap∧rest.size=(cap - (sLen+n)) * z.cells.size ∧
  (Builtin.append_ #[t, tx] ty #[.slice b sLen sCap, .slice xb n xc]).run P w =
   .ok (.slice (some ⟨w.heap.size,0,none⟩) (sLen+n) cap) (w.drew.alloc (.cells (olds.toArray++news.toArray++rest) e)):=by
 have hn:¬ (sLen+n≤sCap):=by omega
 have h63':¬ (9223372036854775807 < ((sLen:Int)+(n:Int))):=by omega
 have h48':¬ (281474976710656 < Builtin.nextslicecap (sLen+n) sCap * i.bytes):=by
  have:=growslice_fits hg hfit
  omega
 have hf:=hx w.drew rfl
 have hfo:=hold w.drew rfl
 refine ⟨grownCap w (sLen+n) sCap e,Builtin.zeroCells z.cells (grownCap w (sLen+n) sCap e - (sLen+n)),?_,by simp [Builtin.zeroCells],?_⟩
 ·exact Nat.le_add_right _ _
 ·simp [Builtin.append_,run_underlying ht,run_underlying htx,sizeOf,typeInfo,zeroValue,hi,hz,Builtin.lenOf,hn,h63',h48',Question.forced,hf,hfo,newRow,grownCap]
  congr 2
  apply Array.ext'
  simp [List.append_assoc]
theorem firstCells_none (size:Nat) (n c:Nat) (w':World):(Builtin.firstCells size n (.slice none n c)).run P w'=.ok #[] w':=by simp [Builtin.firstCells]
theorem firstCells_zero (size:Nat) (b:Option Addr) (n c:Nat) (w':World):(Builtin.firstCells size 0 (.slice b n c)).run P w'=.ok #[] w':=by
 cases b<;>simp [Builtin.firstCells,loadCells,loadCellsFrom]
theorem HR.firstCells (h:HR B0 w0 m H w) {a o n:Nat} {size:Nat} {vs:List AV} (hc:H.cellsAt a o (n * size)=some vs) {l:Loc} (hl:m a=some l) (c:Nat) :
  ∃ xs:List Value,VRs m vs xs∧xs.length=n * size∧∀ w':World,w'.heap=w.heap→(Builtin.firstCells size n (.slice (some ⟨l.blk,o+l.sh,none⟩) n c)).run P w'=.ok xs.toArray w':=by
 obtain ⟨xs,h1,h2,h3⟩:=h.cellsAt hl _ _ hc
 refine ⟨xs,h1,h2,fun w' hw=>?_⟩
 refine run_firstCells_some w' size n _ n c xs h2 fun j v hj=>?_
 rw [addr_add]
 have:=h3 j v hj
 simpa [World.cell?,hw] using this
theorem ACap.ptr {l:Loc} {o c:Nat} {p:Addr} {cap:ACap} (h:cap.ok l o p c):p=⟨l.blk,o+l.sh,none⟩∨c=0:=by
 cases cap with
 |ex c'=>exact .inl h.2
 |un esz lb=>exact h.2.2.1
theorem HR.append (hA : A.Ok P) (h : HR B0 w0 m H w) {t tx ty : TypeId} {s x v : AV} {H' : Heap} (e : H.append A t tx s x = some (v, H')) {sv xv : Value} (hs : VR m s sv) (hx : VR m x xv) :
  ∃ rv m' w',(Builtin.append_ #[t,tx] ty #[sv,xv]).run P w=.ok rv w'∧m.le m'∧VR m' v rv∧HR B0 w0 m' H' w':=by
 unfold Heap.append at e
 split at e
 case h_2=>cases e
 next el ex hu hux =>
 have ht:=hA.under_ok hu
 have htx:=hA.under_ok hux
 split at e
 ·cases e
 next ti hti =>
 have hi:=hA.info _ _ hti
 simp only [] at e
 split at e
 ·cases e
 next n news hsrc =>
 obtain ⟨xb,xc,xs,rfl,hnews,hnl,hfx⟩:∃ xb xc,∃ xs:List Value,xv=.slice xb n xc∧VRs m news xs∧xs.length=n * ti.size ∧
   ∀ w':World,w'.heap=w.heap→(Builtin.firstCells ti.size n (.slice xb n xc)).run P w'=.ok xs.toArray w':=by
  split at hsrc
  ·cases hsrc
   simp only [VR] at hx
   exact ⟨none,0,[],hx,by simp only [VRs],by simp,fun w' _=>firstCells_none _ _ _ w'⟩
  ·next a o len cap =>
   split at hsrc
   ·next vs hvs =>
    cases hsrc
    simp only [VR] at hx
    obtain ⟨l,p,c,hl,rfl,hlc,hcap⟩:=hx
    rcases ACap.ptr hcap with rfl | rfl
    ·obtain ⟨xs,h1,h2,h3⟩:=h.firstCells (P:=P) hvs hl c
     exact ⟨_,c,xs,rfl,h1,h2,h3⟩
    ·have h0:n=0:=by omega
     subst h0
     rw [Nat.zero_mul] at hvs
     simp only [Heap.cellsAt,Option.some.injEq] at hvs
     subst hvs
     exact ⟨_,0,[],rfl,by simp only [VRs],by simp,fun w' _=>firstCells_zero _ _ _ _ w'⟩
   ·cases hsrc
  ·cases hsrc
 clear hsrc hx
 have hnlen:=hnews.length
 have fresh:∀ (z:Value) (need:Nat) (cs:List AV) (ys:List Value) (cap:Nat) (rest:Array Value),z.cells.size=ti.size→1≤ti.size→VRs m cs ys→ys.length=need * ti.size→need≤cap →
   rest.size=(cap - need) * z.cells.size→∃ m',m.le m'∧VR m' (.sl H.next 0 need (.un ti.size need)) (.slice (some ⟨w.heap.size,0,none⟩) need cap) ∧
    HR B0 w0 m' (H.newB el cs) (w.drew.alloc (.cells (ys.toArray++rest) el)):=by
  intro z need cs ys cap rest hz h1 hcs hyl hcap hrest
  have hcl:=hcs.length
  have hn:=h.drew.newB (t:=el) (vs:=cs) (arr:=ys.toArray++rest) (by simp;omega) (fun i v hi=>by
   obtain ⟨x,x1,x2⟩:=hcs.get hi
   refine ⟨x,?_,x2⟩
   have hlt:i < ys.length:=(List.getElem?_eq_some_iff.1 x1).1
   rw [Array.getElem?_append_left (by simpa using hlt)]
   simpa using x1)
  refine ⟨_,h.drew.le_ext _,?_,hn⟩
  simp only [VR]
  refine ⟨_,_,cap,Env.ext_self _ _ _,rfl,hcap,h1,?_,.inl rfl,hcap⟩
  simp only [Array.size_append,List.size_toArray,hyl,hrest,hz]
  have:need * ti.size+(cap - need) * ti.size=cap * ti.size:=by rw [← Nat.add_mul];congr 1;omega
  omega
 split at e
 ·-- onto nothing
  simp only [VR] at hs
  subst hs
  split at e
  ·cases e
   have hxs:xs=[]:=List.eq_nil_of_length_eq_zero (by simpa using hnl)
   subst hxs
   exact ⟨_,m,w,run_append_none t tx ty el ex ti ht htx hi xb xc hfx,m.le_refl,by simp only [VR],h⟩
  ·next k =>
   split at e
   ·next hbnd =>
    cases e
    simp only [Bool.and_eq_true,Nat.ble_eq] at hbnd
    obtain ⟨⟨⟨hb1,hb2⟩,hb3⟩,hb4⟩:=hbnd
    unfold zeroOk at hb4
    split at hb4
    case h_2=>cases hb4
    next z hz =>
    have hb4:=eq_of_beq hb4
    obtain ⟨cap,rest,hc1,hc2,hrun⟩:=run_append_new (P:=P) (w:=w) t tx ty el ex ti z ht htx hi hz none 0 0 [] (fun w' _=>firstCells_none _ _ _ w') xb (k+1) xc xs hfx (by omega) (by omega) (by simpa using hb1)
    simp only [Nat.zero_add] at hc1 hc2 hrun
    obtain ⟨m',q1,q2,q3⟩:=fresh z (k+1) news xs cap rest hb4 hb3 hnews hnl hc1 hc2
    exact ⟨_,m',_,hrun,q1,q2,by simpa using q3⟩
   ·cases e
 ·next a o len cap =>
  simp only [VR] at hs
  obtain ⟨l,p,c,hl,rfl,hlc,hcap⟩:=hs
  split at e
  ·cases e
  next hbnd =>
  simp only [Bool.and_eq_true,Nat.ble_eq] at hbnd
  obtain ⟨⟨hb1,hb2⟩,hb4⟩:=hbnd
  unfold zeroOk at hb4
  split at hb4
  case h_2=>cases hb4
  next z hz =>
  have hb4:=eq_of_beq hb4
  cases cap with
  |ex c' =>
   simp only [ACap.ok] at hcap
   obtain ⟨rfl,rfl⟩:=hcap
   simp only [] at e
   split at e
   ·next hle =>
    simp only [Nat.ble_eq] at hle
    split at e
    ·next H1 hp =>
     cases e
     obtain ⟨w',r1,r2⟩:=HR.puts P hl news (o+len * ti.size) (o+len * ti.size) 0 H _ w xs h hp hnews rfl
     refine ⟨_,m,w',run_append_in (w:=w) t tx ty el ex ti ht htx hi _ len c xb n xc xs hfx hle (w':=w') ?_,m.le_refl,?_,r2⟩
     ·rw [addr_add,show o+l.sh+len * ti.size=o+len * ti.size+l.sh from by omega]
      exact r1
     ·simp only [VR]
      exact ⟨l,_,c,hl,rfl,hle,rfl,rfl⟩
    ·cases e
   ·split at e
    ·next olds hb hold =>
     cases e
     simp only [Bool.and_eq_true,Nat.ble_eq] at hb
     obtain ⟨os,p1,p2,p3⟩:=h.firstCells (P:=P) hold hl c
     obtain ⟨cap,rest,hc1,hc2,hrun⟩:=run_append_new (P:=P) (w:=w) t tx ty el ex ti z ht htx hi hz _ len c os p3 xb n xc xs hfx (by omega) hb2 hb1
     obtain ⟨m',q1,q2,q3⟩:=fresh z (len+n) (olds++news) (os++xs) cap rest hb4 hb.1 (p1.append hnews) (by simp [p2,hnl,Nat.add_mul]) hc1 hc2
     exact ⟨_,m',_,hrun,q1,q2,by simpa using q3⟩
    ·cases e
  |un esz lb =>
   simp only [ACap.ok] at hcap
   obtain ⟨hez,hcsz,hptr,hlb⟩:=hcap
   simp only [] at e
   split at e
   ·cases e
   next hesz =>
   have hesz:=eq_of_beq hesz
   subst hesz
   split at e
   ·cases e
    have hxs:xs=[]:=List.eq_nil_of_length_eq_zero (by simpa using hnl)
    subst hxs
    refine ⟨_,m,w,run_append_in (w:=w) t tx ty el ex ti ht htx hi _ len c xb 0 xc [] hfx (by simpa using hlc) (by simp [storeCells]),m.le_refl,?_,h⟩
    simp only [VR]
    exact ⟨l,p,c,hl,rfl,hlc,hez,hcsz,hptr,hlb⟩
   ·next k =>
    split at e
    ·cases e
    next hone =>
    split at e
    ·next hle =>
     simp only [Nat.ble_eq] at hle
     split at e
     case h_2=>cases e
     next H1 hp =>
     cases e
     have hpe:p=⟨l.blk,o+l.sh,none⟩:=by
      rcases hptr with e | e
      ·exact e
      ·omega
     subst hpe
     obtain ⟨w',r1,r2⟩:=HR.puts P hl news (o+len * ti.size) (o+len * ti.size) 0 H _ w xs h hp hnews rfl
     refine ⟨_,m,w',run_append_in (w:=w) t tx ty el ex ti ht htx hi _ len c xb (k+1) xc xs hfx (by omega) (w':=w') ?_,m.le_refl,?_,r2⟩
     ·rw [addr_add,show o+l.sh+len * ti.size=o+len * ti.size+l.sh from by omega]
      exact r1
     ·simp only [VR]
      exact ⟨l,_,c,hl,rfl,by omega,hez,hcsz,.inl rfl,hlb⟩
    split at e
    ·next H1 hg =>
     cases e
     have hlsz:len * ti.size≤c * ti.size:=Nat.mul_le_mul_right _ hlc
     obtain ⟨arr,g1,g2,g3,g4⟩:=h.grow hg hl hnews (by omega)
     have hsz1:xs.length=(k+1) * ti.size:=hnl
     by_cases hroom:len+(k+1)≤c
     ·have hfit:o+l.sh+len * ti.size+xs.length≤l.size:=by
       have:(len+(k+1)) * ti.size≤c * ti.size:=Nat.mul_le_mul_right _ hroom
       rw [Nat.add_mul] at this
       omega
      have hp:p=⟨l.blk,o+l.sh,none⟩:=by
       rcases hptr with e | e
       ·exact e
       ·omega
      subst hp
      refine ⟨_,_,_,run_append_in (w:=w) t tx ty el ex ti ht htx hi _ len c xb (k+1) xc xs hfx hroom ?_,h.le_ext _,?_,g3 hfit⟩
      ·rw [addr_add]
       have:=run_storeCells_at P l.blk (o+l.sh+len * ti.size) el xs 0 arr w g1 (by omega) (allOne_ok hone hnews)
       simpa using this
      ·simp only [VR]
       exact ⟨_,_,c,Env.ext_self _ _ _,rfl,hroom,hez,by simp only [];omega,.inl (by simp),hroom⟩
     ·have hofc:∀ w':World,w'.heap=w.heap→(Builtin.firstCells ti.size len (.slice (some p) len c)).run P w'=.ok ((arr.toList.drop (o+l.sh)).take (len * ti.size)).toArray w':=by
       intro w' hw
       rcases hptr with rfl | e0
       case inr =>
        have h0:len=0:=by omega
        subst h0
        rw [firstCells_zero]
        simp
       refine run_firstCells_some w' ti.size len _ len c _ ?_ fun j v hj=>?_
       ·simp
        omega
       ·rw [addr_add]
        have:=rowCells g1 (o+l.sh) (len * ti.size) j hj
        simpa [World.cell?,hw] using this
      obtain ⟨cap,rest,hc1,hc2,hrun⟩:=run_append_new (P:=P) (w:=w) t tx ty el ex ti z ht htx hi hz _ len c _ hofc xb (k+1) xc xs hfx (by omega) hb2 hb1
      refine ⟨_,_,_,hrun,h.le_ext _,?_,g4 rest⟩
      simp only [VR]
      refine ⟨_,_,cap,Env.ext_self _ _ _,rfl,hc1,hez,?_,.inl rfl,hc1⟩
      simp only [hc2,hb4,hsz1]
      have:(len+(k+1)) * ti.size+(cap - (len+(k+1))) * ti.size=cap * ti.size:=by rw [← Nat.add_mul];congr 1;omega
      rw [Nat.add_mul] at this
      omega
    ·cases e
 ·cases e
end
end Go.Am
