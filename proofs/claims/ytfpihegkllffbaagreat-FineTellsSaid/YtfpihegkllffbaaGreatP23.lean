/- Parts of the proof: E36, E37, E39, E40, Pv74, E41 -/
import Derived.Test.YtfpihegkllffbaaGreatP22
import Derived.Test.YtfpihegkllffbaaGreatP20
import Derived.Test.YtfpihegkllffbaaGreatP19
set_option linter.unusedVariables false
set_option linter.unusedSimpArgs false
set_option linter.unusedSectionVars false
namespace Go.Pv
open Go.Proofs Go.Am
set_option maxRecDepth 10000
set_option maxHeartbeats 2000000
section
variable (f:Fns) {t1 t2:Tail} (h1:t1.isOwn=false) (h2:t2.isOwn=false)
include h1 h2
end
end Go.Pv
namespace Go.Pv
open Go.Proofs Go.Am
set_option maxRecDepth 10000
end Go.Pv
namespace Go.Pv
open Go.Proofs Go.Am
set_option maxRecDepth 10000
set_option maxHeartbeats 2000000
section
variable (f:Fns) {t1 t2:Tail} (h1:t1.isOwn=false) (h2:t2.isOwn=false)
include h1 h2
end
end Go.Pv
namespace Go.Pv
open Go.Proofs Go.Am
set_option maxRecDepth 10000
theorem dl_tru {f:Fns} {T:List Deed} (h:f.Tru T):f.dl (T.map Deed.ri) (T.map Deed.ho) f.li.length=T:=by
  refine List.ext_getElem (by rw [dl_len,h.ln]) fun i a b=>?_
  obtain ⟨e1,e2⟩:=h.at' i b
  have e0:(f.dl (T.map Deed.ri) (T.map Deed.ho) f.li.length)[i]=⟨(f.ofc i).kd,i,(T.map Deed.ri).getD i 0,(T.map Deed.ho).getD i 0⟩:=by simp [Fns.dl]
  have hk:(f.ofc i).kd=T[i].kd:=by rw [← e2.2.1,e1]
  have hr:(T.map Deed.ri).getD i 0=T[i].ri:=by simp [List.getD,b]
  have hh:(T.map Deed.ho).getD i 0=T[i].ho:=by simp [List.getD,b]
  rw [e0,hk,hr,hh]
  have e3:∀ d:Deed,d.nu=i→(⟨d.kd,i,d.ri,d.ho⟩:Deed)=d:=fun d hd=>by subst hd;rfl
  exact e3 _ e1
theorem kn_tru {f:Fns} (hf:f.ok) {T:List Deed} (h:f.Tru T):f.knB (T.map Deed.ri) (T.map Deed.ho)=true:=by
  refine kn_ok (by rw [List.length_map,h.ln]) (by rw [List.length_map,h.ln]) (fun x hx=>?_) fun x hx=>?_
  · obtain ⟨d, hd, rfl⟩ := List.mem_map.1 hx
    obtain ⟨i,hi,rfl⟩:=List.getElem_of_mem hd
    have:=(h.at' i hi).2.2.2.1
    exact ⟨this.1,this.2.1⟩
  · obtain ⟨d, hd, rfl⟩ := List.mem_map.1 hx
    obtain ⟨i,hi,rfl⟩:=List.getElem_of_mem hd
    obtain ⟨e1,e2⟩:=h.at' i hi
    have hn:=e2.1
    have hl:=hf.lv (f.ofc T[i].nu) (by rw [Fns.ofc_at hn];exact List.getElem_mem hn)
    have h1:=e2.2.2.2.1
    have h2:=e2.2.2.2.2
    omega
theorem isum_zero:∀ {l:List Deed} {g:Deed→Int},(∀ d∈l,g d=0)→isum (l.map g)=0
  | [],_,_=>rfl
  | d :: l, g, h => by
    rw [List.map_cons,isum,h d (by simp),isum_zero fun x hx=>h x (List.mem_cons_of_mem _ hx)]
    rfl
theorem isum_one:∀ {l:List Deed} {g:Deed→Int} {i:Nat} (h:i < l.length),(∀ k (hk:k < l.length),k≠i→g l[k]=0)→isum (l.map g)=g l[i]
  | [],_,_,h,_=>absurd h (Nat.not_lt_zero _)
  | d :: l, g, 0, h, hz => by
    rw [List.map_cons,isum,isum_zero fun x hx=>by
      obtain ⟨k,hk,rfl⟩:=List.getElem_of_mem hx
      exact hz (k+1) (by simp only [List.length_cons];omega) (by omega)]
    show g d+0=g d
    omega
  | d :: l, g, i + 1, h, hz => by
    have h0:=hz 0 (by simp) (by omega)
    have hi:i < l.length:=by simpa using h
    rw [List.map_cons,isum,isum_one (i:=i) hi fun k hk hne=>hz (k+1) (by simp only [List.length_cons];omega) (by omega)]
    have e1:g d=0:=h0
    rw [e1]
    show 0+g (l[i]'hi)=g (l[i]'hi)
    omega
theorem val_gC1 {f:Fns} {T:List Deed} (h:f.Tru T) {i:Nat} (hi:i < T.length):f.val (gC (1 * 2 ^ i)) T=f.cin T T[i]:=by
  unfold Fns.val
  have e:=isum_one (g:=fun d=>gC (1 * 2 ^ i) d (f.cin T d)) hi fun k hk hne=>by
    show gC _ _ _=0
    unfold gC
    rw [(h.at' k hk).1,Nat.one_mul,Nat.testBit_two_pow,if_neg (by rw [decide_eq_true_eq];omega)]
  rw [e]
  unfold gC
  rw [(h.at' i hi).1,Nat.one_mul,Nat.testBit_two_pow,if_pos (by rw [decide_eq_true_eq])]
theorem val_gCall {f:Fns} {T:List Deed} (h:f.Tru T):f.val (gC (2 ^ f.li.length - 1)) T=isum (f.exa T):=by
  unfold Fns.val Fns.exa
  congr 1
  refine List.map_congr_left fun d hd=>?_
  obtain ⟨i,hi,rfl⟩:=List.getElem_of_mem hd
  unfold gC
  rw [(h.at' i hi).1,Nat.testBit_two_pow_sub_one,if_pos (by rw [decide_eq_true_eq,← h.ln];exact hi)]
end Go.Pv
namespace Go.Pv
open Go.Am Go.RowKit
section
variable {C:Cx} {X:EX} {e:EL} {ds:List Nat} {h:PH} {K:PV→PH→Prop} {n:Nat} {l:HL}
variable {d:Option Tmp} {type:TypeId} {pos:String} {after:Array Edge} {guard:Option (Nat×Bool)}
end
end Go.Pv
namespace Go.Pv
open Go.Proofs Go.Am
set_option maxRecDepth 10000
end Go.Pv
