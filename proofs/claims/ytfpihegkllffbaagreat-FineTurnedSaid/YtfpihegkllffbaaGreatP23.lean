/- Parts of the proof: E36, E37, E39, E40, Pv74, E41 -/
import Derived.Test.YtfpihegkllffbaaGreatP22
import Derived.Test.YtfpihegkllffbaaGreatP20
import Derived.Test.YtfpihegkllffbaaGreatP19
set_option linter.unusedVariables false
set_option linter.unusedSimpArgs false
set_option linter.unusedSectionVars false
namespace Go.Pv
open Go.Proofs Go.Am
set_option maxRecDepth 10000
set_option maxHeartbeats 2000000
section
variable (f:Fns) {t1 t2:Tail} (h1:t1.isOwn=false) (h2:t2.isOwn=false)
include h1 h2
end
end Go.Pv
namespace Go.Pv
open Go.Proofs Go.Am
set_option maxRecDepth 10000
end Go.Pv
namespace Go.Pv
open Go.Proofs Go.Am
set_option maxRecDepth 10000
set_option maxHeartbeats 2000000
theorem mod_step {w n:Nat} (h:w < n):(w+1) % n=if w+1=n then 0 else w+1:=by
  split
  · next h1=>rw [h1,Nat.mod_self]
  · exact Nat.mod_eq_of_lt (by omega)
theorem hs_nn {l:HL} {a c d:Option PBlk} {m:Nat}:∀ x b,hget ((0,a)::(m,none)::l) x=some b→hget ((0,a)::(m,none)::(m,c)::(m,d)::l) x=some b:=by
  intro x b h
  by_cases hx:x=0
  · subst hx;rw [hget_hd] at h ⊢;exact h
  · rw [hget_tl hx] at h ⊢
    by_cases hm:x=m
    · subst hm;rw [hget_hd] at h;cases h
    · rw [hget_tl hm] at h
      rw [hget_tl hm,hget_tl hm,hget_tl hm];exact h
theorem some_bit {x k:Nat} (h0:0 < x) (hx:x < 2 ^ k):∃ r,r < k∧x.testBit r=true:=by
  rcases Nat.exists_testBit_of_ne_zero (show x≠0 by omega) with ⟨r,hr⟩
  refine ⟨r,?_,hr⟩
  rcases Nat.lt_or_ge r k with h | h
  · exact h
  · have := Nat.testBit_lt_two_pow (Nat.lt_of_lt_of_le hx (Nat.pow_le_pow_right (by decide) h))
    rw [this] at hr;cases hr
section
variable (f:Fns) {t1 t2:Tail} (h1:t1.isOwn=false) (h2:t2.isOwn=false)
include h1 h2
theorem f27 (hf : f.ok) (tb : Tail) (xs : List Nat) (hx : ∀ x ∈ xs, x < 65536) (n0 : Nat) (hn0 : 0 < n0) : PCall P0 27 [f.v t1 t2, .fn (.func 63) [] [.ptr 0 0, .fp (.sl tb (xs.map U16))]] (HE n0 [(0, some (.cells [I 0]))]) (fun v h' => ∃ T : List Deed, f.Tru T ∧ v = .tup [.sl .no ((T.map Deed.ri).map I), .sl .no ((T.map Deed.ho).map I)] ∧ ∃ n', h' = HE n' []) fun _ _ => False := by
  have hl5:=hf.li
  have hn:=hf.n
  obtain ⟨kn,hkn,hk6⟩:∃ k:Nat,f.n=(k:Int)∧(0 < k∧k≤6):=⟨f.n.toNat,by have:=hf.n;omega,by have:=hf.n;omega⟩
  have hd1:=fun (n:Nat) (hn:0 < n∧n≤1000) (k:Nat) (hk:k≤100000) (m:Nat) (l:HL) hl=>f63 tb xs hx 0 n hn k hk m l hl
  have hli:=hf.lv
  have hof:=fun {i:Nat} (h:i < f.li.length)=>Fns.ofc_at (f:=f) h
  have htr:∀ T:List Deed,T.length=f.li.length→(∀ i (h:i < T.length),T[i].nu=i∧f.alw T[i])→f.Tru T:=fun T a b=>⟨a,b⟩
  have hal:∀ d:Deed,d.nu < f.li.length→(f.ofc d.nu).kd=d.kd→(0≤d.ri∧d.ri < f.n∧(f.ofc d.nu).ri.toNat.testBit d.ri.toNat=true)→(f.ofc d.nu).lo≤d.ho→d.ho≤(f.ofc d.nu).hi→f.alw d:=fun d a b c e g=>⟨a,b,c,e,g⟩
  have hbit:∀ x w:Nat,x >>> w &&& 1=if x.testBit w=true then 1 else 0:=fun x m=>by
    rw [Nat.testBit,Nat.and_comm 1 (x >>> m),Nat.and_one_is_mod]
    rcases Nat.mod_two_eq_zero_or_one (x >>> m) with h | h<;>simp [h]
  generalize f.Tru=TR at *
  generalize f.alw=AL at *
  generalize f.ofc=OF at *
  obtain ⟨ru,n,li⟩:=f
  simp only at hkn
  subst hkn
  simp only at hl5 hn hli hof htr hal
  refine PCall.ofH (C:=c27) (cx_ok _ _ _) rfl (fn:=Tryz.f27) (by kernel_rfl) (c:=_) rfl rfl rfl (fun hok=>?_)
  refine rS (rN (cx_ok _ _ _) (rO rfl (Ope.boxF rfl rfl ?_)))
  refine rO rfl (oA rfl ?_)
  refine rO rfl (oA rfl ?_)
  refine rI (rS (rS (rN (cx_ok _ _ _) (rO rfl (Ope.fld rfl rfl ?_)))))
  refine rO rfl (oL rfl rfl ?_)
  refine rO rfl (Ope.len (m:=li.length) rfl (by simp) ?_)
  refine rO rfl (oM rfl ?_)
  refine rI (Run.block ?_)
  refine Run.loop (α:=Nat×Nat×Option Nat×Option Nat×List Deed×HL) (fun t=>[(1,.fn (.func 63) [] [.ptr 0 0,.fp (.sl tb (xs.map U16))]),(2,.fp ((⟨ru,(kn:Int),li⟩:Fns).v t1 t2)),(4,.sl (tlU t.2.2.1) ((t.2.2.2.2.1.map Deed.ri).map I)),(5,.sl (tlU t.2.2.2.1) ((t.2.2.2.2.1.map Deed.ho).map I)),(10,.sl t2 (li.map Ofc.v)),(11,I li.length),(12,I t.1)]) (fun t=>HE t.2.1 t.2.2.2.2.2) (fun t=>t.1≤li.length∧0 < t.2.1∧hget t.2.2.2.2.2 0=some (.cells [I ((2 * t.1:Nat):Int)])∧(∀ j,t.2.2.1=some j→0 < j∧j < t.2.1∧hget t.2.2.2.2.2 j=some .own∧0 < t.1)∧(∀ j,t.2.2.2.1=some j→0 < j∧j < t.2.1∧hget t.2.2.2.2.2 j=some .own∧0 < t.1∧t.2.2.1≠some j)∧t.2.2.2.2.1.length=t.1∧∀ i (h:i < t.2.2.2.2.1.length),t.2.2.2.2.1[i].nu=i∧AL t.2.2.2.2.1[i]) (fun t=>li.length - t.1) (0,n0,none,none,[],[(0,some (.cells [I 0]))]) ⟨rfl,rfl,rfl,rfl,rfl,rfl,rfl,trivial⟩ rfl ⟨Nat.zero_le _,hn0,rfl,(fun j h=>by cases h),(fun j h=>by cases h),rfl,(fun i h=>absurd h (Nat.not_lt_zero _))⟩ (fun t ht=>?_)
  obtain ⟨i,m,o1,o2,T,l⟩:=t
  obtain ⟨hi,hm0,hl0,hO1,hO2,hTl,hTa⟩:=ht
  simp only at hi hm0 hl0 hO1 hO2 hTl hTa
  show Run _ _ _ _ [(1,.fn (.func 63) [] [.ptr 0 0,.fp (.sl tb (xs.map U16))]),(2,.fp ((⟨ru,(kn:Int),li⟩:Fns).v t1 t2)),(4,.sl (tlU o1) ((T.map Deed.ri).map I)),(5,.sl (tlU o2) ((T.map Deed.ho).map I)),(10,.sl t2 (li.map Ofc.v)),(11,I li.length),(12,I i)] [] (HE m l)
  refine rS (rN (cx_ok _ _ _) (rO rfl (Ope.lt rfl rfl ?_)))
  refine rI (rS (rC rfl (fun hc=>?_) fun hc=>?_))
  ·refine Run.skip (rS (Run.block (rS ?_)))
   have hlt:i < li.length:=by omega
   have hkd:=hli li[i] (List.getElem_mem hlt)
   have hofi:=hof hlt
   have hp64:(2:Int) ^ ((kn:Nat):Int).toNat=((2 ^ kn:Nat):Int):=by rw [Int.toNat_natCast];push_cast;rfl
   rw [hp64] at hkd
   have hpk:2 ^ kn≤2 ^ 6:=Nat.pow_le_pow_right (by decide) hk6.2
   obtain ⟨R,hR,hR0,hRk⟩:∃ R:Nat,li[i].ri=(R:Int)∧0 < R∧R < 2 ^ kn:=⟨li[i].ri.toNat,by omega,by omega,by omega⟩
   obtain ⟨rs,hrs,hrb⟩:=some_bit hR0 hRk
   have hbR:=hbit R
   have hshR:∀ w,R >>> w≤R:=fun w=>Nat.shiftRight_le _ _
   obtain ⟨w3,hw3,hw4⟩:∃ w:Nat,li[i].hi - li[i].lo+1=(w:Int)∧(0 < w∧w≤1000):=⟨(li[i].hi - li[i].lo+1).toNat,by omega,by omega⟩
   refine rN (cx_ok _ _ _) (rO rfl (Ope.idxM (m:=i) (f:=Ofc.v) rfl rfl rfl hlt (fun _=>rfl) ?_))
   refine rO rfl (oL rfl rfl ?_)
   refine rO rfl (Ope.newL rfl ?_)
   refine Reg.op0 (Ope.store rfl rfl hget_hd rfl rfl rfl ?_)
   refine rI (rS (Run.frz (d:=7) true rfl hget_hd rfl ?_))
   refine rN (cx_ok _ _ _) (rO rfl (oM rfl ?_))
   refine rO rfl (Ope.fld rfl rfl ?_)
   refine rO rfl (oL rfl rfl ?_)
   refine rO rfl (Ope.call rfl rfl rfl ((hd1 kn (by omega) (2 * i) (by omega) _ _ ((hget_tl (by omega)).trans ((hget_tl (by omega)).trans ((hget_tl (by omega)).trans hl0)))).mono (fun v h' q=>?_) fun _ _ q=>q.elim))
   obtain ⟨d1,hdl1,rfl,rfl⟩:=q
   refine rO rfl (oA rfl ?_)
   refine rI (rS (Run.block (Run.wideS (m:=m+1) (l':=(0,some (.cells [I ((2 * i+1:Nat):Int)]))::(m,none)::l) (Nat.le_refl _) hs_nn ?_)))
   refine Run.loop (α:=Nat) (fun w=>[(1,.fn (.func 63) [] [.ptr 0 0,.fp (.sl tb (xs.map U16))]),(2,.fp ((⟨ru,(kn:Int),li⟩:Fns).v t1 t2)),(4,.sl (tlU o1) ((T.map Deed.ri).map I)),(5,.sl (tlU o2) ((T.map Deed.ho).map I)),(10,.sl t2 (li.map Ofc.v)),(11,I li.length),(12,I i),(7,.fp li[i].v),(8,N w)]) (fun w=>HE (m+1) ((0,some (.cells [I ((2 * i+1:Nat):Int)]))::(m,none)::l)) (fun w=>w < kn) (fun w=>if w≤rs then rs - w else kn - w+rs) d1 ⟨rfl,rfl,rfl,rfl,rfl,rfl,rfl,rfl,rfl,trivial⟩ rfl hdl1 (fun w hw=>?_)
   refine rS (rS (rN (cx_ok _ _ _) (rO rfl (Ope.fld rfl rfl ?_))))
   refine rO rfl (oL rfl rfl ?_)
   refine rO rfl (oM rfl ?_)
   refine rO rfl (Ope.shrN (p:=R) (m:=w) rfl rfl hR rfl (by show w≤64;omega) ?_)
   refine rO rfl (Ope.andN (p:=R >>> w) (q:=1) rfl rfl rfl rfl (by have:=hshR w;show R >>> w < 2 ^ 64;omega) (by decide) ?_)
   rw [hbR w]
   refine rO rfl (Ope.eq rfl rfl ?_)
   refine rI (rC rfl (fun hc=>?_) fun hc=>?_)
   ·refine Run.skip (Run.block ?_)
    have hwn:w≠rs:=fun e=>by
      subst e
      rw [if_pos hrb] at hc
      exact absurd hc (by decide)
    have hms:=mod_step hw
    refine rN (cx_ok _ _ _) (rO rfl (oM rfl ?_))
    refine rO rfl (Ope.add rfl rfl (by omega) ?_)
    refine rO rfl (Ope.fld rfl rfl ?_)
    refine rO rfl (oL rfl rfl ?_)
    refine rO rfl (Ope.remN (p:=w+1) (q:=kn) rfl rfl (by omega) rfl hk6.1 ?_)
    refine rO rfl (oA rfl ?_)
    exact rI (Run.bend (Run.lend ⟨(w+1) % kn,by rw [hms];split<;>(repeat' split)<;>omega,Nat.mod_lt _ hk6.1,⟨rfl,rfl,rfl,rfl,rfl,rfl,rfl,rfl,rfl,trivial⟩,rfl,rfl⟩))
   ·refine Run.exit (Jmp.code (Jmp.round (Jmp.here ?_)))
    have hwb:R.testBit w=true:=by
      cases hb:R.testBit w with
      | true=>rfl
      | false=>rw [hb] at hc;exact absurd rfl hc
    have hA1:∀ j,o1=some j→(T.map Deed.ri).map I≠[]∧hget ((0,some (.cells [I ((2 * i+1:Nat):Int)]))::(m,none)::l) j=some .own:=fun j hj=>⟨fun e=>by have hz:T.length=0:=(by have:=congrArg List.length e;simpa using this);have:=(hO1 j hj).2.2.2;omega,(hget_tl (by have:=(hO1 j hj).1;omega)).trans ((hget_tl (by have:=(hO1 j hj).2.1;omega)).trans (hO1 j hj).2.2.1)⟩
    have hk1:∀ j,o1=some j→j≠0:=fun j hj=>by have:=(hO1 j hj).1;omega
    have hA2:∀ k'':Int,∀ j,o2=some j→(T.map Deed.ho).map I≠[]∧hget ((0,some (.cells [I k'']))::(m+1,some .own)::killU o1 ((0,some (.cells [I ((2 * i+1:Nat):Int)]))::(m,none)::l)) j=some .own:=fun k'' j hj=>⟨fun e=>by have hz:T.length=0:=(by have:=congrArg List.length e;simpa using this);have:=(hO2 j hj).2.2.2.1;omega,(hget_tl (by have:=(hO2 j hj).1;omega)).trans ((hget_tl (by have:=(hO2 j hj).2.1;omega)).trans ((killU_at (fun q hq e=>(hO2 j hj).2.2.2.2 (by rw [hq,e]))).trans ((hget_tl (by have:=(hO2 j hj).1;omega)).trans ((hget_tl (by have:=(hO2 j hj).2.1;omega)).trans (hO2 j hj).2.2.1))))⟩
    refine Run.draw (cx_ok _ _ _) [(0,true),(1,true),(2,true),(4,true),(5,true),(6,true),(7,false),(8,true),(9,true),(10,true),(11,false),(12,true),(13,true),(14,false),(15,true),(16,true),(3,true),(17,true),(18,true),(19,true),(20,true),(21,true),(22,true)] (by kernel_rfl) (dO rfl rfl rfl .sure (oM rfl ?_))
    refine dO rfl rfl rfl .sure (oM rfl ?_)
    refine dO rfl rfl rfl .sure (Ope.bsl rfl rfl rfl rfl ?_)
    refine dO rfl rfl rfl .sure (oM rfl ?_)
    refine dO rfl rfl rfl .sure (Ope.fld rfl rfl ?_)
    refine dO rfl rfl rfl .sure (Ope.fld rfl rfl ?_)
    refine dO rfl rfl rfl (.load rfl) (oL rfl rfl ?_)
    refine dO rfl rfl rfl .sure (oM rfl ?_)
    refine dO rfl rfl rfl .sure (Ope.fld rfl rfl ?_)
    refine dO rfl rfl rfl .sure (Ope.fld rfl rfl ?_)
    refine dO rfl rfl rfl (.load rfl) (oL rfl rfl ?_)
    refine dO rfl rfl rfl .sure (Ope.fld rfl rfl ?_)
    refine dO rfl rfl rfl .sure (Ope.fld rfl rfl ?_)
    refine dO rfl rfl rfl (.load rfl) (oL rfl rfl ?_)
    refine dO rfl rfl rfl .sure (Ope.sub rfl rfl (by omega) ?_)
    refine dO rfl rfl rfl .sure (Ope.add rfl rfl (by omega) ?_)
    rw [hw3]
    refine dO rfl rfl rfl .sure (Ope.apV (o':=o1) (vs:=(T.map Deed.ri).map I) (ws:=[N w]) rfl rfl (by simp) hA1 (by simp only [List.length_map,List.length_singleton];omega) (by simp only [List.length_map,List.length_singleton];omega) (by decide) (by intro v hv;obtain ⟨_,_,rfl⟩:=List.mem_map.1 hv;rfl) (by intro v hv;simp only [List.mem_singleton] at hv;subst hv;exact ⟨rfl,rfl⟩) ?_)
    refine dO rfl rfl rfl .sure (Ope.call rfl rfl rfl ((hd1 w3 hw4 (2 * i+1) (by omega) _ _ ((hget_tl (by omega)).trans ((killU_at hk1).trans hget_hd))).mono (fun v h' q=>?_) fun _ _ q=>q.elim))
    obtain ⟨d2,hdl2,rfl,rfl⟩:=q
    refine dO rfl rfl rfl .sure (Ope.add rfl rfl (by omega) ?_)
    refine dO rfl rfl rfl .sure (Ope.bsl rfl rfl rfl rfl ?_)
    refine dO rfl rfl rfl .sure (Ope.apV (o':=o2) (vs:=(T.map Deed.ho).map I) (ws:=[I (li[i].lo+d2)]) rfl rfl (by simp) (hA2 _) (by simp only [List.length_map,List.length_singleton];omega) (by simp only [List.length_map,List.length_singleton];omega) (by decide) (by intro v hv;obtain ⟨_,_,rfl⟩:=List.mem_map.1 hv;rfl) (by intro v hv;simp only [List.mem_singleton] at hv;subst hv;exact ⟨rfl,rfl⟩) ?_)
    refine dO rfl rfl rfl .sure (oA rfl ?_)
    refine dO rfl rfl rfl .sure (oA rfl ?_)
    refine Dra.nil (Run.bend (rN (cx_ok _ _ _) (rO rfl (Ope.add rfl rfl (by omega) ?_))))
    refine rO rfl (oM rfl ?_)
    refine rI ?_
    exact Run.lend ⟨(i + 1, m + 3, some (m + 1), some (m + 2), T ++ [⟨li[i].kd, i, (w : Int), li[i].lo + d2⟩], _), by show li.length - (i + 1) < li.length - i; omega, ⟨by show i + 1 ≤ li.length; omega, by show 0 < m + 3; omega, (hget_tl (by omega)).trans ((killU_at (fun j hj => by have := (hO2 j hj).1; omega)).trans (hget_hd.trans (by show some (PBlk.cells [I ((2 * i + 1 + 1 : Nat) : Int)]) = some (PBlk.cells [I ((2 * (i + 1) : Nat) : Int)]); rw [show 2 * i + 1 + 1 = 2 * (i + 1) by omega]))), fun j hj => by cases hj; exact ⟨by show 0 < m + 1; omega, by show m + 1 < m + 3; omega, (hget_tl (by omega)).trans ((killU_at (fun j hj => by have := (hO2 j hj).2.1; omega)).trans ((hget_tl (by omega)).trans hget_hd)), by show 0 < i + 1; omega⟩, fun j hj => by cases hj; exact ⟨by show 0 < m + 2; omega, by show m + 2 < m + 3; omega, hget_hd, by show 0 < i + 1; omega, by intro h; have := Option.some.inj h; omega⟩, by show (T ++ [_]).length = i + 1; rw [List.length_append, hTl]; rfl, fun k hk => by
      by_cases hki:k < T.length
      · have e : (T ++ [(⟨li[i].kd, i, (w : Int), li[i].lo + d2⟩ : Deed)])[k]'hk = T[k] := List.getElem_append_left hki
        show (T++[(⟨li[i].kd,i,(w:Int),li[i].lo+d2⟩:Deed)])[k].nu=k∧AL (T++[(⟨li[i].kd,i,(w:Int),li[i].lo+d2⟩:Deed)])[k]
        rw [e];exact hTa k hki
      · have hk' : k < (T ++ [(⟨li[i].kd, i, (w : Int), li[i].lo + d2⟩ : Deed)]).length := hk
        rw [List.length_append,List.length_singleton] at hk'
        have hke:k=T.length:=by omega
        subst hke
        show (T++[(⟨li[i].kd,i,(w:Int),li[i].lo+d2⟩:Deed)])[T.length].nu=T.length∧AL (T++[(⟨li[i].kd,i,(w:Int),li[i].lo+d2⟩:Deed)])[T.length]
        rw [List.getElem_concat_length rfl]
        refine ⟨hTl.symm,hal _ hlt ?_ ?_ ?_ ?_⟩
        · show (OF i).kd=_;rw [hofi]
        · show 0 ≤ (w : Int) ∧ (w : Int) < (kn : Int) ∧ (OF i).ri.toNat.testBit (w : Int).toNat = true
          rw [hofi,hR];exact ⟨by omega,by omega,hwb⟩
        · show (OF i).lo≤_;rw [hofi];show li[i].lo≤li[i].lo+(d2:Int);omega
        · show _≤(OF i).hi;rw [hofi];show li[i].lo+(d2:Int)≤li[i].hi;omega⟩,⟨rfl,rfl,congrArg (fun l=>some (PV.sl (.own (m+1)) l)) (by rw [List.map_append,List.map_append];rfl),congrArg (fun l=>some (PV.sl (.own (m+2)) l)) (by rw [List.map_append,List.map_append];rfl),rfl,rfl,rfl,trivial⟩,rfl,rfl⟩
  ·refine Run.exit (Jmp.code (Jmp.round (Jmp.here (rS ?_))))
   obtain rfl:i=li.length:=by omega
   refine Run.weakT (d:=4) rfl ?_
   refine Run.weakT (d:=5) rfl ?_
   refine rN (cx_ok _ _ _) (rO rfl (oM rfl ?_))
   refine rO rfl (oM rfl ?_)
   refine rO rfl (oA rfl ?_)
   refine rO rfl (oA rfl ?_)
   exact rI (Run.ret (finH_ret (.tmp rfl (.tmp rfl .nil)) (Nat.le_refl _) (l':=[]) (fun x b h=>by cases h) ⟨T,htr T hTl hTa,rfl,_,rfl⟩))
end
end Go.Pv
namespace Go.Pv
open Go.Proofs Go.Am
set_option maxRecDepth 10000
theorem dl_tru {f:Fns} {T:List Deed} (h:f.Tru T):f.dl (T.map Deed.ri) (T.map Deed.ho) f.li.length=T:=by
  refine List.ext_getElem (by rw [dl_len,h.ln]) fun i a b=>?_
  obtain ⟨e1,e2⟩:=h.at' i b
  have e0:(f.dl (T.map Deed.ri) (T.map Deed.ho) f.li.length)[i]=⟨(f.ofc i).kd,i,(T.map Deed.ri).getD i 0,(T.map Deed.ho).getD i 0⟩:=by simp [Fns.dl]
  have hk:(f.ofc i).kd=T[i].kd:=by rw [← e2.2.1,e1]
  have hr:(T.map Deed.ri).getD i 0=T[i].ri:=by simp [List.getD,b]
  have hh:(T.map Deed.ho).getD i 0=T[i].ho:=by simp [List.getD,b]
  rw [e0,hk,hr,hh]
  have e3:∀ d:Deed,d.nu=i→(⟨d.kd,i,d.ri,d.ho⟩:Deed)=d:=fun d hd=>by subst hd;rfl
  exact e3 _ e1
theorem kn_tru {f:Fns} (hf:f.ok) {T:List Deed} (h:f.Tru T):f.knB (T.map Deed.ri) (T.map Deed.ho)=true:=by
  refine kn_ok (by rw [List.length_map,h.ln]) (by rw [List.length_map,h.ln]) (fun x hx=>?_) fun x hx=>?_
  · obtain ⟨d, hd, rfl⟩ := List.mem_map.1 hx
    obtain ⟨i,hi,rfl⟩:=List.getElem_of_mem hd
    have:=(h.at' i hi).2.2.2.1
    exact ⟨this.1,this.2.1⟩
  · obtain ⟨d, hd, rfl⟩ := List.mem_map.1 hx
    obtain ⟨i,hi,rfl⟩:=List.getElem_of_mem hd
    obtain ⟨e1,e2⟩:=h.at' i hi
    have hn:=e2.1
    have hl:=hf.lv (f.ofc T[i].nu) (by rw [Fns.ofc_at hn];exact List.getElem_mem hn)
    have h1:=e2.2.2.2.1
    have h2:=e2.2.2.2.2
    omega
end Go.Pv
namespace Go.Pv
open Go.Am Go.RowKit
section
variable {C:Cx} {X:EX} {e:EL} {ds:List Nat} {h:PH} {K:PV→PH→Prop} {n:Nat} {l:HL}
variable {d:Option Tmp} {type:TypeId} {pos:String} {after:Array Edge} {guard:Option (Nat×Bool)}
end
end Go.Pv
namespace Go.Pv
open Go.Proofs Go.Am
set_option maxRecDepth 10000
end Go.Pv
