/- Parts of the proof: T51, T52, T53, T54, T55, T56 -/
import Derived.Test.YtabejoodkhlnaaaGreatP20
set_option linter.unusedVariables false
set_option linter.unusedSimpArgs false
namespace Go.Pv
open Go.Proofs Go.Am
set_option maxRecDepth 10000
theorem f68a (h a0 b0 c0 d0 a1 b1 c1 d1:Int) (hv:validR h a0 b0 c0 d0 a1 b1 c1 d1=false):Fn P0 68 [.agg [I h,I a0,I b0,I c0,I d0,I a1,I b1,I c1,I d1]] (.tup [.sl .ex [],I 1]):=by
  have h33:=f33 h a0 b0 c0 d0 a1 b1 c1 d1
  rw [hv] at h33
  refine PFun.of (C:=c68) (cx_ok _ _ _) rfl (fn:=Tryz.f68) (by kernel_rfl) (c:=_) rfl rfl rfl ?_
  refine Run.seq (Run.region (cx_ok _ _ _) (Reg.op rfl (Ope.boxF rfl rfl ?_)))
  refine Reg.op rfl (Ope.asg rfl ?_)
  refine Reg.op rfl (Ope.asg rfl ?_)
  refine Reg.nil (Run.seq (Run.seq (Run.region (cx_ok _ _ _) (Reg.op rfl (Ope.load rfl rfl ?_)))))
  refine Reg.op rfl (Ope.cf rfl rfl (h33) rfl ?_)
  refine Reg.op rfl (Ope.not rfl ?_)
  refine Reg.nil (Run.condX rfl (fun hc=>?_) fun hc=>?_)
  ·refine Run.seq (Run.region (cx_ok _ _ _) (Reg.op rfl (Ope.asg rfl ?_)))
   refine Reg.op rfl (Ope.asg rfl ?_)
   exact Reg.nil (Run.ret (Jmp.code (fin_ret (.tmp rfl (.tmp rfl .nil)) rfl rfl)))
  ·exact absurd hc (by decide)
theorem f68n (R:Rst) (hR:R.ok) (hv:validR R.m R.o0 R.t0 R.r0 R.f0 R.o1 R.t1 R.r1 R.f1=true) (hz:alls R R.m []=[]):Fn P0 68 [.agg R.cells] (.tup [.sl .ex [],I 4]):=by
  have h33:=f33 R.m R.o0 R.t0 R.r0 R.f0 R.o1 R.t1 R.r1 R.f1
  rw [hv] at h33
  have hm16:=hR.1
  have hp:=pow16 hm16
  have h62:=f62 R hR R.m hm16 R.m [] [] none 0 (by simp) (by simp) (okA0 0) (by simp;omega)
  rw [hz] at h62
  refine PFun.of (C:=c68) (cx_ok _ _ _) rfl (fn:=Tryz.f68) (by kernel_rfl) (c:=_) rfl rfl rfl ?_
  refine Run.seq (Run.region (cx_ok _ _ _) (Reg.op rfl (Ope.boxF rfl rfl ?_)))
  refine Reg.op rfl (Ope.asg rfl ?_)
  refine Reg.op rfl (Ope.asg rfl ?_)
  refine Reg.nil (Run.seq (Run.seq (Run.region (cx_ok _ _ _) (Reg.op rfl (Ope.load rfl rfl ?_)))))
  refine Reg.op rfl (Ope.cf rfl rfl (h33) rfl ?_)
  refine Reg.op rfl (Ope.not rfl ?_)
  refine Reg.nil (Run.condX rfl (fun hc=>?_) fun hc=>?_)
  ·exact absurd hc (by decide)
  ·refine Run.skip (Run.seq (Run.region (cx_ok _ _ _) (Reg.op rfl (Ope.load rfl rfl ?_))))
   refine Reg.op rfl (Ope.fld rfl rfl ?_)
   refine Reg.op rfl (Ope.load rfl rfl ?_)
   refine Reg.op rfl (Ope.callW (l':=ownA none) rfl rfl (fun s xs h=>weak3 rfl h) (Nat.le_refl _) (fun _ _ h=>h) h62 (fun v h' hq=>?_))
   obtain ⟨m2,o2,hok2,rfl,rfl⟩:=hq
   refine Reg.op rfl (Ope.asg rfl ?_)
   refine Reg.nil (Run.seq (Run.seq (Run.region (cx_ok _ _ _) (Reg.op rfl (Ope.mov rfl ?_)))))
   refine Reg.op rfl (Ope.len (m:=0) rfl rfl ?_)
   refine Reg.op rfl (Ope.eq rfl rfl ?_)
   refine Reg.nil (Run.condX rfl (fun hc=>?_) fun hc=>?_)
   ·refine Run.seq (Run.region (cx_ok _ _ _) (Reg.op rfl (Ope.asg rfl ?_)))
    refine Reg.op rfl (Ope.asg rfl ?_)
    exact Reg.nil (Run.ret (Jmp.code (fin_ret (.tmp rfl (.tmp rfl .nil)) rfl rfl)))
   ·exact absurd rfl hc
theorem f68c (R:Rst) (hR:R.ok) (hv:validR R.m R.o0 R.t0 R.r0 R.f0 R.o1 R.t1 R.r1 R.f1=true) (hz:alls R R.m []≠[]):Fn P0 68 [.agg R.cells] (.tup [.sl .no ((alls R R.m []).map fV),I 0]):=by
  have h33:=f33 R.m R.o0 R.t0 R.r0 R.f0 R.o1 R.t1 R.r1 R.f1
  rw [hv] at h33
  have hm16:=hR.1
  have hp:=pow16 hm16
  have h62:=f62 R hR R.m hm16 R.m [] [] none 0 (by simp) (by simp) (okA0 0) (by simp;omega)
  rw [List.nil_append] at h62
  generalize alls R R.m []=L at *
  have hl:L.length≠0:=fun h=>hz (List.length_eq_zero_iff.1 h)
  refine PFun.of (C:=c68) (cx_ok _ _ _) rfl (fn:=Tryz.f68) (by kernel_rfl) (c:=_) rfl rfl rfl ?_
  refine Run.seq (Run.region (cx_ok _ _ _) (Reg.op rfl (Ope.boxF rfl rfl ?_)))
  refine Reg.op rfl (Ope.asg rfl ?_)
  refine Reg.op rfl (Ope.asg rfl ?_)
  refine Reg.nil (Run.seq (Run.seq (Run.region (cx_ok _ _ _) (Reg.op rfl (Ope.load rfl rfl ?_)))))
  refine Reg.op rfl (Ope.cf rfl rfl (h33) rfl ?_)
  refine Reg.op rfl (Ope.not rfl ?_)
  refine Reg.nil (Run.condX rfl (fun hc=>?_) fun hc=>?_)
  ·exact absurd hc (by decide)
  ·refine Run.skip (Run.seq (Run.region (cx_ok _ _ _) (Reg.op rfl (Ope.load rfl rfl ?_))))
   refine Reg.op rfl (Ope.fld rfl rfl ?_)
   refine Reg.op rfl (Ope.load rfl rfl ?_)
   refine Reg.op rfl (Ope.callW (l':=ownA none) rfl rfl (fun s xs h=>weak3 rfl h) (Nat.le_refl _) (fun _ _ h=>h) h62 (fun v h' hq=>?_))
   obtain ⟨m2,o2,hok2,rfl,rfl⟩:=hq
   refine Reg.op rfl (Ope.asg rfl ?_)
   refine Reg.nil (Run.seq (Run.seq (Run.region (cx_ok _ _ _) (Reg.op rfl (Ope.mov rfl ?_)))))
   refine Reg.op rfl (Ope.len (m:=L.length) rfl (by simp) ?_)
   refine Reg.op rfl (Ope.eq rfl rfl ?_)
   refine Reg.nil (Run.condX rfl (fun hc=>?_) fun hc=>?_)
   ·exfalso;omega
   ·refine Run.skip (Run.seq (Run.weakT (d:=4) rfl ?_))
    refine Run.region (cx_ok _ _ _) (Reg.op rfl (Ope.mov rfl ?_))
    refine Reg.op rfl (Ope.asg rfl ?_)
    refine Reg.op rfl (Ope.asg rfl ?_)
    refine Reg.nil (Run.ret (fin_ret (.tmp rfl (.tmp rfl .nil)) (by show ((PV.sl .no (L.map fV)).bd 0 && _)=true;rw [sl_fV];rfl) ?_))
    rfl
end Go.Pv
namespace Go.Pv
open Go.Proofs Go.Am
set_option maxRecDepth 10000
theorem right_len {R:Rst} (hm16:R.m≤16):∀ y∈alls R R.m [],y.length≤16:=by
  intro y hy
  rw [((mem_all R y).1 hy).1]
  exact hm16
end Go.Pv
namespace Go.Pv
open Go.Proofs Go.Am
set_option maxRecDepth 10000
abbrev qSi (u:Int):List PV:=[.fn (.func 129) [] [.fp (I u)],.fn (.func 130) [] [],.fn (.func 131) [] []]
theorem f72i (u:Int):Fn P0 72 [I u] (.agg (qSi u)):=by
  refine PFun.of (C:=c72) (cx_ok _ _ _) rfl (fn:=Tryz.f72) (by kernel_rfl) (c:=_) rfl rfl rfl ?_
  refine Run.seq (Run.region (cx_ok _ _ _) (Reg.op rfl (Ope.boxF rfl rfl ?_)))
  refine Reg.op rfl (Ope.newL rfl ?_)
  refine Reg.nil (Run.seq (Run.region (cx_ok _ _ _) (Reg.op rfl (Ope.mkf rfl rfl ?_))))
  refine Reg.op rfl (Ope.bld rfl rfl ?_)
  refine Reg.op0 (Ope.store rfl rfl rfl rfl rfl rfl ?_)
  exact Reg.nil (Run.ret (fin_ret (.cell rfl rfl .nil) rfl rfl))
theorem f127ai (u:Int) (b:Bool) (h a0 b0 c0 d0 a1 b1 c1 d1:Int) (hv:validR h a0 b0 c0 d0 a1 b1 c1 d1=false):Pan P0 127 [.fp (.agg [I h,I a0,I b0,I c0,I d0,I a1,I b1,I c1,I d1]),.fp (B b),.fp (.agg (qSi u))] (.ifc 30 (I 1)):=by
  refine PFun.of (C:=c127) (cx_ok _ _ _) rfl (fn:=Tryz.f127) (by kernel_rfl) (c:=_) rfl rfl rfl ?_
  refine Run.seq (Run.region (cx_ok _ _ _) (Reg.op rfl (Ope.newL rfl ?_)))
  refine Reg.nil (Run.seq (Run.region (cx_ok _ _ _) (Reg.op rfl (Ope.load rfl rfl ?_))))
  refine Reg.op rfl (Ope.cp rfl rfl (f54f _ _ _ _ _ _ _ _ _ hv) rfl (fin_panic rfl rfl))
theorem f127ri (u:Int) (h a0 b0 c0 d0 a1 b1 c1 d1:Int) (hv:validR h a0 b0 c0 d0 a1 b1 c1 d1=true):Pan P0 127 [.fp (.agg [I h,I a0,I b0,I c0,I d0,I a1,I b1,I c1,I d1]),.fp (B false),.fp (.agg (qSi u))] (.ifc 30 (I 2)):=by
  refine PFun.of (C:=c127) (cx_ok _ _ _) rfl (fn:=Tryz.f127) (by kernel_rfl) (c:=_) rfl rfl rfl ?_
  refine Run.seq (Run.region (cx_ok _ _ _) (Reg.op rfl (Ope.newL rfl ?_)))
  refine Reg.nil (Run.seq (Run.region (cx_ok _ _ _) (Reg.op rfl (Ope.load rfl rfl ?_))))
  refine Reg.op rfl (Ope.cf rfl rfl (f54t _ _ _ _ _ _ _ _ _ hv) rfl ?_)
  refine Reg.op rfl (Ope.newL rfl ?_)
  refine Reg.op0 (Ope.store rfl rfl hget_hd rfl rfl rfl ?_)
  refine Reg.nil (Run.seq (Run.region (cx_ok _ _ _) (Reg.op rfl (Ope.load rfl rfl ?_))))
  refine Reg.op rfl (Ope.cp rfl rfl (f55f' _ rfl) rfl (fin_panic rfl rfl))
theorem f70i (u:Int) (c:Bool) (h a0 b0 c0 d0 a1 b1 c1 d1:Int) (a b k:Int) (hf:Fn P0 126 [.fn (.func 127) [] [.fp (.agg [I h,I a0,I b0,I c0,I d0,I a1,I b1,I c1,I d1]),.fp (B c),.fp (.agg (qSi u))]] (.tup [.agg [I a,I b],I k])) :
    Fn P0 70 [.agg [I h,I a0,I b0,I c0,I d0,I a1,I b1,I c1,I d1],B c,.agg (qSi u)] (.tup [.agg [I a,I b],I k]):=by
  refine PFun.of (C:=c70) (cx_ok _ _ _) rfl (fn:=Tryz.f70) (by kernel_rfl) (c:=_) rfl rfl rfl ?_
  refine Run.seq (Run.region (cx_ok _ _ _) (Reg.op rfl (Ope.boxF rfl rfl ?_)))
  refine Reg.op rfl (Ope.boxF rfl rfl ?_)
  refine Reg.op rfl (Ope.boxF rfl rfl ?_)
  refine Reg.op rfl (Ope.newL rfl ?_)
  refine Reg.op rfl (Ope.asg rfl ?_)
  refine Reg.nil (Run.seq (Run.region (cx_ok _ _ _) (Reg.op rfl (Ope.mkf rfl rfl ?_))))
  refine Reg.op rfl (Ope.cf rfl rfl (hf) rfl ?_)
  refine Reg.op rfl (Ope.ext rfl rfl ?_)
  refine Reg.op rfl (Ope.ext rfl rfl ?_)
  refine Reg.op0 (Ope.store rfl rfl rfl rfl rfl rfl ?_)
  refine Reg.op rfl (Ope.asg rfl ?_)
  exact Reg.nil (Run.ret (fin_ret (.cell rfl rfl (.tmp rfl .nil)) rfl rfl))
theorem f27i (u:Int) (c:Bool) (hc:(decide (u=0) || decide (u=1))=c) (h a0 b0 c0 d0 a1 b1 c1 d1:Int) (a b k:Int) (hf:Fn P0 126 [.fn (.func 127) [] [.fp (.agg [I h,I a0,I b0,I c0,I d0,I a1,I b1,I c1,I d1]),.fp (B c),.fp (.agg (qSi u))]] (.tup [.agg [I a,I b],I k])) :
    Fn P0 27 [.agg [I h,I a0,I b0,I c0,I d0,I a1,I b1,I c1,I d1],I u] (.tup [.agg [I a,I b],I k]):=by
  have h71:=f71 u
  rw [hc] at h71
  refine PFun.of (C:=c27) (cx_ok _ _ _) rfl (fn:=Tryz.f27) (by kernel_rfl) (c:=_) rfl rfl rfl ?_
  refine Run.seq (Run.region (cx_ok _ _ _) (Reg.op rfl (Ope.boxF rfl rfl ?_)))
  refine Reg.op rfl (Ope.newL rfl ?_)
  refine Reg.op rfl (Ope.asg rfl ?_)
  refine Reg.nil (Run.seq (Run.draw (cx_ok _ _ _) [(0,false),(1,true),(3,true),(2,true),(4,true),(5,true),(6,true),(7,true),(8,true),(9,true)] (by kernel_rfl) (Dra.op' rfl rfl rfl (.load rfl) (Ope.load rfl rfl ?_))))
  refine Dra.op' rfl rfl rfl .sure (Ope.mov rfl ?_)
  refine Dra.op' rfl rfl rfl .sure (Ope.mov rfl ?_)
  refine Dra.op' rfl rfl rfl .sure (Ope.cf rfl rfl (h71) rfl ?_)
  refine Dra.op' rfl rfl rfl .sure (Ope.cf rfl rfl (f72i u) rfl ?_)
  refine Dra.op' rfl rfl rfl .sure (Ope.cf rfl rfl (f70i u c _ _ _ _ _ _ _ _ _ _ _ _ hf) rfl ?_)
  refine Dra.op' rfl rfl rfl .sure (Ope.ext rfl rfl ?_)
  refine Dra.op' rfl rfl rfl .sure (Ope.ext rfl rfl ?_)
  refine Dra.op' rfl rfl rfl .sure (Ope.store rfl rfl rfl rfl rfl rfl ?_)
  refine Dra.op' rfl rfl rfl .sure (Ope.asg rfl ?_)
  exact Dra.nil (Run.ret (fin_ret (.cell rfl rfl (.tmp rfl .nil)) rfl rfl))
def hul (u:Int):List (List Int)→Int×Int→Int×Int
  | [],p=>p
  | y::L,p=>hul u L (min p.1 (cw u y),max p.2 (cw u y))
theorem hul_take (u:Int) (L:List (List Int)) (p:Int×Int) {i:Nat} {y:List Int} (hy:L[i]?=some y):hul u (L.take (i+1)) p=(min (hul u (L.take i) p).1 (cw u y),max (hul u (L.take i) p).2 (cw u y)):=by
  induction L generalizing i p with
  | nil=>simp at hy
  | cons z L ih =>
    cases i with
    | zero =>
      simp only [List.getElem?_cons_zero,Option.some.injEq] at hy
      subst hy
      rfl
    | succ i =>
      simp only [List.getElem?_cons_succ] at hy
      simp only [List.take_succ_cons,hul]
      exact ih _ hy
theorem hul_spec (u : Int) : ∀ (L : List (List Int)) (p : Int × Int), (hul u L p).1 ≤ p.1 ∧ p.2 ≤ (hul u L p).2 ∧ (∀ y ∈ L, (hul u L p).1 ≤ cw u y ∧ cw u y ≤ (hul u L p).2) ∧ ((hul u L p).1 = p.1 ∨ ∃ y ∈ L, (hul u L p).1 = cw u y) ∧ ((hul u L p).2 = p.2 ∨ ∃ y ∈ L, (hul u L p).2 = cw u y)
  | [],p=>⟨Int.le_refl _,Int.le_refl _,by simp,.inl rfl,.inl rfl⟩
  | z :: L, p => by
    obtain ⟨h1,h2,h3,h4,h5⟩:=hul_spec u L (min p.1 (cw u z),max p.2 (cw u z))
    simp only [hul]
    simp only at h1 h2 h4 h5
    generalize hq:hul u L (min p.1 (cw u z),max p.2 (cw u z))=q at *
    have w1:q.1≤p.1∧q.1≤cw u z:=by clear h4 h5 h3;omega
    have w2:p.2≤q.2∧cw u z≤q.2:=by clear h4 h5 h3;omega
    refine ⟨w1.1,w2.1,?_,?_,?_⟩
    · intro y hy
      rcases List.mem_cons.1 hy with rfl | hy
      · exact ⟨w1.2,w2.2⟩
      · exact h3 y hy
    · rcases h4 with h4 | ⟨y, hy, h4⟩
      · rcases (by clear h5 h3; omega : q.1 = p.1 ∨ q.1 = cw u z) with e | e
        · exact .inl e
        · exact .inr ⟨z,by simp,e⟩
      · exact .inr ⟨y,List.mem_cons_of_mem _ hy,h4⟩
    · rcases h5 with h5 | ⟨y, hy, h5⟩
      · rcases (by clear h4 h3; omega : q.2 = p.2 ∨ q.2 = cw u z) with e | e
        · exact .inl e
        · exact .inr ⟨z,by simp,e⟩
      · exact .inr ⟨y,List.mem_cons_of_mem _ hy,h5⟩
theorem tot_cw (u:Nat) (hu:u=0∨u=1) {y:List Int} (hy:∀ x∈y,x=0∨x=1):(fin zeroRid y).tot u=cw (u:Int) y:=by
  rcases hu with rfl | rfl
  · exact (fin_tot hy).1
  · exact (fin_tot hy).2.1
theorem hul_hrs {R:Rst} {u:Nat} (hu:u=0∨u=1) {p:Int×Int} (hp:R.hrs u=some p) {y0:List Int} (hy0:y0∈alls R R.m []):hul u (alls R R.m []) (cw u y0,cw u y0)=p:=by
  obtain ⟨⟨a,a1,a2⟩,⟨b,b1,b2⟩,hh⟩:=spn_ok u R R.m zeroRid p hp
  obtain ⟨h1,h2,h3,h4,h5⟩:=hul_spec u (alls R R.m []) (cw u y0,cw u y0)
  have key:∀ y∈alls R R.m [],p.1≤cw u y∧cw u y≤p.2:=by
    intro y hy
    have hr:=(mem_all R y).1 hy
    have:=hh y hr
    rw [tot_cw u hu hr.2.1] at this
    exact this
  rw [tot_cw u hu a1.2.1] at a2
  rw [tot_cw u hu b1.2.1] at b2
  have ka:=h3 a ((mem_all R a).2 a1)
  have kb:=h3 b ((mem_all R b).2 b1)
  have k0:=key y0 hy0
  generalize hul u (alls R R.m []) (cw u y0,cw u y0)=q at *
  have e1:q.1=p.1:=by
    rcases h4 with h4 | ⟨y,hy,h4⟩
    · simp only at h4;omega
    · have:=key y hy;omega
  have e2:q.2=p.2:=by
    rcases h5 with h5 | ⟨y,hy,h5⟩
    · simp only at h5;omega
    · have:=key y hy;omega
  exact Prod.ext e1 e2
theorem f28a (u:Int) (h a0 b0 c0 d0 a1 b1 c1 d1:Int) (hv:validR h a0 b0 c0 d0 a1 b1 c1 d1=false):Fn P0 28 [.agg [I h,I a0,I b0,I c0,I d0,I a1,I b1,I c1,I d1],I u] (.tup [.agg [I 0,I 0],I 1]):=by
  have h33:=f33 h a0 b0 c0 d0 a1 b1 c1 d1
  rw [hv] at h33
  refine PFun.of (C:=c28) (cx_ok _ _ _) rfl (fn:=Tryz.f28) (by kernel_rfl) (c:=_) rfl rfl rfl ?_
  refine Run.seq (Run.region (cx_ok _ _ _) (Reg.op rfl (Ope.boxF rfl rfl ?_)))
  refine Reg.op rfl (Ope.newL rfl ?_)
  refine Reg.op rfl (Ope.asg rfl ?_)
  refine Reg.nil (Run.seq (Run.seq (Run.region (cx_ok _ _ _) (Reg.op rfl (Ope.load rfl rfl ?_)))))
  refine Reg.op rfl (Ope.cf rfl rfl (h33) rfl ?_)
  refine Reg.op rfl (Ope.not rfl ?_)
  refine Reg.nil (Run.condX rfl (fun hc=>?_) fun hc=>?_)
  ·refine Run.seq (Run.region (cx_ok _ _ _) (Reg.op rfl (Ope.bld rfl rfl ?_)))
   refine Reg.op0 (Ope.store rfl rfl rfl rfl rfl rfl ?_)
   refine Reg.op rfl (Ope.asg rfl ?_)
   exact Reg.nil (Run.ret (Jmp.code (fin_ret (.cell rfl rfl (.tmp rfl .nil)) rfl rfl)))
  ·exact absurd hc (by decide)
theorem f28r (u:Int) (hu:¬ (0≤u∧u≤1)) (h a0 b0 c0 d0 a1 b1 c1 d1:Int) (hv:validR h a0 b0 c0 d0 a1 b1 c1 d1=true):Fn P0 28 [.agg [I h,I a0,I b0,I c0,I d0,I a1,I b1,I c1,I d1],I u] (.tup [.agg [I 0,I 0],I 2]):=by
  have h33:=f33 h a0 b0 c0 d0 a1 b1 c1 d1
  rw [hv] at h33
  have h73:=f73 u 0 1
  rw [show (decide (0≤u) && decide (u≤1))=false by simp only [Bool.and_eq_false_iff,decide_eq_false_iff_not];omega] at h73
  refine PFun.of (C:=c28) (cx_ok _ _ _) rfl (fn:=Tryz.f28) (by kernel_rfl) (c:=_) rfl rfl rfl ?_
  refine Run.seq (Run.region (cx_ok _ _ _) (Reg.op rfl (Ope.boxF rfl rfl ?_)))
  refine Reg.op rfl (Ope.newL rfl ?_)
  refine Reg.op rfl (Ope.asg rfl ?_)
  refine Reg.nil (Run.seq (Run.seq (Run.region (cx_ok _ _ _) (Reg.op rfl (Ope.load rfl rfl ?_)))))
  refine Reg.op rfl (Ope.cf rfl rfl (h33) rfl ?_)
  refine Reg.op rfl (Ope.not rfl ?_)
  refine Reg.nil (Run.condX rfl (fun hc=>?_) fun hc=>?_)
  ·exact absurd hc (by decide)
  ·refine Run.skip (Run.seq (Run.seq (Run.region (cx_ok _ _ _) (Reg.op rfl (Ope.mov rfl ?_)))))
   refine Reg.op rfl (Ope.cf rfl rfl (h73) rfl ?_)
   refine Reg.op rfl (Ope.not rfl ?_)
   refine Reg.nil (Run.condX rfl (fun hc=>?_) fun hc=>?_)
   ·refine Run.seq (Run.region (cx_ok _ _ _) (Reg.op rfl (Ope.bld rfl rfl ?_)))
    refine Reg.op0 (Ope.store rfl rfl rfl rfl rfl rfl ?_)
    refine Reg.op rfl (Ope.asg rfl ?_)
    exact Reg.nil (Run.ret (Jmp.code (fin_ret (.cell rfl rfl (.tmp rfl .nil)) rfl rfl)))
   ·exact absurd hc (by decide)
theorem f28n (u:Int) (hu:0≤u∧u≤1) (h a0 b0 c0 d0 a1 b1 c1 d1:Int) (hv:validR h a0 b0 c0 d0 a1 b1 c1 d1=true) (h68:Fn P0 68 [.agg [I h,I a0,I b0,I c0,I d0,I a1,I b1,I c1,I d1]] (.tup [.sl .ex [],I 4])):Fn P0 28 [.agg [I h,I a0,I b0,I c0,I d0,I a1,I b1,I c1,I d1],I u] (.tup [.agg [I 0,I 0],I 4]):=by
  have h33:=f33 h a0 b0 c0 d0 a1 b1 c1 d1
  rw [hv] at h33
  have h73:=f73 u 0 1
  rw [show (decide (0≤u) && decide (u≤1))=true by simp only [Bool.and_eq_true,decide_eq_true_eq];omega] at h73
  refine PFun.of (C:=c28) (cx_ok _ _ _) rfl (fn:=Tryz.f28) (by kernel_rfl) (c:=_) rfl rfl rfl ?_
  refine Run.seq (Run.region (cx_ok _ _ _) (Reg.op rfl (Ope.boxF rfl rfl ?_)))
  refine Reg.op rfl (Ope.newL rfl ?_)
  refine Reg.op rfl (Ope.asg rfl ?_)
  refine Reg.nil (Run.seq (Run.seq (Run.region (cx_ok _ _ _) (Reg.op rfl (Ope.load rfl rfl ?_)))))
  refine Reg.op rfl (Ope.cf rfl rfl (h33) rfl ?_)
  refine Reg.op rfl (Ope.not rfl ?_)
  refine Reg.nil (Run.condX rfl (fun hc=>?_) fun hc=>?_)
  ·exact absurd hc (by decide)
  ·refine Run.skip (Run.seq (Run.seq (Run.region (cx_ok _ _ _) (Reg.op rfl (Ope.mov rfl ?_)))))
   refine Reg.op rfl (Ope.cf rfl rfl (h73) rfl ?_)
   refine Reg.op rfl (Ope.not rfl ?_)
   refine Reg.nil (Run.condX rfl (fun hc=>?_) fun hc=>?_)
   ·exact absurd hc (by decide)
   ·refine Run.skip (Run.seq (Run.region (cx_ok _ _ _) (Reg.op rfl (Ope.load rfl rfl ?_))))
    refine Reg.op rfl (Ope.cf rfl rfl (h68) rfl ?_)
    refine Reg.op rfl (Ope.mov rfl ?_)
    refine Reg.op rfl (Ope.ext rfl rfl ?_)
    refine Reg.op rfl (Ope.ext rfl rfl ?_)
    refine Reg.op rfl (Ope.asg rfl ?_)
    refine Reg.op rfl (Ope.asg rfl ?_)
    refine Reg.nil (Run.seq (Run.seq (Run.region (cx_ok _ _ _) (Reg.op rfl (Ope.mov rfl ?_)))))
    refine Reg.op rfl (Ope.ne rfl rfl ?_)
    refine Reg.nil (Run.condX rfl (fun hc=>?_) fun hc=>?_)
    ·refine Run.seq (Run.region (cx_ok _ _ _) (Reg.op rfl (Ope.bld rfl rfl ?_)))
     refine Reg.op rfl (Ope.mov rfl ?_)
     refine Reg.op0 (Ope.store rfl rfl rfl rfl rfl rfl ?_)
     refine Reg.op rfl (Ope.asg rfl ?_)
     exact Reg.nil (Run.ret (Jmp.code (fin_ret (.cell rfl rfl (.tmp rfl .nil)) rfl rfl)))
    ·exact absurd hc (by decide)
theorem f28c (u:Int) (hu:0≤u∧u≤1) (h a0 b0 c0 d0 a1 b1 c1 d1:Int) (hv:validR h a0 b0 c0 d0 a1 b1 c1 d1=true) (L:List (List Int)) (h68:Fn P0 68 [.agg [I h,I a0,I b0,I c0,I d0,I a1,I b1,I c1,I d1]] (.tup [.sl .no (L.map fV),I 0])) (hl0:0 < L.length) (hLl:L.length≤65536) (hlen:∀ y∈L,y.length≤16)
    (p:Int×Int) (hp:hul u L (cw u L[0],cw u L[0])=p):Fn P0 28 [.agg [I h,I a0,I b0,I c0,I d0,I a1,I b1,I c1,I d1],I u] (.tup [.agg [I p.1,I p.2],I 0]):=by
  have h33:=f33 h a0 b0 c0 d0 a1 b1 c1 d1
  rw [hv] at h33
  have h73:=f73 u 0 1
  rw [show (decide (0≤u) && decide (u≤1))=true by simp only [Bool.and_eq_true,decide_eq_true_eq];omega] at h73
  have hbd:∀ y:List Int,PV.bds 0 [.sl .no (y.map I),I u]=true:=by
    intro y
    simp only [PV.bds,bd_sl (f:=I) (tl:=.no) rfl (fun _=>rfl) y,Bool.true_and]
    rfl
  subst hp
  refine PFun.of (C:=c28) (cx_ok _ _ _) rfl (fn:=Tryz.f28) (by kernel_rfl) (c:=_) rfl rfl rfl ?_
  refine Run.seq (Run.region (cx_ok _ _ _) (Reg.op rfl (Ope.boxF rfl rfl ?_)))
  refine Reg.op rfl (Ope.newL rfl ?_)
  refine Reg.op rfl (Ope.asg rfl ?_)
  refine Reg.nil (Run.seq (Run.seq (Run.region (cx_ok _ _ _) (Reg.op rfl (Ope.load rfl rfl ?_)))))
  refine Reg.op rfl (Ope.cf rfl rfl (h33) rfl ?_)
  refine Reg.op rfl (Ope.not rfl ?_)
  refine Reg.nil (Run.condX rfl (fun hc=>?_) fun hc=>?_)
  ·exact absurd hc (by decide)
  ·refine Run.skip (Run.seq (Run.seq (Run.region (cx_ok _ _ _) (Reg.op rfl (Ope.mov rfl ?_)))))
   refine Reg.op rfl (Ope.cf rfl rfl (h73) rfl ?_)
   refine Reg.op rfl (Ope.not rfl ?_)
   refine Reg.nil (Run.condX rfl (fun hc=>?_) fun hc=>?_)
   ·exact absurd hc (by decide)
   ·refine Run.skip (Run.seq (Run.region (cx_ok _ _ _) (Reg.op rfl (Ope.load rfl rfl ?_))))
    refine Reg.op rfl (Ope.cf rfl rfl (h68) rfl ?_)
    refine Reg.op rfl (Ope.mov rfl ?_)
    refine Reg.op rfl (Ope.ext rfl rfl ?_)
    refine Reg.op rfl (Ope.ext rfl rfl ?_)
    refine Reg.op rfl (Ope.asg rfl ?_)
    refine Reg.op rfl (Ope.asg rfl ?_)
    refine Reg.nil (Run.seq (Run.seq (Run.region (cx_ok _ _ _) (Reg.op rfl (Ope.mov rfl ?_)))))
    refine Reg.op rfl (Ope.ne rfl rfl ?_)
    refine Reg.nil (Run.condX rfl (fun hc=>?_) fun hc=>?_)
    ·exact absurd hc (by decide)
    ·refine Run.skip (Run.seq (Run.region (cx_ok _ _ _) (Reg.op rfl (Ope.mov rfl ?_))))
     refine Reg.op rfl (Ope.idxM (f:=fV) (m:=0) rfl rfl rfl hl0 (fun _=>rfl) ?_)
     refine Reg.op rfl (Ope.load rfl rfl ?_)
     refine Reg.op rfl (Ope.mov rfl ?_)
     refine Reg.op rfl (Ope.cf rfl rfl (f40 .no L[0] (hlen _ (List.getElem_mem hl0)) u) (hbd _) ?_)
     refine Reg.op rfl (Ope.asg rfl ?_)
     refine Reg.nil (Run.seq (Run.region (cx_ok _ _ _) (Reg.op rfl (Ope.mov rfl ?_))))
     refine Reg.op rfl (Ope.mov rfl ?_)
     refine Reg.op rfl (Ope.bld rfl rfl ?_)
     refine Reg.op rfl (Ope.newL rfl ?_)
     refine Reg.op0 (Ope.store rfl rfl hget_hd rfl rfl rfl ?_)
     refine Reg.nil (Run.seq (Run.seq (Run.region (cx_ok _ _ _) (Reg.op rfl (Ope.asg rfl ?_)))))
     refine Reg.nil (Run.block (Run.wide (m:=2) (l':=[(1,some (.cells [I (cw u L[0]),I (cw u L[0])])),(0,some (.cells [I 0,I 0]))]) (Nat.le_refl _) ⟨rfl,rfl,trivial⟩ ?_))
     refine Run.loop (α:=Nat×Int) (fun s=>[(1,I u),(4,.ptr 0 0),(6,.sl .no (L.map fV)),(8,I s.2),(9,.ptr 1 0),(10,I s.1)]) (fun s=>HE 2 [(1,some (.cells [I (hul u (L.take s.1) (cw u L[0],cw u L[0])).1,I (hul u (L.take s.1) (cw u L[0],cw u L[0])).2])),(0,some (.cells [I 0,I 0]))]) (fun s=>s.1≤L.length) (fun s=>L.length - s.1) (0,cw u L[0]) ⟨rfl,rfl,rfl,rfl,rfl,rfl,trivial⟩ rfl (Nat.zero_le _) (fun s hs=>?_)
     obtain ⟨i,z⟩:=s
     simp only at hs
     show Run _ _ _ _ [(1,I u),(4,.ptr 0 0),(6,.sl .no (L.map fV)),(8,I z),(9,.ptr 1 0),(10,I i)] [] (HE 2 [(1,some (.cells [I (hul u (L.take i) (cw u L[0],cw u L[0])).1,I (hul u (L.take i) (cw u L[0],cw u L[0])).2])),(0,some (.cells [I 0,I 0]))])
     refine Run.seq (Run.seq (Run.region (cx_ok _ _ _) (Reg.op rfl (Ope.mov rfl ?_))))
     refine Reg.op rfl (Ope.mov rfl ?_)
     refine Reg.op rfl (Ope.len (m:=L.length) rfl (by simp) ?_)
     refine Reg.op rfl (Ope.lt rfl rfl ?_)
     refine Reg.nil (Run.condX rfl (fun hc=>?_) fun hc=>?_)
     ·refine Run.skip (Run.seq (Run.block (Run.seq ?_)))
      have hlt:i < L.length:=by omega
      have hstep:=hul_take u L (cw u L[0],cw u L[0]) (List.getElem?_eq_getElem hlt)
      have hil:=hlen _ (List.getElem_mem hlt)
      refine Run.region (cx_ok _ _ _) (Reg.op rfl (Ope.mov rfl ?_))
      refine Reg.op rfl (Ope.mov rfl ?_)
      refine Reg.op rfl (Ope.idxM (f:=fV) (m:=i) rfl rfl rfl hlt (fun _=>rfl) ?_)
      refine Reg.op rfl (Ope.load rfl rfl ?_)
      refine Reg.op rfl (Ope.mov rfl ?_)
      refine Reg.op rfl (Ope.cf rfl rfl (f40 .no L[i] hil u) (hbd _) ?_)
      refine Reg.op rfl (Ope.asg rfl ?_)
      refine Reg.nil (Run.region (cx_ok _ _ _) (Reg.op rfl (Ope.fld rfl rfl ?_)))
      refine Reg.op rfl (Ope.load rfl rfl ?_)
      refine Reg.op rfl (Ope.mov rfl ?_)
      refine Reg.op rfl (Ope.minI rfl rfl ?_)
      refine Reg.op rfl (Ope.fld rfl rfl ?_)
      refine Reg.op rfl (Ope.load rfl rfl ?_)
      refine Reg.op rfl (Ope.mov rfl ?_)
      refine Reg.op rfl (Ope.maxI rfl rfl ?_)
      refine Reg.op rfl (Ope.bld rfl rfl ?_)
      refine Reg.op0 (Ope.store rfl rfl hget_hd rfl rfl rfl ?_)
      refine Reg.nil (Run.bend (Run.wide (m:=2) (l':=[(1,some (.cells [I (hul u (L.take (i+1)) (cw u L[0],cw u L[0])).1,I (hul u (L.take (i+1)) (cw u L[0],cw u L[0])).2])),(0,some (.cells [I 0,I 0]))]) (Nat.le_refl _) ⟨by rw [hstep];rfl,rfl,trivial⟩ ?_))
      refine Run.region (cx_ok _ _ _) (Reg.op rfl (Ope.mov rfl ?_))
      refine Reg.op rfl (Ope.add rfl rfl (by omega) ?_)
      refine Reg.op rfl (Ope.asg rfl ?_)
      exact Reg.nil (Run.lend ⟨(i+1,cw u L[i]),by simp only;omega,by simp only;omega,⟨rfl,rfl,rfl,rfl,rfl,rfl,trivial⟩,rfl,rfl⟩)
     ·refine Run.exit (Jmp.code (Jmp.round (Jmp.here (Run.seq (Run.region (cx_ok _ _ _) (Reg.op rfl (Ope.load rfl rfl ?_)))))))
      refine Reg.op0 (Ope.store rfl rfl rfl rfl rfl rfl ?_)
      refine Reg.op rfl (Ope.asg rfl ?_)
      refine Reg.nil (Run.ret (fin_ret (.cell rfl rfl (.tmp rfl .nil)) rfl ?_))
      rw [show i=L.length by omega,List.take_length]
      rfl
end Go.Pv
namespace Go.Pv
open Go.Proofs Go.Am
set_option maxRecDepth 10000
def sumH (h:Nat):List (List Int)→Int
  | []=>0
  | y::L=>y.getD h 0+sumH h L
theorem sumH_app (h:Nat):∀ (L M:List (List Int)),sumH h (L++M)=sumH h L+sumH h M
  | [],M=>by simp [sumH]
  | y :: L, M => by
    simp only [List.cons_append,sumH,sumH_app h L M]
    omega
theorem sumH_take {h:Nat} {L:List (List Int)} {i:Nat} {y:List Int} (hy:L[i]?=some y):sumH h (L.take (i+1))=sumH h (L.take i)+y.getD h 0:=by
  obtain ⟨h1,h2⟩:=List.getElem?_eq_some_iff.1 hy
  rw [List.take_succ_eq_append_getElem h1,sumH_app,h2]
  simp [sumH]
theorem sumH_const {h:Nat} {v:Int}:∀ {L:List (List Int)},(∀ y∈L,y.getD h 0=v)→sumH h L=v * L.length
  | [],_=>by simp [sumH]
  | y :: L, hL => by
    have:=sumH_const (L:=L) fun z hz=>hL z (List.mem_cons_of_mem _ hz)
    simp only [sumH,this,hL y (by simp),List.length_cons]
    rw [Int.natCast_add,Int.mul_add]
    omega
theorem sumH_bnd {h:Nat}:∀ {L:List (List Int)},(∀ y∈L,y.getD h 0=0∨y.getD h 0=1)→0≤sumH h L∧sumH h L≤L.length
  | [],_=>⟨Int.le_refl _,Int.le_refl _⟩
  | y :: L, hL => by
    have:=sumH_bnd (L:=L) fun z hz=>hL z (List.mem_cons_of_mem _ hz)
    have:=hL y (by simp)
    simp only [sumH,List.length_cons]
    omega
theorem fin_sum:∀ (b:List Int) (d:Rid),(∀ x∈b,x=0∨x=1)→(fin d b).a+(fin d b).b=d.a+d.b+b.length:=by
  intro b d hb
  obtain ⟨h1,h2⟩:=fin_ab b d hb
  have h3:=cw_sum b hb
  omega
theorem getD_app (b t:List Int) (h:Nat) (x:Int) (hb:b.length=h):(b++[x]++t).getD h 0=x:=by
  subst hb
  simp [List.getD]
theorem sum_out (R : Rst) (h : Nat) : ∀ (k : Nat) (b : List Int), (∀ x ∈ b, x = 0 ∨ x = 1) → b.length ≤ h → h < b.length + k → sumH h (alls R k b) = if rt R zeroRid b = true then ((cnt (R.out 0 h) k (fin zeroRid b) : Nat) : Int) else 0
  | 0,b,_,h1,h2=>by omega
  | k + 1, b, hb, h1, h2 => by
    have hs:=fin_sum b zeroRid hb
    have hz:(fin zeroRid b).a+(fin zeroRid b).b=b.length:=by
      rw [hs]
      show (0:Int)+0+_=_
      omega
    have hb0:∀ x∈b++[0],x=0∨x=1:=by
      intro x hx
      rcases List.mem_append.1 hx with hx | hx
      · exact hb x hx
      · simp only [List.mem_singleton] at hx
        exact .inl hx
    have hb1:∀ x∈b++[1],x=0∨x=1:=by
      intro x hx
      rcases List.mem_append.1 hx with hx | hx
      · exact hb x hx
      · simp only [List.mem_singleton] at hx
        exact .inr hx
    simp only [alls]
    split
    · next hr =>
      rw [sumH_app]
      by_cases he:b.length=h
      · have s0 : sumH h (alls R k (b ++ [0])) = 0 * (alls R k (b ++ [0])).length := sumH_const fun y hy => by
          obtain ⟨t,rfl,_⟩:=(mem_alls R k _ y).1 hy
          exact getD_app b t h 0 he
        have s1:sumH h (alls R k (b++[1]))=1 * (alls R k (b++[1])).length:=sumH_const fun y hy=>by
          obtain ⟨t,rfl,_⟩:=(mem_alls R k _ y).1 hy
          exact getD_app b t h 1 he
        rw [s0,s1,out_here0 R k (fin zeroRid b) (by omega) (by omega),alls_len R k (b++[1]),rt_snoc,hr,fin_snoc]
        simp only [Bool.true_and,decide_eq_true_eq]
        omega
      · rw [sum_out R h k (b ++ [0]) hb0 (by simp; omega) (by simp; omega), sum_out R h k (b ++ [1]) hb1 (by simp; omega) (by simp; omega), rt_snoc, rt_snoc, hr, fin_snoc, fin_snoc, out_else R (.inl rfl) k (fin zeroRid b) (by omega)]
        simp only [Bool.true_and,decide_eq_true_eq]
        split<;>split<;>simp
    · rfl
theorem sum_many {R:Rst} {h:Nat} (hh:h < R.m):sumH h (alls R R.m [])=((R.out 0 h).many:Nat):=by
  rw [sum_out R h R.m [] (by simp) (Nat.zero_le _) (by simpa using hh),out_many]
  rfl
theorem bits_step {p h:Nat}:p % 2 ^ (h+1)=p % 2 ^ h+if p.testBit h=true then 2 ^ h else 0:=by
  rw [Nat.pow_succ,Nat.mod_mul]
  have:=Nat.testBit_eq_decide_div_mod_eq (x:=p) (i:=h)
  rw [this]
  simp only [decide_eq_true_eq]
  split
  · next e=>rw [e,Nat.mul_one]
  · next e =>
    have:p / 2 ^ h % 2=0:=by omega
    rw [this,Nat.mul_zero]
theorem sub_bit {p h : Nat} (hp : p < 2 ^ 62) (hh : h < 62) (hb : p.testBit h = true) : p &&& (2 ^ 64 - 1 - 1 * 2 ^ h) = p - 2 ^ h := by
  have h2:2 ^ h < 2 ^ 62:=Nat.pow_lt_pow_right (by decide) hh
  have hdis:(p &&& (2 ^ 64 - 1 - 2 ^ h)) &&& 2 ^ h=0:=by
    apply Nat.eq_of_testBit_eq
    intro i
    rw [Nat.zero_testBit,Nat.testBit_and,Nat.testBit_and,Nat.testBit_two_pow]
    by_cases hi:h=i
    · subst hi
      rw [show 2 ^ 64 - 1 - 2 ^ h=2 ^ 64 - (2 ^ h+1) from by omega,Nat.testBit_two_pow_sub_succ (by omega),Nat.testBit_two_pow]
      simp
    · simp [hi]
  have hor:(p &&& (2 ^ 64 - 1 - 2 ^ h)) ||| 2 ^ h=p:=by
    apply Nat.eq_of_testBit_eq
    intro i
    rw [Nat.testBit_or,Nat.testBit_and,Nat.testBit_two_pow]
    by_cases hi:h=i
    · subst hi
      simp [hb]
    · rw [show 2 ^ 64 - 1 - 2 ^ h = 2 ^ 64 - (2 ^ h + 1) from by omega, Nat.testBit_two_pow_sub_succ (by omega), Nat.testBit_two_pow]
      by_cases hi64:i < 64
      · simp [hi,hi64]
      · have : p.testBit i = false := Nat.testBit_lt_two_pow (Nat.lt_of_lt_of_le hp (Nat.pow_le_pow_right (by decide) (by omega)))
        simp [this,hi]
  have hb':=BitVec.add_eq_or_of_and_eq_zero (w:=64) (BitVec.ofNat 64 (p &&& (2 ^ 64 - 1 - 2 ^ h))) (BitVec.ofNat 64 (2 ^ h)) (by
    apply BitVec.eq_of_toNat_eq
    have e1:(p &&& (2 ^ 64 - 1 - 2 ^ h)) < 2 ^ 64:=Nat.lt_of_le_of_lt Nat.and_le_left (by omega)
    have e2:2 ^ h < 2 ^ 64:=by omega
    simp only [BitVec.toNat_and,BitVec.toNat_ofNat,Nat.mod_eq_of_lt e1,Nat.mod_eq_of_lt e2,hdis])
  have e1:(p &&& (2 ^ 64 - 1 - 2 ^ h))≤p:=Nat.and_le_left
  have hn:=congrArg BitVec.toNat hb'
  simp only [BitVec.toNat_add,BitVec.toNat_or,BitVec.toNat_ofNat] at hn
  rw [Nat.mod_eq_of_lt (a:=p &&& (2 ^ 64 - 1 - 2 ^ h)) (by omega),Nat.mod_eq_of_lt (a:=2 ^ h) (by omega),hor,Nat.mod_eq_of_lt (by omega)] at hn
  rw [Nat.one_mul]
  omega
end Go.Pv
namespace Go.Pv
open Go.Proofs Go.Am
set_option maxRecDepth 10000
theorem f30e (h a0 b0 c0 d0 a1 b1 c1 d1:Int) (k:Int) (hk:k≠0) (h68:Fn P0 68 [.agg [I h,I a0,I b0,I c0,I d0,I a1,I b1,I c1,I d1]] (.tup [.sl .ex [],I k])):Fn P0 30 [.agg [I h,I a0,I b0,I c0,I d0,I a1,I b1,I c1,I d1]] (.tup [I 0,I 0,I k]):=by
  refine PFun.of (C:=c30) (cx_ok _ _ _) rfl (fn:=Tryz.f30) (by kernel_rfl) (c:=_) rfl rfl rfl ?_
  refine Run.seq (Run.region (cx_ok _ _ _) (Reg.op rfl (Ope.boxF rfl rfl ?_)))
  refine Reg.op rfl (Ope.asg rfl ?_)
  refine Reg.op rfl (Ope.asg rfl ?_)
  refine Reg.op rfl (Ope.asg rfl ?_)
  refine Reg.nil (Run.seq (Run.region (cx_ok _ _ _) (Reg.op rfl (Ope.load rfl rfl ?_))))
  refine Reg.op rfl (Ope.cf rfl rfl (h68) rfl ?_)
  refine Reg.op rfl (Ope.mov rfl ?_)
  refine Reg.op rfl (Ope.ext rfl rfl ?_)
  refine Reg.op rfl (Ope.ext rfl rfl ?_)
  refine Reg.op rfl (Ope.asg rfl ?_)
  refine Reg.op rfl (Ope.asg rfl ?_)
  refine Reg.nil (Run.seq (Run.seq (Run.region (cx_ok _ _ _) (Reg.op rfl (Ope.mov rfl ?_)))))
  refine Reg.op rfl (Ope.ne rfl rfl ?_)
  refine Reg.nil (Run.condX rfl (fun hc=>?_) fun hc=>?_)
  ·refine Run.seq (Run.region (cx_ok _ _ _) (Reg.op rfl (Ope.mov rfl ?_)))
   refine Reg.op rfl (Ope.asg rfl ?_)
   refine Reg.op rfl (Ope.asg rfl ?_)
   refine Reg.op rfl (Ope.asg rfl ?_)
   exact Reg.nil (Run.ret (Jmp.code (fin_ret (.tmp rfl (.tmp rfl (.tmp rfl .nil))) rfl rfl)))
  ·exact absurd hk hc
structure HourIs (L:List (List Int)) (p q:Nat) (h:Nat):Prop where
  z:(sumH h L=0)↔p.testBit h=true
  o:(sumH h L=L.length)↔q.testBit h=true
theorem f30c (R:Rst) (hR:R.ok) (L:List (List Int)) (h68:Fn P0 68 [.agg R.cells] (.tup [.sl .no (L.map fV),I 0])) (hLl:L.length≤65536) (hlen:∀ y∈L,y.length=R.m) (h01:∀ y∈L,∀ x∈y,x=0∨x=1) (p q:Nat) (hp:p < 2 ^ R.m) (hq:q < 2 ^ R.m) (hH:∀ h,h < R.m→HourIs L p q h) :
    Fn P0 30 [.agg R.cells] (.tup [I p,I q,I 0]):=by
  have hm16:=hR.1
  have hpw:∀ i,i≤R.m→2 ^ i≤65536:=fun i hi=>pow16 (by omega)
  have hb01:∀ h,h < R.m→∀ y∈L,y.getD h 0=0∨y.getD h 0=1:=by
    intro h hh y hy
    have hl:h < y.length:=by rw [hlen y hy];exact hh
    rw [show y.getD h 0=y[h] by simp [List.getD,hl]]
    exact h01 y hy _ (List.getElem_mem hl)
  have htk:∀ h,h < R.m→∀ j,0≤sumH h (L.take j)∧sumH h (L.take j)≤j:=by
    intro h hh j
    have:=sumH_bnd (h:=h) (L:=L.take j) fun y hy=>hb01 h hh y (List.mem_of_mem_take hy)
    rw [List.length_take] at this
    omega
  refine PFun.of (C:=c30) (cx_ok _ _ _) rfl (fn:=Tryz.f30) (by kernel_rfl) (c:=_) rfl rfl rfl ?_
  refine Run.seq (Run.region (cx_ok _ _ _) (Reg.op rfl (Ope.boxF rfl rfl ?_)))
  refine Reg.op rfl (Ope.asg rfl ?_)
  refine Reg.op rfl (Ope.asg rfl ?_)
  refine Reg.op rfl (Ope.asg rfl ?_)
  refine Reg.nil (Run.seq (Run.region (cx_ok _ _ _) (Reg.op rfl (Ope.load rfl rfl ?_))))
  refine Reg.op rfl (Ope.cf rfl rfl (h68) rfl ?_)
  refine Reg.op rfl (Ope.mov rfl ?_)
  refine Reg.op rfl (Ope.ext rfl rfl ?_)
  refine Reg.op rfl (Ope.ext rfl rfl ?_)
  refine Reg.op rfl (Ope.asg rfl ?_)
  refine Reg.op rfl (Ope.asg rfl ?_)
  refine Reg.nil (Run.seq (Run.seq (Run.region (cx_ok _ _ _) (Reg.op rfl (Ope.mov rfl ?_)))))
  refine Reg.op rfl (Ope.ne rfl rfl ?_)
  refine Reg.nil (Run.condX rfl (fun hc=>?_) fun hc=>?_)
  ·exact absurd rfl hc
  ·refine Run.skip (Run.seq (Run.region (cx_ok _ _ _) (Reg.op rfl (Ope.asg rfl ?_))))
   refine Reg.op rfl (Ope.asg rfl ?_)
   refine Reg.nil (Run.seq (Run.seq (Run.region (cx_ok _ _ _) (Reg.op rfl (Ope.asg rfl ?_)))))
   refine Reg.nil (Run.block (Run.loop (α:=Nat×Int×Nat) (fun s=>[(1,.fp (.agg R.cells)),(5,.sl .no (L.map fV)),(7,I (p % 2 ^ s.1:Nat)),(8,I (q % 2 ^ s.1:Nat)),(9,I s.1)]) (fun s=>HE 0 []) (fun s=>s.1≤R.m) (fun s=>R.m - s.1) (0,0,0) ⟨rfl,rfl,by show some (I _)=some (I _);rw [Nat.pow_zero,Nat.mod_one];rfl,by show some (I _)=some (I _);rw [Nat.pow_zero,Nat.mod_one];rfl,rfl,trivial⟩ rfl (Nat.zero_le _) (fun s hs=>?_)))
   obtain ⟨h,z1,z2⟩:=s
   simp only at hs
   show Run _ _ _ _ [(1,.fp (.agg R.cells)),(5,.sl .no (L.map fV)),(7,I (p % 2 ^ h:Nat)),(8,I (q % 2 ^ h:Nat)),(9,I h)] [] (HE 0 [])
   have hmp:p % 2 ^ h≤p:=Nat.mod_le _ _
   have hmq:q % 2 ^ h≤q:=Nat.mod_le _ _
   have hpm:=hpw R.m (Nat.le_refl _)
   have hph:=hpw h hs
   refine Run.seq (Run.seq (Run.region (cx_ok _ _ _) (Reg.op rfl (Ope.mov rfl ?_))))
   refine Reg.op rfl (Ope.fld rfl rfl ?_)
   refine Reg.op rfl (Ope.load rfl rfl ?_)
   refine Reg.op rfl (Ope.lt rfl rfl ?_)
   refine Reg.nil (Run.condX rfl (fun hc=>?_) fun hc=>?_)
   ·refine Run.skip (Run.seq (Run.block (Run.seq (Run.region (cx_ok _ _ _) (Reg.op rfl (Ope.asg rfl ?_))))))
    refine Reg.nil (Run.seq (Run.seq (Run.region (cx_ok _ _ _) (Reg.op rfl (Ope.asg rfl ?_)))))
    refine Reg.nil (Run.block ?_)
    have hh:h < R.m:=by omega
    have hHh:=hH h hh
    have hp1:=bits_step (p:=p) (h:=h)
    have hq1:=bits_step (p:=q) (h:=h)
    refine Run.loop (α:=Nat) (fun j=>[(1,.fp (.agg R.cells)),(5,.sl .no (L.map fV)),(7,I (p % 2 ^ h:Nat)),(8,I (q % 2 ^ h:Nat)),(9,I h),(10,I (sumH h (L.take j))),(11,I j)]) (fun _=>HE 0 []) (fun j=>j≤L.length) (fun j=>L.length - j) 0 ⟨rfl,rfl,rfl,rfl,rfl,rfl,rfl,trivial⟩ rfl (Nat.zero_le _) (fun j hj=>?_)
    have hsj:=htk h hh j
    refine Run.seq (Run.seq (Run.region (cx_ok _ _ _) (Reg.op rfl (Ope.mov rfl ?_))))
    refine Reg.op rfl (Ope.mov rfl ?_)
    refine Reg.op rfl (Ope.len (m:=L.length) rfl (by simp) ?_)
    refine Reg.op rfl (Ope.lt rfl rfl ?_)
    refine Reg.nil (Run.condX rfl (fun hc=>?_) fun hc=>?_)
    ·refine Run.skip (Run.seq (Run.block ?_))
     have hlt:j < L.length:=by omega
     have hly:h < (L[j]).length:=by rw [hlen _ (List.getElem_mem hlt)];exact hh
     have hgy:(L[j]).getD h 0=(L[j])[h]:=by simp [List.getD,hly]
     have hb:=hb01 h hh _ (List.getElem_mem hlt)
     have hst:=sumH_take (h:=h) (List.getElem?_eq_getElem hlt)
     rw [hgy] at hb hst
     refine Run.region (cx_ok _ _ _) (Reg.op rfl (Ope.mov rfl ?_))
     refine Reg.op rfl (Ope.mov rfl ?_)
     refine Reg.op rfl (Ope.mov rfl ?_)
     refine Reg.op rfl (Ope.idxM (f:=fV) (m:=j) rfl rfl rfl hlt (fun _=>rfl) ?_)
     refine Reg.op rfl (Ope.load rfl rfl ?_)
     refine Reg.op rfl (Ope.mov rfl ?_)
     refine Reg.op rfl (Ope.idxM (f:=I) (m:=h) rfl rfl rfl hly (fun _=>rfl) ?_)
     refine Reg.op rfl (Ope.load rfl rfl ?_)
     refine Reg.op rfl (Ope.add rfl rfl (by omega) ?_)
     refine Reg.op rfl (Ope.asg rfl ?_)
     refine Reg.nil (Run.bend (Run.region (cx_ok _ _ _) (Reg.op rfl (Ope.mov rfl ?_))))
     refine Reg.op rfl (Ope.add rfl rfl (by omega) ?_)
     refine Reg.op rfl (Ope.asg rfl ?_)
     exact Reg.nil (Run.lend ⟨j+1,by omega,by omega,⟨rfl,rfl,rfl,rfl,rfl,by show some (I _)=some (I _);rw [hst],rfl,trivial⟩,rfl,rfl⟩)
    ·refine Run.exit (Jmp.code (Jmp.round (Jmp.here (Run.seq (Run.seq ?_)))))
     have hfull:L.take j=L:=List.take_of_length_le (by omega)
     rw [hfull]
     have hz:=hHh.z
     have ho:=hHh.o
     have hz1:sumH h L=0→p % 2 ^ (h+1)=p % 2 ^ h+2 ^ h:=fun e=>by rw [hp1,if_pos (hz.1 e)]
     have hz0:¬ sumH h L=0→p % 2 ^ (h+1)=p % 2 ^ h:=fun e=>by rw [hp1,if_neg (fun b=>e (hz.2 b)),Nat.add_zero]
     have ho1:sumH h L=L.length→q % 2 ^ (h+1)=q % 2 ^ h+2 ^ h:=fun e=>by rw [hq1,if_pos (ho.1 e)]
     have ho0:¬ sumH h L=L.length→q % 2 ^ (h+1)=q % 2 ^ h:=fun e=>by rw [hq1,if_neg (fun b=>e (ho.2 b)),Nat.add_zero]
     refine Run.region (cx_ok _ _ _) (Reg.op rfl (Ope.mov rfl ?_))
     refine Reg.op rfl (Ope.eq rfl rfl ?_)
     refine Reg.nil (Run.condX rfl (fun hc=>?_) fun hc=>?_)
     ·refine Run.region (cx_ok _ _ _) (Reg.op rfl (Ope.mov rfl ?_))
      refine Reg.op rfl (Ope.mov rfl ?_)
      refine Reg.op rfl (Ope.cf rfl rfl (f76 h (by omega)) rfl ?_)
      refine Reg.op rfl (Ope.add rfl rfl (by omega) ?_)
      refine Reg.op rfl (Ope.asg rfl ?_)
      refine Reg.nil (Run.seq (Run.region (cx_ok _ _ _) (Reg.op rfl (Ope.mov rfl ?_))))
      refine Reg.op rfl (Ope.mov rfl ?_)
      refine Reg.op rfl (Ope.len (m:=L.length) rfl (by simp) ?_)
      refine Reg.op rfl (Ope.eq rfl rfl ?_)
      refine Reg.nil (Run.condX rfl (fun hc=>?_) fun hc=>?_)
      ·refine Run.region (cx_ok _ _ _) (Reg.op rfl (Ope.mov rfl ?_))
       refine Reg.op rfl (Ope.mov rfl ?_)
       refine Reg.op rfl (Ope.cf rfl rfl (f76 h (by omega)) rfl ?_)
       refine Reg.op rfl (Ope.add rfl rfl (by omega) ?_)
       refine Reg.op rfl (Ope.asg rfl ?_)
       refine Reg.nil (Run.bend (Run.region (cx_ok _ _ _) (Reg.op rfl (Ope.mov rfl ?_))))
       refine Reg.op rfl (Ope.add rfl rfl (by omega) ?_)
       refine Reg.op rfl (Ope.asg rfl ?_)
       refine Reg.nil (Run.lend ⟨(h+1,0,0),by simp only;omega,by simp only;omega,⟨rfl,rfl,?_,?_,rfl,trivial⟩,rfl,rfl⟩)
       · show some (I _) = some (I ((p % 2 ^ (h + 1) : Nat) : Int))
         first
           | exact congrArg (fun z:Nat=>some (I (z:Int))) (hz1 (by assumption)).symm
           | exact congrArg (fun z:Nat=>some (I (z:Int))) (hz0 (by assumption)).symm
       · show some (I _) = some (I ((q % 2 ^ (h + 1) : Nat) : Int))
         first
           | exact congrArg (fun z:Nat=>some (I (z:Int))) (ho1 (by assumption)).symm
           | exact congrArg (fun z:Nat=>some (I (z:Int))) (ho0 (by assumption)).symm
      ·refine Run.skip (Run.bend (Run.region (cx_ok _ _ _) (Reg.op rfl (Ope.mov rfl ?_))))
       refine Reg.op rfl (Ope.add rfl rfl (by omega) ?_)
       refine Reg.op rfl (Ope.asg rfl ?_)
       refine Reg.nil (Run.lend ⟨(h+1,0,0),by simp only;omega,by simp only;omega,⟨rfl,rfl,?_,?_,rfl,trivial⟩,rfl,rfl⟩)
       · show some (I _) = some (I ((p % 2 ^ (h + 1) : Nat) : Int))
         first
           | exact congrArg (fun z:Nat=>some (I (z:Int))) (hz1 (by assumption)).symm
           | exact congrArg (fun z:Nat=>some (I (z:Int))) (hz0 (by assumption)).symm
       · show some (I _) = some (I ((q % 2 ^ (h + 1) : Nat) : Int))
         first
           | exact congrArg (fun z:Nat=>some (I (z:Int))) (ho1 (by assumption)).symm
           | exact congrArg (fun z:Nat=>some (I (z:Int))) (ho0 (by assumption)).symm
     ·refine Run.skip (Run.seq (Run.region (cx_ok _ _ _) (Reg.op rfl (Ope.mov rfl ?_))))
      refine Reg.op rfl (Ope.mov rfl ?_)
      refine Reg.op rfl (Ope.len (m:=L.length) rfl (by simp) ?_)
      refine Reg.op rfl (Ope.eq rfl rfl ?_)
      refine Reg.nil (Run.condX rfl (fun hc=>?_) fun hc=>?_)
      ·refine Run.region (cx_ok _ _ _) (Reg.op rfl (Ope.mov rfl ?_))
       refine Reg.op rfl (Ope.mov rfl ?_)
       refine Reg.op rfl (Ope.cf rfl rfl (f76 h (by omega)) rfl ?_)
       refine Reg.op rfl (Ope.add rfl rfl (by omega) ?_)
       refine Reg.op rfl (Ope.asg rfl ?_)
       refine Reg.nil (Run.bend (Run.region (cx_ok _ _ _) (Reg.op rfl (Ope.mov rfl ?_))))
       refine Reg.op rfl (Ope.add rfl rfl (by omega) ?_)
       refine Reg.op rfl (Ope.asg rfl ?_)
       refine Reg.nil (Run.lend ⟨(h+1,0,0),by simp only;omega,by simp only;omega,⟨rfl,rfl,?_,?_,rfl,trivial⟩,rfl,rfl⟩)
       · show some (I _) = some (I ((p % 2 ^ (h + 1) : Nat) : Int))
         first
           | exact congrArg (fun z:Nat=>some (I (z:Int))) (hz1 (by assumption)).symm
           | exact congrArg (fun z:Nat=>some (I (z:Int))) (hz0 (by assumption)).symm
       · show some (I _) = some (I ((q % 2 ^ (h + 1) : Nat) : Int))
         first
           | exact congrArg (fun z:Nat=>some (I (z:Int))) (ho1 (by assumption)).symm
           | exact congrArg (fun z:Nat=>some (I (z:Int))) (ho0 (by assumption)).symm
      ·refine Run.skip (Run.bend (Run.region (cx_ok _ _ _) (Reg.op rfl (Ope.mov rfl ?_))))
       refine Reg.op rfl (Ope.add rfl rfl (by omega) ?_)
       refine Reg.op rfl (Ope.asg rfl ?_)
       refine Reg.nil (Run.lend ⟨(h+1,0,0),by simp only;omega,by simp only;omega,⟨rfl,rfl,?_,?_,rfl,trivial⟩,rfl,rfl⟩)
       · show some (I _) = some (I ((p % 2 ^ (h + 1) : Nat) : Int))
         first
           | exact congrArg (fun z:Nat=>some (I (z:Int))) (hz1 (by assumption)).symm
           | exact congrArg (fun z:Nat=>some (I (z:Int))) (hz0 (by assumption)).symm
       · show some (I _) = some (I ((q % 2 ^ (h + 1) : Nat) : Int))
         first
           | exact congrArg (fun z:Nat=>some (I (z:Int))) (ho1 (by assumption)).symm
           | exact congrArg (fun z:Nat=>some (I (z:Int))) (ho0 (by assumption)).symm
   ·refine Run.exit (Jmp.code (Jmp.round (Jmp.here (Run.seq (Run.region (cx_ok _ _ _) (Reg.op rfl (Ope.mov rfl ?_)))))))
    refine Reg.op rfl (Ope.mov rfl ?_)
    refine Reg.op rfl (Ope.asg rfl ?_)
    refine Reg.op rfl (Ope.asg rfl ?_)
    refine Reg.op rfl (Ope.asg rfl ?_)
    refine Reg.nil (Run.ret (fin_ret (.tmp rfl (.tmp rfl (.tmp rfl .nil))) rfl ?_))
    have he:h=R.m:=by omega
    rw [he,Nat.mod_eq_of_lt hp,Nat.mod_eq_of_lt hq]
    rfl
theorem f68e (R:Rst) (hR:R.ok) (hv:validR R.m R.o0 R.t0 R.r0 R.f0 R.o1 R.t1 R.r1 R.f1=true):∃ (v:PV) (e:Int),Fn P0 68 [.agg R.cells] (.tup [v,I e])∧((e=0∧0 < R.many)∨(e=4∧R.many=0)):=by
  have hm:=alls_many R R.m
  by_cases hz:alls R R.m []=[]
  · refine ⟨_, _, f68n R hR hv hz, .inr ⟨rfl, ?_⟩⟩
    rw [hz] at hm
    exact hm.symm
  · refine ⟨_, _, f68c R hR hv hz, .inl ⟨rfl, ?_⟩⟩
    have:(alls R R.m []).length≠0:=fun h=>hz (List.length_eq_zero_iff.1 h)
    have:R.many=(alls R R.m []).length:=hm.symm
    omega
theorem bit_cells {R:Rst} (hR:R.ok) (hv:validR R.m R.o0 R.t0 R.r0 R.f0 R.o1 R.t1 R.r1 R.f1=true) {k:Nat} (hk:k < R.m) :
    (R.bit 0 k=true→(R.without 0 k).cells=[I R.m,I ((R.o0:Int) - ((2 ^ k:Nat):Int)),I R.t0,I R.r0,I R.f0,I R.o1,I R.t1,I R.r1,I R.f1]∧2 ^ k≤R.o0) ∧
      (R.bit 1 k=true→(R.without 1 k).cells=[I R.m,I R.o0,I R.t0,I R.r0,I R.f0,I ((R.o1:Int) - ((2 ^ k:Nat):Int)),I R.t1,I R.r1,I R.f1]∧2 ^ k≤R.o1):=by
  have hm16:=hR.1
  constructor
  · intro hb
    have hb':R.o0.testBit k=true:=(bit_iff _ _).1 (of_decide_eq_true hb)
    have hs:=sub_bit hR.2.1 (by omega) hb'
    have hge:2 ^ k≤R.o0:=Nat.ge_two_pow_of_testBit hb'
    refine ⟨?_,hge⟩
    show [I R.m,I ((R.o0 &&& (2 ^ 64 - 1 - 1 * 2 ^ k):Nat):Int),I R.t0,I R.r0,I R.f0,I R.o1,I R.t1,I R.r1,I R.f1]=_
    rw [hs,Int.ofNat_sub hge]
  · intro hb
    have hb':R.o1.testBit k=true:=(bit_iff _ _).1 (of_decide_eq_true hb)
    have hs:=sub_bit hR.2.2.1 (by omega) hb'
    have hge:2 ^ k≤R.o1:=Nat.ge_two_pow_of_testBit hb'
    refine ⟨?_,hge⟩
    show [I R.m,I R.o0,I R.t0,I R.r0,I R.f0,I ((R.o1 &&& (2 ^ 64 - 1 - 1 * 2 ^ k):Nat):Int),I R.t1,I R.r1,I R.f1]=_
    rw [hs,Int.ofNat_sub hge]
theorem f32a (h a0 b0 c0 d0 a1 b1 c1 d1:Int) (v:PV) (k:Int) (hk:k≠0) (hk4:k≠4) (h68:Fn P0 68 [.agg [I h,I a0,I b0,I c0,I d0,I a1,I b1,I c1,I d1]] (.tup [v,I k])):Fn P0 32 [.agg [I h,I a0,I b0,I c0,I d0,I a1,I b1,I c1,I d1]] (.tup [I 0,I 0,I k]):=by
  refine PFun.of (C:=c32) (cx_ok _ _ _) rfl (fn:=Tryz.f32) (by kernel_rfl) (c:=_) rfl rfl rfl ?_
  refine Run.seq (Run.region (cx_ok _ _ _) (Reg.op rfl (Ope.boxF rfl rfl ?_)))
  refine Reg.op rfl (Ope.asg rfl ?_)
  refine Reg.op rfl (Ope.asg rfl ?_)
  refine Reg.op rfl (Ope.asg rfl ?_)
  refine Reg.nil (Run.seq (Run.region (cx_ok _ _ _) (Reg.op rfl (Ope.load rfl rfl ?_))))
  refine Reg.op rfl (Ope.cf rfl rfl (h68) rfl ?_)
  refine Reg.op rfl (Ope.mov rfl ?_)
  refine Reg.op rfl (Ope.ext rfl rfl ?_)
  refine Reg.op rfl (Ope.ext rfl rfl ?_)
  refine Reg.op rfl (Ope.asg rfl ?_)
  refine Reg.op rfl (Ope.asg rfl ?_)
  refine Reg.nil (Run.seq (Run.seq (Run.region (cx_ok _ _ _) (Reg.op rfl (Ope.mov rfl ?_)))))
  refine Reg.op rfl (Ope.eq rfl rfl ?_)
  refine Reg.nil (Run.condX rfl (fun hc=>?_) fun hc=>?_)
  ·exact absurd hc hk
  ·refine Run.skip (Run.seq (Run.seq (Run.region (cx_ok _ _ _) (Reg.op rfl (Ope.mov rfl ?_)))))
   refine Reg.op rfl (Ope.ne rfl rfl ?_)
   refine Reg.nil (Run.condX rfl (fun hc=>?_) fun hc=>?_)
   ·refine Run.seq (Run.region (cx_ok _ _ _) (Reg.op rfl (Ope.mov rfl ?_)))
    refine Reg.op rfl (Ope.asg rfl ?_)
    refine Reg.op rfl (Ope.asg rfl ?_)
    refine Reg.op rfl (Ope.asg rfl ?_)
    exact Reg.nil (Run.ret (Jmp.code (fin_ret (.tmp rfl (.tmp rfl (.tmp rfl .nil))) rfl rfl)))
   ·exact absurd hk4 hc
theorem f32o (h a0 b0 c0 d0 a1 b1 c1 d1:Int) (v:PV) (k:Int) (hk:k=0) (h68:Fn P0 68 [.agg [I h,I a0,I b0,I c0,I d0,I a1,I b1,I c1,I d1]] (.tup [v,I k])):Fn P0 32 [.agg [I h,I a0,I b0,I c0,I d0,I a1,I b1,I c1,I d1]] (.tup [I 0,I 0,I 11]):=by
  refine PFun.of (C:=c32) (cx_ok _ _ _) rfl (fn:=Tryz.f32) (by kernel_rfl) (c:=_) rfl rfl rfl ?_
  refine Run.seq (Run.region (cx_ok _ _ _) (Reg.op rfl (Ope.boxF rfl rfl ?_)))
  refine Reg.op rfl (Ope.asg rfl ?_)
  refine Reg.op rfl (Ope.asg rfl ?_)
  refine Reg.op rfl (Ope.asg rfl ?_)
  refine Reg.nil (Run.seq (Run.region (cx_ok _ _ _) (Reg.op rfl (Ope.load rfl rfl ?_))))
  refine Reg.op rfl (Ope.cf rfl rfl (h68) rfl ?_)
  refine Reg.op rfl (Ope.mov rfl ?_)
  refine Reg.op rfl (Ope.ext rfl rfl ?_)
  refine Reg.op rfl (Ope.ext rfl rfl ?_)
  refine Reg.op rfl (Ope.asg rfl ?_)
  refine Reg.op rfl (Ope.asg rfl ?_)
  refine Reg.nil (Run.seq (Run.seq (Run.region (cx_ok _ _ _) (Reg.op rfl (Ope.mov rfl ?_)))))
  refine Reg.op rfl (Ope.eq rfl rfl ?_)
  refine Reg.nil (Run.condX rfl (fun hc=>?_) fun hc=>?_)
  ·refine Run.seq (Run.region (cx_ok _ _ _) (Reg.op rfl (Ope.asg rfl ?_)))
   refine Reg.op rfl (Ope.asg rfl ?_)
   refine Reg.op rfl (Ope.asg rfl ?_)
   exact Reg.nil (Run.ret (Jmp.code (fin_ret (.tmp rfl (.tmp rfl (.tmp rfl .nil))) rfl rfl)))
  ·exact absurd hk hc
theorem f32c (R : Rst) (hR : R.ok) (hv : validR R.m R.o0 R.t0 R.r0 R.f0 R.o1 R.t1 R.r1 R.f1 = true) (v : PV) (h68 : Fn P0 68 [.agg R.cells] (.tup [v, I 4])) (a b e : Int)
    (H:((∀ i k,i < 2→k < R.m→R.bit i k=true→(R.without i k).many=0)∧a=0∧b=0∧e=4)∨∃ x h:Nat,(x < 2∧h < R.m∧R.bit x h=true∧0 < (R.without x h).many∧∀ i k,i < 2→k < R.m→R.bit i k=true→(i < x∨(i=x∧k < h))→(R.without i k).many=0)∧a=x∧b=h∧e=0) :
    Fn P0 32 [.agg R.cells] (.tup [I a,I b,I e]):=by
  have hm16:=hR.1
  have ho0:=hR.2.1
  have ho1:=hR.2.2.1
  have hw:∀ i k,k < R.m→∃ (v:PV) (e:Int),Fn P0 68 [.agg (R.without i k).cells] (.tup [v,I e])∧((e=0∧0 < (R.without i k).many)∨(e=4∧(R.without i k).many=0)):=fun i k hk=>f68e _ (without_ok hR i k) (without_valid hv i k)
  refine PFun.of (C:=c32) (cx_ok _ _ _) rfl (fn:=Tryz.f32) (by kernel_rfl) (c:=_) rfl rfl rfl ?_
  refine Run.seq (Run.region (cx_ok _ _ _) (Reg.op rfl (Ope.boxF rfl rfl ?_)))
  refine Reg.op rfl (Ope.asg rfl ?_)
  refine Reg.op rfl (Ope.asg rfl ?_)
  refine Reg.op rfl (Ope.asg rfl ?_)
  refine Reg.nil (Run.seq (Run.region (cx_ok _ _ _) (Reg.op rfl (Ope.load rfl rfl ?_))))
  refine Reg.op rfl (Ope.cf rfl rfl (h68) rfl ?_)
  refine Reg.op rfl (Ope.mov rfl ?_)
  refine Reg.op rfl (Ope.ext rfl rfl ?_)
  refine Reg.op rfl (Ope.ext rfl rfl ?_)
  refine Reg.op rfl (Ope.asg rfl ?_)
  refine Reg.op rfl (Ope.asg rfl ?_)
  refine Reg.nil (Run.seq (Run.seq (Run.region (cx_ok _ _ _) (Reg.op rfl (Ope.mov rfl ?_)))))
  refine Reg.op rfl (Ope.eq rfl rfl ?_)
  refine Reg.nil (Run.condX rfl (fun hc=>?_) fun hc=>?_)
  ·exact absurd hc (by decide)
  ·refine Run.skip (Run.seq (Run.seq (Run.region (cx_ok _ _ _) (Reg.op rfl (Ope.mov rfl ?_)))))
   refine Reg.op rfl (Ope.ne rfl rfl ?_)
   refine Reg.nil (Run.condX rfl (fun hc=>?_) fun hc=>?_)
   ·exact absurd rfl hc
   ·refine Run.skip (Run.seq (Run.seq (Run.region (cx_ok _ _ _) (Reg.op rfl (Ope.asg rfl ?_)))))
    refine Reg.nil (Run.block (Run.loop (α:=Nat×Nat) (fun s=>[(1,.fp (.agg R.cells)),(7,I s.1)]) (fun s=>HE s.2 []) (fun s=>s.1≤2∧∀ i k,i < s.1→k < R.m→R.bit i k=true→(R.without i k).many=0) (fun s=>2 - s.1) (0,0) ⟨rfl,rfl,trivial⟩ rfl ⟨Nat.zero_le _,fun i k hi=>by omega⟩ (fun s hs=>?_)))
    obtain ⟨i,m⟩:=s
    obtain ⟨hi,hI⟩:=hs
    simp only at hi hI
    rcases (by omega:i=0∨i=1∨i=2) with rfl | rfl | rfl
    ·refine Run.seq (Run.seq (Run.region (cx_ok _ _ _) (Reg.op rfl (Ope.mov rfl ?_))))
     refine Reg.op rfl (Ope.lt rfl rfl ?_)
     refine Reg.nil (Run.condX rfl (fun hc=>?_) fun hc=>?_)
     ·refine Run.skip (Run.seq (Run.block (Run.seq (Run.region (cx_ok _ _ _) (Reg.op rfl (Ope.asg rfl ?_))))))
      refine Reg.nil (Run.block ?_)
      first
        | refine Run.loop (α:=Nat×Nat) (fun s=>[(1,.fp (.agg R.cells)),(7,I ((0:Nat):Int)),(8,I s.1)]) (fun s=>HE s.2 []) (fun s=>s.1≤R.m∧∀ k,k < s.1→R.bit 0 k=true→(R.without 0 k).many=0) (fun s=>R.m - s.1) (0,m) ⟨rfl,rfl,rfl,trivial⟩ rfl ⟨Nat.zero_le _,fun k hk=>by omega⟩ (fun s hs=>?_)
        | refine Run.loop (α:=Nat×Nat) (fun s=>[(1,.fp (.agg R.cells)),(7,I ((1:Nat):Int)),(8,I s.1)]) (fun s=>HE s.2 []) (fun s=>s.1≤R.m∧∀ k,k < s.1→R.bit 1 k=true→(R.without 1 k).many=0) (fun s=>R.m - s.1) (0,m) ⟨rfl,rfl,rfl,trivial⟩ rfl ⟨Nat.zero_le _,fun k hk=>by omega⟩ (fun s hs=>?_)
      obtain ⟨k,m⟩:=s
      obtain ⟨hk,hK⟩:=hs
      simp only at hk hK
      first
        | show Run _ _ _ _ [(1,.fp (.agg R.cells)),(7,I ((0:Nat):Int)),(8,I k)] [] (HE m [])
        | show Run _ _ _ _ [(1,.fp (.agg R.cells)),(7,I ((1:Nat):Int)),(8,I k)] [] (HE m [])
      refine Run.seq (Run.seq (Run.region (cx_ok _ _ _) (Reg.op rfl (Ope.mov rfl ?_))))
      refine Reg.op rfl (Ope.fld rfl rfl ?_)
      refine Reg.op rfl (Ope.load rfl rfl ?_)
      refine Reg.op rfl (Ope.lt rfl rfl ?_)
      refine Reg.nil (Run.condX rfl (fun hc=>?_) fun hc=>?_)
      ·refine Run.skip (Run.seq (Run.block (Run.seq (Run.seq ?_))))
       have hkm:k < R.m:=by omega
       have hpk:=pow16 (show k≤16 by omega)
       refine Run.region (cx_ok _ _ _) (Reg.op rfl (Ope.mov rfl ?_))
       refine Reg.op rfl (Ope.fld rfl rfl ?_)
       refine Reg.op rfl (Ope.idxA rfl rfl rfl rfl ?_)
       refine Reg.op rfl (Ope.fld rfl rfl ?_)
       refine Reg.op rfl (Ope.load rfl rfl ?_)
       refine Reg.op rfl (Ope.mov rfl ?_)
       first
         | refine Reg.op rfl (Ope.cf rfl rfl (f80 R.o0 k ho0 (by omega)) rfl ?_)
         | refine Reg.op rfl (Ope.cf rfl rfl (f80 R.o1 k ho1 (by omega)) rfl ?_)
       refine Reg.op rfl (Ope.not rfl ?_)
       refine Reg.nil (Run.condX rfl (fun hc=>?_) fun hc=>?_)
       ·refine Run.exit (Jmp.code (Jmp.here (Run.wideS (m:=m+1) (l':=[]) (by omega) (fun i b h=>by simp [hget] at h) ?_)))
        refine Run.region (cx_ok _ _ _) (Reg.op rfl (Ope.mov rfl ?_))
        refine Reg.op rfl (Ope.add rfl rfl (by omega) ?_)
        refine Reg.op rfl (Ope.asg rfl ?_)
        refine Reg.nil ?_
        exact Run.lend ⟨(k + 1, m + 1), by simp only; omega, ⟨by simp only; omega, fun k' hk' hb => by
          rcases Nat.lt_or_ge k' k with q | q
          · exact hK k' q hb
          · have : k' = k := by simp only at hk'; omega
            subst this
            first
              | omega
              | exact absurd (of_decide_eq_true hb) hc⟩,⟨rfl,rfl,rfl,trivial⟩,rfl,rfl⟩
       ·refine Run.skip (Run.seq ?_)
        have hbit:=decide_eq_true hc
        refine Run.region (cx_ok _ _ _) (Reg.op rfl (Ope.load rfl rfl ?_))
        refine Reg.op rfl (Ope.newL rfl ?_)
        refine Reg.op0 (Ope.store rfl rfl hget_hd rfl rfl rfl ?_)
        refine Reg.nil (Run.seq ?_)
        have hpos:0 < 2 ^ k:=Nat.pow_pos (by decide)
        obtain ⟨hcl,hge⟩:((R.without _ k).cells=_∧_):=by first | exact (bit_cells hR hv hkm).1 hbit | exact (bit_cells hR hv hkm).2 hbit
        refine Run.draw (cx_ok _ _ _) [(0,true),(1,true),(2,true),(3,true),(4,true),(5,false),(6,true),(9,true),(7,true),(8,true),(10,true),(11,true),(12,true)] (by kernel_rfl) (Dra.op' rfl rfl rfl .sure (Ope.mov rfl ?_))
        refine Dra.op' rfl rfl rfl .sure (Ope.mov rfl ?_)
        refine Dra.op' rfl rfl rfl .sure (Ope.fld rfl rfl ?_)
        refine Dra.op' rfl rfl rfl .sure (Ope.idxA rfl rfl rfl rfl ?_)
        refine Dra.op' rfl rfl rfl .sure (Ope.fld rfl rfl ?_)
        refine Dra.op' rfl rfl rfl (.load rfl) (Ope.load rfl rfl ?_)
        refine Dra.op' rfl rfl rfl .sure (Ope.mov rfl ?_)
        refine Dra.op' rfl rfl rfl .sure (Ope.fld rfl rfl ?_)
        refine Dra.op' rfl rfl rfl .sure (Ope.cf rfl rfl (f76 k (by omega)) rfl ?_)
        refine Dra.op' rfl rfl rfl .sure (Ope.sub rfl rfl (by omega) ?_)
        refine Dra.op' rfl rfl rfl .sure (Ope.idxA rfl rfl rfl rfl ?_)
        refine Dra.op' rfl rfl rfl .sure (Ope.fld rfl rfl ?_)
        refine Dra.op' rfl rfl rfl .sure (Ope.store rfl rfl hget_hd rfl rfl rfl ?_)
        refine Dra.nil (Run.seq ?_)
        first
          | (obtain ⟨v2, e2, h2, he2⟩ := hw 0 k hkm
             rw [hcl] at h2)
          | (obtain ⟨v2, e2, h2, he2⟩ := hw 1 k hkm
             rw [hcl] at h2)
        refine Run.region (cx_ok _ _ _) (Reg.op rfl (Ope.loadH rfl hget_hd rfl ?_))
        refine Reg.op rfl (Ope.cf rfl rfl (h2) rfl ?_)
        refine Reg.op rfl (Ope.mov rfl ?_)
        refine Reg.op rfl (Ope.ext rfl rfl ?_)
        refine Reg.op rfl (Ope.ext rfl rfl ?_)
        refine Reg.op rfl (Ope.asg rfl ?_)
        refine Reg.op rfl (Ope.asg rfl ?_)
        refine Reg.nil (Run.seq (Run.region (cx_ok _ _ _) (Reg.op rfl (Ope.mov rfl ?_))))
        refine Reg.op rfl (Ope.eq rfl rfl ?_)
        refine Reg.nil (Run.condX rfl (fun hc=>?_) fun hc=>?_)
        ·refine Run.seq (Run.region (cx_ok _ _ _) (Reg.op rfl (Ope.mov rfl ?_)))
         refine Reg.op rfl (Ope.mov rfl ?_)
         refine Reg.op rfl (Ope.asg rfl ?_)
         refine Reg.op rfl (Ope.asg rfl ?_)
         refine Reg.op rfl (Ope.asg rfl ?_)
         refine Reg.nil (Run.ret (Jmp.retB (Jmp.code (Jmp.round (Jmp.retB (Jmp.retB (Jmp.code (Jmp.round (Jmp.retB (Jmp.code (fin_ret (.tmp rfl (.tmp rfl (.tmp rfl .nil))) rfl ?_)))))))))))
         first
           | (have hmny : 0 < (R.without 0 k).many := by omega
              rcases H with ⟨h1,_⟩ | ⟨x,h,⟨q1,q2,q3,q4,q5⟩,rfl,rfl,rfl⟩
              · have := h1 0 k (by decide) hkm hbit
                omega
              · have hx : x = 0 := by
                  rcases (by omega:x=0∨0 < x) with e | e
                  · exact e
                  · have := q5 0 k (by decide) hkm hbit (.inl e)
                    omega
                subst hx
                have hh:h=k:=by
                  rcases Nat.lt_trichotomy h k with e | e | e
                  · have := hK h e q3
                    omega
                  · exact e
                  · have := q5 0 k (by decide) hkm hbit (.inr ⟨rfl, e⟩)
                    omega
                subst hh
                rfl)
           | (have hmny : 0 < (R.without 1 k).many := by omega
              rcases H with ⟨h1,_⟩ | ⟨x,h,⟨q1,q2,q3,q4,q5⟩,rfl,rfl,rfl⟩
              · have := h1 1 k (by decide) hkm hbit
                omega
              · have hx : x = 1 := by
                  rcases (by omega:x=0∨x=1) with e | e
                  · subst e
                    have:=hI 0 h (by decide) q2 q3
                    omega
                  · exact e
                subst hx
                have hh:h=k:=by
                  rcases Nat.lt_trichotomy h k with e | e | e
                  · have := hK h e q3
                    omega
                  · exact e
                  · have := q5 1 k (by decide) hkm hbit (.inr ⟨rfl, e⟩)
                    omega
                subst hh
                rfl)
           | (rcases H with ⟨_, rfl, rfl, rfl⟩ | ⟨x, h, ⟨q1, q2, q3, q4, q5⟩, _⟩
              · rfl
              · have := hI x h q1 q2 q3
                omega)
        ·refine Run.skip (Run.bend (Run.wideS (m:=m+1) (l':=[]) (by omega) (fun i b h=>by simp [hget] at h) ?_))
         refine Run.region (cx_ok _ _ _) (Reg.op rfl (Ope.mov rfl ?_))
         refine Reg.op rfl (Ope.add rfl rfl (by omega) ?_)
         refine Reg.op rfl (Ope.asg rfl ?_)
         refine Reg.nil ?_
         exact Run.lend ⟨(k + 1, m + 1), by simp only; omega, ⟨by simp only; omega, fun k' hk' hb => by
           rcases Nat.lt_or_ge k' k with q | q
           · exact hK k' q hb
           · have : k' = k := by simp only at hk'; omega
             subst this
             first
               | omega
               | exact absurd (of_decide_eq_true hb) hc⟩,⟨rfl,rfl,rfl,trivial⟩,rfl,rfl⟩
      ·refine Run.exit (Jmp.code (Jmp.round (Jmp.here (Run.bend (Run.region (cx_ok _ _ _) (Reg.op rfl (Ope.mov rfl ?_)))))))
       refine Reg.op rfl (Ope.add rfl rfl (by omega) ?_)
       refine Reg.op rfl (Ope.asg rfl ?_)
       refine Reg.nil ?_
       exact Run.lend ⟨(_,m),by simp only;omega,⟨by simp only;omega,fun i' k' hi' hk' hb=>by
         first
           | (obtain rfl : i' = 0 := by simp only at hi'; omega
              exact hK k' (by omega) hb)
           | (rcases (by simp only at hi'; omega : i' = 0 ∨ i' = 1) with rfl | rfl
              · exact hI 0 k' (by decide) hk' hb
              · exact hK k' (by omega) hb)⟩,⟨rfl,rfl,trivial⟩,rfl,rfl⟩
     ·(exfalso;simp only at hc;omega)
    ·refine Run.seq (Run.seq (Run.region (cx_ok _ _ _) (Reg.op rfl (Ope.mov rfl ?_))))
     refine Reg.op rfl (Ope.lt rfl rfl ?_)
     refine Reg.nil (Run.condX rfl (fun hc=>?_) fun hc=>?_)
     ·refine Run.skip (Run.seq (Run.block (Run.seq (Run.region (cx_ok _ _ _) (Reg.op rfl (Ope.asg rfl ?_))))))
      refine Reg.nil (Run.block ?_)
      first
        | refine Run.loop (α:=Nat×Nat) (fun s=>[(1,.fp (.agg R.cells)),(7,I ((0:Nat):Int)),(8,I s.1)]) (fun s=>HE s.2 []) (fun s=>s.1≤R.m∧∀ k,k < s.1→R.bit 0 k=true→(R.without 0 k).many=0) (fun s=>R.m - s.1) (0,m) ⟨rfl,rfl,rfl,trivial⟩ rfl ⟨Nat.zero_le _,fun k hk=>by omega⟩ (fun s hs=>?_)
        | refine Run.loop (α:=Nat×Nat) (fun s=>[(1,.fp (.agg R.cells)),(7,I ((1:Nat):Int)),(8,I s.1)]) (fun s=>HE s.2 []) (fun s=>s.1≤R.m∧∀ k,k < s.1→R.bit 1 k=true→(R.without 1 k).many=0) (fun s=>R.m - s.1) (0,m) ⟨rfl,rfl,rfl,trivial⟩ rfl ⟨Nat.zero_le _,fun k hk=>by omega⟩ (fun s hs=>?_)
      obtain ⟨k,m⟩:=s
      obtain ⟨hk,hK⟩:=hs
      simp only at hk hK
      first
        | show Run _ _ _ _ [(1,.fp (.agg R.cells)),(7,I ((0:Nat):Int)),(8,I k)] [] (HE m [])
        | show Run _ _ _ _ [(1,.fp (.agg R.cells)),(7,I ((1:Nat):Int)),(8,I k)] [] (HE m [])
      refine Run.seq (Run.seq (Run.region (cx_ok _ _ _) (Reg.op rfl (Ope.mov rfl ?_))))
      refine Reg.op rfl (Ope.fld rfl rfl ?_)
      refine Reg.op rfl (Ope.load rfl rfl ?_)
      refine Reg.op rfl (Ope.lt rfl rfl ?_)
      refine Reg.nil (Run.condX rfl (fun hc=>?_) fun hc=>?_)
      ·refine Run.skip (Run.seq (Run.block (Run.seq (Run.seq ?_))))
       have hkm:k < R.m:=by omega
       have hpk:=pow16 (show k≤16 by omega)
       refine Run.region (cx_ok _ _ _) (Reg.op rfl (Ope.mov rfl ?_))
       refine Reg.op rfl (Ope.fld rfl rfl ?_)
       refine Reg.op rfl (Ope.idxA rfl rfl rfl rfl ?_)
       refine Reg.op rfl (Ope.fld rfl rfl ?_)
       refine Reg.op rfl (Ope.load rfl rfl ?_)
       refine Reg.op rfl (Ope.mov rfl ?_)
       first
         | refine Reg.op rfl (Ope.cf rfl rfl (f80 R.o0 k ho0 (by omega)) rfl ?_)
         | refine Reg.op rfl (Ope.cf rfl rfl (f80 R.o1 k ho1 (by omega)) rfl ?_)
       refine Reg.op rfl (Ope.not rfl ?_)
       refine Reg.nil (Run.condX rfl (fun hc=>?_) fun hc=>?_)
       ·refine Run.exit (Jmp.code (Jmp.here (Run.wideS (m:=m+1) (l':=[]) (by omega) (fun i b h=>by simp [hget] at h) ?_)))
        refine Run.region (cx_ok _ _ _) (Reg.op rfl (Ope.mov rfl ?_))
        refine Reg.op rfl (Ope.add rfl rfl (by omega) ?_)
        refine Reg.op rfl (Ope.asg rfl ?_)
        refine Reg.nil ?_
        exact Run.lend ⟨(k + 1, m + 1), by simp only; omega, ⟨by simp only; omega, fun k' hk' hb => by
          rcases Nat.lt_or_ge k' k with q | q
          · exact hK k' q hb
          · have : k' = k := by simp only at hk'; omega
            subst this
            first
              | omega
              | exact absurd (of_decide_eq_true hb) hc⟩,⟨rfl,rfl,rfl,trivial⟩,rfl,rfl⟩
       ·refine Run.skip (Run.seq ?_)
        have hbit:=decide_eq_true hc
        refine Run.region (cx_ok _ _ _) (Reg.op rfl (Ope.load rfl rfl ?_))
        refine Reg.op rfl (Ope.newL rfl ?_)
        refine Reg.op0 (Ope.store rfl rfl hget_hd rfl rfl rfl ?_)
        refine Reg.nil (Run.seq ?_)
        have hpos:0 < 2 ^ k:=Nat.pow_pos (by decide)
        obtain ⟨hcl,hge⟩:((R.without _ k).cells=_∧_):=by first | exact (bit_cells hR hv hkm).1 hbit | exact (bit_cells hR hv hkm).2 hbit
        refine Run.draw (cx_ok _ _ _) [(0,true),(1,true),(2,true),(3,true),(4,true),(5,false),(6,true),(9,true),(7,true),(8,true),(10,true),(11,true),(12,true)] (by kernel_rfl) (Dra.op' rfl rfl rfl .sure (Ope.mov rfl ?_))
        refine Dra.op' rfl rfl rfl .sure (Ope.mov rfl ?_)
        refine Dra.op' rfl rfl rfl .sure (Ope.fld rfl rfl ?_)
        refine Dra.op' rfl rfl rfl .sure (Ope.idxA rfl rfl rfl rfl ?_)
        refine Dra.op' rfl rfl rfl .sure (Ope.fld rfl rfl ?_)
        refine Dra.op' rfl rfl rfl (.load rfl) (Ope.load rfl rfl ?_)
        refine Dra.op' rfl rfl rfl .sure (Ope.mov rfl ?_)
        refine Dra.op' rfl rfl rfl .sure (Ope.fld rfl rfl ?_)
        refine Dra.op' rfl rfl rfl .sure (Ope.cf rfl rfl (f76 k (by omega)) rfl ?_)
        refine Dra.op' rfl rfl rfl .sure (Ope.sub rfl rfl (by omega) ?_)
        refine Dra.op' rfl rfl rfl .sure (Ope.idxA rfl rfl rfl rfl ?_)
        refine Dra.op' rfl rfl rfl .sure (Ope.fld rfl rfl ?_)
        refine Dra.op' rfl rfl rfl .sure (Ope.store rfl rfl hget_hd rfl rfl rfl ?_)
        refine Dra.nil (Run.seq ?_)
        first
          | (obtain ⟨v2, e2, h2, he2⟩ := hw 0 k hkm
             rw [hcl] at h2)
          | (obtain ⟨v2, e2, h2, he2⟩ := hw 1 k hkm
             rw [hcl] at h2)
        refine Run.region (cx_ok _ _ _) (Reg.op rfl (Ope.loadH rfl hget_hd rfl ?_))
        refine Reg.op rfl (Ope.cf rfl rfl (h2) rfl ?_)
        refine Reg.op rfl (Ope.mov rfl ?_)
        refine Reg.op rfl (Ope.ext rfl rfl ?_)
        refine Reg.op rfl (Ope.ext rfl rfl ?_)
        refine Reg.op rfl (Ope.asg rfl ?_)
        refine Reg.op rfl (Ope.asg rfl ?_)
        refine Reg.nil (Run.seq (Run.region (cx_ok _ _ _) (Reg.op rfl (Ope.mov rfl ?_))))
        refine Reg.op rfl (Ope.eq rfl rfl ?_)
        refine Reg.nil (Run.condX rfl (fun hc=>?_) fun hc=>?_)
        ·refine Run.seq (Run.region (cx_ok _ _ _) (Reg.op rfl (Ope.mov rfl ?_)))
         refine Reg.op rfl (Ope.mov rfl ?_)
         refine Reg.op rfl (Ope.asg rfl ?_)
         refine Reg.op rfl (Ope.asg rfl ?_)
         refine Reg.op rfl (Ope.asg rfl ?_)
         refine Reg.nil (Run.ret (Jmp.retB (Jmp.code (Jmp.round (Jmp.retB (Jmp.retB (Jmp.code (Jmp.round (Jmp.retB (Jmp.code (fin_ret (.tmp rfl (.tmp rfl (.tmp rfl .nil))) rfl ?_)))))))))))
         first
           | (have hmny : 0 < (R.without 0 k).many := by omega
              rcases H with ⟨h1,_⟩ | ⟨x,h,⟨q1,q2,q3,q4,q5⟩,rfl,rfl,rfl⟩
              · have := h1 0 k (by decide) hkm hbit
                omega
              · have hx : x = 0 := by
                  rcases (by omega:x=0∨0 < x) with e | e
                  · exact e
                  · have := q5 0 k (by decide) hkm hbit (.inl e)
                    omega
                subst hx
                have hh:h=k:=by
                  rcases Nat.lt_trichotomy h k with e | e | e
                  · have := hK h e q3
                    omega
                  · exact e
                  · have := q5 0 k (by decide) hkm hbit (.inr ⟨rfl, e⟩)
                    omega
                subst hh
                rfl)
           | (have hmny : 0 < (R.without 1 k).many := by omega
              rcases H with ⟨h1,_⟩ | ⟨x,h,⟨q1,q2,q3,q4,q5⟩,rfl,rfl,rfl⟩
              · have := h1 1 k (by decide) hkm hbit
                omega
              · have hx : x = 1 := by
                  rcases (by omega:x=0∨x=1) with e | e
                  · subst e
                    have:=hI 0 h (by decide) q2 q3
                    omega
                  · exact e
                subst hx
                have hh:h=k:=by
                  rcases Nat.lt_trichotomy h k with e | e | e
                  · have := hK h e q3
                    omega
                  · exact e
                  · have := q5 1 k (by decide) hkm hbit (.inr ⟨rfl, e⟩)
                    omega
                subst hh
                rfl)
           | (rcases H with ⟨_, rfl, rfl, rfl⟩ | ⟨x, h, ⟨q1, q2, q3, q4, q5⟩, _⟩
              · rfl
              · have := hI x h q1 q2 q3
                omega)
        ·refine Run.skip (Run.bend (Run.wideS (m:=m+1) (l':=[]) (by omega) (fun i b h=>by simp [hget] at h) ?_))
         refine Run.region (cx_ok _ _ _) (Reg.op rfl (Ope.mov rfl ?_))
         refine Reg.op rfl (Ope.add rfl rfl (by omega) ?_)
         refine Reg.op rfl (Ope.asg rfl ?_)
         refine Reg.nil ?_
         exact Run.lend ⟨(k + 1, m + 1), by simp only; omega, ⟨by simp only; omega, fun k' hk' hb => by
           rcases Nat.lt_or_ge k' k with q | q
           · exact hK k' q hb
           · have : k' = k := by simp only at hk'; omega
             subst this
             first
               | omega
               | exact absurd (of_decide_eq_true hb) hc⟩,⟨rfl,rfl,rfl,trivial⟩,rfl,rfl⟩
      ·refine Run.exit (Jmp.code (Jmp.round (Jmp.here (Run.bend (Run.region (cx_ok _ _ _) (Reg.op rfl (Ope.mov rfl ?_)))))))
       refine Reg.op rfl (Ope.add rfl rfl (by omega) ?_)
       refine Reg.op rfl (Ope.asg rfl ?_)
       refine Reg.nil ?_
       exact Run.lend ⟨(_,m),by simp only;omega,⟨by simp only;omega,fun i' k' hi' hk' hb=>by
         first
           | (obtain rfl : i' = 0 := by simp only at hi'; omega
              exact hK k' (by omega) hb)
           | (rcases (by simp only at hi'; omega : i' = 0 ∨ i' = 1) with rfl | rfl
              · exact hI 0 k' (by decide) hk' hb
              · exact hK k' (by omega) hb)⟩,⟨rfl,rfl,trivial⟩,rfl,rfl⟩
     ·(exfalso;simp only at hc;omega)
    ·refine Run.seq (Run.seq (Run.region (cx_ok _ _ _) (Reg.op rfl (Ope.mov rfl ?_))))
     refine Reg.op rfl (Ope.lt rfl rfl ?_)
     refine Reg.nil (Run.condX rfl (fun hc=>?_) fun hc=>?_)
     ·(exfalso;simp only at hc;omega)
     ·refine Run.exit (Jmp.code (Jmp.round (Jmp.here (Run.seq (Run.region (cx_ok _ _ _) (Reg.op rfl (Ope.asg rfl ?_)))))))
      refine Reg.op rfl (Ope.asg rfl ?_)
      refine Reg.op rfl (Ope.asg rfl ?_)
      refine Reg.nil (Run.ret (fin_ret (.tmp rfl (.tmp rfl (.tmp rfl .nil))) rfl ?_))
      first
        | (have hmny : 0 < (R.without 0 k).many := by omega
           rcases H with ⟨h1,_⟩ | ⟨x,h,⟨q1,q2,q3,q4,q5⟩,rfl,rfl,rfl⟩
           · have := h1 0 k (by decide) hkm hbit
             omega
           · have hx : x = 0 := by
               rcases (by omega:x=0∨0 < x) with e | e
               · exact e
               · have := q5 0 k (by decide) hkm hbit (.inl e)
                 omega
             subst hx
             have hh:h=k:=by
               rcases Nat.lt_trichotomy h k with e | e | e
               · have := hK h e q3
                 omega
               · exact e
               · have := q5 0 k (by decide) hkm hbit (.inr ⟨rfl, e⟩)
                 omega
             subst hh
             rfl)
        | (have hmny : 0 < (R.without 1 k).many := by omega
           rcases H with ⟨h1,_⟩ | ⟨x,h,⟨q1,q2,q3,q4,q5⟩,rfl,rfl,rfl⟩
           · have := h1 1 k (by decide) hkm hbit
             omega
           · have hx : x = 1 := by
               rcases (by omega:x=0∨x=1) with e | e
               · subst e
                 have:=hI 0 h (by decide) q2 q3
                 omega
               · exact e
             subst hx
             have hh:h=k:=by
               rcases Nat.lt_trichotomy h k with e | e | e
               · have := hK h e q3
                 omega
               · exact e
               · have := q5 1 k (by decide) hkm hbit (.inr ⟨rfl, e⟩)
                 omega
             subst hh
             rfl)
        | (rcases H with ⟨_, rfl, rfl, rfl⟩ | ⟨x, h, ⟨q1, q2, q3, q4, q5⟩, _⟩
           · rfl
           · have := hI x h q1 q2 q3
             omega)
end Go.Pv
namespace Go.Pv
open Go.Proofs Go.Am
set_option maxRecDepth 10000
def chain2 (a b : Bool) : Option Bool :=
  match some a with
  | some true => match some b with
    | some true=>some true
    | some false=>some false
    | none=>none
  | some false=>some false
  | none=>none
theorem eq41v (x y x' y':Int):aeqv A0 E0 20 41 (.agg [.int .i64 x,.int .i64 y]) (.agg [.int .i64 x',.int .i64 y'])=chain2 (x == x') (y == y'):=by kernel_rfl
theorem eq41e:E0.eqs.get 41=some ():=by kernel_rfl
theorem eq41u:(match A0.under 41 with | some (.struct _)=>true | _=>false)=true:=by kernel_rfl
theorem eq41 (xo yo:Operand) (x y:Int):pbin A0 E0 .eql 41 xo yo (.agg [I x,I y]) (.agg [I x,I y])=some (B true):=by
  have hn:pnil A0 41 (.agg [I x,I y]) (.agg [I x,I y])=none:=by
    have h:=eq41u
    unfold pnil
    cases hu:A0.under 41 with
    | none=>rfl
    | some d =>
      rw [hu] at h
      cases d<;>first | rfl | (exact absurd h (by decide))
  have hv:=eq41v x y x y
  simp only [beq_self_eq_true] at hv
  simp only [pbin,PV.toAV,PV.toAVs,bothNil,hn,abin,aequal,eq41e,hv,chain2,plit,PV.ofAV]
theorem f5b (h a0 b0 c0 d0 a1 b1 c1 d1 u:Int) (hv:(decide (9 < h) && validR h a0 b0 c0 d0 a1 b1 c1 d1)=true):Fn P0 5 [.agg [I h,I a0,I b0,I c0,I d0,I a1,I b1,I c1,I d1],I u] (B true):=by
  have h14:=f14 h a0 b0 c0 d0 a1 b1 c1 d1 9
  rw [hv] at h14
  refine PFun.of (C:=c5) (cx_ok _ _ _) rfl (fn:=Tryz.f5) (by kernel_rfl) (c:=_) rfl rfl rfl ?_
  refine Run.seq (Run.region (cx_ok _ _ _) (Reg.op rfl (Ope.boxF rfl rfl ?_)))
  refine Reg.op rfl (Ope.asg rfl ?_)
  refine Reg.nil (Run.seq (Run.seq (Run.region (cx_ok _ _ _) (Reg.op rfl (Ope.load rfl rfl ?_)))))
  refine Reg.op rfl (Ope.cf rfl rfl (h14) rfl ?_)
  refine Reg.nil (Run.condX rfl (fun hc=>?_) fun hc=>?_)
  ·refine Run.seq (Run.region (cx_ok _ _ _) (Reg.op rfl (Ope.clo rfl rfl awakeF ?_)))
   refine Reg.op rfl (Ope.asg rfl ?_)
   refine Reg.nil (Run.ret (Jmp.code (fin_ret (.tmp rfl .nil) rfl ?_)))
   rfl
  ·exact absurd hc (by decide)
theorem f5c (h a0 b0 c0 d0 a1 b1 c1 d1 u : Int) (hv : (decide (9 < h) && validR h a0 b0 c0 d0 a1 b1 c1 d1) = false) (x y e c d g k l m : Int)
    (h27:Fn P0 27 [.agg [I h,I a0,I b0,I c0,I d0,I a1,I b1,I c1,I d1],I u] (.tup [.agg [I x,I y],I e])) (h28:Fn P0 28 [.agg [I h,I a0,I b0,I c0,I d0,I a1,I b1,I c1,I d1],I u] (.tup [.agg [I x,I y],I e]))
    (h29:Fn P0 29 [.agg [I h,I a0,I b0,I c0,I d0,I a1,I b1,I c1,I d1]] (.tup [I c,I d,I g])) (h30:Fn P0 30 [.agg [I h,I a0,I b0,I c0,I d0,I a1,I b1,I c1,I d1]] (.tup [I c,I d,I g]))
    (h31:Fn P0 31 [.agg [I h,I a0,I b0,I c0,I d0,I a1,I b1,I c1,I d1]] (.tup [I k,I l,I m])) (h32:Fn P0 32 [.agg [I h,I a0,I b0,I c0,I d0,I a1,I b1,I c1,I d1]] (.tup [I k,I l,I m])) :
    Fn P0 5 [.agg [I h,I a0,I b0,I c0,I d0,I a1,I b1,I c1,I d1],I u] (B true):=by
  have h14:=f14 h a0 b0 c0 d0 a1 b1 c1 d1 9
  rw [hv] at h14
  refine PFun.of (C:=c5) (cx_ok _ _ _) rfl (fn:=Tryz.f5) (by kernel_rfl) (c:=_) rfl rfl rfl ?_
  refine Run.seq (Run.region (cx_ok _ _ _) (Reg.op rfl (Ope.boxF rfl rfl ?_)))
  refine Reg.op rfl (Ope.asg rfl ?_)
  refine Reg.nil (Run.seq (Run.seq (Run.region (cx_ok _ _ _) (Reg.op rfl (Ope.load rfl rfl ?_)))))
  refine Reg.op rfl (Ope.cf rfl rfl (h14) rfl ?_)
  refine Reg.nil (Run.condX rfl (fun hc=>?_) fun hc=>?_)
  ·exact absurd hc (by decide)
  ·refine Run.skip (Run.seq (Run.region (cx_ok _ _ _) (Reg.op rfl (Ope.load rfl rfl ?_))))
   refine Reg.op rfl (Ope.mov rfl ?_)
   refine Reg.op rfl (Ope.cf rfl rfl (h27) rfl ?_)
   refine Reg.op rfl (Ope.mov rfl ?_)
   refine Reg.op rfl (Ope.ext rfl rfl ?_)
   refine Reg.op rfl (Ope.ext rfl rfl ?_)
   refine Reg.op rfl (Ope.newL rfl ?_)
   refine Reg.op0 (Ope.store rfl rfl hget_hd rfl rfl rfl ?_)
   refine Reg.op rfl (Ope.asg rfl ?_)
   refine Reg.nil (Run.seq (Run.region (cx_ok _ _ _) (Reg.op rfl (Ope.load rfl rfl ?_))))
   refine Reg.op rfl (Ope.mov rfl ?_)
   refine Reg.op rfl (Ope.cf rfl rfl (h28) rfl ?_)
   refine Reg.op rfl (Ope.mov rfl ?_)
   refine Reg.op rfl (Ope.ext rfl rfl ?_)
   refine Reg.op rfl (Ope.ext rfl rfl ?_)
   refine Reg.op rfl (Ope.newL rfl ?_)
   refine Reg.op0 (Ope.store rfl rfl hget_hd rfl rfl rfl ?_)
   refine Reg.op rfl (Ope.asg rfl ?_)
   refine Reg.nil (Run.seq (Run.region (cx_ok _ _ _) (Reg.op rfl (Ope.load rfl rfl ?_))))
   refine Reg.op rfl (Ope.cf rfl rfl (h29) rfl ?_)
   refine Reg.op rfl (Ope.mov rfl ?_)
   refine Reg.op rfl (Ope.ext rfl rfl ?_)
   refine Reg.op rfl (Ope.ext rfl rfl ?_)
   refine Reg.op rfl (Ope.ext rfl rfl ?_)
   refine Reg.op rfl (Ope.asg rfl ?_)
   refine Reg.op rfl (Ope.asg rfl ?_)
   refine Reg.op rfl (Ope.asg rfl ?_)
   refine Reg.nil (Run.seq (Run.region (cx_ok _ _ _) (Reg.op rfl (Ope.load rfl rfl ?_))))
   refine Reg.op rfl (Ope.cf rfl rfl (h30) rfl ?_)
   refine Reg.op rfl (Ope.mov rfl ?_)
   refine Reg.op rfl (Ope.ext rfl rfl ?_)
   refine Reg.op rfl (Ope.ext rfl rfl ?_)
   refine Reg.op rfl (Ope.ext rfl rfl ?_)
   refine Reg.op rfl (Ope.asg rfl ?_)
   refine Reg.op rfl (Ope.asg rfl ?_)
   refine Reg.op rfl (Ope.asg rfl ?_)
   refine Reg.nil (Run.seq (Run.region (cx_ok _ _ _) (Reg.op rfl (Ope.load rfl rfl ?_))))
   refine Reg.op rfl (Ope.cf rfl rfl (h31) rfl ?_)
   refine Reg.op rfl (Ope.mov rfl ?_)
   refine Reg.op rfl (Ope.ext rfl rfl ?_)
   refine Reg.op rfl (Ope.ext rfl rfl ?_)
   refine Reg.op rfl (Ope.ext rfl rfl ?_)
   refine Reg.op rfl (Ope.asg rfl ?_)
   refine Reg.op rfl (Ope.asg rfl ?_)
   refine Reg.op rfl (Ope.asg rfl ?_)
   refine Reg.nil (Run.seq (Run.region (cx_ok _ _ _) (Reg.op rfl (Ope.load rfl rfl ?_))))
   refine Reg.op rfl (Ope.cf rfl rfl (h32) rfl ?_)
   refine Reg.op rfl (Ope.mov rfl ?_)
   refine Reg.op rfl (Ope.ext rfl rfl ?_)
   refine Reg.op rfl (Ope.ext rfl rfl ?_)
   refine Reg.op rfl (Ope.ext rfl rfl ?_)
   refine Reg.op rfl (Ope.asg rfl ?_)
   refine Reg.op rfl (Ope.asg rfl ?_)
   refine Reg.op rfl (Ope.asg rfl ?_)
   refine Reg.nil (Run.seq (Run.region (cx_ok _ _ _) (Reg.op rfl (Ope.load rfl rfl ?_))))
   refine Reg.op rfl (Ope.load rfl rfl ?_)
   refine Reg.op rfl (Ope.eqV (b:=true) rfl rfl (eq41 _ _ _ _) ?_)
   refine Reg.op rfl (Ope.mov rfl ?_)
   refine Reg.splitX rfl rfl (fun hg=>?_) fun hg=>?_
   ·refine Reg.on rfl rfl rfl (Ope.mov rfl ?_)
    refine Reg.on rfl rfl rfl (Ope.mov rfl ?_)
    refine Reg.on rfl rfl rfl (Ope.eq rfl rfl ?_)
    refine Reg.op rfl (Ope.pickT rfl rfl ?_)
    refine Reg.op rfl (Ope.mov rfl ?_)
    refine Reg.splitX rfl rfl (fun hg=>?_) fun hg=>?_
    ·refine Reg.on rfl rfl rfl (Ope.mov rfl ?_)
     refine Reg.on rfl rfl rfl (Ope.mov rfl ?_)
     refine Reg.on rfl rfl rfl (Ope.eq rfl rfl ?_)
     refine Reg.op rfl (Ope.pickT rfl rfl ?_)
     refine Reg.op rfl (Ope.mov rfl ?_)
     refine Reg.splitX rfl rfl (fun hg=>?_) fun hg=>?_
     ·refine Reg.on rfl rfl rfl (Ope.mov rfl ?_)
      refine Reg.on rfl rfl rfl (Ope.mov rfl ?_)
      refine Reg.on rfl rfl rfl (Ope.eq rfl rfl ?_)
      refine Reg.op rfl (Ope.pickT rfl rfl ?_)
      refine Reg.op rfl (Ope.mov rfl ?_)
      refine Reg.splitX rfl rfl (fun hg=>?_) fun hg=>?_
      ·refine Reg.on rfl rfl rfl (Ope.mov rfl ?_)
       refine Reg.on rfl rfl rfl (Ope.mov rfl ?_)
       refine Reg.on rfl rfl rfl (Ope.eq rfl rfl ?_)
       refine Reg.op rfl (Ope.pickT rfl rfl ?_)
       refine Reg.op rfl (Ope.mov rfl ?_)
       refine Reg.splitX rfl rfl (fun hg=>?_) fun hg=>?_
       ·refine Reg.on rfl rfl rfl (Ope.mov rfl ?_)
        refine Reg.on rfl rfl rfl (Ope.mov rfl ?_)
        refine Reg.on rfl rfl rfl (Ope.eq rfl rfl ?_)
        refine Reg.op rfl (Ope.pickT rfl rfl ?_)
        refine Reg.op rfl (Ope.mov rfl ?_)
        refine Reg.splitX rfl rfl (fun hg=>?_) fun hg=>?_
        ·refine Reg.on rfl rfl rfl (Ope.mov rfl ?_)
         refine Reg.on rfl rfl rfl (Ope.mov rfl ?_)
         refine Reg.on rfl rfl rfl (Ope.eq rfl rfl ?_)
         refine Reg.op rfl (Ope.pickT rfl rfl ?_)
         refine Reg.op rfl (Ope.mov rfl ?_)
         refine Reg.splitX rfl rfl (fun hg=>?_) fun hg=>?_
         ·refine Reg.on rfl rfl rfl (Ope.mov rfl ?_)
          refine Reg.on rfl rfl rfl (Ope.mov rfl ?_)
          refine Reg.on rfl rfl rfl (Ope.eq rfl rfl ?_)
          refine Reg.op rfl (Ope.pickT rfl rfl ?_)
          refine Reg.op rfl (Ope.mov rfl ?_)
          refine Reg.splitX rfl rfl (fun hg=>?_) fun hg=>?_
          ·refine Reg.on rfl rfl rfl (Ope.clo rfl rfl awakeF ?_)
           refine Reg.op rfl (Ope.pickT rfl rfl ?_)
           refine Reg.op rfl (Ope.asg rfl ?_)
           refine Reg.nil (Run.ret (fin_ret (.tmp rfl .nil) rfl ?_))
           rfl
          ·(exfalso;first | exact hg rfl | exact absurd hg (by decide))
         ·(exfalso;first | exact hg rfl | exact absurd hg (by decide))
        ·(exfalso;first | exact hg rfl | exact absurd hg (by decide))
       ·(exfalso;first | exact hg rfl | exact absurd hg (by decide))
      ·(exfalso;first | exact hg rfl | exact absurd hg (by decide))
     ·(exfalso;first | exact hg rfl | exact absurd hg (by decide))
    ·(exfalso;first | exact hg rfl | exact absurd hg (by decide))
   ·(exfalso;first | exact hg rfl | exact absurd hg (by decide))
theorem hours_all (R : Rst) (hR : R.ok) (hv : validR R.m R.o0 R.t0 R.r0 R.f0 R.o1 R.t1 R.r1 R.f1 = true) (u : Int) : ∃ x y e : Int, Fn P0 27 [.agg R.cells, I u] (.tup [.agg [I x, I y], I e]) ∧ Fn P0 28 [.agg R.cells, I u] (.tup [.agg [I x, I y], I e]) := by
  have hm:=alls_many R R.m
  have hLl:(alls R R.m []).length≤65536:=Nat.le_trans (alls_le _ _ _) (pow16 hR.1)
  by_cases hu:0≤u∧u≤1
  · obtain ⟨w, hw, rfl⟩ : ∃ w : Nat, (w = 0 ∨ w = 1) ∧ u = (w : Int) := ⟨u.toNat, by omega, by omega⟩
    by_cases hz:alls R R.m []=[]
    · have h0 : cnt R R.m zeroRid = 0 := by rw [← hm, hz]; rfl
      exact ⟨0,0,4,f27b w hw R hR hv ((spn_none w R R.m zeroRid).2 h0),f28n w hu _ _ _ _ _ _ _ _ _ hv (f68n R hR hv hz)⟩
    · have hl : (alls R R.m []).length ≠ 0 := fun h => hz (List.length_eq_zero_iff.1 h)
      cases hp:R.hrs w with
      | none=>exact absurd ((spn_none w R R.m zeroRid).1 hp) (by rw [← hm];exact hl)
      | some p =>
        exact ⟨p.1,p.2,0,f27c w hw R hR hv p hp,f28c w hu _ _ _ _ _ _ _ _ _ hv _ (f68c R hR hv hz) (by omega) hLl (right_len hR.1) p (hul_hrs hw hp (List.getElem_mem _))⟩
  · have hc : (decide (u = 0) || decide (u = 1)) = false := by
      simp only [Bool.or_eq_false_iff,decide_eq_false_iff_not]
      omega
    exact ⟨0,0,2,f27i u false hc _ _ _ _ _ _ _ _ _ _ _ _ (f126er (f127ri u _ _ _ _ _ _ _ _ _ hv) rfl),f28r u hu _ _ _ _ _ _ _ _ _ hv⟩
theorem must_all (R:Rst) (hR:R.ok) (hv:validR R.m R.o0 R.t0 R.r0 R.f0 R.o1 R.t1 R.r1 R.f1=true):∃ c d g:Int,Fn P0 29 [.agg R.cells] (.tup [I c,I d,I g])∧Fn P0 30 [.agg R.cells] (.tup [I c,I d,I g]):=by
  have hm:=alls_many R R.m
  have hLl:(alls R R.m []).length≤65536:=Nat.le_trans (alls_le _ _ _) (pow16 hR.1)
  by_cases hz:alls R R.m []=[]
  · have h0 : R.many = 0 := by rw [hz] at hm; exact hm.symm
    exact ⟨0,0,4,f29b' R hR hv (must_none.2 h0),f30e _ _ _ _ _ _ _ _ _ 4 (by decide) (f68n R hR hv hz)⟩
  · have hl : (alls R R.m []).length ≠ 0 := fun h => hz (List.length_eq_zero_iff.1 h)
    cases hp:R.must with
    | none=>exact absurd (must_none.1 hp) (by show cnt R R.m zeroRid≠0;rw [← hm];exact hl)
    | some p =>
      obtain ⟨l1,l2⟩:=must_lt hp
      refine ⟨p.1,p.2,0,f29c' R hR hv p hp,f30c R hR _ (f68c R hR hv hz) hLl (fun y hy=>((mem_all R y).1 hy).1) (fun y hy=>((mem_all R y).1 hy).2.1) p.1 p.2 l1 l2 fun h hh=>?_⟩
      obtain ⟨b1,b2⟩:=must_bit hp h
      have hs:=sum_many hh
      have hsum:=must_sum R hh
      have hmm:R.many=(alls R R.m []).length:=hm.symm
      exact ⟨by rw [b1, hs]; constructor
                · intro e;exact ⟨hh,by omega⟩
                · intro e; have := e.2; omega, by rw [b2, hs]; constructor
                                                  · intro e;exact ⟨hh,by omega⟩
                                                  · intro e;have:=e.2;omega⟩
theorem free_all (R:Rst) (hR:R.ok) (hv:validR R.m R.o0 R.t0 R.r0 R.f0 R.o1 R.t1 R.r1 R.f1=true):∃ k l m:Int,Fn P0 31 [.agg R.cells] (.tup [I k,I l,I m])∧Fn P0 32 [.agg R.cells] (.tup [I k,I l,I m]):=by
  have h31:=f31b R hR hv
  obtain ⟨v,e,h68,he⟩:=f68e R hR hv
  unfold Rst.freeV at h31
  rcases he with ⟨he,hm⟩ | ⟨rfl,hm⟩
  · rw [if_pos (by omega)] at h31
    exact ⟨_,_,_,h31,f32o _ _ _ _ _ _ _ _ _ v e he h68⟩
  · rw [if_neg (by omega)] at h31
    cases hh:R.hind with
    | none =>
      rw [hh] at h31
      exact ⟨_,_,_,h31,f32c R hR hv v h68 _ _ _ (.inl ⟨hind_none hh,rfl,rfl,rfl⟩)⟩
    | some o =>
      obtain ⟨x,h⟩:=o
      rw [hh] at h31
      obtain ⟨⟨q1,q2,q3⟩,q4,q5⟩:=hind_some hh
      exact ⟨_,_,_,h31,f32c R hR hv v h68 _ _ _ (.inr ⟨x,h,⟨q1,q2,q3,q4,q5⟩,rfl,rfl,rfl⟩)⟩
theorem f5 (h a0 b0 c0 d0 a1 b1 c1 d1 u : Int) : Fn P0 5 [.agg [I h, I a0, I b0, I c0, I d0, I a1, I b1, I c1, I d1], I u] (B true) := by
  cases hq:(decide (9 < h) && validR h a0 b0 c0 d0 a1 b1 c1 d1) with
  | true=>exact f5b _ _ _ _ _ _ _ _ _ u hq
  | false =>
    by_cases hv:validR h a0 b0 c0 d0 a1 b1 c1 d1=true
    · obtain ⟨hok, ⟨e1, e2, e3⟩, hm⟩ := rstOf_ok hv
      have hcells:(rstOf h a0 b0 c0 d0 a1 b1 c1 d1).cells=[I h,I a0,I b0,I c0,I d0,I a1,I b1,I c1,I d1]:=by
        show [I (h.toNat:Int),I (a0.toNat:Int),I b0,I c0,I d0,I (a1.toNat:Int),I b1,I c1,I d1]=_
        rw [← e1,← e2,← e3]
      have hv':validR (rstOf h a0 b0 c0 d0 a1 b1 c1 d1).m (rstOf h a0 b0 c0 d0 a1 b1 c1 d1).o0 b0 c0 d0 (rstOf h a0 b0 c0 d0 a1 b1 c1 d1).o1 b1 c1 d1=true:=by
        show validR (h.toNat:Int) (a0.toNat:Int) b0 c0 d0 (a1.toNat:Int) b1 c1 d1=true
        rw [← e1,← e2,← e3]
        exact hv
      obtain ⟨x,y,e,h27,h28⟩:=hours_all _ hok hv' u
      obtain ⟨c,d,g,h29,h30⟩:=must_all _ hok hv'
      obtain ⟨k,l,m,h31,h32⟩:=free_all _ hok hv'
      rw [hcells] at h27 h28 h29 h30 h31 h32
      exact f5c _ _ _ _ _ _ _ _ _ u hq _ _ _ _ _ _ _ _ _ h27 h28 h29 h30 h31 h32
    · have hv := Bool.eq_false_iff.2 hv
      have h68:=f68a _ _ _ _ _ _ _ _ _ hv
      have h27:Fn P0 27 [.agg [I h,I a0,I b0,I c0,I d0,I a1,I b1,I c1,I d1],I u] (.tup [.agg [I 0,I 0],I 1]):=f27i u _ rfl _ _ _ _ _ _ _ _ _ _ _ _ (f126er (f127ai u _ _ _ _ _ _ _ _ _ _ hv) rfl)
      have h29:Fn P0 29 [.agg [I h,I a0,I b0,I c0,I d0,I a1,I b1,I c1,I d1]] (.tup [I 0,I 0,I 1]):=f29 _ _ _ _ _ _ _ _ _ _ _ _ (f132er (f133a _ _ _ _ _ _ _ _ _ hv) rfl)
      exact f5c _ _ _ _ _ _ _ _ _ u hq _ _ _ _ _ _ _ _ _ h27 (f28a u _ _ _ _ _ _ _ _ _ hv) h29 (f30e _ _ _ _ _ _ _ _ _ 1 (by decide) h68) (f31a _ _ _ _ _ _ _ _ _ hv) (f32a _ _ _ _ _ _ _ _ _ _ 1 (by decide) (by decide) h68)
end Go.Pv
