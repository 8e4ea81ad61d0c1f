/- FineTells returns true, for every input, in every world in which it is called. There is no condition. -/
import Derived.Test.YtfpihegkllffbaaGreatRows
import Derived.Test.YtfpihegkllffbaaGreatP26
import Derived.Test.YtfpihegkllffbaaGreatP22
set_option linter.unusedVariables false
set_option linter.unusedSimpArgs false
set_option linter.unusedSectionVars false
namespace Go.Proofs.YtfpihegkllffbaaGreat.fineTells
open Go.ChangeShapes Go.WideShapes Go.ChangeAt Go.RowKit Go.Pv
section
variable {H:Type} {enc:TypeId×Value→H} {P:Program} {w:World} {base:Nat} {spare:Nat→Bool} {held:Bool}
theorem trodAll_five {a0 a1 a2 a3 a4:TypeId} {args:Array Value} {ds:List (DataW H)} {ps:List MemPlace} (h:DataW.TrodAll enc P w base spare held [a0,a1,a2,a3,a4] args.toList ds ps) :
    ∃ v0 v1 v2 v3 v4 e0 e1 e2 e3 e4 q0 q1 q2 q3 q4,args=#[v0,v1,v2,v3,v4]∧ds=[e0,e1,e2,e3,e4]∧ps=q0++q1++q2++q3++q4∧DataW.Trod enc P w base spare held a0 v0 e0 q0∧DataW.Trod enc P w base spare held a1 v1 e1 q1∧DataW.Trod enc P w base spare held a2 v2 e2 q2∧DataW.Trod enc P w base spare held a3 v3 e3 q3∧DataW.Trod enc P w base spare held a4 v4 e4 q4:=by
  obtain ⟨v0,vs,e0,ds',p,q,hargs,rfl,rfl,hd,hrest⟩:=trodAll_cons h
  obtain ⟨v1,vs1,e1,ds1,p1,q1,rfl,rfl,rfl,hd1,hrest1⟩:=trodAll_cons hrest
  obtain ⟨v2,vs2,e2,ds2,p2,q2,rfl,rfl,rfl,hd2,hrest2⟩:=trodAll_cons hrest1
  obtain ⟨v3,vs3,e3,ds3,p3,q3,rfl,rfl,rfl,hd3,hrest3⟩:=trodAll_cons hrest2
  obtain ⟨v4,vs4,e4,ds4,p4,q4,rfl,rfl,rfl,hd4,hrest4⟩:=trodAll_cons hrest3
  obtain ⟨rfl,rfl,rfl⟩:=trodAll_nil hrest4
  exact ⟨v0,v1,v2,v3,v4,e0,e1,e2,e3,e4,p,p1,p2,p3,p4,by cases args;simp_all,rfl,by simp,hd,hd1,hd2,hd3,hd4⟩
end
theorem own:ownKnob Tryz.prog.godebug=none:=by kernel_rfl
theorem laid:laidOutB Tryz.prog=true:=by kernel_rfl
theorem walk (s:Fns) (hi:s.hnd) (p1:Int) (p2:Int) (xs3:List Int) (xs4:List Int) (v0:Value) (v3:Value) (v4:Value) (w:World) (r0:RV (St.froz w) (s.v .no .no) v0) (r3:RV (St.froz w) (.sl .no (xs3.map I)) v3) (r4:RV (St.froz w) (.sl .no (xs4.map I)) v4) :
    Calls Tryz.prog 3 #[v0,.int .i64 p1,.int .i64 p2,v3,v4] w fun e w'=>e=.returned (.bool true)∧Below w.heap.size w w'∧Grown w w':=by
  exact ((f3 s hi p1 p2 xs3 xs4)).calls3 w (RVs_cons.2 ⟨_,_,rfl,r0,RVs_cons.2 ⟨_,_,rfl,RV_lit.2 ⟨rfl,by simp only [Go.Am.VR]⟩,RVs_cons.2 ⟨_,_,rfl,RV_lit.2 ⟨rfl,by simp only [Go.Am.VR]⟩,RVs_cons.2 ⟨_,_,rfl,r3,RVs_cons.2 ⟨_,_,rfl,r4,RVs_nil.2 rfl⟩⟩⟩⟩⟩)
set_option maxRecDepth 100000 in
theorem lifted (os:Os) (started:os.Started) (H:Type) (enc:TypeId×Value→H) :
    ReturnsInHanded {} Tryz.checked os 3 .any (Rows.fineTellsSpec.pre6 enc Tryz.prog Tryz.f3 Rows.fineTellsRow.domain false) (Rows.fineTellsSpec.post enc Tryz.prog Tryz.f3 false true false false):=by
  refine returnsInHanded_of_change (C:=Tryz.checked) own started (by kernel_rfl) Tryz.func3
    (ChangeSpec.witness6 (enc:=enc) (C:=Tryz.checked) false ⟨#[],#[.agg #[.slice none 0 0,.int .i64 0,.slice none 0 0],.int .i64 0,.int .i64 0,.slice none 0 0,.slice none 0 0],[]⟩ 8 (by kernel_rfl) (by kernel_rfl) (by kernel_rfl) (by kernel_rfl)) ?_
  intro W base args ds gs before hval0 hW hcnd _
  have hval:∀ (j:Nat) t v,Tryz.f3.params[j]?=some t→args[j]?=some v→Value.okWide Tryz.prog W .any base t v:=hval0
  have hW':=hW
  have hlt:∀ x∈before,x.block < W.heap.size:=fun x hx=>by simpa using hW.lt x hx
  obtain ⟨p,q,hA0,hV,rfl,hfz,hnd⟩:=hW
  have hA:DataW.TrodAll enc Tryz.prog W 0 (fun _=>true) true Tryz.f3.params.toList args.toList ds p:=hA0
  have hAk:=hA
  obtain ⟨rfl,rfl⟩:=trodVars_none hV
  rw [Tryz.params3] at hA hval
  obtain ⟨v0,v1,v2,v3,v4,e0,e1,e2,e3,e4,r0,r1,r2,r3,r4,rfl,rfl,rfl,t0,t1,t2,t3,t4⟩:=trodAll_five hA
  obtain ⟨s,hi,g0⟩:=trod_fines (hval 0 25 v0 rfl rfl) t0
  obtain ⟨n1,rfl,_,_⟩:=okWide_has Tryz.underlying3 (hval 1 3 v1 rfl rfl)
  obtain ⟨n2,rfl,_,_⟩:=okWide_has Tryz.underlying3 (hval 2 3 v2 rfl rfl)
  obtain ⟨xs3,g3,_,_⟩:=trod_ints Tryz.underlying26 Tryz.underlying3 cells_int (hval 3 26 v3 rfl rfl) t3
  obtain ⟨xs4,g4,_,_⟩:=trod_ints Tryz.underlying26 Tryz.underlying3 cells_int (hval 4 26 v4 rfl rfl) t4
  clear hA0 hval0
  simp only [List.append_nil] at hW' hlt
  refine (walk s hi n1 n2 xs3 xs4 v0 v3 v4 W g0 g3 g4 ).mono fun e W' ⟨he,hb,hg⟩=>?_
  subst he
  exact ⟨_,rfl,post_of_same (pa:=r0++r1++r2++r3++r4) (pv:=[]) hW' (fun _ _ _=>(trodAll_cons_mk (shut_bool Tryz.underlying4 _) trodAll_mk0)) (fun sp hs=>trodAll_stays laid hb (by kernel_rfl) hAk hlt hs) (fun _ _=>rfl) (by simp)
    (hg.frame _) hg.2.1 (ok_one (by kernel_rfl) rfl (okWide_bool_mk Tryz.underlying4 _))⟩
theorem over:Rows.fineTellsRow.holds Tryz.pinned (OpenSpec.ofChange Rows.fineTellsSpec) :=
  OpenClaim.holds_of_wide 3 Tryz.f3 rfl rfl rfl rfl rfl rfl rfl ⟨rfl,rfl,rfl,rfl,rfl⟩ rfl rfl rfl rfl rfl (by kernel_rfl) Tryz.func3 (by kernel_rfl)
    (of_decide_eq_true (by kernel_rfl)) (by unfold Func.isWrapper;first | (rw [if_pos (by decide +kernel)];kernel_rfl) | (rw [if_neg (by decide +kernel)];exact ⟨rfl,rfl⟩))
    (fun os started H enc _=>lifted os started H enc)
theorem proved:Rows.FineTellsSaid :=
  over
#print axioms proved
end Go.Proofs.YtfpihegkllffbaaGreat.fineTells
