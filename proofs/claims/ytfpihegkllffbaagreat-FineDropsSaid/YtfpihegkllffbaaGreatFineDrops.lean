/- FineDrops returns true, for every input, in every world in which it is called. There is no condition. -/
import Derived.Test.YtfpihegkllffbaaGreatRows
import Derived.Test.YtfpihegkllffbaaGreatP25
import Derived.Test.YtfpihegkllffbaaGreatP22
set_option linter.unusedVariables false
set_option linter.unusedSimpArgs false
set_option linter.unusedSectionVars false
namespace Go.Proofs.YtfpihegkllffbaaGreat.fineDrops
open Go.ChangeShapes Go.WideShapes Go.ChangeAt Go.RowKit Go.Pv
theorem own:ownKnob Tryz.prog.godebug=none:=by kernel_rfl
theorem laid:laidOutB Tryz.prog=true:=by kernel_rfl
theorem walk (s:Fns) (hi:s.hnd) (p1:Int) (p2:Int) (v0:Value) (w:World) (r0:RV (St.froz w) (s.v .no .no) v0) :
    Calls Tryz.prog 4 #[v0,.int .i64 p1,.int .i64 p2] w fun e w'=>e=.returned (.bool true)∧Below w.heap.size w w'∧Grown w w':=by
  exact ((f4 s hi p1 p2)).calls3 w (RVs_cons.2 ⟨_,_,rfl,r0,RVs_cons.2 ⟨_,_,rfl,RV_lit.2 ⟨rfl,by simp only [Go.Am.VR]⟩,RVs_cons.2 ⟨_,_,rfl,RV_lit.2 ⟨rfl,by simp only [Go.Am.VR]⟩,RVs_nil.2 rfl⟩⟩⟩)
set_option maxRecDepth 100000 in
theorem lifted (os:Os) (started:os.Started) (H:Type) (enc:TypeId×Value→H) :
    ReturnsInHanded {} Tryz.checked os 4 .any (Rows.fineDropsSpec.pre6 enc Tryz.prog Tryz.f4 Rows.fineDropsRow.domain false) (Rows.fineDropsSpec.post enc Tryz.prog Tryz.f4 false true false false):=by
  refine returnsInHanded_of_change (C:=Tryz.checked) own started (by kernel_rfl) Tryz.func4
    (ChangeSpec.witness6 (enc:=enc) (C:=Tryz.checked) false ⟨#[],#[.agg #[.slice none 0 0,.int .i64 0,.slice none 0 0],.int .i64 0,.int .i64 0],[]⟩ 8 (by kernel_rfl) (by kernel_rfl) (by kernel_rfl) (by kernel_rfl)) ?_
  intro W base args ds gs before hval0 hW hcnd _
  have hval:∀ (j:Nat) t v,Tryz.f4.params[j]?=some t→args[j]?=some v→Value.okWide Tryz.prog W .any base t v:=hval0
  have hW':=hW
  have hlt:∀ x∈before,x.block < W.heap.size:=fun x hx=>by simpa using hW.lt x hx
  obtain ⟨p,q,hA0,hV,rfl,hfz,hnd⟩:=hW
  have hA:DataW.TrodAll enc Tryz.prog W 0 (fun _=>true) true Tryz.f4.params.toList args.toList ds p:=hA0
  have hAk:=hA
  obtain ⟨rfl,rfl⟩:=trodVars_none hV
  rw [Tryz.params4] at hA hval
  obtain ⟨v0,v1,v2,e0,e1,e2,r0,r1,r2,rfl,rfl,rfl,t0,t1,t2⟩:=trodAll_three hA
  obtain ⟨s,hi,g0⟩:=trod_fines (hval 0 25 v0 rfl rfl) t0
  obtain ⟨n1,rfl,_,_⟩:=okWide_has Tryz.underlying3 (hval 1 3 v1 rfl rfl)
  obtain ⟨n2,rfl,_,_⟩:=okWide_has Tryz.underlying3 (hval 2 3 v2 rfl rfl)
  clear hA0 hval0
  simp only [List.append_nil] at hW' hlt
  refine (walk s hi n1 n2 v0 W g0 ).mono fun e W' ⟨he,hb,hg⟩=>?_
  subst he
  exact ⟨_,rfl,post_of_same (pa:=r0++r1++r2) (pv:=[]) hW' (fun _ _ _=>(trodAll_cons_mk (shut_bool Tryz.underlying4 _) trodAll_mk0)) (fun sp hs=>trodAll_stays laid hb (by kernel_rfl) hAk hlt hs) (fun _ _=>rfl) (by simp)
    (hg.frame _) hg.2.1 (ok_one (by kernel_rfl) rfl (okWide_bool_mk Tryz.underlying4 _))⟩
theorem over:Rows.fineDropsRow.holds Tryz.pinned (OpenSpec.ofChange Rows.fineDropsSpec) :=
  OpenClaim.holds_of_wide 4 Tryz.f4 rfl rfl rfl rfl rfl rfl rfl ⟨rfl,rfl,rfl,rfl,rfl⟩ rfl rfl rfl rfl rfl (by kernel_rfl) Tryz.func4 (by kernel_rfl)
    (of_decide_eq_true (by kernel_rfl)) (by unfold Func.isWrapper;first | (rw [if_pos (by decide +kernel)];kernel_rfl) | (rw [if_neg (by decide +kernel)];exact ⟨rfl,rfl⟩))
    (fun os started H enc _=>lifted os started H enc)
theorem proved:Rows.FineDropsSaid :=
  over
#print axioms proved
end Go.Proofs.YtfpihegkllffbaaGreat.fineDrops
