/- MendLooks returns true, for every input, in every world in which it is called. There is no condition. -/
import Derived.Test.YtgpcfkpenkaipaaRows
import Derived.Test.YtgpcfkpenkaipaaP23
set_option linter.unusedVariables false
set_option linter.unusedSimpArgs false
set_option linter.unusedSectionVars false
namespace Go.Proofs.Ytgpcfkpenkaipaa.mendLooks
open Go.ChangeShapes Go.WideShapes Go.ChangeAt Go.RowKit Go.Pv
theorem own:ownKnob Try.prog.godebug=none:=by kernel_rfl
theorem laid:laidOutB Try.prog=true:=by kernel_rfl
theorem walk (s:Shp) (hi:s.i64) (v0:Value) (w:World) (r0:RV (St.froz w) (s.v .no .no) v0) :
    Calls Try.prog 4 #[v0] w fun e w'=>e=.returned (.bool true)∧Below w.heap.size w w'∧Grown w w':=by
  exact (f4 s (t1:=.no) (t2:=.no) rfl rfl hi).calls3 w (RVs_cons.2 ⟨_,_,rfl,r0,RVs_nil.2 rfl⟩)
set_option maxRecDepth 100000 in
theorem lifted (os:Os) (started:os.Started) (H:Type) (enc:TypeId×Value→H) :
    ReturnsInHanded {} Try.checked os 4 .any (Rows.mendLooksSpec.pre6 enc Try.prog Try.f4 Rows.mendLooksRow.domain false) (Rows.mendLooksSpec.post enc Try.prog Try.f4 false true false false):=by
  refine returnsInHanded_of_change (C:=Try.checked) own started (by kernel_rfl) Try.func4
    (ChangeSpec.witness6 (enc:=enc) (C:=Try.checked) false ⟨#[],#[.agg #[.slice none 0 0,.slice none 0 0]],[]⟩ 8 (by kernel_rfl) (by kernel_rfl) (by kernel_rfl) (by kernel_rfl)) ?_
  intro W base args ds gs before hval0 hW hcnd _
  have hval:∀ (j:Nat) t v,Try.f4.params[j]?=some t→args[j]?=some v→Value.okWide Try.prog W .any base t v:=hval0
  have hW':=hW
  have hlt:∀ x∈before,x.block < W.heap.size:=fun x hx=>by simpa using hW.lt x hx
  obtain ⟨p,q,hA0,hV,rfl,hfz,hnd⟩:=hW
  have hA:DataW.TrodAll enc Try.prog W 0 (fun _=>true) true Try.f4.params.toList args.toList ds p:=hA0
  have hAk:=hA
  obtain ⟨rfl,rfl⟩:=trodVars_none hV
  rw [Try.params4] at hA hval
  obtain ⟨v0,e0,rfl,rfl,t0⟩:=trodAll_one hA
  obtain ⟨s,hi,g0⟩:=trod_mend (hval 0 25 v0 rfl rfl) t0
  clear hA0 hval0
  simp only [List.append_nil] at hW' hlt
  refine (walk s hi v0 W g0 ).mono fun e W' ⟨he,hb,hg⟩=>?_
  subst he
  exact ⟨_,rfl,post_of_same (pa:=p) (pv:=[]) hW' (fun _ _ _=>(trodAll_cons_mk (shut_bool Try.underlying4 _) trodAll_mk0)) (fun sp hs=>trodAll_stays laid hb (by kernel_rfl) hAk hlt hs) (fun _ _=>rfl) (by simp)
    (hg.frame _) hg.2.1 (ok_one (by kernel_rfl) rfl (okWide_bool_mk Try.underlying4 _))⟩
theorem over:Rows.mendLooksRow.holds Try.pinned (OpenSpec.ofChange Rows.mendLooksSpec) :=
  OpenClaim.holds_of_wide 4 Try.f4 rfl rfl rfl rfl rfl rfl rfl ⟨rfl,rfl,rfl,rfl,rfl⟩ rfl rfl rfl rfl rfl (by kernel_rfl) Try.func4 (by kernel_rfl)
    (of_decide_eq_true (by kernel_rfl)) (by unfold Func.isWrapper;first | (rw [if_pos (by decide +kernel)];kernel_rfl) | (rw [if_neg (by decide +kernel)];exact ⟨rfl,rfl⟩))
    (fun os started H enc _=>lifted os started H enc)
theorem proved:Rows.MendLooksSaid :=
  over
#print axioms proved
end Go.Proofs.Ytgpcfkpenkaipaa.mendLooks
