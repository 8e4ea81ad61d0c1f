/- FineEnds returns true, for every input, in every world in which it is called. There is no condition. -/
import Derived.Test.YtfpihegkllffbaaGreatRows
import Derived.Test.YtfpihegkllffbaaGreatP25
import Derived.Test.YtfpihegkllffbaaGreatP22
set_option linter.unusedVariables false
set_option linter.unusedSimpArgs false
set_option linter.unusedSectionVars false
namespace Go.Proofs.YtfpihegkllffbaaGreat.fineEnds
open Go.ChangeShapes Go.WideShapes Go.ChangeAt Go.RowKit Go.Pv
theorem own:ownKnob Tryz.prog.godebug=none:=by kernel_rfl
theorem laid:laidOutB Tryz.prog=true:=by kernel_rfl
theorem walk (s:Fns) (hi:s.hnd) (p1:Int) (h01:0≤p1) (h11:p1 < 256) (v0:Value) (w:World) (r0:RV (St.froz w) (s.v .no .no) v0) :
    Calls Tryz.prog 7 #[v0,.int .u8 p1] w fun e w'=>e=.returned (.bool true)∧Below w.heap.size w w'∧Grown w w':=by
  obtain ⟨q1,rfl⟩:∃ q:Nat,p1=(q:Int):=⟨p1.toNat,by omega⟩
  exact ((f7 s hi q1 (by omega))).calls3 w (RVs_cons.2 ⟨_,_,rfl,r0,RVs_cons.2 ⟨_,_,rfl,RV_lit.2 ⟨rfl,by simp only [Go.Am.VR]⟩,RVs_nil.2 rfl⟩⟩)
set_option maxRecDepth 100000 in
theorem lifted (os:Os) (started:os.Started) (H:Type) (enc:TypeId×Value→H) :
    ReturnsInHanded {} Tryz.checked os 7 .any (Rows.fineEndsSpec.pre6 enc Tryz.prog Tryz.f7 Rows.fineEndsRow.domain false) (Rows.fineEndsSpec.post enc Tryz.prog Tryz.f7 false true false false):=by
  refine returnsInHanded_of_change (C:=Tryz.checked) own started (by kernel_rfl) Tryz.func7
    (ChangeSpec.witness6 (enc:=enc) (C:=Tryz.checked) false ⟨#[],#[.agg #[.slice none 0 0,.int .i64 0,.slice none 0 0],.int .u8 0],[]⟩ 8 (by kernel_rfl) (by kernel_rfl) (by kernel_rfl) (by kernel_rfl)) ?_
  intro W base args ds gs before hval0 hW hcnd _
  have hval:∀ (j:Nat) t v,Tryz.f7.params[j]?=some t→args[j]?=some v→Value.okWide Tryz.prog W .any base t v:=hval0
  have hW':=hW
  have hlt:∀ x∈before,x.block < W.heap.size:=fun x hx=>by simpa using hW.lt x hx
  obtain ⟨p,q,hA0,hV,rfl,hfz,hnd⟩:=hW
  have hA:DataW.TrodAll enc Tryz.prog W 0 (fun _=>true) true Tryz.f7.params.toList args.toList ds p:=hA0
  have hAk:=hA
  obtain ⟨rfl,rfl⟩:=trodVars_none hV
  rw [Tryz.params7] at hA hval
  obtain ⟨v0,v1,e0,e1,r0,r1,rfl,rfl,rfl,t0,t1⟩:=trodAll_two hA
  obtain ⟨s,hi,g0⟩:=trod_fines (hval 0 25 v0 rfl rfl) t0
  obtain ⟨n1,rfl,h01,h11⟩:=okWide_has Tryz.underlying5 (hval 1 5 v1 rfl rfl)
  clear hA0 hval0
  simp only [List.append_nil] at hW' hlt
  refine (walk s hi n1 h01 (Int.lt_of_le_of_lt h11 (by decide)) v0 W g0 ).mono fun e W' ⟨he,hb,hg⟩=>?_
  subst he
  exact ⟨_,rfl,post_of_same (pa:=r0++r1) (pv:=[]) hW' (fun _ _ _=>(trodAll_cons_mk (shut_bool Tryz.underlying4 _) trodAll_mk0)) (fun sp hs=>trodAll_stays laid hb (by kernel_rfl) hAk hlt hs) (fun _ _=>rfl) (by simp)
    (hg.frame _) hg.2.1 (ok_one (by kernel_rfl) rfl (okWide_bool_mk Tryz.underlying4 _))⟩
theorem over:Rows.fineEndsRow.holds Tryz.pinned (OpenSpec.ofChange Rows.fineEndsSpec) :=
  OpenClaim.holds_of_wide 7 Tryz.f7 rfl rfl rfl rfl rfl rfl rfl ⟨rfl,rfl,rfl,rfl,rfl⟩ rfl rfl rfl rfl rfl (by kernel_rfl) Tryz.func7 (by kernel_rfl)
    (of_decide_eq_true (by kernel_rfl)) (by unfold Func.isWrapper;first | (rw [if_pos (by decide +kernel)];kernel_rfl) | (rw [if_neg (by decide +kernel)];exact ⟨rfl,rfl⟩))
    (fun os started H enc _=>lifted os started H enc)
theorem proved:Rows.FineEndsSaid :=
  over
#print axioms proved
end Go.Proofs.YtfpihegkllffbaaGreat.fineEnds
