/- MendDrop returns true, for every input, in every world in which it is called. There is no condition. -/
import Derived.Test.YtgpcfkpenkaipaaRows
import Derived.Test.YtgpcfkpenkaipaaP22
import Derived.Test.YtgpcfkpenkaipaaP23
set_option linter.unusedVariables false
set_option linter.unusedSimpArgs false
set_option linter.unusedSectionVars false
namespace Go.Proofs.Ytgpcfkpenkaipaa.mendDrop
open Go.ChangeShapes Go.WideShapes Go.ChangeAt Go.RowKit Go.Pv
theorem own:ownKnob Try.prog.godebug=none:=by kernel_rfl
theorem laid:laidOutB Try.prog=true:=by kernel_rfl
theorem walk (s:Shp) (hi:s.i64) (p1:Int) (h01:0≤p1) (h11:p1 < 256) (v0:Value) (w:World) (r0:RV (St.froz w) (s.v .no .no) v0) :
    Calls Try.prog 9 #[v0,.int .u8 p1] w fun e w'=>e=.returned (.bool true)∧Below w.heap.size w w'∧Grown w w':=by
  obtain ⟨q1,rfl⟩:∃ q:Nat,p1=(q:Int):=⟨p1.toNat,by omega⟩
  exact (f9a s hi q1 (by omega)).calls3 w (RVs_cons.2 ⟨_,_,rfl,r0,RVs_cons.2 ⟨_,_,rfl,RV_lit.2 ⟨rfl,by simp only [Go.Am.VR]⟩,RVs_nil.2 rfl⟩⟩)
set_option maxRecDepth 100000 in
theorem lifted (os:Os) (started:os.Started) (H:Type) (enc:TypeId×Value→H) :
    ReturnsInHanded {} Try.checked os 9 .any (Rows.mendDropSpec.pre6 enc Try.prog Try.f9 Rows.mendDropRow.domain false) (Rows.mendDropSpec.post enc Try.prog Try.f9 false true false false):=by
  refine returnsInHanded_of_change (C:=Try.checked) own started (by kernel_rfl) Try.func9
    (ChangeSpec.witness6 (enc:=enc) (C:=Try.checked) false ⟨#[],#[.agg #[.slice none 0 0,.slice none 0 0],.int .u8 0],[]⟩ 8 (by kernel_rfl) (by kernel_rfl) (by kernel_rfl) (by kernel_rfl)) ?_
  intro W base args ds gs before hval0 hW hcnd _
  have hval:∀ (j:Nat) t v,Try.f9.params[j]?=some t→args[j]?=some v→Value.okWide Try.prog W .any base t v:=hval0
  have hW':=hW
  have hlt:∀ x∈before,x.block < W.heap.size:=fun x hx=>by simpa using hW.lt x hx
  obtain ⟨p,q,hA0,hV,rfl,hfz,hnd⟩:=hW
  have hA:DataW.TrodAll enc Try.prog W 0 (fun _=>true) true Try.f9.params.toList args.toList ds p:=hA0
  have hAk:=hA
  obtain ⟨rfl,rfl⟩:=trodVars_none hV
  rw [Try.params9] at hA hval
  obtain ⟨v0,v1,e0,e1,r0,r1,rfl,rfl,rfl,t0,t1⟩:=trodAll_two hA
  obtain ⟨s,hi,g0⟩:=trod_mend (hval 0 25 v0 rfl rfl) t0
  obtain ⟨n1,rfl,h01,h11⟩:=okWide_has Try.underlying5 (hval 1 5 v1 rfl rfl)
  clear hA0 hval0
  simp only [List.append_nil] at hW' hlt
  refine (walk s hi n1 h01 (Int.lt_of_le_of_lt h11 (by decide)) v0 W g0 ).mono fun e W' ⟨he,hb,hg⟩=>?_
  subst he
  exact ⟨_,rfl,post_of_same (pa:=r0++r1) (pv:=[]) hW' (fun _ _ _=>(trodAll_cons_mk (shut_bool Try.underlying4 _) trodAll_mk0)) (fun sp hs=>trodAll_stays laid hb (by kernel_rfl) hAk hlt hs) (fun _ _=>rfl) (by simp)
    (hg.frame _) hg.2.1 (ok_one (by kernel_rfl) rfl (okWide_bool_mk Try.underlying4 _))⟩
theorem over:Rows.mendDropRow.holds Try.pinned (OpenSpec.ofChange Rows.mendDropSpec) :=
  OpenClaim.holds_of_wide 9 Try.f9 rfl rfl rfl rfl rfl rfl rfl ⟨rfl,rfl,rfl,rfl,rfl⟩ rfl rfl rfl rfl rfl (by kernel_rfl) Try.func9 (by kernel_rfl)
    (of_decide_eq_true (by kernel_rfl)) (by unfold Func.isWrapper;first | (rw [if_pos (by decide +kernel)];kernel_rfl) | (rw [if_neg (by decide +kernel)];exact ⟨rfl,rfl⟩))
    (fun os started H enc _=>lifted os started H enc)
theorem proved:Rows.MendDropSaid :=
  over
#print axioms proved
end Go.Proofs.Ytgpcfkpenkaipaa.mendDrop
