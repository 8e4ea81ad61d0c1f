/- FineTurned returns true, for every input, in every world in which it is called. There is no condition. -/
import Derived.Test.YtfpihegkllffbaaGreatRows
import Derived.Test.YtfpihegkllffbaaGreatP26
import Derived.Test.YtfpihegkllffbaaGreatP22
set_option linter.unusedVariables false
set_option linter.unusedSimpArgs false
set_option linter.unusedSectionVars false
namespace Go.Proofs.YtfpihegkllffbaaGreat.fineTurned
open Go.ChangeShapes Go.WideShapes Go.ChangeAt Go.RowKit Go.Pv
theorem own:ownKnob Tryz.prog.godebug=none:=by kernel_rfl
theorem laid:laidOutB Tryz.prog=true:=by kernel_rfl
theorem walk (s:Fns) (hi:s.hnd) (p1:Int) (h01:0≤p1) (h11:p1 < 256) (xs2:List Nat) (hx2:∀ x∈xs2,x < 65536) (v0:Value) (v2:Value) (w:World) (r0:RV (St.froz w) (s.v .no .no) v0) (r2:RV (St.froz w) (.sl .no (xs2.map U16)) v2) :
    Calls Tryz.prog 10 #[v0,.int .u8 p1,v2] w fun e w'=>e=.returned (.bool true)∧Below w.heap.size w w'∧Grown w w':=by
  obtain ⟨q1,rfl⟩:∃ q:Nat,p1=(q:Int):=⟨p1.toNat,by omega⟩
  exact ((f10 s hi q1 (by omega) xs2 hx2)).calls3 w (RVs_cons.2 ⟨_,_,rfl,r0,RVs_cons.2 ⟨_,_,rfl,RV_lit.2 ⟨rfl,by simp only [Go.Am.VR]⟩,RVs_cons.2 ⟨_,_,rfl,r2,RVs_nil.2 rfl⟩⟩⟩)
set_option maxRecDepth 100000 in
theorem lifted (os:Os) (started:os.Started) (H:Type) (enc:TypeId×Value→H) :
    ReturnsInHanded {} Tryz.checked os 10 .any (Rows.fineTurnedSpec.pre6 enc Tryz.prog Tryz.f10 Rows.fineTurnedRow.domain false) (Rows.fineTurnedSpec.post enc Tryz.prog Tryz.f10 false true false false):=by
  refine returnsInHanded_of_change (C:=Tryz.checked) own started (by kernel_rfl) Tryz.func10
    (ChangeSpec.witness6 (enc:=enc) (C:=Tryz.checked) false ⟨#[],#[.agg #[.slice none 0 0,.int .i64 0,.slice none 0 0],.int .u8 0,.slice none 0 0],[]⟩ 8 (by kernel_rfl) (by kernel_rfl) (by kernel_rfl) (by kernel_rfl)) ?_
  intro W base args ds gs before hval0 hW hcnd _
  have hval:∀ (j:Nat) t v,Tryz.f10.params[j]?=some t→args[j]?=some v→Value.okWide Tryz.prog W .any base t v:=hval0
  have hW':=hW
  have hlt:∀ x∈before,x.block < W.heap.size:=fun x hx=>by simpa using hW.lt x hx
  obtain ⟨p,q,hA0,hV,rfl,hfz,hnd⟩:=hW
  have hA:DataW.TrodAll enc Tryz.prog W 0 (fun _=>true) true Tryz.f10.params.toList args.toList ds p:=hA0
  have hAk:=hA
  obtain ⟨rfl,rfl⟩:=trodVars_none hV
  rw [Tryz.params10] at hA hval
  obtain ⟨v0,v1,v2,e0,e1,e2,r0,r1,r2,rfl,rfl,rfl,t0,t1,t2⟩:=trodAll_three hA
  obtain ⟨s,hi,g0⟩:=trod_fines (hval 0 25 v0 rfl rfl) t0
  obtain ⟨n1,rfl,h01,h11⟩:=okWide_has Tryz.underlying5 (hval 1 5 v1 rfl rfl)
  obtain ⟨xs2,hx2,g2⟩:=trod_u16 (hval 2 42 v2 rfl rfl) t2
  clear hA0 hval0
  simp only [List.append_nil] at hW' hlt
  refine (walk s hi n1 h01 (Int.lt_of_le_of_lt h11 (by decide)) xs2 hx2 v0 v2 W g0 g2 ).mono fun e W' ⟨he,hb,hg⟩=>?_
  subst he
  exact ⟨_,rfl,post_of_same (pa:=r0++r1++r2) (pv:=[]) hW' (fun _ _ _=>(trodAll_cons_mk (shut_bool Tryz.underlying4 _) trodAll_mk0)) (fun sp hs=>trodAll_stays laid hb (by kernel_rfl) hAk hlt hs) (fun _ _=>rfl) (by simp)
    (hg.frame _) hg.2.1 (ok_one (by kernel_rfl) rfl (okWide_bool_mk Tryz.underlying4 _))⟩
theorem over:Rows.fineTurnedRow.holds Tryz.pinned (OpenSpec.ofChange Rows.fineTurnedSpec) :=
  OpenClaim.holds_of_wide 10 Tryz.f10 rfl rfl rfl rfl rfl rfl rfl ⟨rfl,rfl,rfl,rfl,rfl⟩ rfl rfl rfl rfl rfl (by kernel_rfl) Tryz.func10 (by kernel_rfl)
    (of_decide_eq_true (by kernel_rfl)) (by unfold Func.isWrapper;first | (rw [if_pos (by decide +kernel)];kernel_rfl) | (rw [if_neg (by decide +kernel)];exact ⟨rfl,rfl⟩))
    (fun os started H enc _=>lifted os started H enc)
theorem proved:Rows.FineTurnedSaid :=
  over
#print axioms proved
end Go.Proofs.YtfpihegkllffbaaGreat.fineTurned
