/- RestLooks returns true, for every input, in every world in which it is called. There is no condition. -/
import Derived.Test.YtabejoodkhlnaaaGreatRows
import Derived.Test.YtabejoodkhlnaaaGreatP21
import Derived.Test.YtabejoodkhlnaaaGreatP13
set_option linter.unusedVariables false
set_option linter.unusedSimpArgs false
namespace Go.Proofs.YtabejoodkhlnaaaGreat.restLooks
open Go.ChangeShapes Go.WideShapes Go.ChangeAt Go.RowKit Go.Pv
theorem own:ownKnob Tryz.prog.godebug=none:=by kernel_rfl
theorem laid:laidOutB Tryz.prog=true:=by kernel_rfl
theorem cells26:Tryz.prog.cellsOf 26=9:=by kernel_rfl
theorem walk (ns:List Int) (hn:ns.length=9) (p1:Int) (w:World) :
    Calls Tryz.prog 5 #[.agg (ns.map (Value.int .i64)).toArray,.int .i64 p1] w fun e w'=>e=.returned (.bool true)∧Below w.heap.size w w'∧Grown w w':=by
  match ns,hn with
  | [h, a0, b0, c0, d0, a1, b1, c1, d1], _ =>
    exact (f5 h a0 b0 c0 d0 a1 b1 c1 d1 p1).calls2 (fun s=>RVs_cons.2 ⟨_,_,rfl,RV_agg.2 ⟨_,rfl,RVs_ints s [h,a0,b0,c0,d0,a1,b1,c1,d1]⟩,RVs_cons.2 ⟨_,_,rfl,RV_I s p1,RVs_nil.2 rfl⟩⟩) w
set_option maxRecDepth 100000 in
theorem lifted (os:Os) (started:os.Started) (H:Type) (enc:TypeId×Value→H) :
    ReturnsInHanded {} Tryz.checked os 5 .any (Rows.restLooksSpec.pre6 enc Tryz.prog Tryz.f5 Rows.restLooksRow.domain false) (Rows.restLooksSpec.post enc Tryz.prog Tryz.f5 false true false false):=by
  refine returnsInHanded_of_change (C:=Tryz.checked) own started (by kernel_rfl) Tryz.func5
    (ChangeSpec.witness6 (enc:=enc) (C:=Tryz.checked) false ⟨#[],#[.agg #[.int .i64 0,.int .i64 0,.int .i64 0,.int .i64 0,.int .i64 0,.int .i64 0,.int .i64 0,.int .i64 0,.int .i64 0],.int .i64 0],[]⟩ 8 (by kernel_rfl) (by kernel_rfl) (by kernel_rfl) (by kernel_rfl)) ?_
  intro W base args ds gs before hval0 hW hcnd _
  have hval:∀ (j:Nat) t v,Tryz.f5.params[j]?=some t→args[j]?=some v→Value.okWide Tryz.prog W .any base t v:=hval0
  have hW':=hW
  have hlt:∀ x∈before,x.block < W.heap.size:=fun x hx=>by simpa using hW.lt x hx
  obtain ⟨p,q,hA0,hV,rfl,hfz,hnd⟩:=hW
  have hA:DataW.TrodAll enc Tryz.prog W 0 (fun _=>true) true Tryz.f5.params.toList args.toList ds p:=hA0
  have hAk:=hA
  obtain ⟨rfl,rfl⟩:=trodVars_none hV
  rw [Tryz.params5] at hA hval
  obtain ⟨v0,v1,e0,e1,r0,r1,rfl,rfl,rfl,_,_⟩:=trodAll_two hA
  obtain ⟨ns,rfl,hn⟩:=okWide_ints Tryz.underlying26 (ts:=[3,3,3,3,3,3,3,3,3]) (by kernel_rfl) (fun u hu=>by simp at hu;subst hu;exact Tryz.underlying3) (hval 0 26 v0 rfl rfl)
  obtain ⟨n1,rfl,hn01,hn11⟩:=okWide_has Tryz.underlying3 (hval 1 3 v1 rfl rfl)
  clear hA0 hval0
  simp only [List.append_nil] at hW' hlt
  refine (walk ns (hn.trans cells26) n1 W).mono fun e W' ⟨he,hb,hg⟩=>?_
  subst he
  exact ⟨_,rfl,post_of_same (pa:=r0++r1) (pv:=[]) hW' (fun _ _ _=>(trodAll_cons_mk (shut_bool Tryz.underlying4 _) trodAll_mk0)) (fun sp hs=>trodAll_stays laid hb (by kernel_rfl) hAk hlt hs) (fun _ _=>rfl) (by simp)
    (hg.frame _) hg.2.1 (ok_one (by kernel_rfl) rfl (okWide_bool_mk Tryz.underlying4 _))⟩
theorem over:Rows.restLooksRow.holds Tryz.pinned (OpenSpec.ofChange Rows.restLooksSpec) :=
  OpenClaim.holds_of_wide 5 Tryz.f5 rfl rfl rfl rfl rfl rfl rfl ⟨rfl,rfl,rfl,rfl,rfl⟩ rfl rfl rfl rfl rfl (by kernel_rfl) Tryz.func5 (by kernel_rfl)
    (of_decide_eq_true (by kernel_rfl)) (by unfold Func.isWrapper;first | (rw [if_pos (by decide +kernel)];kernel_rfl) | (rw [if_neg (by decide +kernel)];exact ⟨rfl,rfl⟩))
    (fun os started H enc _=>lifted os started H enc)
theorem proved:Rows.RestLooksSaid :=
  over
#print axioms proved
end Go.Proofs.YtabejoodkhlnaaaGreat.restLooks
