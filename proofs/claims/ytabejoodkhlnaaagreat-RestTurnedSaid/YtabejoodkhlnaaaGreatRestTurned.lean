/- RestTurned returns true, for every input, in every world in which it is called. There is no condition. -/
import Derived.Test.YtabejoodkhlnaaaGreatRows
import Derived.Test.YtabejoodkhlnaaaGreatP20
import Derived.Test.YtabejoodkhlnaaaGreatP13
set_option linter.unusedVariables false
set_option linter.unusedSimpArgs false
namespace Go.Proofs.YtabejoodkhlnaaaGreat.restTurned
open Go.ChangeShapes Go.WideShapes Go.ChangeAt Go.RowKit Go.Pv
theorem own:ownKnob Tryz.prog.godebug=none:=by kernel_rfl
theorem laid:laidOutB Tryz.prog=true:=by kernel_rfl
theorem cells26:Tryz.prog.cellsOf 26=9:=by kernel_rfl
theorem walk (ns:List Int) (hn:ns.length=9) (p1:Int) (h01:0≤p1) (h11:p1 < 65536) (p2:Int) (h02:0≤p2) (h12:p2 < 256) (w:World) :
    Calls Tryz.prog 12 #[.agg (ns.map (Value.int .i64)).toArray,.int .u16 p1,.int .u8 p2] w fun e w'=>e=.returned (.bool true)∧Below w.heap.size w w'∧Grown w w':=by
  match ns,hn with
  | [h, a0, b0, c0, d0, a1, b1, c1, d1], _ =>
    obtain ⟨q1,rfl⟩:∃ q:Nat,p1=(q:Int):=⟨p1.toNat,by omega⟩
    obtain ⟨q2,rfl⟩:∃ q:Nat,p2=(q:Int):=⟨p2.toNat,by omega⟩
    exact (f12 h a0 b0 c0 d0 a1 b1 c1 d1 q1 q2 (by omega) (by omega)).calls2 (fun s=>RVs_cons.2 ⟨_,_,rfl,RV_agg.2 ⟨_,rfl,RVs_ints s [h,a0,b0,c0,d0,a1,b1,c1,d1]⟩,RVs_cons.2 ⟨_,_,rfl,RV_lit.2 ⟨rfl,by simp only [Go.Am.VR]⟩,RVs_cons.2 ⟨_,_,rfl,RV_lit.2 ⟨rfl,by simp only [Go.Am.VR]⟩,RVs_nil.2 rfl⟩⟩⟩) w
set_option maxRecDepth 100000 in
theorem lifted (os:Os) (started:os.Started) (H:Type) (enc:TypeId×Value→H) :
    ReturnsInHanded {} Tryz.checked os 12 .any (Rows.restTurnedSpec.pre6 enc Tryz.prog Tryz.f12 Rows.restTurnedRow.domain false) (Rows.restTurnedSpec.post enc Tryz.prog Tryz.f12 false true false false):=by
  refine returnsInHanded_of_change (C:=Tryz.checked) own started (by kernel_rfl) Tryz.func12
    (ChangeSpec.witness6 (enc:=enc) (C:=Tryz.checked) false ⟨#[],#[.agg #[.int .i64 0,.int .i64 0,.int .i64 0,.int .i64 0,.int .i64 0,.int .i64 0,.int .i64 0,.int .i64 0,.int .i64 0],.int .u16 0,.int .u8 0],[]⟩ 8 (by kernel_rfl) (by kernel_rfl) (by kernel_rfl) (by kernel_rfl)) ?_
  intro W base args ds gs before hval0 hW hcnd _
  have hval:∀ (j:Nat) t v,Tryz.f12.params[j]?=some t→args[j]?=some v→Value.okWide Tryz.prog W .any base t v:=hval0
  have hW':=hW
  have hlt:∀ x∈before,x.block < W.heap.size:=fun x hx=>by simpa using hW.lt x hx
  obtain ⟨p,q,hA0,hV,rfl,hfz,hnd⟩:=hW
  have hA:DataW.TrodAll enc Tryz.prog W 0 (fun _=>true) true Tryz.f12.params.toList args.toList ds p:=hA0
  have hAk:=hA
  obtain ⟨rfl,rfl⟩:=trodVars_none hV
  rw [Tryz.params12] at hA hval
  obtain ⟨v0,v1,v2,e0,e1,e2,r0,r1,r2,rfl,rfl,rfl,_,_,_⟩:=trodAll_three hA
  obtain ⟨ns,rfl,hn⟩:=okWide_ints Tryz.underlying26 (ts:=[3,3,3,3,3,3,3,3,3]) (by kernel_rfl) (fun u hu=>by simp at hu;subst hu;exact Tryz.underlying3) (hval 0 26 v0 rfl rfl)
  obtain ⟨n1,rfl,hn01,hn11⟩:=okWide_has Tryz.underlying45 (hval 1 45 v1 rfl rfl)
  obtain ⟨n2,rfl,hn02,hn12⟩:=okWide_has Tryz.underlying5 (hval 2 5 v2 rfl rfl)
  clear hA0 hval0
  simp only [List.append_nil] at hW' hlt
  refine (walk ns (hn.trans cells26) n1 hn01 (Int.lt_of_le_of_lt hn11 (by decide)) n2 hn02 (Int.lt_of_le_of_lt hn12 (by decide)) W).mono fun e W' ⟨he,hb,hg⟩=>?_
  subst he
  exact ⟨_,rfl,post_of_same (pa:=r0++r1++r2) (pv:=[]) hW' (fun _ _ _=>(trodAll_cons_mk (shut_bool Tryz.underlying4 _) trodAll_mk0)) (fun sp hs=>trodAll_stays laid hb (by kernel_rfl) hAk hlt hs) (fun _ _=>rfl) (by simp)
    (hg.frame _) hg.2.1 (ok_one (by kernel_rfl) rfl (okWide_bool_mk Tryz.underlying4 _))⟩
theorem over:Rows.restTurnedRow.holds Tryz.pinned (OpenSpec.ofChange Rows.restTurnedSpec) :=
  OpenClaim.holds_of_wide 12 Tryz.f12 rfl rfl rfl rfl rfl rfl rfl ⟨rfl,rfl,rfl,rfl,rfl⟩ rfl rfl rfl rfl rfl (by kernel_rfl) Tryz.func12 (by kernel_rfl)
    (of_decide_eq_true (by kernel_rfl)) (by unfold Func.isWrapper;first | (rw [if_pos (by decide +kernel)];kernel_rfl) | (rw [if_neg (by decide +kernel)];exact ⟨rfl,rfl⟩))
    (fun os started H enc _=>lifted os started H enc)
theorem proved:Rows.RestTurnedSaid :=
  over
#print axioms proved
end Go.Proofs.YtabejoodkhlnaaaGreat.restTurned
