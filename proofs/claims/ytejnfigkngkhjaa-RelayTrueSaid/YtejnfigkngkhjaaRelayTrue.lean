/- RelayTrue returns true, for every input, in every world in which it is called. There is no condition. -/
import Derived.Test.YtejnfigkngkhjaaRows
import Derived.Test.YtejnfigkngkhjaaP20
import Derived.Test.YtejnfigkngkhjaaP14
set_option linter.unusedVariables false
set_option linter.unusedSimpArgs false
namespace Go.Proofs.Ytejnfigkngkhjaa.relayTrue
open Go.ChangeShapes Go.WideShapes Go.ChangeAt Go.RowKit Go.Pv
theorem own:ownKnob Try.prog.godebug=none:=by kernel_rfl
theorem laid:laidOutB Try.prog=true:=by kernel_rfl
theorem nats (xs:List Int) (h:∀ n∈xs,IntKind.u16.min≤n∧n≤IntKind.u16.max):∃ ns:List Nat,(xs.map fun n=>(PV.lit (.int .u16 n)))=ns.map U16∧∀ x∈ns,x < 65536:=by
  refine ⟨xs.map Int.toNat,?_,?_⟩
  · rw [List.map_map]
    refine List.map_congr_left fun n hn=>?_
    have h0:0≤n:=(h n hn).1
    show PV.lit (.int .u16 n)=PV.lit (.int .u16 ((n.toNat:Nat):Int))
    rw [Int.toNat_of_nonneg h0]
  · intro x hx
    obtain ⟨n,hn,rfl⟩:=List.mem_map.1 hx
    have h0:0≤n:=(h n hn).1
    have h1:n≤65535:=(h n hn).2
    omega
theorem walk (xs:List Int) (hx:∀ n∈xs,IntKind.u16.min≤n∧n≤IntKind.u16.max) (v0:Value) (w:World) (h1:RV (St.froz w) (.sl .no (xs.map fun n=>(PV.lit (.int .u16 n)))) v0) :
    Calls Try.prog 6 #[v0] w fun e w'=>e=.returned (.bool true)∧Below w.heap.size w w'∧Grown w w':=by
  obtain ⟨ns,hns,hlt⟩:=nats xs hx
  rw [hns] at h1
  exact (f6 ns hlt).calls3 w (RVs_cons.2 ⟨_,_,rfl,h1,RVs_nil.2 rfl⟩)
set_option maxRecDepth 100000 in
theorem lifted (os:Os) (started:os.Started) (H:Type) (enc:TypeId×Value→H) :
    ReturnsInHanded {} Try.checked os 6 .any (Rows.relayTrueSpec.pre6 enc Try.prog Try.f6 Rows.relayTrueRow.domain false) (Rows.relayTrueSpec.post enc Try.prog Try.f6 false true false false):=by
  refine returnsInHanded_of_change (C:=Try.checked) own started (by kernel_rfl) Try.func6
    (ChangeSpec.witness6 (enc:=enc) (C:=Try.checked) false ⟨#[],#[.slice none 0 0],[]⟩ 8 (by kernel_rfl) (by kernel_rfl) (by kernel_rfl) (by kernel_rfl)) ?_
  intro W base args ds gs before hval0 hW hcnd _
  have hval:∀ (j:Nat) t v,Try.f6.params[j]?=some t→args[j]?=some v→Value.okWide Try.prog W .any base t v:=hval0
  have hW':=hW
  have hlt:∀ x∈before,x.block < W.heap.size:=fun x hx=>by simpa using hW.lt x hx
  obtain ⟨p,q,hA0,hV,rfl,hfz,hnd⟩:=hW
  have hA:DataW.TrodAll enc Try.prog W 0 (fun _=>true) true Try.f6.params.toList args.toList ds p:=hA0
  have hAk:=hA
  obtain ⟨rfl,rfl⟩:=trodVars_none hV
  rw [Try.params6] at hA hval
  obtain ⟨v0,e0,rfl,rfl,t0⟩:=trodAll_one hA
  obtain ⟨xs,hxs,_,hxb⟩:=trod_ints Try.underlying38 Try.underlying50 (by kernel_rfl) (hval 0 38 v0 rfl rfl) t0
  clear hA0 hval0
  simp only [List.append_nil] at hW' hlt
  refine (walk xs hxb v0 W hxs).mono fun e W' ⟨he,hb,hg⟩=>?_
  subst he
  exact ⟨_,rfl,post_of_same (pa:=p) (pv:=[]) hW' (fun _ _ _=>(trodAll_cons_mk (shut_bool Try.underlying4 _) trodAll_mk0)) (fun sp hs=>trodAll_stays laid hb (by kernel_rfl) hAk hlt hs) (fun _ _=>rfl) (by simp)
    (hg.frame _) hg.2.1 (ok_one (by kernel_rfl) rfl (okWide_bool_mk Try.underlying4 _))⟩
theorem over:Rows.relayTrueRow.holds Try.pinned (OpenSpec.ofChange Rows.relayTrueSpec) :=
  OpenClaim.holds_of_wide 6 Try.f6 rfl rfl rfl rfl rfl rfl rfl ⟨rfl,rfl,rfl,rfl,rfl⟩ rfl rfl rfl rfl rfl (by kernel_rfl) Try.func6 (by kernel_rfl)
    (of_decide_eq_true (by kernel_rfl)) (by unfold Func.isWrapper;first | (rw [if_pos (by decide +kernel)];kernel_rfl) | (rw [if_neg (by decide +kernel)];exact ⟨rfl,rfl⟩))
    (fun os started H enc _=>lifted os started H enc)
theorem proved:Rows.RelayTrueSaid :=
  over
#print axioms proved
end Go.Proofs.Ytejnfigkngkhjaa.relayTrue
