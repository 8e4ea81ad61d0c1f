/- Parts of the proof: R100 -/
import Derived.Test.YtejnfigkngkhjaaP16
import Derived.Test.YtejnfigkngkhjaaP21
set_option linter.unusedVariables false
set_option linter.unusedSimpArgs false
namespace Go.Pv
open Go.Proofs Go.Am
set_option maxRecDepth 10000
set_option linter.unusedSectionVars false
section
variable {H:Type} {enc:TypeId×Value→H} {w:World} {base:Nat} {held:Bool}
theorem reads_int:Reads enc Try.prog w base (fun _=>true) held 3 fun ps=>∃ n:Int,ps=[I n] :=
  (Reads.int Try.underlying3).mono fun ps ⟨n,h,_⟩=>⟨n,h⟩
theorem reads_span:Reads enc Try.prog w base (fun _=>true) held 28 fun ps=>∃ a b:Int,ps=[I a,I b] :=
  (Reads.struct (Qs:=[fun ps=>∃ n:Int,ps=[I n],fun ps=>∃ n:Int,ps=[I n]]) Try.underlying28 (by kernel_rfl) ⟨reads_int,reads_int,trivial⟩).mono fun ps h=>by
    obtain ⟨_,_,rfl,⟨a,rfl⟩,_,_,rfl,⟨b,rfl⟩,rfl⟩:=h
    exact ⟨a,b,rfl⟩
theorem reads_spans:Reads enc Try.prog w base (fun _=>true) held 44 fun ps=>∃ a b c d:Int,ps=[I a,I b,I c,I d] :=
  (Reads.array2 Try.underlying44 (by kernel_rfl) reads_span).mono fun ps h=>by
    obtain ⟨_,_,rfl,⟨a,b,rfl⟩,_,_,rfl,⟨c,d,rfl⟩,rfl⟩:=h
    exact ⟨a,b,c,d,rfl⟩
theorem reads_stint:Reads enc Try.prog w base (fun _=>true) held 46 fun ps=>∃ s:Sti,ps=s.v.cells :=
  (Reads.struct (Qs:=[fun ps=>∃ n:Int,ps=[I n],fun ps=>∃ a b c d:Int,ps=[I a,I b,I c,I d],fun ps=>∃ a b c d:Int,ps=[I a,I b,I c,I d]]) Try.underlying46 (by kernel_rfl) ⟨reads_int,reads_spans,reads_spans,trivial⟩).mono fun ps h=>by
    obtain ⟨_,_,rfl,⟨r,rfl⟩,_,_,rfl,⟨a,b,c,d,rfl⟩,_,_,rfl,⟨e,f,g,h,rfl⟩,rfl⟩:=h
    exact ⟨⟨r,a,b,c,d,e,f,g,h⟩,rfl⟩
theorem cells_stint:Try.prog.cellsOf 46=9:=by kernel_rfl
theorem reads_stints:Reads enc Try.prog w base (fun _=>true) held 22 fun ps=>∃ S:List Sti,ps=[.sl .no (S.map Sti.v)] :=
  (Reads.slice (Q:=fun _=>True) (f:=Sti.v) (fun _=>rfl) Try.underlying22 (by rw [cells_stint];decide) (reads_stint.mono fun ps ⟨s,h⟩=>⟨s,h,by rw [cells_stint];rfl,trivial⟩)).mono fun ps ⟨S,h,_⟩=>⟨S,h⟩
theorem reads_relays:Reads enc Try.prog w base (fun _=>true) held 24 fun ps=>∃ (rest:Int) (S:List Sti),ps=[I rest,.sl .no (S.map Sti.v)] :=
  (Reads.struct (Qs:=[fun ps=>∃ n:Int,ps=[I n],fun ps=>∃ S:List Sti,ps=[.sl .no (S.map Sti.v)]]) Try.underlying24 (by kernel_rfl) ⟨reads_int,reads_stints,trivial⟩).mono fun ps h=>by
    obtain ⟨_,_,rfl,⟨r,rfl⟩,_,_,rfl,⟨S,rfl⟩,rfl⟩:=h
    exact ⟨r,S,rfl⟩
theorem trod_relays {v:Value} {d:DataW H} {ps:List MemPlace} {r:Reach} {b:Nat} (hv:Value.okWide Try.prog w r b 24 v) (h:DataW.Trod enc Try.prog w base (fun _=>true) held 24 v d ps):∃ rest S,RV (St.froz w) (relV rest .no S) v:=by
  obtain ⟨l,h1,rest,S,rfl⟩:=trod_agg Try.underlying24 hv h reads_relays
  exact ⟨rest,S,h1⟩
end
end Go.Pv
