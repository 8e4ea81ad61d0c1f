/- Parts of the proof: M30 -/
import Derived.Test.YtgpcfkpenkaipaaP20
import Derived.Test.YtgpcfkpenkaipaaP12
set_option linter.unusedVariables false
set_option linter.unusedSimpArgs false
set_option linter.unusedSectionVars false
namespace Go.Pv
open Go.Proofs Go.Am
set_option maxRecDepth 10000
section
variable {H:Type} {enc:TypeId×Value→H} {w:World} {base:Nat} {held:Bool}
theorem reads_int:Reads enc Try.prog w base (fun _=>true) held 3 fun ps=>∃ n:Int,ps=[I n]∧(-9223372036854775808≤n∧n≤9223372036854775807) :=
  (Reads.int Try.underlying3).mono fun ps ⟨n,h,h1,h2⟩=>⟨n,h,Int.le_trans (by decide) h1,Int.le_trans h2 (by decide)⟩
theorem reads_span:Reads enc Try.prog w base (fun _=>true) held 46 fun ps=>∃ a b:Int,ps=[I a,I b] :=
  (Reads.struct (Qs:=[fun ps=>∃ n:Int,ps=[I n]∧_,fun ps=>∃ n:Int,ps=[I n]∧_]) Try.underlying46 (by kernel_rfl) ⟨reads_int,reads_int,trivial⟩).mono fun ps h=>by
    obtain ⟨_,_,rfl,⟨a,rfl,_⟩,_,_,rfl,⟨b,rfl,_⟩,rfl⟩:=h
    exact ⟨a,b,rfl⟩
theorem reads_job:Reads enc Try.prog w base (fun _=>true) held 48 fun ps=>∃ j:Job,ps=j.v.cells∧(-9223372036854775808≤j.af∧j.af≤9223372036854775807) :=
  (Reads.struct (Qs:=[fun ps=>∃ n:Int,ps=[I n]∧_,fun ps=>∃ a b:Int,ps=[I a,I b],fun ps=>∃ n:Int,ps=[I n]∧_,fun ps=>∃ n:Int,ps=[I n]∧_,fun ps=>∃ n:Int,ps=[I n]∧_,fun ps=>∃ n:Int,ps=[I n]∧_,fun ps=>∃ n:Int,ps=[I n]∧_]) Try.underlying48 (by kernel_rfl) ⟨reads_int,reads_span,reads_int,reads_int,reads_int,reads_int,reads_int,trivial⟩).mono fun ps h=>by
    obtain ⟨_,_,rfl,⟨a,rfl,_⟩,_,_,rfl,⟨b,c,rfl⟩,_,_,rfl,⟨d,rfl,_⟩,_,_,rfl,⟨e,rfl,_⟩,_,_,rfl,⟨f,rfl,_⟩,_,_,rfl,⟨g,rfl,_⟩,_,_,rfl,⟨h,rfl,hh⟩,rfl⟩:=h
    exact ⟨⟨a,b,c,d,e,f,g,h⟩,rfl,hh⟩
theorem cells_job:Try.prog.cellsOf 48=8:=by kernel_rfl
theorem cells_int:Try.prog.cellsOf 3=1:=by kernel_rfl
theorem reads_jobs:Reads enc Try.prog w base (fun _=>true) held 23 fun ps=>∃ S:List Job,ps=[.sl .no (S.map Job.v)]∧∀ j∈S,-9223372036854775808≤j.af∧j.af≤9223372036854775807 :=
  (Reads.slice (Q:=fun j:Job=>-9223372036854775808≤j.af∧j.af≤9223372036854775807) (f:=Job.v) (fun _=>rfl) Try.underlying23 (by rw [cells_job];decide) (reads_job.mono fun ps ⟨s,h,h'⟩=>⟨s,h,by rw [cells_job];rfl,h'⟩)).mono fun ps ⟨S,h,_,h'⟩=>⟨S,h,h'⟩
theorem reads_ints:Reads enc Try.prog w base (fun _=>true) held 22 fun ps=>∃ S:List Int,ps=[.sl .no (S.map I)] :=
  (Reads.slice (Q:=fun _=>True) (f:=I) (fun _=>rfl) Try.underlying22 (by rw [cells_int];decide) (reads_int.mono fun ps ⟨s,h,_⟩=>⟨s,h,by rw [cells_int];rfl,trivial⟩)).mono fun ps ⟨S,h,_⟩=>⟨S,h⟩
theorem reads_mend:Reads enc Try.prog w base (fun _=>true) held 25 fun ps=>∃ s:Shp,s.i64∧ps=[.sl .no (s.su.map I),.sl .no (s.jo.map Job.v)] :=
  (Reads.struct (Qs:=[fun ps=>∃ S:List Int,ps=[.sl .no (S.map I)],fun ps=>∃ S:List Job,ps=[.sl .no (S.map Job.v)]∧_]) Try.underlying25 (by kernel_rfl) ⟨reads_ints,reads_jobs,trivial⟩).mono fun ps h=>by
    obtain ⟨_,_,rfl,⟨su,rfl⟩,_,_,rfl,⟨jo,rfl,hj⟩,rfl⟩:=h
    exact ⟨⟨su,jo⟩,fun i hi=>hj _ (List.getElem_mem hi),rfl⟩
theorem trod_mend {v:Value} {d:DataW H} {ps:List MemPlace} {r:Reach} {b:Nat} (hv:Value.okWide Try.prog w r b 25 v) (h:DataW.Trod enc Try.prog w base (fun _=>true) held 25 v d ps):∃ s:Shp,s.i64∧RV (St.froz w) (s.v .no .no) v:=by
  obtain ⟨l,h1,s,hi,rfl⟩:=trod_agg Try.underlying25 hv h reads_mend
  exact ⟨s,hi,h1⟩
structure Shp.hnd (s:Shp):Prop where
  i:s.i64
  su:s.su.length≤9223372036854775807
  jo:s.jo.length≤9223372036854775807
end
end Go.Pv
