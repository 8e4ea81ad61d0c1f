/- Parts of the proof: K1, K2 -/
import Derived.Test.YtkjffpokogbjjaaGreatP7
import Derived.Test.YtkjffpokogbjjaaGreatChecked
set_option linter.unusedVariables false
set_option linter.unusedSimpArgs false
set_option linter.unusedSectionVars false
namespace Go.Am
open Go.Proofs
def setAllK:List Nat→T Unit→T Unit
  | [],t=>t
  | n::l,t=>setAllK l (t.set n ())
theorem setAllK_get:∀ (l:List Nat) (t:T Unit) (x:Nat),(setAllK l t).get x=some ()→x∈l∨t.get x=some ()
  | [],_,_,h=>.inr h
  | n :: l, t, x, h => by
    rcases setAllK_get l _ x h with h1 | h1
    · exact .inl (List.mem_cons_of_mem _ h1)
    · rw [T.get_set] at h1
      split at h1
      · next e=>subst e;exact .inl (List.mem_cons_self ..)
      · exact .inr h1
def eqTypesK:List Nat:=[7,8,22,23,31,32,34,35,43,44,45,46,52,54,55,57,58,59,60,63,64,65,66,67,72,73,89,90,92,93,101,102,107,108,128,129,135,136,150,151,164,165,166,167,168,169,181,182,192]
def eqsK:Eqs:={ eqs:=setAllK eqTypesK .nil }
theorem eqsK_ok:eqsK.Ok Tryz.prog:=by
  have h:eqTypesK.all (fun t=>!(Tryz.prog.eqGuardType Tryz.prog.depth t) && !(Tryz.prog.stoodInHeld t))=true:=by kernel_rfl
  refine ⟨fun t ht=>?_⟩
  rcases setAllK_get _ _ _ ht with h1 | h1
  · have := List.all_eq_true.1 h t h1
    simp only [Bool.and_eq_true,Bool.not_eq_true'] at this
    exact this
  · rw [T.get_nil] at h1;cases h1
theorem progK_ok:(AP.of Tryz.prog).Ok Tryz.prog:=AP.of_ok _ (by kernel_rfl)
theorem progK_follows:Tryz.prog.follows .mixedOrders=true:=by kernel_rfl
def slowK:T Unit:=setAllK [90,81,70,67,64,63,55,49,41,39,30,69,80] .nil
def isTrueK:KR→Bool
  | some (.bool true,_)=>true
  | _=>false
theorem isTrueK_ok {r:KR} (h:isTrueK r=true):∃ H,r=some (.bool true,H):=by
  unfold isTrueK at h
  split at h
  · exact ⟨_,rfl⟩
  · cases h
def hasBodyK (A:AP) (f:FuncId):Bool :=
  match A.funcs.get f with
  | some fn=>fn.body.isSome
  | none=>false
theorem hasBodyK_ok {A:AP} {f:FuncId} (h:hasBodyK A f=true):∃ fn c,A.funcs.get f=some fn∧fn.body=some c:=by
  unfold hasBodyK at h
  split at h
  · next fn hfn =>
    obtain ⟨c,hc⟩:=Option.isSome_iff_exists.1 h
    exact ⟨fn,c,hfn,hc⟩
  · cases h
theorem TabOk.setL {A:AP} {P:Program} {tb:T (List Ent)} (ht:TabOk A P tb) {f:FuncId} {es:List Ent} (hb:hasBodyK A f=true) (h:∀ e,e∈es→e.f=f∧EntOk A P e):TabOk A P (tb.set f es):=by
  obtain ⟨fn,c,hfn,hc⟩:=hasBodyK_ok hb
  exact ht.set hfn hc h
theorem ents_nil {A:AP} {P:Program} {f:FuncId}:∀ e,e∈([]:List Ent)→e.f=f∧EntOk A P e:=fun _ h=>by cases h
theorem ents_cons {A:AP} {P:Program} {f:FuncId} {e:Ent} {es:List Ent} (h1:e.f=f) (h2:EntOk A P e) (h3:∀ e,e∈es→e.f=f∧EntOk A P e):∀ x,x∈e::es→x.f=f∧EntOk A P x:=by
  intro x hx
  rcases List.mem_cons.1 hx with hx | hx
  · subst hx;exact ⟨h1,h2⟩
  · exact h3 x hx
def ek79x1:Ent:={ f:=79,args:=[.sl 0 0 2 (.ex 4)],bs:=[.cells 3 [.int .i64 (3),.int .i64 (1),.int .i64 (2),.int .i64 (0)]],v:=.int .i64 (10),next:=1,new:=[] }
def ek5x2:Ent:={ f:=5,args:=[.agg [.int .i64 (4),.sl 0 0 3 (.ex 3),.sl 1 0 2 (.ex 2),.sl 2 0 3 (.ex 3)],.int .i64 (1)],bs:=[.cells 3 [.int .i64 (5),.int .i64 (3),.int .i64 (2)],.cells 58 [.sl 3 0 2 (.ex 2),.sl 4 0 1 (.ex 1),.bool false,.sl 5 0 1 (.ex 1),.sl 6 0 1 (.ex 1),.bool true],.cells 60 [.int .i64 (0),.int .i64 (1),.int .i64 (10),.int .i64 (0),.int .i64 (0),.int .i64 (0),.int .i64 (0),.int .i64 (5),.int .i64 (0),.int .i64 (0),.int .i64 (1),.int .i64 (2),.int .i64 (7),.int .i64 (1),.int .i64 (0)],.cells 52 [.int .i64 (0),.int .i64 (1),.int .i64 (2),.int .i64 (3)],.cells 55 [.int .i64 (1),.int .i64 (1),.int .i64 (2)],.cells 52 [.int .i64 (3),.int .i64 (0)],.cells 55 [.int .i64 (0),.int .i64 (3),.int .i64 (3)]],v:=.tup [.agg [.int .i64 (0),.int .i64 (3)],.int .i64 (0)],next:=948,new:=[] }
def ek7x3:Ent:={ f:=7,args:=[.agg [.int .i64 (4),.sl 0 0 3 (.ex 3),.sl 1 0 2 (.ex 2),.sl 2 0 3 (.ex 3)],.int .i64 (2)],bs:=[.cells 3 [.int .i64 (5),.int .i64 (3),.int .i64 (2)],.cells 58 [.sl 3 0 2 (.ex 2),.sl 4 0 1 (.ex 1),.bool false,.sl 5 0 1 (.ex 1),.sl 6 0 1 (.ex 1),.bool true],.cells 60 [.int .i64 (0),.int .i64 (1),.int .i64 (10),.int .i64 (0),.int .i64 (0),.int .i64 (0),.int .i64 (0),.int .i64 (5),.int .i64 (0),.int .i64 (0),.int .i64 (1),.int .i64 (2),.int .i64 (7),.int .i64 (1),.int .i64 (0)],.cells 52 [.int .i64 (0),.int .i64 (1),.int .i64 (2),.int .i64 (3)],.cells 55 [.int .i64 (1),.int .i64 (1),.int .i64 (2)],.cells 52 [.int .i64 (3),.int .i64 (0)],.cells 55 [.int .i64 (0),.int .i64 (3),.int .i64 (3)]],v:=.tup [.agg [.int .i64 (6),.int .i64 (6)],.int .i64 (0)],next:=953,new:=[] }
def ek79x4:Ent:={ f:=79,args:=[.sl 0 0 4 (.ex 4)],bs:=[.cells 3 [.int .i64 (3),.int .i64 (1),.int .i64 (2),.int .i64 (0)]],v:=.int .i64 (15),next:=1,new:=[] }
def ek79x5:Ent:={ f:=79,args:=[.sl 0 0 1 (.ex 1)],bs:=[.cells 3 [.int .i64 (0)]],v:=.int .i64 (1),next:=1,new:=[] }
def ek7x6:Ent:={ f:=7,args:=[.agg [.int .i64 (4),.sl 0 0 3 (.ex 3),.sl 1 0 2 (.ex 2),.sl 2 0 3 (.ex 3)],.int .i64 (0)],bs:=[.cells 3 [.int .i64 (5),.int .i64 (3),.int .i64 (2)],.cells 58 [.sl 3 0 2 (.ex 2),.sl 4 0 1 (.ex 1),.bool false,.sl 5 0 1 (.ex 1),.sl 6 0 1 (.ex 1),.bool true],.cells 60 [.int .i64 (0),.int .i64 (1),.int .i64 (10),.int .i64 (0),.int .i64 (0),.int .i64 (0),.int .i64 (0),.int .i64 (5),.int .i64 (0),.int .i64 (0),.int .i64 (1),.int .i64 (2),.int .i64 (7),.int .i64 (1),.int .i64 (0)],.cells 52 [.int .i64 (0),.int .i64 (1),.int .i64 (2),.int .i64 (3)],.cells 55 [.int .i64 (1),.int .i64 (1),.int .i64 (2)],.cells 52 [.int .i64 (3),.int .i64 (0)],.cells 55 [.int .i64 (0),.int .i64 (3),.int .i64 (3)]],v:=.tup [.agg [.int .i64 (0),.int .i64 (10)],.int .i64 (0)],next:=952,new:=[] }
def ek8x7:Ent:={ f:=8,args:=[.agg [.int .i64 (4),.sl 0 0 3 (.ex 3),.sl 1 0 2 (.ex 2),.sl 2 0 3 (.ex 3)],.int .i64 (1)],bs:=[.cells 3 [.int .i64 (5),.int .i64 (3),.int .i64 (2)],.cells 58 [.sl 3 0 2 (.ex 2),.sl 4 0 1 (.ex 1),.bool false,.sl 5 0 1 (.ex 1),.sl 6 0 1 (.ex 1),.bool true],.cells 60 [.int .i64 (0),.int .i64 (1),.int .i64 (10),.int .i64 (0),.int .i64 (0),.int .i64 (0),.int .i64 (0),.int .i64 (5),.int .i64 (0),.int .i64 (0),.int .i64 (1),.int .i64 (2),.int .i64 (7),.int .i64 (1),.int .i64 (0)],.cells 52 [.int .i64 (0),.int .i64 (1),.int .i64 (2),.int .i64 (3)],.cells 55 [.int .i64 (1),.int .i64 (1),.int .i64 (2)],.cells 52 [.int .i64 (3),.int .i64 (0)],.cells 55 [.int .i64 (0),.int .i64 (3),.int .i64 (3)]],v:=.tup [.int .i64 (5),.int .i64 (0),.int .i64 (0)],next:=1404,new:=[] }
def ek79x8:Ent:={ f:=79,args:=[.sl 0 0 1 (.ex 4)],bs:=[.cells 3 [.int .i64 (2),.int .i64 (0),.int .i64 (1),.int .i64 (3)]],v:=.int .i64 (4),next:=1,new:=[] }
def ek79x9:Ent:={ f:=79,args:=[.sl 0 0 4 (.ex 4)],bs:=[.cells 3 [.int .i64 (2),.int .i64 (0),.int .i64 (1),.int .i64 (3)]],v:=.int .i64 (15),next:=1,new:=[] }
def ek9x10:Ent:={ f:=9,args:=[.agg [.int .i64 (4),.sl 0 0 3 (.ex 3),.sl 1 0 2 (.ex 2),.sl 2 0 3 (.ex 3)],.int .i64 (2)],bs:=[.cells 3 [.int .i64 (5),.int .i64 (3),.int .i64 (2)],.cells 58 [.sl 3 0 2 (.ex 2),.sl 4 0 1 (.ex 1),.bool false,.sl 5 0 1 (.ex 1),.sl 6 0 1 (.ex 1),.bool true],.cells 60 [.int .i64 (0),.int .i64 (1),.int .i64 (10),.int .i64 (0),.int .i64 (0),.int .i64 (0),.int .i64 (0),.int .i64 (5),.int .i64 (0),.int .i64 (0),.int .i64 (1),.int .i64 (2),.int .i64 (7),.int .i64 (1),.int .i64 (0)],.cells 52 [.int .i64 (0),.int .i64 (1),.int .i64 (2),.int .i64 (3)],.cells 55 [.int .i64 (1),.int .i64 (1),.int .i64 (2)],.cells 52 [.int .i64 (3),.int .i64 (0)],.cells 55 [.int .i64 (0),.int .i64 (3),.int .i64 (3)]],v:=.tup [.int .i64 (0),.int .i64 (3),.int .i64 (0)],next:=1359,new:=[] }
def ek5x11:Ent:={ f:=5,args:=[.agg [.int .i64 (4),.sl 0 0 3 (.ex 3),.sl 1 0 2 (.ex 2),.sl 2 0 3 (.ex 3)],.int .i64 (3)],bs:=[.cells 3 [.int .i64 (5),.int .i64 (3),.int .i64 (2)],.cells 58 [.sl 3 0 2 (.ex 2),.sl 4 0 1 (.ex 1),.bool false,.sl 5 0 1 (.ex 1),.sl 6 0 1 (.ex 1),.bool true],.cells 60 [.int .i64 (0),.int .i64 (1),.int .i64 (10),.int .i64 (0),.int .i64 (0),.int .i64 (0),.int .i64 (0),.int .i64 (5),.int .i64 (0),.int .i64 (0),.int .i64 (1),.int .i64 (2),.int .i64 (7),.int .i64 (1),.int .i64 (0)],.cells 52 [.int .i64 (0),.int .i64 (1),.int .i64 (2),.int .i64 (3)],.cells 55 [.int .i64 (1),.int .i64 (1),.int .i64 (2)],.cells 52 [.int .i64 (3),.int .i64 (0)],.cells 55 [.int .i64 (0),.int .i64 (3),.int .i64 (3)]],v:=.tup [.agg [.int .i64 (0),.int .i64 (3)],.int .i64 (0)],next:=948,new:=[] }
def ek9x12:Ent:={ f:=9,args:=[.agg [.int .i64 (4),.sl 0 0 3 (.ex 3),.sl 1 0 2 (.ex 2),.sl 2 0 3 (.ex 3)],.int .i64 (0)],bs:=[.cells 3 [.int .i64 (5),.int .i64 (3),.int .i64 (2)],.cells 58 [.sl 3 0 2 (.ex 2),.sl 4 0 1 (.ex 1),.bool false,.sl 5 0 1 (.ex 1),.sl 6 0 1 (.ex 1),.bool true],.cells 60 [.int .i64 (0),.int .i64 (1),.int .i64 (10),.int .i64 (0),.int .i64 (0),.int .i64 (0),.int .i64 (0),.int .i64 (5),.int .i64 (0),.int .i64 (0),.int .i64 (1),.int .i64 (2),.int .i64 (7),.int .i64 (1),.int .i64 (0)],.cells 52 [.int .i64 (0),.int .i64 (1),.int .i64 (2),.int .i64 (3)],.cells 55 [.int .i64 (1),.int .i64 (1),.int .i64 (2)],.cells 52 [.int .i64 (3),.int .i64 (0)],.cells 55 [.int .i64 (0),.int .i64 (3),.int .i64 (3)]],v:=.tup [.int .i64 (0),.int .i64 (0),.int .i64 (0)],next:=1359,new:=[] }
def ek8x13:Ent:={ f:=8,args:=[.agg [.int .i64 (4),.sl 0 0 3 (.ex 3),.sl 1 0 2 (.ex 2),.sl 2 0 3 (.ex 3)],.int .i64 (2)],bs:=[.cells 3 [.int .i64 (5),.int .i64 (3),.int .i64 (2)],.cells 58 [.sl 3 0 2 (.ex 2),.sl 4 0 1 (.ex 1),.bool false,.sl 5 0 1 (.ex 1),.sl 6 0 1 (.ex 1),.bool true],.cells 60 [.int .i64 (0),.int .i64 (1),.int .i64 (10),.int .i64 (0),.int .i64 (0),.int .i64 (0),.int .i64 (0),.int .i64 (5),.int .i64 (0),.int .i64 (0),.int .i64 (1),.int .i64 (2),.int .i64 (7),.int .i64 (1),.int .i64 (0)],.cells 52 [.int .i64 (0),.int .i64 (1),.int .i64 (2),.int .i64 (3)],.cells 55 [.int .i64 (1),.int .i64 (1),.int .i64 (2)],.cells 52 [.int .i64 (3),.int .i64 (0)],.cells 55 [.int .i64 (0),.int .i64 (3),.int .i64 (3)]],v:=.tup [.int .i64 (14),.int .i64 (0),.int .i64 (0)],next:=1408,new:=[] }
def ek78x14:Ent:={ f:=78,args:=[.int .i64 (0),.int .i64 (10),.int .i64 (0)],bs:=[],v:=.agg [.int .i64 (0),.int .i64 (0),.int .i64 (0),.int .i64 (0),.int .i64 (0),.int .i64 (0),.int .i64 (0),.int .i64 (10)],next:=3,new:=[] }
def ek78x15:Ent:={ f:=78,args:=[.int .i64 (1),.int .i64 (15),.int .i64 (4)],bs:=[],v:=.agg [.int .i64 (1),.int .i64 (0),.int .i64 (0),.int .i64 (15),.int .i64 (0),.int .i64 (0),.int .i64 (0),.int .i64 (0)],next:=3,new:=[] }
def ek78x16:Ent:={ f:=78,args:=[.int .i64 (2),.int .i64 (7),.int .i64 (6)],bs:=[],v:=.agg [.int .i64 (2),.int .i64 (0),.int .i64 (3),.int .i64 (3),.int .i64 (0),.int .i64 (0),.int .i64 (0),.int .i64 (1)],next:=3,new:=[] }
def ek9x17:Ent:={ f:=9,args:=[.agg [.int .i64 (4),.sl 0 0 3 (.ex 3),.sl 1 0 2 (.ex 2),.sl 2 0 3 (.ex 3)],.int .i64 (1)],bs:=[.cells 3 [.int .i64 (5),.int .i64 (3),.int .i64 (2)],.cells 58 [.sl 3 0 2 (.ex 2),.sl 4 0 1 (.ex 1),.bool false,.sl 5 0 1 (.ex 1),.sl 6 0 1 (.ex 1),.bool true],.cells 60 [.int .i64 (0),.int .i64 (1),.int .i64 (10),.int .i64 (0),.int .i64 (0),.int .i64 (0),.int .i64 (0),.int .i64 (5),.int .i64 (0),.int .i64 (0),.int .i64 (1),.int .i64 (2),.int .i64 (7),.int .i64 (1),.int .i64 (0)],.cells 52 [.int .i64 (0),.int .i64 (1),.int .i64 (2),.int .i64 (3)],.cells 55 [.int .i64 (1),.int .i64 (1),.int .i64 (2)],.cells 52 [.int .i64 (3),.int .i64 (0)],.cells 55 [.int .i64 (0),.int .i64 (3),.int .i64 (3)]],v:=.tup [.int .i64 (1),.int .i64 (0),.int .i64 (0)],next:=1359,new:=[] }
def ek78x18:Ent:={ f:=78,args:=[.int .i64 (0),.int .i64 (10),.int .i64 (1)],bs:=[],v:=.agg [.int .i64 (0),.int .i64 (10),.int .i64 (0),.int .i64 (0),.int .i64 (0),.int .i64 (0),.int .i64 (0),.int .i64 (0)],next:=3,new:=[] }
def ek78x19:Ent:={ f:=78,args:=[.int .i64 (1),.int .i64 (5),.int .i64 (1)],bs:=[],v:=.agg [.int .i64 (1),.int .i64 (5),.int .i64 (0),.int .i64 (0),.int .i64 (0),.int .i64 (0),.int .i64 (0),.int .i64 (0)],next:=3,new:=[] }
def ek27x20:Ent:={ f:=27,args:=[.agg [.int .i64 (4),.sl 0 0 3 (.ex 3),.sl 1 0 2 (.ex 2),.sl 2 0 3 (.ex 3)]],bs:=[.cells 3 [.int .i64 (5),.int .i64 (3),.int .i64 (2)],.cells 58 [.sl 3 0 2 (.ex 2),.sl 4 0 1 (.ex 1),.bool false,.sl 5 0 1 (.ex 1),.sl 6 0 1 (.ex 1),.bool true],.cells 60 [.int .i64 (0),.int .i64 (1),.int .i64 (10),.int .i64 (0),.int .i64 (0),.int .i64 (0),.int .i64 (0),.int .i64 (5),.int .i64 (0),.int .i64 (0),.int .i64 (1),.int .i64 (2),.int .i64 (7),.int .i64 (1),.int .i64 (0)],.cells 52 [.int .i64 (0),.int .i64 (1),.int .i64 (2),.int .i64 (3)],.cells 55 [.int .i64 (1),.int .i64 (1),.int .i64 (2)],.cells 52 [.int .i64 (3),.int .i64 (0)],.cells 55 [.int .i64 (0),.int .i64 (3),.int .i64 (3)]],v:=.tup [.agg [.int .i64 (1),.int .i64 (1)],.int .i64 (0)],next:=952,new:=[] }
def ek7x21:Ent:={ f:=7,args:=[.agg [.int .i64 (4),.sl 0 0 3 (.ex 3),.sl 1 0 2 (.ex 2),.sl 2 0 3 (.ex 3)],.int .i64 (1)],bs:=[.cells 3 [.int .i64 (5),.int .i64 (3),.int .i64 (2)],.cells 58 [.sl 3 0 2 (.ex 2),.sl 4 0 1 (.ex 1),.bool false,.sl 5 0 1 (.ex 1),.sl 6 0 1 (.ex 1),.bool true],.cells 60 [.int .i64 (0),.int .i64 (1),.int .i64 (10),.int .i64 (0),.int .i64 (0),.int .i64 (0),.int .i64 (0),.int .i64 (5),.int .i64 (0),.int .i64 (0),.int .i64 (1),.int .i64 (2),.int .i64 (7),.int .i64 (1),.int .i64 (0)],.cells 52 [.int .i64 (0),.int .i64 (1),.int .i64 (2),.int .i64 (3)],.cells 55 [.int .i64 (1),.int .i64 (1),.int .i64 (2)],.cells 52 [.int .i64 (3),.int .i64 (0)],.cells 55 [.int .i64 (0),.int .i64 (3),.int .i64 (3)]],v:=.tup [.agg [.int .i64 (5),.int .i64 (15)],.int .i64 (0)],next:=952,new:=[] }
def ek78x22:Ent:={ f:=78,args:=[.int .i64 (2),.int .i64 (7),.int .i64 (12)],bs:=[],v:=.agg [.int .i64 (2),.int .i64 (0),.int .i64 (0),.int .i64 (3),.int .i64 (3),.int .i64 (0),.int .i64 (0),.int .i64 (1)],next:=3,new:=[] }
def ek5x23:Ent:={ f:=5,args:=[.agg [.int .i64 (4),.sl 0 0 3 (.ex 3),.sl 1 0 2 (.ex 2),.sl 2 0 3 (.ex 3)],.int .i64 (2)],bs:=[.cells 3 [.int .i64 (5),.int .i64 (3),.int .i64 (2)],.cells 58 [.sl 3 0 2 (.ex 2),.sl 4 0 1 (.ex 1),.bool false,.sl 5 0 1 (.ex 1),.sl 6 0 1 (.ex 1),.bool true],.cells 60 [.int .i64 (0),.int .i64 (1),.int .i64 (10),.int .i64 (0),.int .i64 (0),.int .i64 (0),.int .i64 (0),.int .i64 (5),.int .i64 (0),.int .i64 (0),.int .i64 (1),.int .i64 (2),.int .i64 (7),.int .i64 (1),.int .i64 (0)],.cells 52 [.int .i64 (0),.int .i64 (1),.int .i64 (2),.int .i64 (3)],.cells 55 [.int .i64 (1),.int .i64 (1),.int .i64 (2)],.cells 52 [.int .i64 (3),.int .i64 (0)],.cells 55 [.int .i64 (0),.int .i64 (3),.int .i64 (3)]],v:=.tup [.agg [.int .i64 (0),.int .i64 (18)],.int .i64 (0)],next:=948,new:=[] }
def ek8x24:Ent:={ f:=8,args:=[.agg [.int .i64 (4),.sl 0 0 3 (.ex 3),.sl 1 0 2 (.ex 2),.sl 2 0 3 (.ex 3)],.int .i64 (0)],bs:=[.cells 3 [.int .i64 (5),.int .i64 (3),.int .i64 (2)],.cells 58 [.sl 3 0 2 (.ex 2),.sl 4 0 1 (.ex 1),.bool false,.sl 5 0 1 (.ex 1),.sl 6 0 1 (.ex 1),.bool true],.cells 60 [.int .i64 (0),.int .i64 (1),.int .i64 (10),.int .i64 (0),.int .i64 (0),.int .i64 (0),.int .i64 (0),.int .i64 (5),.int .i64 (0),.int .i64 (0),.int .i64 (1),.int .i64 (2),.int .i64 (7),.int .i64 (1),.int .i64 (0)],.cells 52 [.int .i64 (0),.int .i64 (1),.int .i64 (2),.int .i64 (3)],.cells 55 [.int .i64 (1),.int .i64 (1),.int .i64 (2)],.cells 52 [.int .i64 (3),.int .i64 (0)],.cells 55 [.int .i64 (0),.int .i64 (3),.int .i64 (3)]],v:=.tup [.int .i64 (1),.int .i64 (0),.int .i64 (0)],next:=1404,new:=[] }
def ek78x25:Ent:={ f:=78,args:=[.int .i64 (2),.int .i64 (7),.int .i64 (10)],bs:=[],v:=.agg [.int .i64 (2),.int .i64 (0),.int .i64 (3),.int .i64 (0),.int .i64 (3),.int .i64 (0),.int .i64 (0),.int .i64 (1)],next:=3,new:=[] }
def ek79x26:Ent:={ f:=79,args:=[.sl 0 0 1 (.ex 1)],bs:=[.cells 3 [.int .i64 (2)]],v:=.int .i64 (4),next:=1,new:=[] }
def ek5x27:Ent:={ f:=5,args:=[.agg [.int .i64 (4),.sl 0 0 3 (.ex 3),.sl 1 0 2 (.ex 2),.sl 2 0 3 (.ex 3)],.int .i64 (0)],bs:=[.cells 3 [.int .i64 (5),.int .i64 (3),.int .i64 (2)],.cells 58 [.sl 3 0 2 (.ex 2),.sl 4 0 1 (.ex 1),.bool false,.sl 5 0 1 (.ex 1),.sl 6 0 1 (.ex 1),.bool true],.cells 60 [.int .i64 (0),.int .i64 (1),.int .i64 (10),.int .i64 (0),.int .i64 (0),.int .i64 (0),.int .i64 (0),.int .i64 (5),.int .i64 (0),.int .i64 (0),.int .i64 (1),.int .i64 (2),.int .i64 (7),.int .i64 (1),.int .i64 (0)],.cells 52 [.int .i64 (0),.int .i64 (1),.int .i64 (2),.int .i64 (3)],.cells 55 [.int .i64 (1),.int .i64 (1),.int .i64 (2)],.cells 52 [.int .i64 (3),.int .i64 (0)],.cells 55 [.int .i64 (0),.int .i64 (3),.int .i64 (3)]],v:=.tup [.agg [.int .i64 (0),.int .i64 (15)],.int .i64 (0)],next:=948,new:=[] }
def ek32x28:Ent:={ f:=32,args:=[.agg [.int .i64 (4),.sl 0 0 3 (.ex 3),.sl 1 0 2 (.ex 2),.sl 2 0 3 (.ex 3)]],bs:=[.cells 3 [.int .i64 (5),.int .i64 (3),.int .i64 (2)],.cells 58 [.sl 3 0 2 (.ex 2),.sl 4 0 1 (.ex 1),.bool false,.sl 5 0 1 (.ex 1),.sl 6 0 1 (.ex 1),.bool true],.cells 60 [.int .i64 (0),.int .i64 (1),.int .i64 (10),.int .i64 (0),.int .i64 (0),.int .i64 (0),.int .i64 (0),.int .i64 (5),.int .i64 (0),.int .i64 (0),.int .i64 (1),.int .i64 (2),.int .i64 (7),.int .i64 (1),.int .i64 (0)],.cells 52 [.int .i64 (0),.int .i64 (1),.int .i64 (2),.int .i64 (3)],.cells 55 [.int .i64 (1),.int .i64 (1),.int .i64 (2)],.cells 52 [.int .i64 (3),.int .i64 (0)],.cells 55 [.int .i64 (0),.int .i64 (3),.int .i64 (3)]],v:=.int .i64 (0),next:=387,new:=[] }
end Go.Am
namespace Go.Am
open Go.Proofs
theorem ek79x1_runs:(kent (AP.of Tryz.prog) eqsK 1000000000 slowK .nil 60 ek79x1).isSome=true:=by kernel_rfl
theorem ek79x4_runs:(kent (AP.of Tryz.prog) eqsK 1000000000 slowK .nil 60 ek79x4).isSome=true:=by kernel_rfl
theorem ek79x5_runs:(kent (AP.of Tryz.prog) eqsK 1000000000 slowK .nil 60 ek79x5).isSome=true:=by kernel_rfl
theorem ek79x8_runs:(kent (AP.of Tryz.prog) eqsK 1000000000 slowK .nil 60 ek79x8).isSome=true:=by kernel_rfl
theorem ek79x9_runs:(kent (AP.of Tryz.prog) eqsK 1000000000 slowK .nil 60 ek79x9).isSome=true:=by kernel_rfl
theorem ek78x14_runs:(kent (AP.of Tryz.prog) eqsK 1000000000 slowK .nil 60 ek78x14).isSome=true:=by kernel_rfl
theorem ek78x15_runs:(kent (AP.of Tryz.prog) eqsK 1000000000 slowK .nil 60 ek78x15).isSome=true:=by kernel_rfl
theorem ek78x16_runs:(kent (AP.of Tryz.prog) eqsK 1000000000 slowK .nil 60 ek78x16).isSome=true:=by kernel_rfl
theorem ek78x18_runs:(kent (AP.of Tryz.prog) eqsK 1000000000 slowK .nil 60 ek78x18).isSome=true:=by kernel_rfl
theorem ek78x19_runs:(kent (AP.of Tryz.prog) eqsK 1000000000 slowK .nil 60 ek78x19).isSome=true:=by kernel_rfl
theorem ek78x22_runs:(kent (AP.of Tryz.prog) eqsK 1000000000 slowK .nil 60 ek78x22).isSome=true:=by kernel_rfl
theorem ek78x25_runs:(kent (AP.of Tryz.prog) eqsK 1000000000 slowK .nil 60 ek78x25).isSome=true:=by kernel_rfl
theorem ek79x26_runs:(kent (AP.of Tryz.prog) eqsK 1000000000 slowK .nil 60 ek79x26).isSome=true:=by kernel_rfl
theorem ek32x28_runs:(kent (AP.of Tryz.prog) eqsK 1000000000 slowK .nil 60 ek32x28).isSome=true:=by kernel_rfl
def tabK:T (List Ent):=(T.set (T.set (T.set T.nil 79 [ek79x1,ek79x4,ek79x5,ek79x8,ek79x9,ek79x26]) 78 [ek78x14,ek78x15,ek78x16,ek78x18,ek78x19,ek78x22,ek78x25]) 32 [ek32x28])
theorem tabK_ok:TabOk (AP.of Tryz.prog) Tryz.prog tabK:=by
  unfold tabK
  refine TabOk.setL ?_ (by kernel_rfl) (ents_cons rfl (kent_ok progK_ok eqsK_ok progK_follows TabOk.nil ek32x28_runs) ents_nil)
  refine TabOk.setL ?_ (by kernel_rfl) (ents_cons rfl (kent_ok progK_ok eqsK_ok progK_follows TabOk.nil ek78x14_runs) (ents_cons rfl (kent_ok progK_ok eqsK_ok progK_follows TabOk.nil ek78x15_runs) (ents_cons rfl (kent_ok progK_ok eqsK_ok progK_follows TabOk.nil ek78x16_runs) (ents_cons rfl (kent_ok progK_ok eqsK_ok progK_follows TabOk.nil ek78x18_runs) (ents_cons rfl (kent_ok progK_ok eqsK_ok progK_follows TabOk.nil ek78x19_runs) (ents_cons rfl (kent_ok progK_ok eqsK_ok progK_follows TabOk.nil ek78x22_runs) (ents_cons rfl (kent_ok progK_ok eqsK_ok progK_follows TabOk.nil ek78x25_runs) ents_nil)))))))
  refine TabOk.setL ?_ (by kernel_rfl) (ents_cons rfl (kent_ok progK_ok eqsK_ok progK_follows TabOk.nil ek79x1_runs) (ents_cons rfl (kent_ok progK_ok eqsK_ok progK_follows TabOk.nil ek79x4_runs) (ents_cons rfl (kent_ok progK_ok eqsK_ok progK_follows TabOk.nil ek79x5_runs) (ents_cons rfl (kent_ok progK_ok eqsK_ok progK_follows TabOk.nil ek79x8_runs) (ents_cons rfl (kent_ok progK_ok eqsK_ok progK_follows TabOk.nil ek79x9_runs) (ents_cons rfl (kent_ok progK_ok eqsK_ok progK_follows TabOk.nil ek79x26_runs) ents_nil))))))
  exact TabOk.nil
end Go.Am
