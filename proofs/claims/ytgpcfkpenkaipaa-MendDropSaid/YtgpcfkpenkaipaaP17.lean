/- Parts of the proof: M8, M9, M10, Pv66, M11, M12 -/
import Derived.Test.YtgpcfkpenkaipaaP16
import Derived.Test.YtgpcfkpenkaipaaP13
set_option linter.unusedVariables false
set_option linter.unusedSimpArgs false
set_option linter.unusedSectionVars false
namespace Go.Pv
open Go.Proofs Go.Am
set_option maxRecDepth 10000
def upB (m x:Int):Bool:=decide (0≤x) && decide (x≤m)
def numB (m x:Int):Bool:=decide (0≤x) && decide (x < m)
def othN (n i:Nat):Nat:=allN n &&& (2 ^ 64 - 1 - 1 * 2 ^ i)
def jobB (m n i:Nat) (j:Job):Bool :=
  numB m j.kd && (decide (1≤j.lo) && (decide (j.lo≤j.hi) && (decide (j.hi≤30) && (upB 300 j.fr && (upB 300 j.so && (upB 300 j.bt && (upB 50 j.co && decide (strk j.af (othN n i)=0))))))))
def Shp.val (s:Shp):Bool:=(decide (s.su.length≤3) && decide (s.jo.length≤6)) && (s.su.all (upB 30) && (List.range s.jo.length).all fun i=>jobB s.su.length s.jo.length i (s.job i))
theorem f99b (m n:Int):Fn P0 99 [I m,I n] (B (upB m n)):=f99 m n
theorem f94b (m n:Int):Fn P0 94 [I m,I n] (B (numB m n)):=f94 m n
theorem allN_lt {n:Nat} (h:n≤6):allN n < 64:=by have:=pow6 h;unfold allN;omega
section
variable (s:Shp) {t1 t2:Tail} (h1:t1.isOwn=false) (h2:t2.isOwn=false)
include h1 h2
theorem f100 (hm : s.su.length ≤ 3) (hn : s.jo.length ≤ 6) (i : Nat) (hi : i < s.jo.length) (j : Job) : Fn P0 100 [s.v t1 t2, I i, j.v] (B (jobB s.su.length s.jo.length i j)) := by
  have hall:=f89 s t1 t2 hn
  have hbs:PV.bds 0 [s.v t1 t2]=true:=bd_shpV s h1 h2 rfl
  have hp:=pow6 (show i≤6 by omega)
  have hal:=allN_lt hn
  obtain ⟨kd,lo,hi',fr,so,bt,co,af⟩:=j
  unfold jobB
  simp only
  refine PFun.of (C:=c100) (cx_ok _ _ _) rfl (fn:=Try.f100) (by kernel_rfl) (c:=_) rfl rfl rfl ?_
  refine Run.seq (Run.region (cx_ok _ _ _) (Reg.op rfl (Ope.boxF rfl rfl ?_)))
  refine Reg.op rfl (Ope.boxF rfl rfl ?_)
  refine Reg.op rfl (Ope.asg rfl ?_)
  refine Reg.nil (Run.seq (Run.draw (cx_ok _ _ _) [(0,true),(2,true),(3,true),(1,true),(4,true),(5,true)] (by kernel_rfl) (Dra.op' rfl rfl rfl .sure (Ope.load rfl rfl ?_))))
  refine Dra.op' rfl rfl rfl .sure (Ope.mov rfl ?_)
  refine Dra.op' rfl rfl rfl .sure (Ope.shlN (p:=1) (m:=i) rfl rfl rfl rfl (by omega) (by omega) ?_)
  refine Dra.op' rfl rfl rfl .sure (Ope.cf rfl rfl hall hbs ?_)
  refine Dra.op' rfl rfl rfl .sure (Ope.andNotN (p:=allN s.jo.length) (q:=1 * 2 ^ i) rfl rfl rfl rfl (by show _ < 2 ^ 63;omega) (by show _ < 2 ^ 63;omega) ?_)
  refine Dra.op' rfl rfl rfl .sure (Ope.asg rfl ?_)
  refine Dra.nil (Run.seq (Run.region (cx_ok _ _ _) (Reg.op rfl (Ope.fld rfl rfl ?_))))
  refine Reg.op rfl (Ope.fld rfl rfl ?_)
  refine Reg.op rfl (Ope.load rfl rfl ?_)
  refine Reg.op rfl (Ope.len (m:=s.su.length) rfl (by simp) ?_)
  refine Reg.op rfl (Ope.fld rfl rfl ?_)
  refine Reg.op rfl (Ope.load rfl rfl ?_)
  refine Reg.op rfl (Ope.cf rfl rfl (f94b s.su.length kd) rfl ?_)
  refine Reg.op rfl (Ope.mov rfl ?_)
  refine Reg.splitX rfl rfl (fun hg=>?_) fun hg=>?_
  ·refine Reg.on rfl rfl rfl (Ope.fld rfl rfl ?_)
   refine Reg.on rfl rfl rfl (Ope.fld rfl rfl ?_)
   refine Reg.on rfl rfl rfl (Ope.load rfl rfl ?_)
   refine Reg.on rfl rfl rfl (Ope.ge rfl rfl ?_)
   refine Reg.op rfl (Ope.pickT rfl rfl ?_)
   refine Reg.op rfl (Ope.mov rfl ?_)
   refine Reg.splitX rfl rfl (fun hg=>?_) fun hg=>?_
   ·refine Reg.on rfl rfl rfl (Ope.fld rfl rfl ?_)
    refine Reg.on rfl rfl rfl (Ope.fld rfl rfl ?_)
    refine Reg.on rfl rfl rfl (Ope.load rfl rfl ?_)
    refine Reg.on rfl rfl rfl (Ope.fld rfl rfl ?_)
    refine Reg.on rfl rfl rfl (Ope.fld rfl rfl ?_)
    refine Reg.on rfl rfl rfl (Ope.load rfl rfl ?_)
    refine Reg.on rfl rfl rfl (Ope.le rfl rfl ?_)
    refine Reg.op rfl (Ope.pickT rfl rfl ?_)
    refine Reg.op rfl (Ope.mov rfl ?_)
    refine Reg.splitX rfl rfl (fun hg=>?_) fun hg=>?_
    ·refine Reg.on rfl rfl rfl (Ope.fld rfl rfl ?_)
     refine Reg.on rfl rfl rfl (Ope.fld rfl rfl ?_)
     refine Reg.on rfl rfl rfl (Ope.load rfl rfl ?_)
     refine Reg.on rfl rfl rfl (Ope.le rfl rfl ?_)
     refine Reg.op rfl (Ope.pickT rfl rfl ?_)
     refine Reg.op rfl (Ope.mov rfl ?_)
     refine Reg.splitX rfl rfl (fun hg=>?_) fun hg=>?_
     ·refine Reg.on rfl rfl rfl (Ope.fld rfl rfl ?_)
      refine Reg.on rfl rfl rfl (Ope.load rfl rfl ?_)
      refine Reg.on rfl rfl rfl (Ope.cf rfl rfl (f99b 300 fr) rfl ?_)
      refine Reg.op rfl (Ope.pickT rfl rfl ?_)
      refine Reg.op rfl (Ope.mov rfl ?_)
      refine Reg.splitX rfl rfl (fun hg=>?_) fun hg=>?_
      ·refine Reg.on rfl rfl rfl (Ope.fld rfl rfl ?_)
       refine Reg.on rfl rfl rfl (Ope.load rfl rfl ?_)
       refine Reg.on rfl rfl rfl (Ope.cf rfl rfl (f99b 300 so) rfl ?_)
       refine Reg.op rfl (Ope.pickT rfl rfl ?_)
       refine Reg.op rfl (Ope.mov rfl ?_)
       refine Reg.splitX rfl rfl (fun hg=>?_) fun hg=>?_
       ·refine Reg.on rfl rfl rfl (Ope.fld rfl rfl ?_)
        refine Reg.on rfl rfl rfl (Ope.load rfl rfl ?_)
        refine Reg.on rfl rfl rfl (Ope.cf rfl rfl (f99b 300 bt) rfl ?_)
        refine Reg.op rfl (Ope.pickT rfl rfl ?_)
        refine Reg.op rfl (Ope.mov rfl ?_)
        refine Reg.splitX rfl rfl (fun hg=>?_) fun hg=>?_
        ·refine Reg.on rfl rfl rfl (Ope.fld rfl rfl ?_)
         refine Reg.on rfl rfl rfl (Ope.load rfl rfl ?_)
         refine Reg.on rfl rfl rfl (Ope.cf rfl rfl (f99b 50 co) rfl ?_)
         refine Reg.op rfl (Ope.pickT rfl rfl ?_)
         refine Reg.op rfl (Ope.mov rfl ?_)
         refine Reg.splitX rfl rfl (fun hg=>?_) fun hg=>?_
         ·refine Reg.on rfl rfl rfl (Ope.fld rfl rfl ?_)
          refine Reg.on rfl rfl rfl (Ope.load rfl rfl ?_)
          refine Reg.on rfl rfl rfl (Ope.mov rfl ?_)
          refine Reg.on rfl rfl rfl (Ope.andNotI (q:=othN s.jo.length i) rfl rfl rfl ?_)
          refine Reg.on rfl rfl rfl (Ope.eq rfl rfl ?_)
          refine Reg.op rfl (Ope.pickT rfl rfl ?_)
          refine Reg.op rfl (Ope.asg rfl ?_)
          refine Reg.nil (Run.ret (fin_ret (.tmp rfl .nil) rfl ?_))
          (simp [*];first | done | rfl)
         ·refine Reg.off rfl rfl rfl (Reg.off rfl rfl rfl (Reg.off rfl rfl rfl (Reg.off rfl rfl rfl (Reg.off rfl rfl rfl (Reg.op rfl (Ope.pickF rfl rfl ?_))))))
          refine Reg.op rfl (Ope.asg rfl ?_)
          refine Reg.nil (Run.ret (fin_ret (.tmp rfl .nil) rfl ?_))
          (simp [*];first | done | rfl)
        ·refine Reg.off rfl rfl rfl (Reg.off rfl rfl rfl (Reg.off rfl rfl rfl (Reg.op rfl (Ope.pickF rfl rfl ?_))))
         refine Reg.op rfl (Ope.mov rfl ?_)
         refine Reg.off rfl rfl rfl (Reg.off rfl rfl rfl (Reg.off rfl rfl rfl (Reg.off rfl rfl rfl (Reg.off rfl rfl rfl (Reg.op rfl (Ope.pickF rfl rfl ?_))))))
         refine Reg.op rfl (Ope.asg rfl ?_)
         refine Reg.nil (Run.ret (fin_ret (.tmp rfl .nil) rfl ?_))
         (simp [*];first | done | rfl)
       ·refine Reg.off rfl rfl rfl (Reg.off rfl rfl rfl (Reg.off rfl rfl rfl (Reg.op rfl (Ope.pickF rfl rfl ?_))))
        refine Reg.op rfl (Ope.mov rfl ?_)
        refine Reg.off rfl rfl rfl (Reg.off rfl rfl rfl (Reg.off rfl rfl rfl (Reg.op rfl (Ope.pickF rfl rfl ?_))))
        refine Reg.op rfl (Ope.mov rfl ?_)
        refine Reg.off rfl rfl rfl (Reg.off rfl rfl rfl (Reg.off rfl rfl rfl (Reg.off rfl rfl rfl (Reg.off rfl rfl rfl (Reg.op rfl (Ope.pickF rfl rfl ?_))))))
        refine Reg.op rfl (Ope.asg rfl ?_)
        refine Reg.nil (Run.ret (fin_ret (.tmp rfl .nil) rfl ?_))
        (simp [*];first | done | rfl)
      ·refine Reg.off rfl rfl rfl (Reg.off rfl rfl rfl (Reg.off rfl rfl rfl (Reg.op rfl (Ope.pickF rfl rfl ?_))))
       refine Reg.op rfl (Ope.mov rfl ?_)
       refine Reg.off rfl rfl rfl (Reg.off rfl rfl rfl (Reg.off rfl rfl rfl (Reg.op rfl (Ope.pickF rfl rfl ?_))))
       refine Reg.op rfl (Ope.mov rfl ?_)
       refine Reg.off rfl rfl rfl (Reg.off rfl rfl rfl (Reg.off rfl rfl rfl (Reg.op rfl (Ope.pickF rfl rfl ?_))))
       refine Reg.op rfl (Ope.mov rfl ?_)
       refine Reg.off rfl rfl rfl (Reg.off rfl rfl rfl (Reg.off rfl rfl rfl (Reg.off rfl rfl rfl (Reg.off rfl rfl rfl (Reg.op rfl (Ope.pickF rfl rfl ?_))))))
       refine Reg.op rfl (Ope.asg rfl ?_)
       refine Reg.nil (Run.ret (fin_ret (.tmp rfl .nil) rfl ?_))
       (simp [*];first | done | rfl)
     ·refine Reg.off rfl rfl rfl (Reg.off rfl rfl rfl (Reg.off rfl rfl rfl (Reg.op rfl (Ope.pickF rfl rfl ?_))))
      refine Reg.op rfl (Ope.mov rfl ?_)
      refine Reg.off rfl rfl rfl (Reg.off rfl rfl rfl (Reg.off rfl rfl rfl (Reg.op rfl (Ope.pickF rfl rfl ?_))))
      refine Reg.op rfl (Ope.mov rfl ?_)
      refine Reg.off rfl rfl rfl (Reg.off rfl rfl rfl (Reg.off rfl rfl rfl (Reg.op rfl (Ope.pickF rfl rfl ?_))))
      refine Reg.op rfl (Ope.mov rfl ?_)
      refine Reg.off rfl rfl rfl (Reg.off rfl rfl rfl (Reg.off rfl rfl rfl (Reg.op rfl (Ope.pickF rfl rfl ?_))))
      refine Reg.op rfl (Ope.mov rfl ?_)
      refine Reg.off rfl rfl rfl (Reg.off rfl rfl rfl (Reg.off rfl rfl rfl (Reg.off rfl rfl rfl (Reg.off rfl rfl rfl (Reg.op rfl (Ope.pickF rfl rfl ?_))))))
      refine Reg.op rfl (Ope.asg rfl ?_)
      refine Reg.nil (Run.ret (fin_ret (.tmp rfl .nil) rfl ?_))
      (simp [*];first | done | rfl)
    ·refine Reg.off rfl rfl rfl (Reg.off rfl rfl rfl (Reg.off rfl rfl rfl (Reg.off rfl rfl rfl (Reg.op rfl (Ope.pickF rfl rfl ?_)))))
     refine Reg.op rfl (Ope.mov rfl ?_)
     refine Reg.off rfl rfl rfl (Reg.off rfl rfl rfl (Reg.off rfl rfl rfl (Reg.op rfl (Ope.pickF rfl rfl ?_))))
     refine Reg.op rfl (Ope.mov rfl ?_)
     refine Reg.off rfl rfl rfl (Reg.off rfl rfl rfl (Reg.off rfl rfl rfl (Reg.op rfl (Ope.pickF rfl rfl ?_))))
     refine Reg.op rfl (Ope.mov rfl ?_)
     refine Reg.off rfl rfl rfl (Reg.off rfl rfl rfl (Reg.off rfl rfl rfl (Reg.op rfl (Ope.pickF rfl rfl ?_))))
     refine Reg.op rfl (Ope.mov rfl ?_)
     refine Reg.off rfl rfl rfl (Reg.off rfl rfl rfl (Reg.off rfl rfl rfl (Reg.op rfl (Ope.pickF rfl rfl ?_))))
     refine Reg.op rfl (Ope.mov rfl ?_)
     refine Reg.off rfl rfl rfl (Reg.off rfl rfl rfl (Reg.off rfl rfl rfl (Reg.off rfl rfl rfl (Reg.off rfl rfl rfl (Reg.op rfl (Ope.pickF rfl rfl ?_))))))
     refine Reg.op rfl (Ope.asg rfl ?_)
     refine Reg.nil (Run.ret (fin_ret (.tmp rfl .nil) rfl ?_))
     (simp [*];first | done | rfl)
   ·refine Reg.off rfl rfl rfl (Reg.off rfl rfl rfl (Reg.off rfl rfl rfl (Reg.off rfl rfl rfl (Reg.off rfl rfl rfl (Reg.off rfl rfl rfl (Reg.off rfl rfl rfl (Reg.op rfl (Ope.pickF rfl rfl ?_))))))))
    refine Reg.op rfl (Ope.mov rfl ?_)
    refine Reg.off rfl rfl rfl (Reg.off rfl rfl rfl (Reg.off rfl rfl rfl (Reg.off rfl rfl rfl (Reg.op rfl (Ope.pickF rfl rfl ?_)))))
    refine Reg.op rfl (Ope.mov rfl ?_)
    refine Reg.off rfl rfl rfl (Reg.off rfl rfl rfl (Reg.off rfl rfl rfl (Reg.op rfl (Ope.pickF rfl rfl ?_))))
    refine Reg.op rfl (Ope.mov rfl ?_)
    refine Reg.off rfl rfl rfl (Reg.off rfl rfl rfl (Reg.off rfl rfl rfl (Reg.op rfl (Ope.pickF rfl rfl ?_))))
    refine Reg.op rfl (Ope.mov rfl ?_)
    refine Reg.off rfl rfl rfl (Reg.off rfl rfl rfl (Reg.off rfl rfl rfl (Reg.op rfl (Ope.pickF rfl rfl ?_))))
    refine Reg.op rfl (Ope.mov rfl ?_)
    refine Reg.off rfl rfl rfl (Reg.off rfl rfl rfl (Reg.off rfl rfl rfl (Reg.op rfl (Ope.pickF rfl rfl ?_))))
    refine Reg.op rfl (Ope.mov rfl ?_)
    refine Reg.off rfl rfl rfl (Reg.off rfl rfl rfl (Reg.off rfl rfl rfl (Reg.off rfl rfl rfl (Reg.off rfl rfl rfl (Reg.op rfl (Ope.pickF rfl rfl ?_))))))
    refine Reg.op rfl (Ope.asg rfl ?_)
    refine Reg.nil (Run.ret (fin_ret (.tmp rfl .nil) rfl ?_))
    (simp [*];first | done | rfl)
  ·refine Reg.off rfl rfl rfl (Reg.off rfl rfl rfl (Reg.off rfl rfl rfl (Reg.off rfl rfl rfl (Reg.op rfl (Ope.pickF rfl rfl ?_)))))
   refine Reg.op rfl (Ope.mov rfl ?_)
   refine Reg.off rfl rfl rfl (Reg.off rfl rfl rfl (Reg.off rfl rfl rfl (Reg.off rfl rfl rfl (Reg.off rfl rfl rfl (Reg.off rfl rfl rfl (Reg.off rfl rfl rfl (Reg.op rfl (Ope.pickF rfl rfl ?_))))))))
   refine Reg.op rfl (Ope.mov rfl ?_)
   refine Reg.off rfl rfl rfl (Reg.off rfl rfl rfl (Reg.off rfl rfl rfl (Reg.off rfl rfl rfl (Reg.op rfl (Ope.pickF rfl rfl ?_)))))
   refine Reg.op rfl (Ope.mov rfl ?_)
   refine Reg.off rfl rfl rfl (Reg.off rfl rfl rfl (Reg.off rfl rfl rfl (Reg.op rfl (Ope.pickF rfl rfl ?_))))
   refine Reg.op rfl (Ope.mov rfl ?_)
   refine Reg.off rfl rfl rfl (Reg.off rfl rfl rfl (Reg.off rfl rfl rfl (Reg.op rfl (Ope.pickF rfl rfl ?_))))
   refine Reg.op rfl (Ope.mov rfl ?_)
   refine Reg.off rfl rfl rfl (Reg.off rfl rfl rfl (Reg.off rfl rfl rfl (Reg.op rfl (Ope.pickF rfl rfl ?_))))
   refine Reg.op rfl (Ope.mov rfl ?_)
   refine Reg.off rfl rfl rfl (Reg.off rfl rfl rfl (Reg.off rfl rfl rfl (Reg.op rfl (Ope.pickF rfl rfl ?_))))
   refine Reg.op rfl (Ope.mov rfl ?_)
   refine Reg.off rfl rfl rfl (Reg.off rfl rfl rfl (Reg.off rfl rfl rfl (Reg.off rfl rfl rfl (Reg.off rfl rfl rfl (Reg.op rfl (Ope.pickF rfl rfl ?_))))))
   refine Reg.op rfl (Ope.asg rfl ?_)
   refine Reg.nil (Run.ret (fin_ret (.tmp rfl .nil) rfl ?_))
   (simp [*];first | done | rfl)
omit h1 h2 in
theorem val_big (h:3 < s.su.length∨6 < s.jo.length):s.val=false:=by
  unfold Shp.val
  rcases h with h | h
  · rw [decide_eq_false (show ¬ s.su.length≤3 by omega)];rfl
  · rw [decide_eq_false (show ¬ s.jo.length≤6 by omega),Bool.and_false];rfl
omit h1 h2 in
theorem val_su {i:Nat} (hi:i < s.su.length) (h:upB 30 s.su[i]=false):s.val=false:=by
  have:s.su.all (upB 30)=false:=by
    cases ha:s.su.all (upB 30) with
    | false=>rfl
    | true=>rw [List.all_eq_true.1 ha _ (List.getElem_mem hi)] at h;cases h
  unfold Shp.val
  rw [this,Bool.false_and,Bool.and_false]
omit h1 h2 in
theorem val_jo {i:Nat} (hi:i < s.jo.length) (h:jobB s.su.length s.jo.length i s.jo[i]=false):s.val=false:=by
  have:((List.range s.jo.length).all fun i=>jobB s.su.length s.jo.length i (s.job i))=false:=by
    cases ha:(List.range s.jo.length).all fun i=>jobB s.su.length s.jo.length i (s.job i) with
    | false=>rfl
    | true =>
      have:=List.all_eq_true.1 ha i (List.mem_range.2 hi)
      rw [Shp.job_at hi,h] at this;cases this
  unfold Shp.val
  rw [this,Bool.and_false,Bool.and_false]
omit h1 h2 in
theorem val_yes (hm:s.su.length≤3) (hn:s.jo.length≤6) (ha:∀ i (h:i < s.su.length),upB 30 s.su[i]=true) (hb:∀ i (h:i < s.jo.length),jobB s.su.length s.jo.length i s.jo[i]=true):s.val=true:=by
  have e1:s.su.all (upB 30)=true:=List.all_eq_true.2 fun x hx=>by
    obtain ⟨i,hi,rfl⟩:=List.getElem_of_mem hx
    exact ha i hi
  have e2:((List.range s.jo.length).all fun i=>jobB s.su.length s.jo.length i (s.job i))=true:=List.all_eq_true.2 fun i hi=>by
    have hi:=List.mem_range.1 hi
    rw [Shp.job_at hi];exact hb i hi
  unfold Shp.val
  rw [e1,e2,decide_eq_true hm,decide_eq_true hn];rfl
theorem f82 (hS : s.su.length ≤ 9223372036854775807) (hJ : s.jo.length ≤ 9223372036854775807) : Fn P0 82 [s.v t1 t2] (B s.val) := by
  have hbj:∀ (i:Int) (j:Job),PV.bds 0 [s.v t1 t2,I i,j.v]=true:=fun i j=>bd_shpV s h1 h2 rfl
  have hbig:=val_big s
  have hsu:=fun {i:Nat} hi=>val_su s (i:=i) hi
  have hjo:=fun {i:Nat} hi=>val_jo s (i:=i) hi
  have hyes:=val_yes s
  have hij:=f100 s h1 h2
  obtain ⟨su,jo⟩:=s
  simp only at hbig hsu hjo hyes hij hS hJ
  refine PFun.of (C:=c82) (cx_ok _ _ _) rfl (fn:=Try.f82) (by kernel_rfl) (c:=_) rfl rfl rfl ?_
  refine Run.seq (Run.region (cx_ok _ _ _) (Reg.op rfl (Ope.boxF rfl rfl ?_)))
  refine Reg.op rfl (Ope.asg rfl ?_)
  refine Reg.nil (Run.seq (Run.seq (Run.region (cx_ok _ _ _) (Reg.op rfl (Ope.fld rfl rfl ?_)))))
  refine Reg.op rfl (Ope.fld rfl rfl ?_)
  refine Reg.op rfl (Ope.load rfl rfl ?_)
  refine Reg.op rfl (Ope.len (m:=su.length) rfl (by simp) ?_)
  refine Reg.op rfl (Ope.gt rfl rfl ?_)
  refine Reg.op rfl (Ope.mov rfl ?_)
  refine Reg.splitX rfl rfl (fun hg=>?_) fun hg=>?_
  ·first
   |(first | (exfalso;omega))
   |refine Reg.off rfl rfl rfl (Reg.off rfl rfl rfl (Reg.off rfl rfl rfl (Reg.off rfl rfl rfl (Reg.off rfl rfl rfl (Reg.op rfl (Ope.pickT rfl rfl ?_))))))
    refine Reg.nil (Run.condT rfl (Run.seq (Run.region (cx_ok _ _ _) (Reg.op rfl (Ope.asg rfl ?_)))))
    refine Reg.nil (Run.ret (Jmp.code (fin_ret (.tmp rfl .nil) rfl ?_)))
    first
    | (rw [hbig (by omega)];rfl)
    | (rw [hsu hlt (by simpa using hc)];rfl)
    | (rw [hjo hlt (by simpa using hc)];rfl)
    | (rw [hyes (by omega) (by omega) (fun k hk=>hall k hk hk) (fun k hk=>hallj k hk (by omega))];rfl)
  ·first
   |(first | (exfalso;omega))
   |refine Reg.on rfl rfl rfl (Ope.fld rfl rfl ?_)
    refine Reg.on rfl rfl rfl (Ope.fld rfl rfl ?_)
    refine Reg.on rfl rfl rfl (Ope.load rfl rfl ?_)
    refine Reg.on rfl rfl rfl (Ope.len (m:=jo.length) rfl (by simp) ?_)
    refine Reg.on rfl rfl rfl (Ope.gt rfl rfl ?_)
    refine Reg.op rfl (Ope.pickF rfl rfl ?_)
    refine Reg.nil (Run.condX rfl (fun hc=>?_) fun hc=>?_)
    ·first
     |(first | (exfalso;omega))
     |refine Run.seq (Run.region (cx_ok _ _ _) (Reg.op rfl (Ope.asg rfl ?_)))
      refine Reg.nil (Run.ret (Jmp.code (fin_ret (.tmp rfl .nil) rfl ?_)))
      first
      | (rw [hbig (by omega)];rfl)
      | (rw [hsu hlt (by simpa using hc)];rfl)
      | (rw [hjo hlt (by simpa using hc)];rfl)
      | (rw [hyes (by omega) (by omega) (fun k hk=>hall k hk hk) (fun k hk=>hallj k hk (by omega))];rfl)
    ·first
     |(first | (exfalso;omega))
     |refine Run.skip (Run.seq (Run.seq (Run.region (cx_ok _ _ _) (Reg.op rfl (Ope.fld rfl rfl ?_)))))
      refine Reg.op rfl (Ope.fld rfl rfl ?_)
      refine Reg.op rfl (Ope.load rfl rfl ?_)
      refine Reg.op rfl (Ope.len (m:=su.length) rfl (by simp) ?_)
      refine Reg.op rfl (Ope.mov rfl ?_)
      refine Reg.nil (Run.block (Run.loop (α:=Nat) (fun i=>[(1,.fp (.agg [.sl t1 (su.map I),.sl t2 (jo.map Job.v)])),(21,.sl t1 (su.map I)),(22,I su.length),(23,I i)]) (fun _=>HE 0 []) (fun i=>i≤su.length∧∀ k (hk:k < su.length),k < i→upB 30 su[k]=true) (fun i=>su.length - i) 0 ⟨rfl,rfl,rfl,rfl,trivial⟩ rfl ⟨Nat.zero_le _,fun k _ hk=>absurd hk (Nat.not_lt_zero _)⟩ (fun i hi=>?_)))
      obtain ⟨hi,hall⟩:=hi
      refine Run.seq (Run.region (cx_ok _ _ _) (Reg.op rfl (Ope.lt rfl rfl ?_)))
      refine Reg.nil (Run.seq (Run.condX rfl (fun hc=>?_) fun hc=>?_))
      ·first
       |(first | (exfalso;omega))
       |refine Run.skip (Run.seq (Run.block (Run.seq ?_)))
        have hlt:i < su.length:=by omega
        refine Run.region (cx_ok _ _ _) (Reg.op rfl (Ope.idxM (m:=i) (f:=I) rfl rfl rfl hlt (fun _=>rfl) ?_))
        refine Reg.op rfl (Ope.load rfl rfl ?_)
        refine Reg.op rfl (Ope.asg rfl ?_)
        refine Reg.nil (Run.seq (Run.region (cx_ok _ _ _) (Reg.op rfl (Ope.mov rfl ?_))))
        refine Reg.op rfl (Ope.cf rfl rfl (f99b 30 su[i]) rfl ?_)
        refine Reg.op rfl (Ope.not rfl ?_)
        refine Reg.nil (Run.condX rfl (fun hc=>?_) fun hc=>?_)
        ·first
         |(first | (exfalso;omega))
         |refine Run.seq (Run.region (cx_ok _ _ _) (Reg.op rfl (Ope.asg rfl ?_)))
          refine Reg.nil (Run.ret (Jmp.retB (Jmp.code (Jmp.round (Jmp.retB (Jmp.code (fin_ret (.tmp rfl .nil) rfl ?_)))))))
          first
          | (rw [hbig (by omega)];rfl)
          | (rw [hsu hlt (by simpa using hc)];rfl)
          | (rw [hjo hlt (by simpa using hc)];rfl)
          | (rw [hyes (by omega) (by omega) (fun k hk=>hall k hk hk) (fun k hk=>hallj k hk (by omega))];rfl)
        ·first
         |(first | (exfalso;omega))
         |refine Run.skip (Run.bend (Run.region (cx_ok _ _ _) (Reg.op rfl (Ope.add rfl rfl (by omega) ?_))))
          refine Reg.op rfl (Ope.mov rfl ?_)
          refine Reg.nil ?_
          exact Run.lend ⟨i+1,by omega,⟨by omega,fun k hk hki=>by
            by_cases hkk:k=i
            · subst hkk;simpa using hc
            · exact hall k hk (by omega)⟩,⟨rfl,rfl,rfl,rfl,trivial⟩,rfl,rfl⟩
      ·first
       |(first | (exfalso;omega))
       |refine Run.exit (Jmp.code (Jmp.round (Jmp.here (Run.seq (Run.seq ?_)))))
        obtain rfl:i=su.length:=by omega
        refine Run.region (cx_ok _ _ _) (Reg.op rfl (Ope.fld rfl rfl ?_))
        refine Reg.op rfl (Ope.fld rfl rfl ?_)
        refine Reg.op rfl (Ope.load rfl rfl ?_)
        refine Reg.op rfl (Ope.len (m:=jo.length) rfl (by simp) ?_)
        refine Reg.op rfl (Ope.mov rfl ?_)
        refine Reg.nil (Run.block (Run.loop (α:=Nat×Nat) (fun t=>[(1,.fp (.agg [.sl t1 (su.map I),.sl t2 (jo.map Job.v)])),(33,.sl t2 (jo.map Job.v)),(34,I jo.length),(35,I t.1)]) (fun t=>HE t.2 []) (fun t=>t.1≤jo.length∧∀ k (hk:k < jo.length),k < t.1→jobB su.length jo.length k jo[k]=true) (fun t=>jo.length - t.1) (0,0) ⟨rfl,rfl,rfl,rfl,trivial⟩ rfl ⟨Nat.zero_le _,fun k _ hk=>absurd hk (Nat.not_lt_zero _)⟩ (fun t ht=>?_)))
        obtain ⟨i,m⟩:=t
        obtain ⟨hi,hallj⟩:=ht
        simp only at hi hallj
        refine Run.seq (Run.region (cx_ok _ _ _) (Reg.op rfl (Ope.lt rfl rfl ?_)))
        refine Reg.nil (Run.seq (Run.condX rfl (fun hc=>?_) fun hc=>?_))
        ·first
         |(first | (exfalso;omega))
         |refine Run.skip (Run.seq (Run.block (Run.seq ?_)))
          have hlt:i < jo.length:=by omega
          have hji:=hij (by omega) (by omega) i hlt jo[i]
          refine Run.region (cx_ok _ _ _) (Reg.op rfl (Ope.mov rfl ?_))
          refine Reg.op rfl (Ope.idxM (m:=i) (f:=Job.v) rfl rfl rfl hlt (fun _=>rfl) ?_)
          refine Reg.op rfl (Ope.load rfl rfl ?_)
          refine Reg.op rfl (Ope.newL rfl ?_)
          refine Reg.op rfl (Ope.asg rfl ?_)
          refine Reg.op0 (Ope.store rfl rfl hget_hd rfl rfl rfl ?_)
          refine Reg.nil (Run.seq (Run.frz (d:=6) true rfl hget_hd rfl ?_))
          refine Run.wide (m:=m+1) (l':=[]) (Nat.le_refl _) trivial ?_
          refine Run.region (cx_ok _ _ _) (Reg.op rfl (Ope.load rfl rfl ?_))
          refine Reg.op rfl (Ope.mov rfl ?_)
          refine Reg.op rfl (Ope.load rfl rfl ?_)
          refine Reg.op rfl (Ope.cf rfl rfl hji (hbj _ _) ?_)
          refine Reg.op rfl (Ope.not rfl ?_)
          refine Reg.nil (Run.condX rfl (fun hc=>?_) fun hc=>?_)
          ·first
           |(first | (exfalso;omega))
           |refine Run.seq (Run.region (cx_ok _ _ _) (Reg.op rfl (Ope.asg rfl ?_)))
            refine Reg.nil (Run.ret (Jmp.retB (Jmp.code (Jmp.round (Jmp.retB (Jmp.code (fin_ret (.tmp rfl .nil) rfl ?_)))))))
            first
            | (rw [hbig (by omega)];rfl)
            | (rw [hsu hlt (by simpa using hc)];rfl)
            | (rw [hjo hlt (by simpa using hc)];rfl)
            | (rw [hyes (by omega) (by omega) (fun k hk=>hall k hk hk) (fun k hk=>hallj k hk (by omega))];rfl)
          ·first
           |(first | (exfalso;omega))
           |refine Run.skip (Run.bend (Run.region (cx_ok _ _ _) (Reg.op rfl (Ope.add rfl rfl (by omega) ?_))))
            refine Reg.op rfl (Ope.mov rfl ?_)
            refine Reg.nil ?_
            exact Run.lend ⟨(i+1,m+1),by show jo.length - (i+1) < jo.length - i;omega,⟨by show i+1≤jo.length;omega,fun k hk hki=>by
              by_cases hkk:k=i
              · subst hkk;simpa using hc
              · exact hallj k hk (by simp only at hki;omega)⟩,⟨rfl,rfl,rfl,rfl,trivial⟩,rfl,rfl⟩
        ·first
         |(first | (exfalso;omega))
         |refine Run.exit (Jmp.code (Jmp.round (Jmp.here (Run.seq (Run.region (cx_ok _ _ _) (Reg.op rfl (Ope.asg rfl ?_)))))))
          refine Reg.nil (Run.ret (fin_ret (.tmp rfl .nil) rfl ?_))
          first
          | (rw [hbig (by omega)];rfl)
          | (rw [hsu hlt (by simpa using hc)];rfl)
          | (rw [hjo hlt (by simpa using hc)];rfl)
          | (rw [hyes (by omega) (by omega) (fun k hk=>hall k hk hk) (fun k hk=>hallj k hk (by omega))];rfl)
end
end Go.Pv
namespace Go.Pv
open Go.Proofs Go.Am
set_option maxRecDepth 10000
def Shp.i64 (s:Shp):Prop:=∀ i (h:i < s.jo.length),-9223372036854775808≤s.jo[i].af∧s.jo[i].af≤9223372036854775807
theorem othN_bit {n i q:Nat} (hn:n≤6) (hi:i≤6):(othN n i).testBit q=(decide (q < n) && !decide (i=q)):=by
  have hp:=pow6 hi
  unfold othN allN
  rw [Nat.testBit_and,Nat.one_mul,Nat.testBit_two_pow_sub_one,show 2 ^ 64 - 1 - 1 * 2 ^ i=2 ^ 64 - (2 ^ i+1) from by omega,Nat.testBit_two_pow_sub_succ (by omega),Nat.testBit_two_pow]
  by_cases hq:q < n
  · rw [decide_eq_true hq,decide_eq_true (show q < 64 by omega)];simp
  · rw [decide_eq_false hq];rfl
theorem othN_lt {n i:Nat} (hn:n≤6):othN n i < 64:=Nat.lt_of_le_of_lt Nat.and_le_left (allN_lt hn)
theorem sub_iff {x q:Nat} (hq:q < 2 ^ 63) (hx:x < 2 ^ 63):x &&& (2 ^ 64 - 1 - q)=0↔∀ k,x.testBit k=true→q.testBit k=true:=by
  have e:2 ^ 64 - 1 - q=2 ^ 64 - (q+1):=by omega
  constructor
  · intro h k hk
    have h1:=congrArg (fun n=>n.testBit k) h
    simp only [Nat.testBit_and,hk,Nat.zero_testBit,Bool.true_and] at h1
    rw [e,Nat.testBit_two_pow_sub_succ (by omega)] at h1
    have hk64:k < 64:=by
      rcases Nat.lt_or_ge k 64 with h2 | h2
      · exact h2
      · rw [Nat.testBit_lt_two_pow (Nat.lt_of_lt_of_le hx (Nat.pow_le_pow_right (by decide) (by omega)))] at hk;cases hk
    rw [decide_eq_true hk64] at h1
    simpa using h1
  · intro h
    refine Nat.eq_of_testBit_eq fun k=>?_
    rw [Nat.zero_testBit,Nat.testBit_and,e,Nat.testBit_two_pow_sub_succ (by omega)]
    cases hk:x.testBit k with
    | false=>rfl
    | true=>rw [h k hk];simp
theorem strk_sub {a:Int} {q:Nat} (ha:-9223372036854775808≤a) (ha':a≤9223372036854775807) (hq:q < 2 ^ 63):strk a q=0↔0≤a∧∀ k,a.toNat.testBit k=true→q.testBit k=true:=by
  rw [strk_zero ha ha' hq]
  constructor
  · rintro ⟨h1, h2⟩
    exact ⟨h1,(sub_iff hq (by omega)).1 h2⟩
  · rintro ⟨h1, h2⟩
    exact ⟨h1,(sub_iff hq (by omega)).2 h2⟩
theorem job_ok {m n i : Nat} {j : Job} (hn : n ≤ 6) (hi : i < n) (ha : -9223372036854775808 ≤ j.af ∧ j.af ≤ 9223372036854775807) : jobB m n i j = true ↔ JobOk m n i 30 j := by
  have hst:decide (strk j.af (othN n i)=0)=true↔(0≤j.af∧j.af.toNat < 2 ^ n∧j.af.toNat.testBit i=false):=by
    have hol:=othN_lt (n:=n) (i:=i) hn
    rw [decide_eq_true_eq,strk_sub ha.1 ha.2 (by omega)]
    constructor
    · rintro ⟨h1, h2⟩
      refine ⟨h1,Nat.lt_pow_two_of_testBit _ fun q hq=>?_,?_⟩
      · cases hb : j.af.toNat.testBit q with
        | false=>rfl
        | true =>
          have:=h2 q hb
          rw [othN_bit hn (by omega),decide_eq_false (by omega)] at this
          cases this
      · cases hb : j.af.toNat.testBit i with
        | false=>rfl
        | true =>
          have:=h2 i hb
          rw [othN_bit hn (by omega)] at this
          simp at this
    · rintro ⟨h1, h2, h3⟩
      refine ⟨h1,fun q hq=>?_⟩
      rw [othN_bit hn (by omega)]
      have hqn:q < n:=by
        rcases Nat.lt_or_ge q n with h | h
        · exact h
        · rw [Nat.testBit_lt_two_pow (Nat.lt_of_lt_of_le h2 (Nat.pow_le_pow_right (by decide) h))] at hq;cases hq
      have hne:¬ i=q:=fun e=>by rw [e] at h3;rw [h3] at hq;cases hq
      rw [decide_eq_true hqn,decide_eq_false hne];rfl
  unfold jobB
  simp only [Bool.and_eq_true,hst,numB,upB,decide_eq_true_eq]
  constructor
  · rintro ⟨a, b, c, d, e, f, g, h, k⟩
    exact ⟨a,⟨b,c,d⟩,e,f,g,h,k⟩
  · rintro ⟨a, ⟨b, c, d⟩, e, f, g, h, k⟩
    exact ⟨a,b,c,d,e,f,g,h,k⟩
theorem val_ok {s:Shp} (hi:s.i64) (h:s.val=true):s.ok 30:=by
  unfold Shp.val at h
  simp only [Bool.and_eq_true,decide_eq_true_eq,List.all_eq_true,List.mem_range] at h
  obtain ⟨⟨h1,h2⟩,h3,h4⟩:=h
  refine ⟨h1,h2,by decide,fun x hx=>?_,fun i hi'=>?_⟩
  · have := h3 x hx
    simp only [upB,Bool.and_eq_true,decide_eq_true_eq] at this
    exact this
  · have := h4 i hi'
    rw [Shp.job_at hi'] at this
    exact (job_ok h2 hi' (hi i hi')).1 this
def seenN:List Int→Nat
  | []=>0
  | x::l=>seenN l ||| 1 * 2 ^ x.toNat
theorem seenN_bit (q:Nat):∀ l:List Int,(seenN l).testBit q=l.any fun x=>decide (x.toNat=q)
  | []=>by simp [seenN]
  | x :: l => by
    rw [seenN,Nat.testBit_or,seenN_bit q l,Nat.one_mul,Nat.testBit_two_pow,List.any_cons,Bool.or_comm]
theorem seenN_snoc (l:List Int) (x:Int):seenN (l++[x])=seenN l ||| 1 * 2 ^ x.toNat:=Nat.eq_of_testBit_eq fun q=>by
  rw [seenN_bit,Nat.testBit_or,seenN_bit,Nat.one_mul,Nat.testBit_two_pow,List.any_append]
  simp
theorem all_no {α:Type} {xs:List α} {p:α→Bool} {i:Nat} (hi:i < xs.length) (h:p xs[i]=false):xs.all p=false:=by
  cases ha:xs.all p with
  | false=>rfl
  | true =>
    rw [List.all_eq_true.1 ha _ (List.getElem_mem hi)] at h
    cases h
def ordB (n:Nat) (xs:List Int):Bool:=decide (xs.length=n) && (xs.all (numB n) && decide (seenN xs=allN n))
section
variable (s:Shp) {t1 t2:Tail} (h1:t1.isOwn=false) (h2:t2.isOwn=false)
include h1 h2
theorem f72 (hn : s.jo.length ≤ 6) (tl : Tail) (htl : tl.isOwn = false) (xs : List Int) (hx : xs.length ≤ 1000000) : Fn P0 72 [s.v t1 t2, .sl tl (xs.map I)] (B (ordB s.jo.length xs)) := by
  have hall:=f89 s t1 t2 hn
  have hbs:PV.bds 0 [s.v t1 t2]=true:=bd_shpV s h1 h2 rfl
  have hal:=allN_lt hn
  obtain ⟨su,jo⟩:=s
  simp only at hall hbs hal hn ⊢
  refine PFun.of (C:=c72) (cx_ok _ _ _) rfl (fn:=Try.f72) (by kernel_rfl) (c:=_) rfl rfl rfl ?_
  refine Run.seq (Run.region (cx_ok _ _ _) (Reg.op rfl (Ope.boxF rfl rfl ?_)))
  refine Reg.op rfl (Ope.asg rfl ?_)
  refine Reg.nil (Run.seq (Run.seq (Run.region (cx_ok _ _ _) (Reg.op rfl (Ope.mov rfl ?_)))))
  refine Reg.op rfl (Ope.len (m:=xs.length) rfl (by simp) ?_)
  refine Reg.op rfl (Ope.fld rfl rfl ?_)
  refine Reg.op rfl (Ope.fld rfl rfl ?_)
  refine Reg.op rfl (Ope.load rfl rfl ?_)
  refine Reg.op rfl (Ope.len (m:=jo.length) rfl (by simp) ?_)
  refine Reg.op rfl (Ope.ne rfl rfl ?_)
  refine Reg.nil (Run.condX rfl (fun hc=>?_) fun hc=>?_)
  ·refine Run.seq (Run.region (cx_ok _ _ _) (Reg.op rfl (Ope.asg rfl ?_)))
   refine Reg.nil (Run.ret (Jmp.code (fin_ret (.tmp rfl .nil) rfl ?_)))
   first
   | (show B _ = B _
      unfold ordB
      rw [decide_eq_false (show ¬ xs.length=jo.length by omega)];rfl)
   | (show B _ = B _
      unfold ordB
      rw [all_no hlt hc,Bool.false_and,Bool.and_false])
   | (show B (decide (((seenN xs : Nat) : Int) = ((allN jo.length : Nat) : Int))) = B _
      unfold ordB
      rw [decide_eq_true hlen,show xs.all (numB jo.length)=true from List.all_eq_true.2 fun x hx=>by
        obtain ⟨k,hk,rfl⟩:=List.getElem_of_mem hx
        exact hnum k hk hk,Bool.true_and,Bool.true_and]
      exact congrArg B (decide_eq_decide.2 (by omega)))
  ·refine Run.skip (Run.seq (Run.region (cx_ok _ _ _) (Reg.op rfl (Ope.asg rfl ?_))))
   refine Reg.nil (Run.seq (Run.seq (Run.region (cx_ok _ _ _) (Reg.op rfl (Ope.mov rfl ?_)))))
   refine Reg.op rfl (Ope.len (m:=xs.length) rfl (by simp) ?_)
   refine Reg.op rfl (Ope.mov rfl ?_)
   refine Reg.nil (Run.block ?_)
   have hlen:xs.length=jo.length:=by omega
   refine Run.loop (α:=Nat) (fun i=>[(2,.fp (.agg [.sl t1 (su.map I),.sl t2 (jo.map Job.v)])),(5,N (seenN (xs.take i))),(15,.sl tl (xs.map I)),(16,I xs.length),(17,I i)]) (fun _=>HE 0 []) (fun i=>i≤xs.length∧(∀ k (hk:k < xs.length),k < i→numB jo.length xs[k]=true)∧seenN (xs.take i) < 64) (fun i=>xs.length - i) 0 ⟨rfl,rfl,rfl,rfl,rfl,trivial⟩ rfl ⟨Nat.zero_le _,fun k _ hk=>absurd hk (Nat.not_lt_zero _),by show 0 < 64;decide⟩ (fun i hi=>?_)
   obtain ⟨hi,hnum,hse⟩:=hi
   refine Run.seq (Run.region (cx_ok _ _ _) (Reg.op rfl (Ope.lt rfl rfl ?_)))
   refine Reg.nil (Run.seq (Run.condX rfl (fun hc=>?_) fun hc=>?_))
   ·refine Run.skip (Run.seq (Run.block (Run.seq ?_)))
    have hlt:i < xs.length:=by omega
    have et:xs.take (i+1)=xs.take i++[xs[i]]:=List.take_succ_eq_append_getElem hlt
    have es:=seenN_snoc (xs.take i) xs[i]
    rw [← et] at es
    refine Run.region (cx_ok _ _ _) (Reg.op rfl (Ope.idxM (m:=i) (f:=I) rfl rfl rfl hlt (fun _=>rfl) ?_))
    refine Reg.op rfl (Ope.load rfl rfl ?_)
    refine Reg.op rfl (Ope.asg rfl ?_)
    refine Reg.nil (Run.seq (Run.seq (Run.region (cx_ok _ _ _) (Reg.op rfl (Ope.fld rfl rfl ?_)))))
    refine Reg.op rfl (Ope.fld rfl rfl ?_)
    refine Reg.op rfl (Ope.load rfl rfl ?_)
    refine Reg.op rfl (Ope.len (m:=jo.length) rfl (by simp) ?_)
    refine Reg.op rfl (Ope.mov rfl ?_)
    refine Reg.op rfl (Ope.cf rfl rfl (f94b jo.length xs[i]) rfl ?_)
    refine Reg.op rfl (Ope.not rfl ?_)
    refine Reg.nil (Run.condX rfl (fun hc=>?_) fun hc=>?_)
    ·refine Run.seq (Run.region (cx_ok _ _ _) (Reg.op rfl (Ope.asg rfl ?_)))
     refine Reg.nil (Run.ret (Jmp.code (Jmp.retB (Jmp.code (Jmp.round (Jmp.retB (Jmp.code (fin_ret (.tmp rfl .nil) rfl ?_))))))))
     first
     | (show B _ = B _
        unfold ordB
        rw [decide_eq_false (show ¬ xs.length=jo.length by omega)];rfl)
     | (show B _ = B _
        unfold ordB
        rw [all_no hlt hc,Bool.false_and,Bool.and_false])
     | (show B (decide (((seenN xs : Nat) : Int) = ((allN jo.length : Nat) : Int))) = B _
        unfold ordB
        rw [decide_eq_true hlen,show xs.all (numB jo.length)=true from List.all_eq_true.2 fun x hx=>by
          obtain ⟨k,hk,rfl⟩:=List.getElem_of_mem hx
          exact hnum k hk hk,Bool.true_and,Bool.true_and]
        exact congrArg B (decide_eq_decide.2 (by omega)))
    ·refine Run.skip ?_
     have hnb:numB jo.length xs[i]=true:=by simpa using hc
     obtain ⟨hb0,hb1⟩:0≤xs[i]∧xs[i] < jo.length:=by
       simpa only [numB,Bool.and_eq_true,decide_eq_true_eq] using hnb
     have hpw:=pow6 (show xs[i].toNat≤6 by omega)
     have hse2:seenN (xs.take i) ||| 1 * 2 ^ xs[i].toNat < 2 ^ 6:=Nat.or_lt_two_pow hse (by rw [Nat.one_mul];exact Nat.pow_lt_pow_right (by decide) (by omega))
     refine Run.region (cx_ok _ _ _) (Reg.op rfl (Ope.mov rfl ?_))
     refine Reg.op rfl (Ope.mov rfl ?_)
     refine Reg.op rfl (Ope.shlN (p:=1) (m:=xs[i].toNat) rfl rfl rfl (by omega) (by omega) (by omega) ?_)
     refine Reg.op rfl (Ope.orN (p:=seenN (xs.take i)) (q:=1 * 2 ^ xs[i].toNat) rfl rfl rfl rfl (by show _ < 2 ^ 63;omega) (by show _ < 2 ^ 63;omega) ?_)
     refine Reg.op rfl (Ope.asg rfl ?_)
     refine Reg.nil (Run.bend (Run.region (cx_ok _ _ _) (Reg.op rfl (Ope.add rfl rfl (by omega) ?_))))
     refine Reg.op rfl (Ope.mov rfl ?_)
     refine Reg.nil ?_
     exact Run.lend ⟨i+1,by omega,⟨by omega,fun k hk hki=>by
       by_cases hkk:k=i
       · subst hkk;exact hnb
       · exact hnum k hk (by omega),by rw [es];exact hse2⟩,⟨rfl,congrArg (fun n:Nat=>some (I n)) es.symm,rfl,rfl,rfl,trivial⟩,rfl,rfl⟩
   ·refine Run.exit (Jmp.code (Jmp.round (Jmp.here (Run.seq ?_))))
    obtain rfl:i=xs.length:=by omega
    rw [List.take_length]
    refine Run.region (cx_ok _ _ _) (Reg.op rfl (Ope.mov rfl ?_))
    refine Reg.op rfl (Ope.load rfl rfl ?_)
    refine Reg.op rfl (Ope.cf rfl rfl hall hbs ?_)
    refine Reg.op rfl (Ope.eq rfl rfl ?_)
    refine Reg.op rfl (Ope.asg rfl ?_)
    refine Reg.nil (Run.ret (fin_ret (.tmp rfl .nil) rfl ?_))
    first
    | (show B _ = B _
       unfold ordB
       rw [decide_eq_false (show ¬ xs.length=jo.length by omega)];rfl)
    | (show B _ = B _
       unfold ordB
       rw [all_no hlt hc,Bool.false_and,Bool.and_false])
    | (show B (decide (((seenN xs : Nat) : Int) = ((allN jo.length : Nat) : Int))) = B _
       unfold ordB
       rw [decide_eq_true hlen,show xs.all (numB jo.length)=true from List.all_eq_true.2 fun x hx=>by
         obtain ⟨k,hk,rfl⟩:=List.getElem_of_mem hx
         exact hnum k hk hk,Bool.true_and,Bool.true_and]
       exact congrArg B (decide_eq_decide.2 (by omega)))
end
end Go.Pv
namespace Go.Pv
open Go.Proofs Go.Am
set_option maxRecDepth 10000
structure Ordr (n:Nat) (o:List Nat):Prop where
  len:o.length=n
  lt:∀ i∈o,i < n
  all:∀ i,i < n→i∈o
theorem ordr_B {n:Nat} (hn:n≤6) {o:List Nat} (h:Ordr n o):ordB n (o.map fun i:Nat=>(i:Int))=true:=by
  unfold ordB
  simp only [Bool.and_eq_true,decide_eq_true_eq,List.all_eq_true,List.length_map]
  refine ⟨h.len,fun x hx=>?_,?_⟩
  · obtain ⟨i, hi, rfl⟩ := List.mem_map.1 hx
    have:=h.lt i hi
    simp only [numB,Bool.and_eq_true,decide_eq_true_eq]
    omega
  · refine Nat.eq_of_testBit_eq fun q => ?_
    rw [seenN_bit]
    unfold allN
    rw [Nat.one_mul,Nat.testBit_two_pow_sub_one]
    by_cases hq:q < n
    · rw [decide_eq_true hq]
      exact List.any_eq_true.2 ⟨(q:Int),List.mem_map.2 ⟨q,h.all q hq,rfl⟩,decide_eq_true (by simp)⟩
    · rw [decide_eq_false hq]
      rw [List.any_eq_false]
      intro x hx
      obtain ⟨i,hi,rfl⟩:=List.mem_map.1 hx
      have:=h.lt i hi
      simp only [decide_eq_true_eq]
      omega
theorem lon_ok {s:Shp} {H n:Int} (hs:s.ok H) (hn:0≤n) (hH:H+n≤100):(s.lon n).ok (H+n):=by
  have hl:(s.lon n).jo.length=s.jo.length:=by simp [Shp.lon]
  refine ⟨hs.su,by rw [hl];exact hs.jo,hH,hs.sv,fun i hi=>?_⟩
  have hi':i < s.jo.length:=by omega
  have h:=hs.jv i hi'
  have e:(s.lon n).jo[i]=(s.jo[i]).lon n:=by simp [Shp.lon]
  rw [e,hl]
  have:=h.mi
  exact ⟨h.kd,⟨this.1,by show s.jo[i].lo≤s.jo[i].hi+n;omega,by show s.jo[i].hi+n≤H+n;omega⟩,h.fr,h.so,h.bt,h.co,h.af⟩
def Shp.slk (s:Shp) (o:List Nat):Nat→Nat→Nat
  | 0,m=>m
  | k+1,m=>if (s.lon ((m:Int)+1)).rgt o=true then s.slk o k (m+1) else m
def Wrk.sp (w:Wrk):PV:=.agg [I w.d0,I w.d1]
section
variable (s:Shp) {t1 t2:Tail} (h1:t1.isOwn=false) (h2:t2.isOwn=false)
include h1 h2
theorem f47 {H:Int} (hs:s.ok H) (tl:Tail) (htl:tl.isOwn=false) (o:List Nat) (hl:o.length≤100) (ho:∀ i∈o,i < s.jo.length):Fn P0 47 [s.v t1 t2,.sl tl (o.map N)] (.sl .no ((s.alg Shp.p0 o).map Wrk.sp)):=by
  have hal:=f73 s h1 h2 hs tl o hl ho
  have hbo:=bd_ord s h1 h2 tl htl o
  have hwl:(s.alg Shp.p0 o).length≤100:=by rw [alg_len];exact hl
  change Fn P0 73 _ (.sl .no ((s.alg Shp.p0 o).map Wrk.v)) at hal
  generalize s.alg Shp.p0 o=ws at *
  refine PFun.of (C:=c47) (cx_ok _ _ _) rfl (fn:=Try.f47) (by kernel_rfl) (c:=_) rfl rfl rfl ?_
  refine Run.seq (Run.region (cx_ok _ _ _) (Reg.op rfl (Ope.boxF rfl rfl ?_)))
  refine Reg.op rfl (Ope.asg rfl ?_)
  refine Reg.nil (Run.seq (Run.region (cx_ok _ _ _) (Reg.op rfl (Ope.asg rfl ?_))))
  refine Reg.nil (Run.seq (Run.seq (Run.region (cx_ok _ _ _) (Reg.op rfl (Ope.load rfl rfl ?_)))))
  refine Reg.op rfl (Ope.mov rfl ?_)
  refine Reg.op rfl (Ope.cf rfl rfl hal hbo ?_)
  refine Reg.op rfl (Ope.len (m:=ws.length) rfl (by simp) ?_)
  refine Reg.op rfl (Ope.mov rfl ?_)
  refine Reg.nil (Run.block (Run.loop (α:=Nat×Option Nat×Nat) (fun t=>[(5,.sl (tlU t.2.1) ((ws.take t.1).map Wrk.sp)),(10,.sl .no (ws.map Wrk.v)),(11,I ws.length),(12,I t.1)]) (fun t=>HE t.2.2 (ownU t.2.1++[])) (fun t=>t.1≤ws.length∧(∀ j,t.2.1=some j→j < t.2.2∧t.1≠0)) (fun t=>ws.length - t.1) (0,none,0) ⟨rfl,rfl,rfl,rfl,trivial⟩ rfl ⟨Nat.zero_le _,(fun j hj=>by cases hj)⟩ (fun t ht=>?_)))
  obtain ⟨i,o',m⟩:=t
  obtain ⟨hi,hO⟩:=ht
  simp only at hi hO
  show Run _ _ _ _ [(5,.sl (tlU o') ((ws.take i).map Wrk.sp)),(10,.sl .no (ws.map Wrk.v)),(11,I ws.length),(12,I i)] [] (HE m (ownU o'++[]))
  refine Run.seq (Run.region (cx_ok _ _ _) (Reg.op rfl (Ope.lt rfl rfl ?_)))
  refine Reg.nil (Run.seq (Run.condX rfl (fun hc=>?_) fun hc=>?_))
  ·refine Run.skip (Run.seq (Run.block (Run.seq ?_)))
   have hlt:i < ws.length:=by omega
   have et:(ws.take (i+1)).map Wrk.sp=(ws.take i).map Wrk.sp++[ws[i].sp]:=by rw [List.take_succ_eq_append_getElem hlt,List.map_append];rfl
   have htl':(ws.take i).length=i:=by rw [List.length_take];omega
   refine Run.region (cx_ok _ _ _) (Reg.op rfl (Ope.idxM (m:=i) (f:=Wrk.v) rfl rfl rfl hlt (fun _=>rfl) ?_))
   refine Reg.op rfl (Ope.load rfl rfl ?_)
   refine Reg.op rfl (Ope.newL rfl ?_)
   refine Reg.op0 (Ope.store rfl rfl hget_hd rfl rfl rfl ?_)
   refine Reg.nil (Run.frz (d:=7) true rfl hget_hd rfl ?_)
   refine Run.wide (m:=m+1) (l':=ownU o'++[]) (Nat.le_refl _) (hsub_U (fun j hj=>(hget_tl (by have:=hO j hj;omega)).trans ((hget_tl (by have:=hO j hj;omega)).trans ((hget_tl (by have:=hO j hj;omega)).trans (ownU_at hj)))) trivial) ?_
   refine Run.region (cx_ok _ _ _) (Reg.op rfl (Ope.mov rfl ?_))
   refine Reg.op rfl (Ope.fld rfl rfl ?_)
   refine Reg.op rfl (Ope.load rfl rfl ?_)
   refine Reg.op rfl (Ope.cf rfl rfl (f74 ws[i].d0 ws[i].d1) rfl ?_)
   refine Reg.op rfl (Ope.bsl rfl rfl rfl rfl ?_)
   refine Reg.op rfl (Ope.apU (o':=o') (vs:=(ws.take i).map Wrk.sp) (ws:=[ws[i].sp]) rfl rfl (by simp) (fun j hj=>⟨map_ne (by have:=hO j hj;omega),rfl⟩) (by simp only [List.length_map,List.length_singleton,htl'];omega) (by simp only [List.length_map,List.length_singleton,htl'];omega) (by decide) (by intro v hv;obtain ⟨_,_,rfl⟩:=List.mem_map.1 hv;rfl) (by intro v hv;simp only [List.mem_singleton] at hv;subst hv;exact ⟨rfl,rfl⟩) ?_)
   refine Reg.op rfl (Ope.asg rfl ?_)
   refine Reg.nil (Run.bend (Run.region (cx_ok _ _ _) (Reg.op rfl (Ope.add rfl rfl (by omega) ?_))))
   refine Reg.op rfl (Ope.mov rfl ?_)
   exact Reg.nil (Run.lend ⟨(i+1,some (m+1),m+1+1),by show ws.length - (i+1) < ws.length - i;omega,⟨by show i+1≤ws.length;omega,fun j hj=>by cases hj;exact ⟨Nat.lt_succ_self _,Nat.succ_ne_zero _⟩⟩,⟨congrArg (fun l=>some (PV.sl (.own (m+1)) l)) et.symm,rfl,rfl,rfl,trivial⟩,rfl,rfl⟩)
  ·refine Run.exit (Jmp.code (Jmp.round (Jmp.here (Run.seq ?_))))
   obtain rfl:i=ws.length:=by omega
   rw [List.take_length]
   refine Run.weakT (d:=5) rfl ?_
   refine Run.region (cx_ok _ _ _) (Reg.op rfl (Ope.mov rfl ?_))
   refine Reg.op rfl (Ope.asg rfl ?_)
   exact Reg.nil (Run.ret (fin_ret (.tmp rfl .nil) (bd_sl (f:=Wrk.sp) (tl:=.no) rfl (fun _=>rfl) _) rfl))
theorem f54 (hs:s.ok 30) (tl:Tail) (htl:tl.isOwn=false) (o:List Nat) (hl:o.length≤100) (ho:∀ i∈o,i < s.jo.length) (hr:s.rgt o=true):Fn P0 54 [s.v t1 t2,.sl tl (o.map N)] (N (s.slk o 30 0)):=by
  have hri:=f79 s h1 h2 hs tl htl o hl ho
  rw [hr] at hri
  have hbo:=bd_ord s h1 h2 tl htl o
  have hbn:∀ n:Int,PV.bds 0 [s.v t1 t2,I n]=true:=fun n=>bd_shpV s h1 h2 rfl
  generalize hz:s.slk o 30 0=z
  refine PFun.of (C:=c54) (cx_ok _ _ _) rfl (fn:=Try.f54) (by kernel_rfl) (c:=_) rfl rfl rfl ?_
  refine Run.seq (Run.region (cx_ok _ _ _) (Reg.op rfl (Ope.boxF rfl rfl ?_)))
  refine Reg.op rfl (Ope.asg rfl ?_)
  refine Reg.nil (Run.seq (Run.region (cx_ok _ _ _) (Reg.op rfl (Ope.load rfl rfl ?_))))
  refine Reg.op rfl (Ope.mov rfl ?_)
  refine Reg.op rfl (Ope.cf rfl rfl hri hbo ?_)
  refine Reg.op rfl (Ope.cf rfl rfl (f71t 4) rfl ?_)
  refine Reg.nil (Run.seq (Run.region (cx_ok _ _ _) (Reg.op rfl (Ope.asg rfl ?_))))
  refine Reg.nil (Run.seq (Run.block (Run.loop (α:=Nat) (fun m=>[(1,.sl tl (o.map N)),(2,.fp (s.v t1 t2)),(5,I m)]) (fun _=>HE 0 []) (fun m=>m≤30∧s.slk o (30 - m) m=z) (fun m=>30 - m) 0 ⟨rfl,rfl,rfl,trivial⟩ rfl ⟨Nat.zero_le _,hz⟩ (fun m hm=>?_))))
  obtain ⟨hm,hmz⟩:=hm
  refine Run.seq (Run.seq ?_)
  obtain ⟨t3,ht3,hlon⟩:∃ t3:Tail,t3.isOwn=false∧(m < 30→Fn P0 80 [s.v t1 t2,I ((m:Int)+1)] ((s.lon ((m:Int)+1)).v t1 t3)):=by
    by_cases hm30:m < 30
    · obtain ⟨t3, a, b⟩ := f80 s h1 h2 hs ((m : Int) + 1) (by omega)
      exact ⟨t3,a,fun _=>b⟩
    · exact ⟨.no,rfl,fun h=>absurd h hm30⟩
  have hrl:=fun hm30:m < 30=>f79 (s.lon ((m:Int)+1)) h1 ht3 (lon_ok hs (by omega) (by omega)) tl htl o hl (fun i hi=>by show i < (s.jo.map _).length;rw [List.length_map];exact ho i hi)
  have hbl:=bd_ord (s.lon ((m:Int)+1)) h1 ht3 tl htl o
  have hst:m < 30→s.slk o (30 - m) m=if (s.lon ((m:Int)+1)).rgt o=true then s.slk o (30 - (m+1)) (m+1) else m:=fun h=>by
    obtain ⟨k,hk⟩:∃ k,30 - m=k+1:=⟨30 - m - 1,by omega⟩
    rw [hk,show 30 - (m+1)=k from by omega];rfl
  refine Run.region (cx_ok _ _ _) (Reg.op rfl (Ope.mov rfl ?_))
  refine Reg.op rfl (Ope.lt rfl rfl ?_)
  refine Reg.op rfl (Ope.mov rfl ?_)
  refine Reg.splitX rfl rfl (fun hg=>?_) fun hg=>?_
  ·refine Reg.on rfl rfl rfl (Ope.load rfl rfl ?_)
   refine Reg.on rfl rfl rfl (Ope.mov rfl ?_)
   refine Reg.on rfl rfl rfl (Ope.add rfl rfl (by omega) ?_)
   refine Reg.on rfl rfl rfl (Ope.cf rfl rfl (hlon (by omega)) (hbn _) ?_)
   refine Reg.on rfl rfl rfl (Ope.mov rfl ?_)
   refine Reg.on rfl rfl rfl (Ope.cf rfl rfl (hrl (by omega)) hbl ?_)
   refine Reg.op rfl (Ope.pickT rfl rfl ?_)
   refine Reg.nil (Run.condX rfl (fun hc=>?_) fun hc=>?_)
   ·refine Run.skip (Run.block (Run.region (cx_ok _ _ _) (Reg.op rfl (Ope.mov rfl ?_))))
    refine Reg.op rfl (Ope.add rfl rfl (by omega) ?_)
    refine Reg.op rfl (Ope.asg rfl ?_)
    exact Reg.nil (Run.bend (Run.lend ⟨m+1,by omega,⟨by omega,by rw [← hmz,hst (by omega),hc];rfl⟩,⟨rfl,rfl,rfl,trivial⟩,rfl,rfl⟩))
   ·refine Run.exit (Jmp.code (Jmp.round (Jmp.here (Run.seq (Run.region (cx_ok _ _ _) (Reg.op rfl (Ope.mov rfl ?_)))))))
    refine Reg.op rfl (Ope.asg rfl ?_)
    refine Reg.nil (Run.ret (fin_ret (.tmp rfl .nil) rfl ?_))
    first
    | (rw [← hmz,hst (by omega),hc];rfl)
    | (obtain rfl : m = 30 := by omega
       rw [← hmz];rfl)
  ·refine Reg.off rfl rfl rfl (Reg.off rfl rfl rfl (Reg.off rfl rfl rfl (Reg.off rfl rfl rfl (Reg.off rfl rfl rfl (Reg.off rfl rfl rfl (Reg.op rfl (Ope.pickF rfl rfl ?_)))))))
   refine Reg.nil (Run.condF rfl (Run.exit (Jmp.code (Jmp.round (Jmp.here (Run.seq (Run.region (cx_ok _ _ _) (Reg.op rfl (Ope.mov rfl ?_)))))))))
   refine Reg.op rfl (Ope.asg rfl ?_)
   refine Reg.nil (Run.ret (fin_ret (.tmp rfl .nil) rfl ?_))
   first
   | (rw [← hmz,hst (by omega),hc];rfl)
   | (obtain rfl : m = 30 := by omega
      rw [← hmz];rfl)
end
end Go.Pv
namespace Go.Pv
open Go.Am Go.RowKit
def TilY (C:Cx) (fn:Func) (n:Nat) (R:PV→PH→Prop) (gd:FuncId) (caps:List PV) (y:Code) (e:EL) (h:PH):Prop :=
 PWP C.P C.fi fn.ntmps none y (fun x t ds h=>match x with
  |.normal=>Undo ds h∧PDefer C.A C.P gd caps (.lit .nilifc) (unds ds h) (fun h2=>PRes C.A fn n R t h2)
  |.jump .ret=>Undo ds h∧PDefer C.A C.P gd caps (.lit .nilifc) (unds ds h) (fun h2=>PRes C.A fn n R t h2)
  |_=>False) (fun t ds v h=>Undo ds h∧PDefer C.A C.P gd caps v (unds ds h) (fun h2=>PRes C.A fn n R t h2)) (TE e) [] h
section
variable {C:Cx} {fn:Func} {n:Nat} {R X:PV→PH→Prop} {e:EL} {h:PH} {gd:FuncId} {caps:List PV}
theorem Til.deferY (hC:C.Ok) (hf:C.A.funcs.get C.fi=some fn) {id dm:Nat} {mk df:Oper} {c:Call} {f:Operand} {y:Code}
  (hmd:mk.dst=some dm) (hml:Nat.blt dm fn.ntmps=true) (hmg:mk.guard=none) (hdg:df.guard=none) (hdd:df.dst=none) (hop:df.op=.defer c) (hcal:c.callee=.value f) (hargs:c.args=#[])
  (hmk:Ope C (fun _ _ _=>False) mk e [] h fun v h'=>h'=h∧v=.fn (.func gd) [] caps) (hfv:pev (lget ((dm,.fn (.func gd) [] caps)::e)) f=some (.fn (.func gd) [] caps))
  (hy:TilY C fn n R gd caps y ((dm,.fn (.func gd) [] caps)::e) h):Til C fn n R X (.seq (.region id #[mk,df] false) y) e h:=by
 have hget:(tput (TE e) mk.dst (.fn (.func gd) [] caps)).get=lget ((dm,.fn (.func gd) [] caps)::e):=by
  rw [hmd]
  exact put_get (TE_getf e) dm _
 refine PTail.defer (M:=C.M) (gd:=gd) (caps:=caps) (f:=f) hC.A hC.E hf (by rw [hmd];exact hml) hmg hdg hdd hop hcal hargs ?_ (by rw [hget];exact hfv) ?_
 ·unfold Ope at hmk
  rw [TE_getf]
  exact hmk
 ·unfold TilY at hy
  exact PWP.less hy fun i v hi=>by
   rw [hget]
   rw [TE_get] at hi
   exact hi
theorem TilY.seq (hs:C.sz=fn.ntmps) (hr:C.rnd=none) {x y:Code} (hx:Run C (fun q e ds h=>q=.normal∧ds=[]∧TilY C fn n R gd caps y e h) (fun _ _ _=>False) [.c x] e [] h):TilY C fn n R gd caps (.seq x y) e h:=by
 have h1:=hx.wp (t:=TE e) (Sub.refl e)
 rw [Cx.wp,hs,hr] at h1
 refine PWP.seq (PWP.mono h1 ?_ fun _ _ _ _ h=>h.elim)
 rintro q t ds h' ⟨e',hsub,rfl,rfl,ht⟩
 unfold TilY at ht
 exact PWP.less ht fun i v hi=>by rw [TE_get] at hi;exact hsub i v hi
theorem TilY.reg (hC:C.Ok) (hs:C.sz=fn.ntmps) {id2:Nat} {ops:Array Oper} {y:Code} (m:Nat) (e0:EL)
  (he0:e0.all (fun p=>(ops.toList.take m).all (fun o=>match o.dst with | some d=>!Nat.beq d p.1 | none=>true))=true) (he1:Lsub e0 e)
  (hreg:RegP C (fun e' h'=>Reg C (fun q e ds h=>q=.normal∧ds=[]∧TilY C fn n R gd caps y e h) (fun _ _ _=>False) [] ops.toList (ops.toList.drop m) e' [] h') (fun ds v h=>Undo ds h∧PDefer C.A C.P gd caps v (unds ds h) (ResE C fn n R e0)) ops.toList (ops.toList.take m) e [] h) :
  TilY C fn n R gd caps (.seq (.region id2 ops false) y) e h:=by
 refine PWP.seq (PWP.region2 (M:=C.M) hC.A hC.E m ?_)
 have h1:=hreg _ (TE_getf e)
 rw [hs] at h1
 refine preg_mono ?_ ?_ _ _ _ h1
 ·rintro t' h' ⟨e',hsub',h2⟩
  unfold Reg at h2
  have h3:=h2 _ hsub'
  rw [hs] at h3
  refine preg_mono ?_ ?_ _ _ _ h3
  ·rintro t' h' ⟨e',hsub,_,_,hd⟩
   unfold TilY at hd
   exact PWP.less hd fun i v hi=>by rw [TE_get] at hi;exact hsub i v hi
  ·intro v h' hx;exact hx.elim
 ·rintro v h' ⟨hu,hd⟩
  refine ⟨hu,hd.mono fun _ hres=>hres.res fun i u hi=>?_⟩
  have hmem:∃ p∈e0,p.1=i:=by
   clear he0 he1 hres hd hu hreg h1
   induction e0 with
   |nil=>cases hi
   |cons p l ih =>
    obtain ⟨j,w⟩:=p
    simp only [lget] at hi
    split at hi
    ·next hb=>exact ⟨(j,w),by simp,(Nat.eq_of_beq_eq_true hb).symm⟩
    ·obtain ⟨p,h1,h2⟩:=ih hi
     exact ⟨p,List.mem_cons_of_mem _ h1,h2⟩
  obtain ⟨p,hp,rfl⟩:=hmem
  rw [tless_keep _ _ (List.all_eq_true.1 he0 p hp),TE_getf]
  exact he1.get hi
theorem TilY.ret (hd:PDefer C.A C.P gd caps (.lit .nilifc) h (ResE C fn n R e)):TilY C fn n R gd caps .ret e h :=
 PWP.jump (j:=.ret) trivial ⟨trivial,hd.mono fun _ hres=>hres.res fun i v hi=>by rw [TE_get];exact hi⟩
end
end Go.Pv
namespace Go.Pv
open Go.Proofs Go.Am
set_option maxRecDepth 10000
def Outs (P:Program) (g:Nat) (args:List PV) (u:PV) (e:Int):Prop:=PFun P g args (fun v=>e=0∧v=u) fun v=>e≠0∧v=.ifc 29 (I e)
theorem Outs.fn {P:Program} {g:Nat} {args:List PV} {u:PV} {e:Int} (h:Outs P g args u e) (he:e=0):Fn P g args u :=
  PCall.mono h (fun _ _ q=>⟨q.1,q.2.2⟩) fun _ _ q=>absurd he q.2.1
theorem d81n {n:Nat} {l:HL} {K:PH→Prop} (hK:K (HE n l)):PDefer A0 P0 81 [.ptr 0 0] (.lit .nilifc) (HE n l) K:=by
  refine PDefer.of (C:=c81) (fd:=Try.f81) (by kernel_rfl) rfl rfl rfl rfl rfl rfl rfl rfl rfl rfl ?_
  refine Run.block (Run.seq (Run.region (cx_ok _ _ _) ?_))
  first | refine Reg.op rfl (Ope.eq rfl rfl ?_) | refine Reg.op rfl (Ope.eqI rfl rfl ?_) | refine Reg.op rfl (Ope.eqN rfl rfl rfl ?_)
  refine Reg.nil (Run.condX rfl (fun hc=>?_) fun hc=>?_)
  ·first
   |exact absurd hc (by decide)
   |refine Run.region (cx_ok _ _ _) (Reg.op rfl (Ope.asg rfl ?_))
    exact Reg.nil (Run.bend (Run.done ⟨.inl rfl,trivial,hK⟩))
  ·first
   |exact absurd hc (by decide)
   |refine Run.seq (Run.region (cx_ok _ _ _) ?_)
    first | refine Reg.op rfl (Ope.tasY rfl rfl ?_) | refine Reg.op rfl (Ope.tasN rfl rfl ?_)
    refine Reg.op rfl (Ope.ext rfl rfl ?_)
    refine Reg.op rfl (Ope.ext rfl rfl ?_)
    refine Reg.nil (Run.condX rfl (fun hc=>?_) fun hc=>?_)
    ·first
     |exact absurd hc (by decide)
     |refine Run.seq (Run.region (cx_ok _ _ _) (Reg.op rfl (Ope.asg rfl ?_)))
      refine Reg.nil (Run.region (cx_ok _ _ _) (Reg.op rfl (Ope.mov rfl ?_)))
      refine Reg.op0 (Ope.store rfl rfl rfl rfl rfl rfl ?_)
      exact Reg.nil (Run.bend (Run.done ⟨.inl rfl,trivial,hK⟩))
    ·first
     |exact absurd hc (by decide)
     |refine Run.seq (Run.region (cx_ok _ _ _) (Reg.op rfl (Ope.asg rfl ?_)))
      refine Reg.nil (Run.region (cx_ok _ _ _) (Reg.op0 (Ope.store rfl rfl rfl rfl rfl rfl ?_)))
      exact Reg.nil (Run.bend (Run.done ⟨.inl rfl,trivial,hK⟩))
theorem f56ok (s:Shp) {t1 t2:Tail} (h1:t1.isOwn=false) (h2:t2.isOwn=false) (hS:s.su.length≤9223372036854775807) (hJ:s.jo.length≤9223372036854775807) (g:Nat) (cap:List PV) (a:Int) (hv:s.val=true) (hb:PV.bds 0 (s.v t1 t2::cap)=true) (hu:PV.bd 0 (I a)=true) (hf:Fn P0 g (s.v t1 t2::cap) (I a)):Fn P0 56 [s.v t1 t2,.fn (.func g) [] cap] (.tup [(I a),I 0]):=by
  have hva:=f82 s h1 h2 hS hJ
  rw [hv] at hva
  have hbs:PV.bds 0 [s.v t1 t2]=true:=bd_shpV s h1 h2 rfl
  unfold Fn PFun
  show PCall P0 56 _ (HE 0 []) _ _
  refine PCall.ofT (C:=c56) (cx_ok _ _ _) (fn:=Try.f56) (by kernel_rfl) (c:=_) rfl rfl ?_
  refine Til.seq rfl rfl ?_
  refine Run.region (cx_ok _ _ _) ?_
  refine Reg.op rfl (Ope.boxF rfl rfl ?_)
  refine Reg.op rfl (Ope.asg rfl ?_)
  refine Reg.op rfl (Ope.newL rfl ?_)
  refine Reg.nil ?_
  refine Run.done ⟨rfl,rfl,?_⟩
  refine Til.deferY (cx_ok _ _ _) (by kernel_rfl) rfl rfl rfl rfl rfl rfl rfl rfl (Ope.mkf rfl rfl ⟨rfl,rfl⟩) rfl ?_
  refine TilY.seq rfl rfl ?_
  refine Run.region (cx_ok _ _ _) ?_
  refine Reg.op rfl (Ope.load rfl rfl ?_)
  refine Reg.op rfl (Ope.bld rfl rfl ?_)
  refine Reg.op rfl (Ope.newL rfl ?_)
  refine Reg.op0 (Ope.store rfl rfl rfl rfl rfl rfl ?_)
  refine Reg.nil ?_
  refine Run.done ⟨rfl,rfl,?_⟩
  refine TilY.reg (cx_ok _ _ _) rfl 3 [(4,I 0),(5,.ptr 0 0)] rfl ⟨rfl,rfl,trivial⟩ ?_
  refine RegP.op rfl (Ope.load rfl rfl ?_)
  refine RegP.op rfl (Ope.cf rfl rfl hva hbs ?_)
  refine RegP.op rfl (Ope.cf rfl rfl (f71t 1) rfl ?_)
  refine RegP.nil ?_
  refine Reg.nil ?_
  refine Run.done ⟨rfl,rfl,?_⟩
  refine TilY.reg (cx_ok _ _ _) rfl 3 [(4,I 0),(5,.ptr 0 0)] rfl ⟨rfl,rfl,trivial⟩ ?_
  refine RegP.op rfl (Ope.mov rfl ?_)
  refine RegP.op rfl (Ope.load rfl rfl ?_)
  refine RegP.op rfl (Ope.cf rfl rfl hf hb ?_)
  refine RegP.nil ?_
  refine Reg.op rfl (Ope.asg rfl ?_)
  refine Reg.op0 (Ope.store rfl rfl rfl rfl rfl rfl ?_)
  refine Reg.nil ?_
  refine Run.done ⟨rfl,rfl,?_⟩
  refine TilY.ret (d81n ?_)
  exact ResE.ofF (.tmp rfl (.cell rfl rfl .nil)) (bds_cons hu rfl) rfl
theorem d93n {n:Nat} {l:HL} {K:PH→Prop} (hK:K (HE n l)):PDefer A0 P0 93 [.ptr 0 0] (.lit .nilifc) (HE n l) K:=by
  refine PDefer.of (C:=c93) (fd:=Try.f93) (by kernel_rfl) rfl rfl rfl rfl rfl rfl rfl rfl rfl rfl ?_
  refine Run.block (Run.seq (Run.region (cx_ok _ _ _) ?_))
  first | refine Reg.op rfl (Ope.eq rfl rfl ?_) | refine Reg.op rfl (Ope.eqI rfl rfl ?_) | refine Reg.op rfl (Ope.eqN rfl rfl rfl ?_)
  refine Reg.nil (Run.condX rfl (fun hc=>?_) fun hc=>?_)
  ·first
   |exact absurd hc (by decide)
   |refine Run.region (cx_ok _ _ _) (Reg.op rfl (Ope.asg rfl ?_))
    exact Reg.nil (Run.bend (Run.done ⟨.inl rfl,trivial,hK⟩))
  ·first
   |exact absurd hc (by decide)
   |refine Run.seq (Run.region (cx_ok _ _ _) ?_)
    first | refine Reg.op rfl (Ope.tasY rfl rfl ?_) | refine Reg.op rfl (Ope.tasN rfl rfl ?_)
    refine Reg.op rfl (Ope.ext rfl rfl ?_)
    refine Reg.op rfl (Ope.ext rfl rfl ?_)
    refine Reg.nil (Run.condX rfl (fun hc=>?_) fun hc=>?_)
    ·first
     |exact absurd hc (by decide)
     |refine Run.seq (Run.region (cx_ok _ _ _) (Reg.op rfl (Ope.asg rfl ?_)))
      refine Reg.nil (Run.region (cx_ok _ _ _) (Reg.op rfl (Ope.mov rfl ?_)))
      refine Reg.op0 (Ope.store rfl rfl rfl rfl rfl rfl ?_)
      exact Reg.nil (Run.bend (Run.done ⟨.inl rfl,trivial,hK⟩))
    ·first
     |exact absurd hc (by decide)
     |refine Run.seq (Run.region (cx_ok _ _ _) (Reg.op rfl (Ope.asg rfl ?_)))
      refine Reg.nil (Run.region (cx_ok _ _ _) (Reg.op0 (Ope.store rfl rfl rfl rfl rfl rfl ?_)))
      exact Reg.nil (Run.bend (Run.done ⟨.inl rfl,trivial,hK⟩))
theorem f69ok (s:Shp) {t1 t2:Tail} (h1:t1.isOwn=false) (h2:t2.isOwn=false) (hS:s.su.length≤9223372036854775807) (hJ:s.jo.length≤9223372036854775807) (g:Nat) (cap:List PV) (tl:Tail) (us:List PV) (hv:s.val=true) (hb:PV.bds 0 (s.v t1 t2::cap)=true) (hu:PV.bd 0 (.sl tl us)=true) (hf:Fn P0 g (s.v t1 t2::cap) (.sl tl us)):Fn P0 69 [s.v t1 t2,.fn (.func g) [] cap] (.tup [(.sl tl us),I 0]):=by
  have hva:=f82 s h1 h2 hS hJ
  rw [hv] at hva
  have hbs:PV.bds 0 [s.v t1 t2]=true:=bd_shpV s h1 h2 rfl
  unfold Fn PFun
  show PCall P0 69 _ (HE 0 []) _ _
  refine PCall.ofT (C:=c69) (cx_ok _ _ _) (fn:=Try.f69) (by kernel_rfl) (c:=_) rfl rfl ?_
  refine Til.seq rfl rfl ?_
  refine Run.region (cx_ok _ _ _) ?_
  refine Reg.op rfl (Ope.boxF rfl rfl ?_)
  refine Reg.op rfl (Ope.asg rfl ?_)
  refine Reg.op rfl (Ope.newL rfl ?_)
  refine Reg.nil ?_
  refine Run.done ⟨rfl,rfl,?_⟩
  refine Til.deferY (cx_ok _ _ _) (by kernel_rfl) rfl rfl rfl rfl rfl rfl rfl rfl (Ope.mkf rfl rfl ⟨rfl,rfl⟩) rfl ?_
  refine TilY.seq rfl rfl ?_
  refine Run.region (cx_ok _ _ _) ?_
  refine Reg.op rfl (Ope.load rfl rfl ?_)
  refine Reg.op rfl (Ope.bld rfl rfl ?_)
  refine Reg.op rfl (Ope.newL rfl ?_)
  refine Reg.op0 (Ope.store rfl rfl rfl rfl rfl rfl ?_)
  refine Reg.nil ?_
  refine Run.done ⟨rfl,rfl,?_⟩
  refine TilY.reg (cx_ok _ _ _) rfl 3 [(4,.sl .ex []),(5,.ptr 0 0)] rfl ⟨rfl,rfl,trivial⟩ ?_
  refine RegP.op rfl (Ope.load rfl rfl ?_)
  refine RegP.op rfl (Ope.cf rfl rfl hva hbs ?_)
  refine RegP.op rfl (Ope.cf rfl rfl (f71t 1) rfl ?_)
  refine RegP.nil ?_
  refine Reg.nil ?_
  refine Run.done ⟨rfl,rfl,?_⟩
  refine TilY.reg (cx_ok _ _ _) rfl 3 [(4,.sl .ex []),(5,.ptr 0 0)] rfl ⟨rfl,rfl,trivial⟩ ?_
  refine RegP.op rfl (Ope.mov rfl ?_)
  refine RegP.op rfl (Ope.load rfl rfl ?_)
  refine RegP.op rfl (Ope.cf rfl rfl hf hb ?_)
  refine RegP.nil ?_
  refine Reg.op rfl (Ope.asg rfl ?_)
  refine Reg.op0 (Ope.store rfl rfl rfl rfl rfl rfl ?_)
  refine Reg.nil ?_
  refine Run.done ⟨rfl,rfl,?_⟩
  refine TilY.ret (d93n ?_)
  exact ResE.ofF (.tmp rfl (.cell rfl rfl .nil)) (bds_cons hu rfl) rfl
theorem d88n {n:Nat} {l:HL} {K:PH→Prop} (hK:K (HE n l)):PDefer A0 P0 88 [.ptr 1 0] (.lit .nilifc) (HE n l) K:=by
  refine PDefer.of (C:=c88) (fd:=Try.f88) (by kernel_rfl) rfl rfl rfl rfl rfl rfl rfl rfl rfl rfl ?_
  refine Run.block (Run.seq (Run.region (cx_ok _ _ _) ?_))
  first | refine Reg.op rfl (Ope.eq rfl rfl ?_) | refine Reg.op rfl (Ope.eqI rfl rfl ?_) | refine Reg.op rfl (Ope.eqN rfl rfl rfl ?_)
  refine Reg.nil (Run.condX rfl (fun hc=>?_) fun hc=>?_)
  ·first
   |exact absurd hc (by decide)
   |refine Run.region (cx_ok _ _ _) (Reg.op rfl (Ope.asg rfl ?_))
    exact Reg.nil (Run.bend (Run.done ⟨.inl rfl,trivial,hK⟩))
  ·first
   |exact absurd hc (by decide)
   |refine Run.seq (Run.region (cx_ok _ _ _) ?_)
    first | refine Reg.op rfl (Ope.tasY rfl rfl ?_) | refine Reg.op rfl (Ope.tasN rfl rfl ?_)
    refine Reg.op rfl (Ope.ext rfl rfl ?_)
    refine Reg.op rfl (Ope.ext rfl rfl ?_)
    refine Reg.nil (Run.condX rfl (fun hc=>?_) fun hc=>?_)
    ·first
     |exact absurd hc (by decide)
     |refine Run.seq (Run.region (cx_ok _ _ _) (Reg.op rfl (Ope.asg rfl ?_)))
      refine Reg.nil (Run.region (cx_ok _ _ _) (Reg.op rfl (Ope.mov rfl ?_)))
      refine Reg.op0 (Ope.store rfl rfl rfl rfl rfl rfl ?_)
      exact Reg.nil (Run.bend (Run.done ⟨.inl rfl,trivial,hK⟩))
    ·first
     |exact absurd hc (by decide)
     |refine Run.seq (Run.region (cx_ok _ _ _) (Reg.op rfl (Ope.asg rfl ?_)))
      refine Reg.nil (Run.region (cx_ok _ _ _) (Reg.op0 (Ope.store rfl rfl rfl rfl rfl rfl ?_)))
      exact Reg.nil (Run.bend (Run.done ⟨.inl rfl,trivial,hK⟩))
theorem f63ok (s:Shp) {t1 t2:Tail} (h1:t1.isOwn=false) (h2:t2.isOwn=false) (hS:s.su.length≤9223372036854775807) (hJ:s.jo.length≤9223372036854775807) (g:Nat) (cap:List PV) (n c t:Int) (tl:Tail) (os:List PV) (hv:s.val=true) (hb:PV.bds 0 (s.v t1 t2::cap)=true) (hu:PV.bd 0 (.agg [I n,I c,.sl tl os,I t])=true) (hf:Fn P0 g (s.v t1 t2::cap) (.agg [I n,I c,.sl tl os,I t])):Fn P0 63 [s.v t1 t2,.fn (.func g) [] cap] (.tup [(.agg [I n,I c,.sl tl os,I t]),I 0]):=by
  have hva:=f82 s h1 h2 hS hJ
  rw [hv] at hva
  have hbs:PV.bds 0 [s.v t1 t2]=true:=bd_shpV s h1 h2 rfl
  unfold Fn PFun
  show PCall P0 63 _ (HE 0 []) _ _
  refine PCall.ofT (C:=c63) (cx_ok _ _ _) (fn:=Try.f63) (by kernel_rfl) (c:=_) rfl rfl ?_
  refine Til.seq rfl rfl ?_
  refine Run.region (cx_ok _ _ _) ?_
  refine Reg.op rfl (Ope.boxF rfl rfl ?_)
  refine Reg.op rfl (Ope.newL rfl ?_)
  refine Reg.op rfl (Ope.newL rfl ?_)
  refine Reg.nil ?_
  refine Run.done ⟨rfl,rfl,?_⟩
  refine Til.deferY (cx_ok _ _ _) (by kernel_rfl) rfl rfl rfl rfl rfl rfl rfl rfl (Ope.mkf rfl rfl ⟨rfl,rfl⟩) rfl ?_
  refine TilY.seq rfl rfl ?_
  refine Run.region (cx_ok _ _ _) ?_
  refine Reg.op rfl (Ope.load rfl rfl ?_)
  refine Reg.op rfl (Ope.bld rfl rfl ?_)
  refine Reg.op rfl (Ope.newL rfl ?_)
  refine Reg.op0 (Ope.store rfl rfl rfl rfl rfl rfl ?_)
  refine Reg.nil ?_
  refine Run.done ⟨rfl,rfl,?_⟩
  refine TilY.reg (cx_ok _ _ _) rfl 3 [(4,.ptr 0 0),(5,.ptr 1 0)] rfl ⟨rfl,rfl,trivial⟩ ?_
  refine RegP.op rfl (Ope.load rfl rfl ?_)
  refine RegP.op rfl (Ope.cf rfl rfl hva hbs ?_)
  refine RegP.op rfl (Ope.cf rfl rfl (f71t 1) rfl ?_)
  refine RegP.nil ?_
  refine Reg.nil ?_
  refine Run.done ⟨rfl,rfl,?_⟩
  refine TilY.reg (cx_ok _ _ _) rfl 3 [(4,.ptr 0 0),(5,.ptr 1 0)] rfl ⟨rfl,rfl,trivial⟩ ?_
  refine RegP.op rfl (Ope.mov rfl ?_)
  refine RegP.op rfl (Ope.load rfl rfl ?_)
  refine RegP.op rfl (Ope.cf rfl rfl hf hb ?_)
  refine RegP.nil ?_
  refine Reg.op0 (Ope.store rfl rfl rfl rfl rfl rfl ?_)
  refine Reg.op0 (Ope.store rfl rfl rfl rfl rfl rfl ?_)
  refine Reg.nil ?_
  refine Run.done ⟨rfl,rfl,?_⟩
  refine TilY.ret (d88n ?_)
  exact ResE.ofF (.cell rfl rfl (.cell rfl rfl .nil)) (bds_cons hu rfl) rfl
theorem d96n {n:Nat} {l:HL} {K:PH→Prop} (hK:K (HE n l)):PDefer A0 P0 96 [.ptr 1 0] (.lit .nilifc) (HE n l) K:=by
  refine PDefer.of (C:=c96) (fd:=Try.f96) (by kernel_rfl) rfl rfl rfl rfl rfl rfl rfl rfl rfl rfl ?_
  refine Run.block (Run.seq (Run.region (cx_ok _ _ _) ?_))
  first | refine Reg.op rfl (Ope.eq rfl rfl ?_) | refine Reg.op rfl (Ope.eqI rfl rfl ?_) | refine Reg.op rfl (Ope.eqN rfl rfl rfl ?_)
  refine Reg.nil (Run.condX rfl (fun hc=>?_) fun hc=>?_)
  ·first
   |exact absurd hc (by decide)
   |refine Run.region (cx_ok _ _ _) (Reg.op rfl (Ope.asg rfl ?_))
    exact Reg.nil (Run.bend (Run.done ⟨.inl rfl,trivial,hK⟩))
  ·first
   |exact absurd hc (by decide)
   |refine Run.seq (Run.region (cx_ok _ _ _) ?_)
    first | refine Reg.op rfl (Ope.tasY rfl rfl ?_) | refine Reg.op rfl (Ope.tasN rfl rfl ?_)
    refine Reg.op rfl (Ope.ext rfl rfl ?_)
    refine Reg.op rfl (Ope.ext rfl rfl ?_)
    refine Reg.nil (Run.condX rfl (fun hc=>?_) fun hc=>?_)
    ·first
     |exact absurd hc (by decide)
     |refine Run.seq (Run.region (cx_ok _ _ _) (Reg.op rfl (Ope.asg rfl ?_)))
      refine Reg.nil (Run.region (cx_ok _ _ _) (Reg.op rfl (Ope.mov rfl ?_)))
      refine Reg.op0 (Ope.store rfl rfl rfl rfl rfl rfl ?_)
      exact Reg.nil (Run.bend (Run.done ⟨.inl rfl,trivial,hK⟩))
    ·first
     |exact absurd hc (by decide)
     |refine Run.seq (Run.region (cx_ok _ _ _) (Reg.op rfl (Ope.asg rfl ?_)))
      refine Reg.nil (Run.region (cx_ok _ _ _) (Reg.op0 (Ope.store rfl rfl rfl rfl rfl rfl ?_)))
      exact Reg.nil (Run.bend (Run.done ⟨.inl rfl,trivial,hK⟩))
theorem f75ok (s:Shp) {t1 t2:Tail} (h1:t1.isOwn=false) (h2:t2.isOwn=false) (hS:s.su.length≤9223372036854775807) (hJ:s.jo.length≤9223372036854775807) (g:Nat) (cap:List PV) (j r:Int) (hv:s.val=true) (hb:PV.bds 0 (s.v t1 t2::cap)=true) (hu:PV.bd 0 (.agg [I j,I r])=true) (hf:Fn P0 g (s.v t1 t2::cap) (.agg [I j,I r])):Fn P0 75 [s.v t1 t2,.fn (.func g) [] cap] (.tup [(.agg [I j,I r]),I 0]):=by
  have hva:=f82 s h1 h2 hS hJ
  rw [hv] at hva
  have hbs:PV.bds 0 [s.v t1 t2]=true:=bd_shpV s h1 h2 rfl
  unfold Fn PFun
  show PCall P0 75 _ (HE 0 []) _ _
  refine PCall.ofT (C:=c75) (cx_ok _ _ _) (fn:=Try.f75) (by kernel_rfl) (c:=_) rfl rfl ?_
  refine Til.seq rfl rfl ?_
  refine Run.region (cx_ok _ _ _) ?_
  refine Reg.op rfl (Ope.boxF rfl rfl ?_)
  refine Reg.op rfl (Ope.newL rfl ?_)
  refine Reg.op rfl (Ope.newL rfl ?_)
  refine Reg.nil ?_
  refine Run.done ⟨rfl,rfl,?_⟩
  refine Til.deferY (cx_ok _ _ _) (by kernel_rfl) rfl rfl rfl rfl rfl rfl rfl rfl (Ope.mkf rfl rfl ⟨rfl,rfl⟩) rfl ?_
  refine TilY.seq rfl rfl ?_
  refine Run.region (cx_ok _ _ _) ?_
  refine Reg.op rfl (Ope.load rfl rfl ?_)
  refine Reg.op rfl (Ope.bld rfl rfl ?_)
  refine Reg.op rfl (Ope.newL rfl ?_)
  refine Reg.op0 (Ope.store rfl rfl rfl rfl rfl rfl ?_)
  refine Reg.nil ?_
  refine Run.done ⟨rfl,rfl,?_⟩
  refine TilY.reg (cx_ok _ _ _) rfl 3 [(4,.ptr 0 0),(5,.ptr 1 0)] rfl ⟨rfl,rfl,trivial⟩ ?_
  refine RegP.op rfl (Ope.load rfl rfl ?_)
  refine RegP.op rfl (Ope.cf rfl rfl hva hbs ?_)
  refine RegP.op rfl (Ope.cf rfl rfl (f71t 1) rfl ?_)
  refine RegP.nil ?_
  refine Reg.nil ?_
  refine Run.done ⟨rfl,rfl,?_⟩
  refine TilY.reg (cx_ok _ _ _) rfl 3 [(4,.ptr 0 0),(5,.ptr 1 0)] rfl ⟨rfl,rfl,trivial⟩ ?_
  refine RegP.op rfl (Ope.mov rfl ?_)
  refine RegP.op rfl (Ope.load rfl rfl ?_)
  refine RegP.op rfl (Ope.cf rfl rfl hf hb ?_)
  refine RegP.nil ?_
  refine Reg.op0 (Ope.store rfl rfl rfl rfl rfl rfl ?_)
  refine Reg.op0 (Ope.store rfl rfl rfl rfl rfl rfl ?_)
  refine Reg.nil ?_
  refine Run.done ⟨rfl,rfl,?_⟩
  refine TilY.ret (d96n ?_)
  exact ResE.ofF (.cell rfl rfl (.cell rfl rfl .nil)) (bds_cons hu rfl) rfl
end Go.Pv
namespace Go.Pv
open Go.Proofs Go.Am
set_option maxRecDepth 10000
theorem map_N (o:List Nat):(o.map fun i:Nat=>(i:Int)).map I=o.map N:=by rw [List.map_map];rfl
theorem bd_fpsl {tl:Tail} (htl:tl.isOwn=false) (xs:List Int) (g:Nat):PV.bds 0 [.fp (.sl tl (xs.map I)),.fp (.fn (.func g) [] [])]=true:=by
  have h:=bd_sl (f:=I) htl (fun _=>rfl) xs
  simp only [PV.bds,PV.bd] at h ⊢
  simp [h]
theorem f78ok (s:Shp) {t1 t2:Tail} (h1:t1.isOwn=false) (h2:t2.isOwn=false) (hn:s.jo.length≤6) (ty:Tail) (hty:ty.isOwn=false) (xs:List Int) (hx:xs.length≤1000000) (g:Nat) (a:Int) (ho:ordB s.jo.length xs=true) (hu:PV.bd 0 (I a)=true) (hf:Fn P0 g [s.v t1 t2,.sl ty (xs.map I)] (I a)):Fn P0 78 [s.v t1 t2,.fp (.sl ty (xs.map I)),.fp (.fn (.func g) [] [])] (I a):=by
  have hor:=f72 s h1 h2 hn ty hty xs hx
  rw [ho] at hor
  have hb:PV.bds 0 [s.v t1 t2,.sl ty (xs.map I)]=true:=bd_shpV s h1 h2 (bds_cons (bd_sl (f:=I) hty (fun _=>rfl) _) rfl)
  refine PFun.of (C:=c78) (cx_ok _ _ _) rfl (fn:=Try.f78) (by kernel_rfl) (c:=_) rfl rfl rfl ?_
  refine Run.seq (Run.region (cx_ok _ _ _) (Reg.op rfl (Ope.boxF rfl rfl ?_)))
  refine Reg.op rfl (Ope.asg rfl ?_)
  refine Reg.nil (Run.seq (Run.region (cx_ok _ _ _) (Reg.op rfl (Ope.load rfl rfl ?_))))
  refine Reg.op rfl (Ope.load rfl rfl ?_)
  refine Reg.op rfl (Ope.cf rfl rfl hor hb ?_)
  refine Reg.op rfl (Ope.cf rfl rfl (f71t 2) rfl ?_)
  refine Reg.nil (Run.seq (Run.region (cx_ok _ _ _) (Reg.op rfl (Ope.load rfl rfl ?_))))
  refine Reg.op rfl (Ope.load rfl rfl ?_)
  refine Reg.op rfl (Ope.load rfl rfl ?_)
  refine Reg.op rfl (Ope.cf rfl rfl hf hb ?_)
  refine Reg.op rfl (Ope.asg rfl ?_)
  exact Reg.nil (Run.ret (fin_ret (.tmp rfl .nil) hu rfl))
theorem f53u (s:Shp) {t1 t2:Tail} (h1:t1.isOwn=false) (h2:t2.isOwn=false) (ty:Tail) (hty:ty.isOwn=false) (xs:List Int) (g:Nat) (a:Int) (e:Int) (hu:PV.bd 0 (I a)=true) (hf:Fn P0 56 [s.v t1 t2,.fn (.func 78) [] [.fp (.sl ty (xs.map I)),.fp (.fn (.func g) [] [])]] (.tup [(I a),I e])):Fn P0 53 [s.v t1 t2,.sl ty (xs.map I),.fn (.func g) [] []] (.tup [(I a),I e]):=by
  have hb:PV.bds 0 [s.v t1 t2,.fn (.func 78) [] [.fp (.sl ty (xs.map I)),.fp (.fn (.func g) [] [])]]=true:=bd_shpV s h1 h2 (bds_cons (by rw [PV.bd,bd_fpsl hty];rfl) rfl)
  refine PFun.of (C:=c53) (cx_ok _ _ _) rfl (fn:=Try.f53) (by kernel_rfl) (c:=_) rfl rfl rfl ?_
  refine Run.seq (Run.region (cx_ok _ _ _) (Reg.op rfl (Ope.boxF rfl rfl ?_)))
  refine Reg.op rfl (Ope.boxF rfl rfl ?_)
  refine Reg.op rfl (Ope.boxF rfl rfl ?_)
  refine Reg.op rfl (Ope.asg rfl ?_)
  refine Reg.op rfl (Ope.asg rfl ?_)
  refine Reg.nil (Run.seq (Run.region (cx_ok _ _ _) (Reg.op rfl (Ope.load rfl rfl ?_))))
  refine Reg.op rfl (Ope.mkf rfl rfl ?_)
  refine Reg.op rfl (Ope.cf rfl rfl hf hb ?_)
  refine Reg.op rfl (Ope.ext rfl rfl ?_)
  refine Reg.op rfl (Ope.ext rfl rfl ?_)
  refine Reg.op rfl (Ope.asg rfl ?_)
  refine Reg.op rfl (Ope.asg rfl ?_)
  exact Reg.nil (Run.ret (fin_ret (.tmp rfl (.tmp rfl .nil)) (bds_cons hu rfl) rfl))
theorem f70ok (s:Shp) {t1 t2:Tail} (h1:t1.isOwn=false) (h2:t2.isOwn=false) (hn:s.jo.length≤6) (ty:Tail) (hty:ty.isOwn=false) (xs:List Int) (hx:xs.length≤1000000) (g:Nat) (tl:Tail) (us:List PV) (ho:ordB s.jo.length xs=true) (hu:PV.bd 0 (.sl tl us)=true) (hf:Fn P0 g [s.v t1 t2,.sl ty (xs.map I)] (.sl tl us)):Fn P0 70 [s.v t1 t2,.fp (.sl ty (xs.map I)),.fp (.fn (.func g) [] [])] (.sl tl us):=by
  have hor:=f72 s h1 h2 hn ty hty xs hx
  rw [ho] at hor
  have hb:PV.bds 0 [s.v t1 t2,.sl ty (xs.map I)]=true:=bd_shpV s h1 h2 (bds_cons (bd_sl (f:=I) hty (fun _=>rfl) _) rfl)
  refine PFun.of (C:=c70) (cx_ok _ _ _) rfl (fn:=Try.f70) (by kernel_rfl) (c:=_) rfl rfl rfl ?_
  refine Run.seq (Run.region (cx_ok _ _ _) (Reg.op rfl (Ope.boxF rfl rfl ?_)))
  refine Reg.op rfl (Ope.asg rfl ?_)
  refine Reg.nil (Run.seq (Run.region (cx_ok _ _ _) (Reg.op rfl (Ope.load rfl rfl ?_))))
  refine Reg.op rfl (Ope.load rfl rfl ?_)
  refine Reg.op rfl (Ope.cf rfl rfl hor hb ?_)
  refine Reg.op rfl (Ope.cf rfl rfl (f71t 2) rfl ?_)
  refine Reg.nil (Run.seq (Run.region (cx_ok _ _ _) (Reg.op rfl (Ope.load rfl rfl ?_))))
  refine Reg.op rfl (Ope.load rfl rfl ?_)
  refine Reg.op rfl (Ope.load rfl rfl ?_)
  refine Reg.op rfl (Ope.cf rfl rfl hf hb ?_)
  refine Reg.op rfl (Ope.asg rfl ?_)
  exact Reg.nil (Run.ret (fin_ret (.tmp rfl .nil) hu rfl))
theorem f46u (s:Shp) {t1 t2:Tail} (h1:t1.isOwn=false) (h2:t2.isOwn=false) (ty:Tail) (hty:ty.isOwn=false) (xs:List Int) (g:Nat) (tl:Tail) (us:List PV) (e:Int) (hu:PV.bd 0 (.sl tl us)=true) (hf:Fn P0 69 [s.v t1 t2,.fn (.func 70) [] [.fp (.sl ty (xs.map I)),.fp (.fn (.func g) [] [])]] (.tup [(.sl tl us),I e])):Fn P0 46 [s.v t1 t2,.sl ty (xs.map I),.fn (.func g) [] []] (.tup [(.sl tl us),I e]):=by
  have hb:PV.bds 0 [s.v t1 t2,.fn (.func 70) [] [.fp (.sl ty (xs.map I)),.fp (.fn (.func g) [] [])]]=true:=bd_shpV s h1 h2 (bds_cons (by rw [PV.bd,bd_fpsl hty];rfl) rfl)
  refine PFun.of (C:=c46) (cx_ok _ _ _) rfl (fn:=Try.f46) (by kernel_rfl) (c:=_) rfl rfl rfl ?_
  refine Run.seq (Run.region (cx_ok _ _ _) (Reg.op rfl (Ope.boxF rfl rfl ?_)))
  refine Reg.op rfl (Ope.boxF rfl rfl ?_)
  refine Reg.op rfl (Ope.boxF rfl rfl ?_)
  refine Reg.op rfl (Ope.asg rfl ?_)
  refine Reg.op rfl (Ope.asg rfl ?_)
  refine Reg.nil (Run.seq (Run.region (cx_ok _ _ _) (Reg.op rfl (Ope.load rfl rfl ?_))))
  refine Reg.op rfl (Ope.mkf rfl rfl ?_)
  refine Reg.op rfl (Ope.cf rfl rfl hf hb ?_)
  refine Reg.op rfl (Ope.ext rfl rfl ?_)
  refine Reg.op rfl (Ope.ext rfl rfl ?_)
  refine Reg.op rfl (Ope.asg rfl ?_)
  refine Reg.op rfl (Ope.asg rfl ?_)
  exact Reg.nil (Run.ret (fin_ret (.tmp rfl (.tmp rfl .nil)) (bds_cons hu rfl) rfl))
theorem f76ok (s:Shp) {t1 t2:Tail} (h1:t1.isOwn=false) (h2:t2.isOwn=false) (hn:s.jo.length≤6) (ty:Tail) (hty:ty.isOwn=false) (xs:List Int) (hx:xs.length≤1000000) (g:Nat) (j r:Int) (ho:ordB s.jo.length xs=true) (hu:PV.bd 0 (.agg [I j,I r])=true) (hf:Fn P0 g [s.v t1 t2,.sl ty (xs.map I)] (.agg [I j,I r])):Fn P0 76 [s.v t1 t2,.fp (.sl ty (xs.map I)),.fp (.fn (.func g) [] [])] (.agg [I j,I r]):=by
  have hor:=f72 s h1 h2 hn ty hty xs hx
  rw [ho] at hor
  have hb:PV.bds 0 [s.v t1 t2,.sl ty (xs.map I)]=true:=bd_shpV s h1 h2 (bds_cons (bd_sl (f:=I) hty (fun _=>rfl) _) rfl)
  refine PFun.of (C:=c76) (cx_ok _ _ _) rfl (fn:=Try.f76) (by kernel_rfl) (c:=_) rfl rfl rfl ?_
  refine Run.seq (Run.region (cx_ok _ _ _) (Reg.op rfl (Ope.boxF rfl rfl ?_)))
  refine Reg.op rfl (Ope.newL rfl ?_)
  refine Reg.nil (Run.seq (Run.region (cx_ok _ _ _) (Reg.op rfl (Ope.load rfl rfl ?_))))
  refine Reg.op rfl (Ope.load rfl rfl ?_)
  refine Reg.op rfl (Ope.cf rfl rfl hor hb ?_)
  refine Reg.op rfl (Ope.cf rfl rfl (f71t 2) rfl ?_)
  refine Reg.nil (Run.seq (Run.region (cx_ok _ _ _) (Reg.op rfl (Ope.load rfl rfl ?_))))
  refine Reg.op rfl (Ope.load rfl rfl ?_)
  refine Reg.op rfl (Ope.load rfl rfl ?_)
  refine Reg.op rfl (Ope.cf rfl rfl hf hb ?_)
  refine Reg.op0 (Ope.store rfl rfl rfl rfl rfl rfl ?_)
  exact Reg.nil (Run.ret (fin_ret (.cell rfl rfl .nil) hu rfl))
theorem f50u (s:Shp) {t1 t2:Tail} (h1:t1.isOwn=false) (h2:t2.isOwn=false) (ty:Tail) (hty:ty.isOwn=false) (xs:List Int) (g:Nat) (j r:Int) (e:Int) (hu:PV.bd 0 (.agg [I j,I r])=true) (hf:Fn P0 75 [s.v t1 t2,.fn (.func 76) [] [.fp (.sl ty (xs.map I)),.fp (.fn (.func g) [] [])]] (.tup [(.agg [I j,I r]),I e])):Fn P0 50 [s.v t1 t2,.sl ty (xs.map I),.fn (.func g) [] []] (.tup [(.agg [I j,I r]),I e]):=by
  have hb:PV.bds 0 [s.v t1 t2,.fn (.func 76) [] [.fp (.sl ty (xs.map I)),.fp (.fn (.func g) [] [])]]=true:=bd_shpV s h1 h2 (bds_cons (by rw [PV.bd,bd_fpsl hty];rfl) rfl)
  refine PFun.of (C:=c50) (cx_ok _ _ _) rfl (fn:=Try.f50) (by kernel_rfl) (c:=_) rfl rfl rfl ?_
  refine Run.seq (Run.region (cx_ok _ _ _) (Reg.op rfl (Ope.boxF rfl rfl ?_)))
  refine Reg.op rfl (Ope.boxF rfl rfl ?_)
  refine Reg.op rfl (Ope.boxF rfl rfl ?_)
  refine Reg.op rfl (Ope.newL rfl ?_)
  refine Reg.op rfl (Ope.asg rfl ?_)
  refine Reg.nil (Run.seq (Run.region (cx_ok _ _ _) (Reg.op rfl (Ope.load rfl rfl ?_))))
  refine Reg.op rfl (Ope.mkf rfl rfl ?_)
  refine Reg.op rfl (Ope.cf rfl rfl hf hb ?_)
  refine Reg.op rfl (Ope.ext rfl rfl ?_)
  refine Reg.op rfl (Ope.ext rfl rfl ?_)
  refine Reg.op0 (Ope.store rfl rfl rfl rfl rfl rfl ?_)
  refine Reg.op rfl (Ope.asg rfl ?_)
  exact Reg.nil (Run.ret (fin_ret (.cell rfl rfl (.tmp rfl .nil)) (bds_cons hu rfl) rfl))
theorem f14ok (s:Shp) {t1 t2:Tail} (h1:t1.isOwn=false) (h2:t2.isOwn=false) (hS:s.su.length≤9223372036854775807) (hJ:s.jo.length≤9223372036854775807) (ty:Tail) (hty:ty.isOwn=false) (hv:s.val=true) (hs:s.ok 30) (o:List Nat) (ho:Ordr s.jo.length o) :Fn P0 14 [s.v t1 t2,.sl ty (o.map N)] (.tup [.sl .no ((s.alg Shp.p0 o).map Wrk.sp),I 0]):=by
  have hn6:=hs.jo
  have hol:o.length≤100:=by have:=ho.len;omega
  have hg:=f47 s h1 h2 hs ty hty o hol ho.lt
  have hoB:=ordr_B hs.jo ho
  rw [← map_N] at hg ⊢
  have hxl:(o.map fun i:Nat=>(i:Int)).length≤1000000:=by rw [List.length_map];omega
  generalize (o.map fun i:Nat=>(i:Int))=xs at *
  have hb:PV.bds 0 [s.v t1 t2,.sl ty (xs.map I),.fn (.func 47) [] []]=true:=bd_shpV s h1 h2 (bds_cons (bd_sl (f:=I) hty (fun _=>rfl) _) rfl)
  have hcap:PV.bds 0 (s.v t1 t2::[.fp (.sl ty (xs.map I)),.fp (.fn (.func 47) [] [])])=true:=bds_cons (bd_shv s h1 h2) (bd_fpsl hty xs 47)
  have hu:PV.bd 0 (.sl .no ((s.alg Shp.p0 o).map Wrk.sp))=true:=bd_sl (f:=Wrk.sp) (tl:=.no) rfl (fun _=>rfl) _
  have hf:Fn P0 46 [s.v t1 t2,.sl ty (xs.map I),.fn (.func 47) [] []] (.tup [.sl .no ((s.alg Shp.p0 o).map Wrk.sp),I 0]) :=
    f46u s h1 h2 ty hty xs 47 .no ((s.alg Shp.p0 o).map Wrk.sp) 0 hu (f69ok s h1 h2 hS hJ _ _ .no ((s.alg Shp.p0 o).map Wrk.sp) hv hcap hu (f70ok s h1 h2 hn6 ty hty xs hxl 47 .no ((s.alg Shp.p0 o).map Wrk.sp) hoB hu hg))
  refine PFun.of (C:=c14) (cx_ok _ _ _) rfl (fn:=Try.f14) (by kernel_rfl) (c:=_) rfl rfl rfl ?_
  refine Run.seq (Run.region (cx_ok _ _ _) (Reg.op rfl (Ope.boxF rfl rfl ?_)))
  refine Reg.op rfl (Ope.asg rfl ?_)
  refine Reg.op rfl (Ope.asg rfl ?_)
  refine Reg.nil (Run.seq (Run.region (cx_ok _ _ _) (Reg.op rfl (Ope.load rfl rfl ?_))))
  refine Reg.op rfl (Ope.mov rfl ?_)
  refine Reg.op rfl (Ope.cf rfl rfl hf hb ?_)
  refine Reg.op rfl (Ope.ext rfl rfl ?_)
  refine Reg.op rfl (Ope.ext rfl rfl ?_)
  refine Reg.op rfl (Ope.asg rfl ?_)
  refine Reg.op rfl (Ope.asg rfl ?_)
  exact Reg.nil (Run.ret (fin_ret (.tmp rfl (.tmp rfl .nil)) (bds_cons hu rfl) rfl))
theorem f18ok (s:Shp) {t1 t2:Tail} (h1:t1.isOwn=false) (h2:t2.isOwn=false) (hS:s.su.length≤9223372036854775807) (hJ:s.jo.length≤9223372036854775807) (ty:Tail) (hty:ty.isOwn=false) (hv:s.val=true) (hs:s.ok 30) (o:List Nat) (ho:Ordr s.jo.length o) (hr:s.rgt o=true):Fn P0 18 [s.v t1 t2,.sl ty (o.map N)] (.tup [N (s.slk o 30 0),I 0]):=by
  have hn6:=hs.jo
  have hol:o.length≤100:=by have:=ho.len;omega
  have hg:=f54 s h1 h2 hs ty hty o hol ho.lt hr
  have hoB:=ordr_B hs.jo ho
  rw [← map_N] at hg ⊢
  have hxl:(o.map fun i:Nat=>(i:Int)).length≤1000000:=by rw [List.length_map];omega
  generalize (o.map fun i:Nat=>(i:Int))=xs at *
  have hb:PV.bds 0 [s.v t1 t2,.sl ty (xs.map I),.fn (.func 54) [] []]=true:=bd_shpV s h1 h2 (bds_cons (bd_sl (f:=I) hty (fun _=>rfl) _) rfl)
  have hcap:PV.bds 0 (s.v t1 t2::[.fp (.sl ty (xs.map I)),.fp (.fn (.func 54) [] [])])=true:=bds_cons (bd_shv s h1 h2) (bd_fpsl hty xs 54)
  have hu:PV.bd 0 (N (s.slk o 30 0))=true:=rfl
  have hf:Fn P0 53 [s.v t1 t2,.sl ty (xs.map I),.fn (.func 54) [] []] (.tup [I ((s.slk o 30 0:Nat):Int),I 0]) :=
    f53u s h1 h2 ty hty xs 54 ((s.slk o 30 0:Nat):Int) 0 hu (f56ok s h1 h2 hS hJ _ _ ((s.slk o 30 0:Nat):Int) hv hcap hu (f78ok s h1 h2 hn6 ty hty xs hxl 54 ((s.slk o 30 0:Nat):Int) hoB hu hg))
  refine PFun.of (C:=c18) (cx_ok _ _ _) rfl (fn:=Try.f18) (by kernel_rfl) (c:=_) rfl rfl rfl ?_
  refine Run.seq (Run.region (cx_ok _ _ _) (Reg.op rfl (Ope.boxF rfl rfl ?_)))
  refine Reg.op rfl (Ope.asg rfl ?_)
  refine Reg.op rfl (Ope.asg rfl ?_)
  refine Reg.nil (Run.seq (Run.region (cx_ok _ _ _) (Reg.op rfl (Ope.load rfl rfl ?_))))
  refine Reg.op rfl (Ope.mov rfl ?_)
  refine Reg.op rfl (Ope.cf rfl rfl hf hb ?_)
  refine Reg.op rfl (Ope.ext rfl rfl ?_)
  refine Reg.op rfl (Ope.ext rfl rfl ?_)
  refine Reg.op rfl (Ope.asg rfl ?_)
  refine Reg.op rfl (Ope.asg rfl ?_)
  exact Reg.nil (Run.ret (fin_ret (.tmp rfl (.tmp rfl .nil)) rfl rfl))
theorem f16ok (s:Shp) {t1 t2:Tail} (h1:t1.isOwn=false) (h2:t2.isOwn=false) (hS:s.su.length≤9223372036854775807) (hJ:s.jo.length≤9223372036854775807) (ty:Tail) (hty:ty.isOwn=false) (hv:s.val=true) (hs:s.ok 30) (o:List Nat) (ho:Ordr s.jo.length o) {j:Nat} {r:Int} (hfl:s.flt (s.alg Shp.p0 o)=some (j,r)):Fn P0 16 [s.v t1 t2,.sl ty (o.map N)] (.tup [I j,I r,I 0]):=by
  have hn6:=hs.jo
  have hol:o.length≤100:=by have:=ho.len;omega
  have hg:=f51f s h1 h2 hs ty hty o hol ho.lt hfl
  have hoB:=ordr_B hs.jo ho
  rw [← map_N] at hg ⊢
  have hxl:(o.map fun i:Nat=>(i:Int)).length≤1000000:=by rw [List.length_map];omega
  generalize (o.map fun i:Nat=>(i:Int))=xs at *
  have hb:PV.bds 0 [s.v t1 t2,.sl ty (xs.map I),.fn (.func 51) [] []]=true:=bd_shpV s h1 h2 (bds_cons (bd_sl (f:=I) hty (fun _=>rfl) _) rfl)
  have hcap:PV.bds 0 (s.v t1 t2::[.fp (.sl ty (xs.map I)),.fp (.fn (.func 51) [] [])])=true:=bds_cons (bd_shv s h1 h2) (bd_fpsl hty xs 51)
  have hu:PV.bd 0 (.agg [I (j:Int),I r])=true:=rfl
  have hf:Fn P0 50 [s.v t1 t2,.sl ty (xs.map I),.fn (.func 51) [] []] (.tup [.agg [I (j:Int),I r],I 0]) :=
    f50u s h1 h2 ty hty xs 51 (j:Int) r 0 hu (f75ok s h1 h2 hS hJ _ _ (j:Int) r hv hcap hu (f76ok s h1 h2 hn6 ty hty xs hxl 51 (j:Int) r hoB hu hg))
  refine PFun.of (C:=c16) (cx_ok _ _ _) rfl (fn:=Try.f16) (by kernel_rfl) (c:=_) rfl rfl rfl ?_
  refine Run.seq (Run.region (cx_ok _ _ _) (Reg.op rfl (Ope.boxF rfl rfl ?_)))
  refine Reg.op rfl (Ope.asg rfl ?_)
  refine Reg.op rfl (Ope.asg rfl ?_)
  refine Reg.op rfl (Ope.asg rfl ?_)
  refine Reg.nil (Run.seq (Run.region (cx_ok _ _ _) (Reg.op rfl (Ope.load rfl rfl ?_))))
  refine Reg.op rfl (Ope.mov rfl ?_)
  refine Reg.op rfl (Ope.cf rfl rfl hf hb ?_)
  refine Reg.op rfl (Ope.mov rfl ?_)
  refine Reg.op rfl (Ope.ext rfl rfl ?_)
  refine Reg.op rfl (Ope.ext rfl rfl ?_)
  refine Reg.op rfl (Ope.newL rfl ?_)
  refine Reg.op0 (Ope.store rfl rfl rfl rfl rfl rfl ?_)
  refine Reg.op rfl (Ope.asg rfl ?_)
  refine Reg.nil (Run.seq (Run.draw (cx_ok _ _ _) [(0,true),(1,true),(2,true),(3,true),(4,true),(5,true),(6,true),(7,true)] (by kernel_rfl) (Dra.op' rfl rfl rfl .sure (Ope.fld rfl rfl ?_))))
  refine Dra.op' rfl rfl rfl .sure (Ope.load rfl rfl ?_)
  refine Dra.op' rfl rfl rfl .sure (Ope.fld rfl rfl ?_)
  refine Dra.op' rfl rfl rfl .sure (Ope.load rfl rfl ?_)
  refine Dra.op' rfl rfl rfl .sure (Ope.mov rfl ?_)
  refine Dra.op' rfl rfl rfl .sure (Ope.asg rfl ?_)
  refine Dra.op' rfl rfl rfl .sure (Ope.asg rfl ?_)
  refine Dra.op' rfl rfl rfl .sure (Ope.asg rfl ?_)
  exact Dra.nil (Run.ret (fin_ret (.tmp rfl (.tmp rfl (.tmp rfl .nil))) rfl rfl))
end Go.Pv
