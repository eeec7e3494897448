import Derived.Test.YtgnloodmbgdgdaaGreatFB10
import Derived.Test.YtgnloodmbgdgdaaGreatFB04
import Derived.Deep.DeepCutAuto
import Derived.Test.YtgnloodmbgdgdaaGreatFB07
import Derived.BigQuiet
import Derived.Deep.QuietTactic
import Derived.Deep.RegionHeld3
import Derived.Test.YtgnloodmbgdgdaaGreatFB11
namespace Go.Proofs.YtgnloodmbgdgdaaGreat
open Go.RowKit Go.Shelf
def properB (op n : Int) (ni nk : Nat) (v : Int) : Bool :=
 if op = 0 then decide (n = 0 ∧ ni = 0 ∧ nk = 0)
 else if op = 1 then decide ((0 ≤ n ∧ n < 64) ∧ ni = 0 ∧ nk = 0)
 else if op = 2 then decide ((0 ≤ n ∧ n < 32) ∧ v = 0 ∧ nk = 0)
 else if op = 3 ∨ op = 6 then decide (n = 0 ∧ ni = 0 ∧ nk = 1)
 else if op = 4 ∨ op = 5 then decide (n = 0 ∧ ni = 0)
 else false
set_option maxHeartbeats 8000000 in
set_option maxRecDepth 100000 in
theorem gproper_any (f : Fo) (hwf : ∀ x ∈ f.is, x.wf) (hl : f.is.length ≤ 1000000) (c d : Value) (w : World) (hT : FAt w.heap.size w f c d) :
  Calls Tryz.prog 52 #[.agg #[.int .i64 f.op, .int .i64 f.n, c, d]] w fun e w' => e = .returned (.bool (properB f.op f.n f.is.length f.ks.length (validL f.is))) ∧ Below w.heap.size w w' := by
 obtain ⟨a2, c2, a3, c3, rfl, rfl, hE, -, -⟩ := hT.shape
 obtain ⟨W1, hW1⟩ : ∃ W1, W1 = w.alloc (.cells #[.int .i64 f.op, .int .i64 f.n, .slice a2 f.is.length c2, .slice a3 f.ks.length c3] 29) := ⟨_, rfl⟩
 have hB1 : Below w.heap.size w W1 := by rw [hW1]; exact (Below.refl _ _).alloc (Nat.le_refl _) _
 have hX : BoxL w.heap.size [.int .i64 f.op, .int .i64 f.n, .slice a2 f.is.length c2, .slice a3 f.ks.length c3] W1 := by rw [hW1]; exact BoxL.made _ _ _
 have KV := Lib.hid fun W (h : Since W1 W) => svalid_any _ f.is W (hE.below (hB1.trans (Below.mono h hB1.size))) hwf hl
 have HX := Lib.hid hX
 have HB1 := Lib.hid hB1
 generalize validL f.is = v at *
 generalize f.is.length = n2 at *
 generalize f.ks.length = n3 at *
 generalize f.op = op at *
 generalize f.n = nn at *
 obtain ⟨o0, o1, o2, o3, -⟩ := hX.open4
 clear hX hB1 hE hT hwf hl
 go_enter Tryz.func52, Tryz.ntmps52
 go_upto_region 1 with (fail)
 rw [← hW1]
 clear hW1
 go_quiet (fail)
 have hSn : Since W1 (W1.drewN nq) := below_drewN (Below.refl _ _) nq
 have KV := Lib.hid (KV.out _ hSn)
 have HB2 := Lib.hid (HB1.out.trans (Below.mono hSn HB1.out.size))
 obtain ⟨p0, p1, p2, p3, -⟩ := (HX.out.keep hSn).open4
 clear o0 o1 o2 o3 hSn
 generalize W1.drewN nq = w2 at *
 have e2 : ((n2 : Int) == 0) = decide (n2 = 0) := by rw [Bool.eq_iff_iff]; simp
 have e3 : ((n3 : Int) == 0) = decide (n3 = 0) := by rw [Bool.eq_iff_iff]; simp
 have e4 : ((n3 : Int) == 1) = decide (n3 = 1) := by rw [Bool.eq_iff_iff]; simp; omega
 have E2 := Lib.hid e2
 have E3 := Lib.hid e3
 have E4 := Lib.hid e4
 clear e2 e3 e4
 have hop : op = 0 ∨ op = 1 ∨ op = 2 ∨ op = 3 ∨ op = 4 ∨ op = 5 ∨ op = 6 ∨ ((op == 0) = false ∧ (op == 1) = false ∧ (op == 2) = false ∧ (op == 3) = false ∧ (op == 4) = false ∧ (op == 5) = false ∧ (op == 6) = false) := by
  simp only [beq_eq_false_iff_ne, ne_eq]
  omega
 rcases hop with rfl | rfl | rfl | rfl | rfl | rfl | rfl | ⟨q0, q1, q2, q3, q4, q5, q6⟩
 ·by_cases h1 : nn = 0
  ·have b1 : (nn == 0) = true := by simpa using h1
   by_cases h2 : n2 = 0
   ·have b2 : ((n2 : Int) == 0) = true := by rw [E2.out]; simpa using h2
    by_cases h3 : n3 = 0
    ·have b3 : ((n3 : Int) == 0) = true := by rw [E3.out]; simpa using h3
     go_wp2
     go_ret
     exact ⟨congrArg (fun b => Ending.returned (.bool b)) (by unfold properB; first | (simp; done) | (simp; omega)), HB2.out⟩
    ·have b3 : ((n3 : Int) == 0) = false := by rw [E3.out]; simpa using h3
     go_wp2
     go_ret
     exact ⟨congrArg (fun b => Ending.returned (.bool b)) (by unfold properB; first | (simp; done) | (simp; omega)), HB2.out⟩
   ·have b2 : ((n2 : Int) == 0) = false := by rw [E2.out]; simpa using h2
    go_wp2
    go_ret
    exact ⟨congrArg (fun b => Ending.returned (.bool b)) (by unfold properB; first | (simp; done) | (simp; omega)), HB2.out⟩
  ·have b1 : (nn == 0) = false := by simpa using h1
   go_wp2
   go_ret
   exact ⟨congrArg (fun b => Ending.returned (.bool b)) (by unfold properB; first | (simp; done) | (simp; omega)), HB2.out⟩
 ·by_cases h5 : 0 ≤ nn
  ·by_cases h6 : nn < 64
   ·by_cases h2 : n2 = 0
    ·have b2 : ((n2 : Int) == 0) = true := by rw [E2.out]; simpa using h2
     by_cases h3 : n3 = 0
     ·have b3 : ((n3 : Int) == 0) = true := by rw [E3.out]; simpa using h3
      go_wp2
      go_ret
      exact ⟨congrArg (fun b => Ending.returned (.bool b)) (by unfold properB; first | (simp; done) | (simp; omega)), HB2.out⟩
     ·have b3 : ((n3 : Int) == 0) = false := by rw [E3.out]; simpa using h3
      go_wp2
      go_ret
      exact ⟨congrArg (fun b => Ending.returned (.bool b)) (by unfold properB; first | (simp; done) | (simp; omega)), HB2.out⟩
    ·have b2 : ((n2 : Int) == 0) = false := by rw [E2.out]; simpa using h2
     go_wp2
     go_ret
     exact ⟨congrArg (fun b => Ending.returned (.bool b)) (by unfold properB; first | (simp; done) | (simp; omega)), HB2.out⟩
   ·have c6 : decide (nn < 64) = false := decide_eq_false h6
    go_wp2
    go_ret
    exact ⟨congrArg (fun b => Ending.returned (.bool b)) (by unfold properB; first | (simp; done) | (simp; omega)), HB2.out⟩
  ·have c5 : decide (0 ≤ nn) = false := decide_eq_false h5
   go_wp2
   go_ret
   exact ⟨congrArg (fun b => Ending.returned (.bool b)) (by unfold properB; first | (simp; done) | (simp; omega)), HB2.out⟩
 ·by_cases h5 : 0 ≤ nn
  ·by_cases h6 : nn < 32
   ·go_wp2_with fail
    refine KV.out.mono ?_
    rintro e w3 ⟨rfl, hB3⟩
    have HB3 := Lib.hid (HB2.out.trans (Below.mono hB3 HB2.out.size))
    clear hB3
    by_cases h7 : v = 0
    ·have b7 : (v == 0) = true := by simpa using h7
     by_cases h3 : n3 = 0
     ·have b3 : ((n3 : Int) == 0) = true := by rw [E3.out]; simpa using h3
      go_wp2
      go_ret
      exact ⟨congrArg (fun b => Ending.returned (.bool b)) (by unfold properB; first | (simp; done) | (simp; omega)), HB3.out⟩
     ·have b3 : ((n3 : Int) == 0) = false := by rw [E3.out]; simpa using h3
      go_wp2
      go_ret
      exact ⟨congrArg (fun b => Ending.returned (.bool b)) (by unfold properB; first | (simp; done) | (simp; omega)), HB3.out⟩
    ·have b7 : (v == 0) = false := by simpa using h7
     go_wp2
     go_ret
     exact ⟨congrArg (fun b => Ending.returned (.bool b)) (by unfold properB; first | (simp; done) | (simp; omega)), HB3.out⟩
   ·have c6 : decide (nn < 32) = false := decide_eq_false h6
    go_wp2
    go_ret
    exact ⟨congrArg (fun b => Ending.returned (.bool b)) (by unfold properB; first | (simp; done) | (simp; omega)), HB2.out⟩
  ·have c5 : decide (0 ≤ nn) = false := decide_eq_false h5
   go_wp2
   go_ret
   exact ⟨congrArg (fun b => Ending.returned (.bool b)) (by unfold properB; first | (simp; done) | (simp; omega)), HB2.out⟩
 ·by_cases h1 : nn = 0
  ·have b1 : (nn == 0) = true := by simpa using h1
   by_cases h2 : n2 = 0
   ·have b2 : ((n2 : Int) == 0) = true := by rw [E2.out]; simpa using h2
    by_cases h4 : n3 = 1
    ·have b4 : ((n3 : Int) == 1) = true := by rw [E4.out]; simpa using h4
     go_wp2
     go_ret
     exact ⟨congrArg (fun b => Ending.returned (.bool b)) (by unfold properB; first | (simp; done) | (simp; omega)), HB2.out⟩
    ·have b4 : ((n3 : Int) == 1) = false := by rw [E4.out]; simpa using h4
     go_wp2
     go_ret
     exact ⟨congrArg (fun b => Ending.returned (.bool b)) (by unfold properB; first | (simp; done) | (simp; omega)), HB2.out⟩
   ·have b2 : ((n2 : Int) == 0) = false := by rw [E2.out]; simpa using h2
    go_wp2
    go_ret
    exact ⟨congrArg (fun b => Ending.returned (.bool b)) (by unfold properB; first | (simp; done) | (simp; omega)), HB2.out⟩
  ·have b1 : (nn == 0) = false := by simpa using h1
   go_wp2
   go_ret
   exact ⟨congrArg (fun b => Ending.returned (.bool b)) (by unfold properB; first | (simp; done) | (simp; omega)), HB2.out⟩
 ·by_cases h1 : nn = 0
  ·have b1 : (nn == 0) = true := by simpa using h1
   by_cases h2 : n2 = 0
   ·have b2 : ((n2 : Int) == 0) = true := by rw [E2.out]; simpa using h2
    go_wp2
    go_ret
    exact ⟨congrArg (fun b => Ending.returned (.bool b)) (by unfold properB; first | (simp; done) | (simp; omega)), HB2.out⟩
   ·have b2 : ((n2 : Int) == 0) = false := by rw [E2.out]; simpa using h2
    go_wp2
    go_ret
    exact ⟨congrArg (fun b => Ending.returned (.bool b)) (by unfold properB; first | (simp; done) | (simp; omega)), HB2.out⟩
  ·have b1 : (nn == 0) = false := by simpa using h1
   go_wp2
   go_ret
   exact ⟨congrArg (fun b => Ending.returned (.bool b)) (by unfold properB; first | (simp; done) | (simp; omega)), HB2.out⟩
 ·by_cases h1 : nn = 0
  ·have b1 : (nn == 0) = true := by simpa using h1
   by_cases h2 : n2 = 0
   ·have b2 : ((n2 : Int) == 0) = true := by rw [E2.out]; simpa using h2
    go_wp2
    go_ret
    exact ⟨congrArg (fun b => Ending.returned (.bool b)) (by unfold properB; first | (simp; done) | (simp; omega)), HB2.out⟩
   ·have b2 : ((n2 : Int) == 0) = false := by rw [E2.out]; simpa using h2
    go_wp2
    go_ret
    exact ⟨congrArg (fun b => Ending.returned (.bool b)) (by unfold properB; first | (simp; done) | (simp; omega)), HB2.out⟩
  ·have b1 : (nn == 0) = false := by simpa using h1
   go_wp2
   go_ret
   exact ⟨congrArg (fun b => Ending.returned (.bool b)) (by unfold properB; first | (simp; done) | (simp; omega)), HB2.out⟩
 ·by_cases h1 : nn = 0
  ·have b1 : (nn == 0) = true := by simpa using h1
   by_cases h2 : n2 = 0
   ·have b2 : ((n2 : Int) == 0) = true := by rw [E2.out]; simpa using h2
    by_cases h4 : n3 = 1
    ·have b4 : ((n3 : Int) == 1) = true := by rw [E4.out]; simpa using h4
     go_wp2
     go_ret
     exact ⟨congrArg (fun b => Ending.returned (.bool b)) (by unfold properB; first | (simp; done) | (simp; omega)), HB2.out⟩
    ·have b4 : ((n3 : Int) == 1) = false := by rw [E4.out]; simpa using h4
     go_wp2
     go_ret
     exact ⟨congrArg (fun b => Ending.returned (.bool b)) (by unfold properB; first | (simp; done) | (simp; omega)), HB2.out⟩
   ·have b2 : ((n2 : Int) == 0) = false := by rw [E2.out]; simpa using h2
    go_wp2
    go_ret
    exact ⟨congrArg (fun b => Ending.returned (.bool b)) (by unfold properB; first | (simp; done) | (simp; omega)), HB2.out⟩
  ·have b1 : (nn == 0) = false := by simpa using h1
   go_wp2
   go_ret
   exact ⟨congrArg (fun b => Ending.returned (.bool b)) (by unfold properB; first | (simp; done) | (simp; omega)), HB2.out⟩
 ·go_wp2
  go_ret
  exact ⟨congrArg (fun b => Ending.returned (.bool b)) (by simp only [beq_eq_false_iff_ne, ne_eq] at q0 q1 q2 q3 q4 q5 q6; simp [properB, q0, q1, q2, q3, q4, q5, q6]), HB2.out⟩
end Go.Proofs.YtgnloodmbgdgdaaGreat
namespace Go.Proofs.YtgnloodmbgdgdaaGreat
open Go.RowKit Go.Shelf
mutual
noncomputable def Fo.good : Fo → Bool
 | .mk op n is ks => properB op n is.length ks.length (validL is) && Fo.goods ks
noncomputable def Fo.goods : List Fo → Bool
 | [] => true
 | t :: ts => t.good && Fo.goods ts
end
theorem Fo.good_eq (f : Fo) : f.good = (properB f.op f.n f.is.length f.ks.length (validL f.is) && Fo.goods f.ks) := by cases f; rw [Fo.good]; rfl
theorem Fo.goods_app (b : List Fo) : ∀ a : List Fo, Fo.goods (a ++ b) = (Fo.goods a && Fo.goods b)
 | [] => by rw [Fo.goods]; simp
 | t :: ts => by rw [List.cons_append, Fo.goods, Fo.goods, Fo.goods_app b ts, Bool.and_assoc]
end Go.Proofs.YtgnloodmbgdgdaaGreat
namespace Go.Proofs.YtgnloodmbgdgdaaGreat
open Go.RowKit Go.Shelf
mutual
def Fo.cls (m : Int) : Fo → Bool
 | .mk op n _ ks => !(decide (op = 1) && decide (m ≤ n)) && Fo.clss m ks
def Fo.clss (m : Int) : List Fo → Bool
 | [] => true
 | t :: ts => t.cls m && Fo.clss m ts
end
theorem Fo.cls_eq (m : Int) (f : Fo) : f.cls m = (!(decide (f.op = 1) && decide (m ≤ f.n)) && Fo.clss m f.ks) := by cases f; rw [Fo.cls]; rfl
theorem Fo.clss_app (m : Int) (b : List Fo) : ∀ a : List Fo, Fo.clss m (a ++ b) = (Fo.clss m a && Fo.clss m b)
 | [] => by rw [Fo.clss]; simp
 | t :: ts => by rw [List.cons_append, Fo.clss, Fo.clss, Fo.clss_app m b ts, Bool.and_assoc]
def leafG (zs : List Int) (cl : Int) (i : Nat) : Fo × Nat :=
 if pickI zs i 11 < 6 then (.mk 1 (pickI zs (i + 1) cl) [] [], i + 2)
 else if pickI zs i 11 = 10 then (.mk 0 0 [] [], i + 1)
 else (.mk 2 (pickI zs (i + 1) 3) (rangeL (pickI zs (i + 2) 1048576).toNat) [], i + 3)
def kidsG (T : Nat → Int → Fo × Nat × Int) : Nat → Nat → Int → List Fo × Nat × Int
 | 0, i, l => ([], i, l)
 | n + 1, i, l => ((kidsG T n i l).1 ++ [(T (kidsG T n i l).2.1 (kidsG T n i l).2.2).1], (T (kidsG T n i l).2.1 (kidsG T n i l).2.2).2)
def manyG (p : Int) : Nat := if p = 0 ∨ p = 1 ∨ p = 2 then 2 else if p = 3 then 3 else if p = 4 then 1 else 0
def treeG (zs : List Int) (cl : Int) : Nat → Nat → Int → Fo × Nat × Int
 | 0, i, l => ((leafG zs cl (i + 1)).1, (leafG zs cl (i + 1)).2, l - 1)
 | d + 1, i, l =>
  if d = 0 ∨ l - 1 < 3 ∨ zs.length < i + 1 ∨ pickI zs i 14 < 3 then ((leafG zs cl (i + 1)).1, (leafG zs cl (i + 1)).2, l - 1)
  else if pickI zs i 14 < 5 then (.mk 3 0 [] [(treeG zs cl d (i + 1) (l - 1)).1], (treeG zs cl d (i + 1) (l - 1)).2)
  else if pickI zs i 14 < 7 then (.mk 6 0 [] [(treeG zs cl d (i + 1) (l - 1)).1], (treeG zs cl d (i + 1) (l - 1)).2)
  else (.mk (4 + pickI zs i 14 % 2) 0 [] (kidsG (treeG zs cl d) (manyG (pickI zs (i + 1) 6)) (i + 2) (l - 1)).1, (kidsG (treeG zs cl d) (manyG (pickI zs (i + 1) 6)) (i + 2) (l - 1)).2)
def mm : Nat → Nat
 | 0 => 1
 | d + 1 => 1 + 3 * mm d
theorem mm_pos (d : Nat) : 1 ≤ mm d := by cases d <;> simp [mm]
structure GenOkF (cl : Int) (d : Nat) (i : Nat) (l : Int) (r : Fo × Nat × Int) : Prop where
 good : r.1.good = true
 cls : r.1.cls cl = true
 wf : r.1.wf
 deep : r.1.deep ≤ max 1 d
 size : r.1.size ≤ mm d
 at1 : i ≤ r.2.1
 at2 : r.2.1 ≤ i + 4 * mm d
 left : r.2.2 = l - r.1.size
 low : min (l - 1) (3 - 3 * (d : Int)) ≤ r.2.2
theorem leaf_ok (zs : List Int) (cl : Int) (h1 : 1 ≤ cl) (h2 : cl ≤ 64) (d i : Nat) (l : Int) : GenOkF cl d i l ((leafG zs cl (i + 1)).1, (leafG zs cl (i + 1)).2, l - 1) := by
 have hm := mm_pos d
 have key : (leafG zs cl (i + 1)).1.good = true ∧ (leafG zs cl (i + 1)).1.cls cl = true ∧ (leafG zs cl (i + 1)).1.wf ∧ (leafG zs cl (i + 1)).1.deep = 1 ∧ (leafG zs cl (i + 1)).1.size = 1 ∧ i ≤ (leafG zs cl (i + 1)).2 ∧ (leafG zs cl (i + 1)).2 ≤ i + 4 := by
  unfold leafG
  split
  ·have := pickI_range zs (i + 1 + 1) cl h1
   generalize pickI zs (i + 1 + 1) cl = c at *
   refine ⟨?_, ?_, ?_, ?_, ?_, by simp only; omega, by simp only; omega⟩
   ·simp only [Fo.good, Fo.goods, properB]; simp; omega
   ·simp only [Fo.cls, Fo.clss]; simp; omega
   ·simp [Fo.wf, Fo.wfs]
   ·simp [Fo.deep, Fo.deeps]
   ·simp [Fo.size, Fo.sizes]
  ·split
   ·refine ⟨?_, ?_, ?_, ?_, ?_, by simp only; omega, by simp only; omega⟩
    ·simp [Fo.good, Fo.goods, properB]
    ·simp [Fo.cls, Fo.clss]
    ·simp [Fo.wf, Fo.wfs]
    ·simp [Fo.deep, Fo.deeps]
    ·simp [Fo.size, Fo.sizes]
   ·have := pickI_range zs (i + 1 + 1) 3 (by decide)
    obtain ⟨f1, f2, f3⟩ := range_facts (pickI zs (i + 1 + 2) 1048576).toNat
    generalize pickI zs (i + 1 + 1) 3 = c at *
    generalize rangeL (pickI zs (i + 1 + 2) 1048576).toNat = L at *
    refine ⟨?_, ?_, ?_, ?_, ?_, by simp only; omega, by simp only; omega⟩
    ·simp only [Fo.good, Fo.goods, properB, valid_fit f1 (by omega)]; simp; omega
    ·simp [Fo.cls, Fo.clss]
    ·simp only [Fo.wf, Fo.wfs]; exact ⟨⟨f3, by omega⟩, trivial⟩
    ·simp [Fo.deep, Fo.deeps]
    ·simp [Fo.size, Fo.sizes]
 obtain ⟨k1, k2, k3, k4, k5, k6, k7⟩ := key
 exact ⟨k1, k2, k3, by simp only; omega, by simp only; omega, k6, by simp only; omega, by simp only [k5]; omega, by simp only; omega⟩
structure KidsOk (cl : Int) (d n : Nat) (i : Nat) (l : Int) (r : List Fo × Nat × Int) : Prop where
 len : r.1.length = n
 good : Fo.goods r.1 = true
 cls : Fo.clss cl r.1 = true
 wf : ∀ u ∈ r.1, u.wf
 deep : Fo.deeps r.1 ≤ max 1 d
 size : Fo.sizes r.1 ≤ n * mm d
 at1 : i ≤ r.2.1
 at2 : r.2.1 ≤ i + 4 * (n * mm d)
 left : r.2.2 = l - Fo.sizes r.1
 low : min (l - n) (4 - 3 * (d : Int) - n) ≤ r.2.2
theorem kids_ok {cl : Int} {d : Nat} {T : Nat → Int → Fo × Nat × Int} (hT : ∀ i l, GenOkF cl d i l (T i l)) : ∀ (n i : Nat) (l : Int), KidsOk cl d n i l (kidsG T n i l)
 | 0, i, l => ⟨rfl, rfl, rfl, fun u h => by simp [kidsG] at h, by simp [kidsG, Fo.deeps], by simp [kidsG, Fo.sizes], by simp [kidsG], by simp [kidsG], by simp [kidsG, Fo.sizes], by simp only [kidsG]; omega⟩
 | n + 1, i, l => by
  obtain ⟨k1, k2, k3, k4, k5, k6, k7, k8, k9, k10⟩ := kids_ok hT n i l
  obtain ⟨t1, t2, t3, t4, t5, t6, t7, t8, t9⟩ := hT (kidsG T n i l).2.1 (kidsG T n i l).2.2
  have hs : (n + 1) * mm d = n * mm d + mm d := Nat.succ_mul n (mm d)
  have hp := (T (kidsG T n i l).2.1 (kidsG T n i l).2.2).1.size_pos
  simp only [kidsG]
  generalize T (kidsG T n i l).2.1 (kidsG T n i l).2.2 = r at *
  generalize kidsG T n i l = q at *
  refine ⟨by simp [k1], ?_, ?_, ?_, ?_, ?_, ?_, ?_, ?_, ?_⟩
  ·rw [Fo.goods_app, k2, Fo.goods, Fo.goods, t1]; rfl
  ·rw [Fo.clss_app, k3, Fo.clss, Fo.clss, t2]; rfl
  ·intro u hu
   rcases List.mem_append.1 hu with hu | hu
   ·exact k4 u hu
   ·rw [List.mem_singleton.1 hu]; exact t3
  ·rw [Fo.deeps_append, Fo.deeps, Fo.deeps]; omega
  ·rw [Fo.sizes_append, Fo.sizes, Fo.sizes]; omega
  ·simp only; omega
  ·simp only; omega
  ·simp only [Fo.sizes_append, Fo.sizes]; omega
  ·simp only; omega
theorem many_le (p : Int) : manyG p ≤ 3 := by
 unfold manyG
 split
 ·omega
 ·split
  ·omega
  ·split <;> omega
theorem proper_one (op : Int) (h : op = 3 ∨ op = 6) : properB op 0 0 1 (validL []) = true := by
 rcases h with rfl | rfl <;> simp [properB]
theorem proper_many (op : Int) (h : op = 4 ∨ op = 5) (k : Nat) (v : Int) : properB op 0 0 k v = true := by
 rcases h with rfl | rfl <;> simp [properB]
theorem tree_ok (zs : List Int) (cl : Int) (h1 : 1 ≤ cl) (h2 : cl ≤ 64) : ∀ (d i : Nat) (l : Int), GenOkF cl d i l (treeG zs cl d i l)
 | 0, i, l => by rw [treeG]; exact leaf_ok zs cl h1 h2 0 i l
 | d + 1, i, l => by
  rw [treeG]
  have hmd : mm (d + 1) = 1 + 3 * mm d := rfl
  split
  ·exact leaf_ok zs cl h1 h2 (d + 1) i l
  rename_i hn
  have hd : 1 ≤ d := by omega
  have hl : 3 ≤ l - 1 := by omega
  have one : ∀ op : Int, op = 3 ∨ op = 6 → GenOkF cl (d + 1) i l (.mk op 0 [] [(treeG zs cl d (i + 1) (l - 1)).1], (treeG zs cl d (i + 1) (l - 1)).2) := fun op hop => by
   obtain ⟨t1, t2, t3, t4, t5, t6, t7, t8, t9⟩ := tree_ok zs cl h1 h2 d (i + 1) (l - 1)
   generalize treeG zs cl d (i + 1) (l - 1) = r at *
   have hsz : (Fo.mk op 0 [] [r.1]).size = 1 + r.1.size := by rw [Fo.size, Fo.sizes, Fo.sizes]; omega
   refine ⟨?_, ?_, ?_, ?_, ?_, ?_, ?_, ?_, ?_⟩
   ·simp only [Fo.good, Fo.goods, t1, List.length_cons, List.length_nil, Nat.zero_add, proper_one op hop]; rfl
   ·simp only [Fo.cls, Fo.clss, t2]; rcases hop with rfl | rfl <;> simp
   ·simp only [Fo.wf, Fo.wfs]; exact ⟨⟨fun x hx => by simp at hx, by simp⟩, t3, trivial⟩
   ·simp only [Fo.deep, Fo.deeps]; omega
   ·simp only [hsz]; omega
   ·simp only; omega
   ·simp only; omega
   ·simp only [hsz]; omega
   ·simp only; omega
  split
  ·exact one 3 (.inl rfl)
  split
  ·exact one 6 (.inr rfl)
  obtain ⟨k1, k2, k3, k4, k5, k6, k7, k8, k9, k10⟩ := kids_ok (tree_ok zs cl h1 h2 d) (manyG (pickI zs (i + 1) 6)) (i + 2) (l - 1)
  have hm := many_le (pickI zs (i + 1) 6)
  have hop : 4 + pickI zs i 14 % 2 = 4 ∨ 4 + pickI zs i 14 % 2 = 5 := by omega
  generalize 4 + pickI zs i 14 % 2 = op at *
  generalize hk : kidsG (treeG zs cl d) (manyG (pickI zs (i + 1) 6)) (i + 2) (l - 1) = r at *
  generalize manyG (pickI zs (i + 1) 6) = n at *
  have hnm : n * mm d ≤ 3 * mm d := Nat.mul_le_mul_right _ hm
  have hsz : (Fo.mk op 0 [] r.1).size = 1 + Fo.sizes r.1 := by rw [Fo.size]
  refine ⟨?_, ?_, ?_, ?_, ?_, ?_, ?_, ?_, ?_⟩
  ·simp only [Fo.good, k2, List.length_nil, proper_many op hop]; rfl
  ·simp only [Fo.cls, k3]; rcases hop with rfl | rfl <;> simp
  ·simp only [Fo.wf]; exact ⟨⟨fun x hx => by simp at hx, by simp⟩, Fo.wfs_all.2 k4⟩
  ·simp only [Fo.deep]; omega
  ·simp only [hsz]; omega
  ·simp only; omega
  ·simp only; omega
  ·simp only [hsz]; omega
  ·simp only; omega
end Go.Proofs.YtgnloodmbgdgdaaGreat
namespace Go.Proofs.YtgnloodmbgdgdaaGreat
open Go.RowKit Go.Shelf
structure Mk (M : Nat) (sv : Value) (zs : List Int) (i : Nat) (cl l : Int) (W : World) : Prop where
 box : BoxL M [sv, .int .i64 i, .int .i64 cl, .int .i64 l] W
 els : Els .i64 W sv zs
 far : InS (fun k => k ≠ M) sv
structure But (M : Nat) (W W' : World) : Prop where
 size : W.heap.size ≤ W'.heap.size
 keep : ∀ b, b ≠ M → b < W.heap.size → W'.heap[b]? = W.heap[b]?
 st : W'.os = W.os ∧ W'.tape = W.tape ∧ W'.output = W.output
theorem But.ks {M : Nat} {W W' : World} (h : But M W W') : KeepS (fun k => k ≠ M) W W' := ⟨h.size, h.keep⟩
theorem But.refl (M : Nat) (W : World) : But M W W := ⟨Nat.le_refl _, fun _ _ _ => rfl, rfl, rfl, rfl⟩
theorem But.trans {M : Nat} {A B C : World} (h : But M A B) (k : But M B C) : But M A C := ⟨Nat.le_trans h.1 k.1, fun b hb hl => (k.2 b hb (Nat.lt_of_lt_of_le hl h.1)).trans (h.2 b hb hl), k.st.1.trans h.st.1, k.st.2.1.trans h.st.2.1, k.st.2.2.trans h.st.2.2⟩
theorem But.since {M : Nat} {A B : World} (h : Since A B) : But M A B := ⟨h.size, fun b _ hl => h.block b hl, h.os, h.tape, h.output⟩
theorem But.set {M : Nat} (W : World) (o : Nat) (v : Value) : But M W (W.setCell ⟨M, o, none⟩ v) := ⟨by rw [World.size_setCell]; exact Nat.le_refl _, fun b hb _ => Below.heap_setCell _ _ _ _ hb, rfl, rfl, rfl⟩
theorem KeepS.box {S : Nat → Prop} {N : Nat} {vs : List Value} {A B : World} (h : KeepS S A B) (hX : BoxL N vs A) (hN : S N) : BoxL N vs B :=
 ⟨Nat.lt_of_lt_of_le hX.1 h.1, fun i u hu => ⟨(cell_of_block (h.2 N hN hX.1) i).trans (hX.2 i u hu).1, by
  have e := h.2 N hN hX.1
  have := (hX.2 i u hu).2
  unfold World.frozen? at this ⊢
  rw [e]
  exact this⟩⟩
theorem But.box {M N : Nat} {vs : List Value} {A B : World} (h : But M A B) (hX : BoxL N vs A) (hN : N ≠ M) : BoxL N vs B := h.ks.box hX hN
theorem Mk.since {M : Nat} {sv : Value} {zs : List Int} {i : Nat} {cl l : Int} {W W' : World} (h : Mk M sv zs i cl l W) (hS : Since W W') : Mk M sv zs i cl l W' :=
 ⟨h.box.keep hS, h.els.below hS, h.far⟩
theorem Mk.set {M : Nat} {sv : Value} {zs : List Int} {i : Nat} {cl l : Int} {W : World} (h : Mk M sv zs i cl l W) (j : Nat) (x : Value) (hj : j < 4) {i' : Nat} {l' : Int} (he : [sv, .int .i64 i, .int .i64 cl, .int .i64 l].set j x = [sv, .int .i64 i', .int .i64 cl, .int .i64 l']) : Mk M sv zs i' cl l' (W.setCell ⟨M, j, none⟩ x) :=
 ⟨by have := h.box.set1 j x (by simpa using hj); rwa [he] at this, h.els.keepS h.far (But.set W j x).ks, h.far⟩
set_option maxHeartbeats 4000000 in
set_option maxRecDepth 100000 in
theorem next_any (zs : List Int) (hw : Wfs zs) (M : Nat) (sv : Value) (i : Nat) (cl l n : Int) (W : World) (h : Mk M sv zs i cl l W) (h1 : 1 ≤ n) (h2 : n ≤ 1048576) (hi : i ≤ 99999) :
  Calls Tryz.prog 99 #[.pointer (some ⟨M, 0, none⟩), .int .i64 n] W fun e w' => e = .returned (.int .i64 (pickI zs i n)) ∧ Mk M sv zs (i + 1) cl l w' ∧ But M W w' := by
 obtain ⟨a, c, rfl⟩ := h.els.shape
 obtain ⟨o0, o1, o2, o3, oz⟩ := h.box.open4
 have f1 := (h.box.2 1 _ rfl).2
 have i1 : IntKind.i64.wrap ((i : Int) + 1) = ((i + 1 : Nat) : Int) := by rw [IntWalk.i64_in _ (by omega)]; omega
 have i2 : IntKind.i64.wrap (i : Int) = (i : Int) := IntWalk.i64_in _ (by omega)
 obtain ⟨W1, hW1⟩ : ∃ W1, W1 = W.setCell ⟨M, 1, none⟩ (.int .i64 ((i : Int) + 1)) := ⟨_, rfl⟩
 have hM1 : Mk M (.slice a zs.length c) zs (i + 1) cl l W1 := by rw [hW1]; exact h.set 1 _ (by decide) rfl
 have e1 : ((i + 1 : Nat) : Int) = (i : Int) + 1 := by omega
 have hB1 : But M W W1 := by rw [hW1]; exact But.set _ _ _
 obtain ⟨p0, p1, -, -, -⟩ := hM1.box.open4
 rw [e1] at p1
 have KP := Lib.hid fun W' (hS : Since W1 W') => pick_any _ zs i n W' (hM1.els.below hS) hw h1 (by omega) (by omega)
 have HM := Lib.hid hM1
 have HB := Lib.hid hB1
 have hS0 : Since W1 W1.drew := Below.drew (Below.refl _ _)
 clear hM1 hB1 h hw
 generalize zs.length = m at *
 generalize pickI zs i n = p at *
 go_enter Tryz.func99, Tryz.ntmps99
 go_upto_region 2 with (fail)
 rw [← hW1]
 clear hW1 o0 o1 o2 o3 f1 i1 e1
 go_region_held3 (fun w' => w'.cell? ⟨M, 0, none⟩ = some (.slice a m c) ∧ w'.cell? ⟨M, 1, none⟩ = some (.int .i64 ((i : Int) + 1)) ∧ Since W1 w')
  (exact ⟨p0, p1, hS0⟩)
  ((go_at_call 98; with_reducible refine (KP.out _ (by assumption)).mono ?_; rintro e w' ⟨rfl, rfl⟩))
 go_wp2
 go_ret
 exact ⟨rfl, HM.out.since hS0, HB.out.trans (But.since hS0)⟩
end Go.Proofs.YtgnloodmbgdgdaaGreat
namespace Go.Proofs.YtgnloodmbgdgdaaGreat
open Go.RowKit Go.Shelf
def RangeOut (n : Nat) (W : World) (e : Ending) (w' : World) : Prop :=
 ∃ v, e = .returned v ∧ Hid (REls RIv w' v (rangeL n)) ∧ Hid (InS (fun k => W.heap.size ≤ k ∧ k < w'.heap.size) v) ∧ Hid (Below W.heap.size W w')
theorem range_end {n m : Nat} {W W2 : World} (hB : Below W.heap.size W W2) (xs : List Iv) (cs : Array Value) (T : TypeId) (hx : rangeL n = xs) (hcs : cs.toList = xs.flatMap RIv.cells) (hl : m = xs.length) (hm : m ≤ 2) : RangeOut n W (.returned (.slice (some ⟨W2.heap.size, 0, none⟩) m m)) (W2.alloc (.cells cs T)) := by
 subst hl
 have hO := ROwn.new RIv T W2 xs cs hcs (by unfold maxLen; omega)
 refine ⟨_, rfl, Lib.hid (by rw [hx]; exact hO.els), Lib.hid (hO.ins.mono fun k hk => ⟨Nat.le_trans hB.size hk.1, hk.2⟩), Lib.hid (hB.alloc hB.size _)⟩
theorem rangeLo_a {n : Nat} (h : n % 16 = 3) : rangeLo n = (2 * ((n : Int) / 8 % 4) - 1, 2) := by
 rw [rangeLo, if_pos h]
 exact Prod.ext (by show (2 * ((n / 8 % 4 : Nat) : Int) - 1 : Int) = 2 * ((n : Int) / 8 % 4) - 1; omega) rfl
theorem rangeLo_b {n : Nat} (h : ¬ n % 16 = 3) : rangeLo n = ((n : Int) / 8 % 5, 1) := by
 rw [rangeLo, if_neg h]
 exact Prod.ext (by show ((n / 8 % 5 : Nat) : Int) = (n : Int) / 8 % 5; omega) rfl
theorem range_flags (n : Nat) : decide (n / 64 % 2 = 0) = ((n : Int) / 64 % 2 == 0) ∧ decide (n / 128 % 2 = 0) = ((n : Int) / 128 % 2 == 0) ∧ decide (n / 64 % 4 = 0) = ((n : Int) / 64 % 4 == 0) ∧ ((n / 40 % 3 : Nat) : Int) = (n : Int) / 40 % 3 := by
 refine ⟨?_, ?_, ?_, by omega⟩ <;> (rw [Bool.eq_iff_iff]; simp; omega)
theorem rangeL_b {n c : Nat} (h : ¬ n % 16 = 3) (hc : n % 8 = c) : rangeL n = rangeP c ((n : Int) / 8 % 5) 1 ((n : Int) / 8 % 5 + (1 + (n : Int) / 40 % 3)) ((n : Int) / 64 % 2 == 0) ((n : Int) / 128 % 2 == 0) ((n : Int) / 64 % 4 == 0) := by
 obtain ⟨e1, e2, e3, e4⟩ := range_flags n
 rw [rangeL, rangeHi, rangeLo_b h, e1, e2, e3, e4, hc]
 simp only [Int.one_mul]
theorem rangeL_a {n : Nat} (h : n % 16 = 3) : rangeL n = rangeP 3 (2 * ((n : Int) / 8 % 4) - 1) 2 (2 * ((n : Int) / 8 % 4) - 1 + 2 * (1 + (n : Int) / 40 % 3)) ((n : Int) / 64 % 2 == 0) ((n : Int) / 128 % 2 == 0) ((n : Int) / 64 % 4 == 0) := by
 obtain ⟨e1, e2, e3, e4⟩ := range_flags n
 rw [rangeL, rangeHi, rangeLo_a h, e1, e2, e3, e4, show n % 8 = 3 by omega]
set_option maxHeartbeats 4000000 in
set_option maxRecDepth 100000 in
theorem range_any (n : Nat) (hn : n < 1048576) (W : World) :
  Calls Tryz.prog 152 #[.int .i64 (n : Int)] W (RangeOut n W) := by
 have KA := Lib.hid (around_any (n : Int) 1048576 W (by decide) (by decide) (by simp [Lit.wf, IntKind.min, IntKind.max, IntKind.signed, IntKind.bits]; omega))
 have ha : aroundI (n : Int) 1048576 = (n : Int) := by unfold aroundI; omega
 rw [ha] at KA
 obtain ⟨c, hc⟩ : ∃ c, n % 8 = c := ⟨_, rfl⟩
 have c8 : c < 8 := by omega
 go_enter Tryz.func152, Tryz.ntmps152
 go_wp2_with fail
 refine KA.out.mono ?_
 rintro e _ ⟨rfl, rfl⟩
 go_upto_region 3 with (fail)
 have b1 : 0 ≤ (n : Int) / 8 % 4 := by omega
 have b2 : (n : Int) / 8 % 4 ≤ 3 := by omega
 have b3 : 0 ≤ (n : Int) / 40 % 3 := by omega
 have b4 : (n : Int) / 40 % 3 ≤ 2 := by omega
 have b5 : 0 ≤ (n : Int) / 8 % 5 := by omega
 have b6 : (n : Int) / 8 % 5 ≤ 4 := by omega
 have hB : ∀ o1 o2, Below W.heap.size W ((W.alloc o1).alloc o2) := fun o1 o2 => ((Below.refl _ W).alloc (Nat.le_refl _) _).alloc (by simp) _
 have hs : ∀ o1 o2, ((W.alloc o1).alloc o2).heap.size = W.heap.size + 1 + 1 := fun o1 o2 => by rw [World.size_alloc, World.size_alloc]
 have HB := Lib.hid hB
 have HS := Lib.hid hs
 clear hB hs
 by_cases h3 : n % 16 = 3
 ·have e1 : (n : Int) % 16 = 3 := by omega
  have e4 : (n : Int) % 8 = 3 := by omega
  have HL := Lib.hid (rangeL_a h3)
  go_wp2
  go_ret
  rw [← HS.out]
  exact range_end (HB.out _ _) _ _ _ HL.out rfl rfl (by decide)
 ·have e1 : ¬ (n : Int) % 16 = 3 := by omega
  have HL := Lib.hid (rangeL_b h3 hc)
  match c, c8 with
  | 0, _ =>
   have e4 : (n : Int) % 8 = 0 := by omega
   go_wp2
   go_ret
   rw [← HS.out]
   exact range_end (HB.out _ _) _ _ _ HL.out rfl rfl (by decide)
  | 1, _ =>
   have e4 : (n : Int) % 8 = 1 := by omega
   go_wp2
   go_ret
   rw [← HS.out]
   exact range_end (HB.out _ _) _ _ _ HL.out rfl rfl (by decide)
  | 2, _ =>
   have e4 : (n : Int) % 8 = 2 := by omega
   go_wp2
   go_ret
   rw [← HS.out]
   exact range_end (HB.out _ _) _ _ _ HL.out rfl rfl (by decide)
  | 3, _ =>
   have e4 : (n : Int) % 8 = 3 := by omega
   go_wp2
   go_ret
   rw [← HS.out]
   exact range_end (HB.out _ _) _ _ _ HL.out rfl rfl (by decide)
  | 4, _ =>
   have e4 : (n : Int) % 8 = 4 := by omega
   go_wp2
   go_ret
   rw [← HS.out]
   exact range_end (HB.out _ _) _ _ _ HL.out rfl rfl (by decide)
  | 5, _ =>
   have e4 : (n : Int) % 8 = 5 := by omega
   go_wp2
   go_ret
   rw [← HS.out]
   exact range_end (HB.out _ _) _ _ _ HL.out rfl rfl (by decide)
  | 6, _ =>
   have e4 : (n : Int) % 8 = 6 := by omega
   go_wp2
   go_ret
   rw [← HS.out]
   exact range_end (HB.out _ _) _ _ _ HL.out rfl rfl (by decide)
  | 7, _ =>
   have e4 : (n : Int) % 8 = 7 := by omega
   by_cases hz : n / 64 % 4 = 0
   ·have e5 : (n : Int) / 64 % 4 = 0 := by omega
    have HN : Hid (rangeL n = []) := Lib.hid (by rw [HL.out]; unfold rangeP; simp [e5])
    clear HL
    go_wp2
    go_ret
    exact ⟨_, rfl, Lib.hid (by rw [HN.out]; exact .inl ⟨.inl rfl, rfl⟩), Lib.hid (.inl (.inl rfl)), Lib.hid (HB.out _ _)⟩
   ·have e5 : ¬ (n : Int) / 64 % 4 = 0 := by omega
    have e6 : ((n : Int) / 64 % 4 == 0) = false := by simpa using e5
    have HM : Hid (rangeL n = [⟨(n : Int) / 8 % 5, 1, (n : Int) / 8 % 5, 1, false, false, false, false⟩, ⟨(n : Int) / 8 % 5 + (1 + (n : Int) / 40 % 3), 1, (n : Int) / 8 % 5 + (1 + (n : Int) / 40 % 3), 1, false, false, false, false⟩]) := Lib.hid (by rw [HL.out, e6]; rfl)
    clear HL
    go_wp2
    go_ret
    rw [← HS.out]
    exact range_end (HB.out _ _) _ _ _ HM.out rfl rfl (by decide)
end Go.Proofs.YtgnloodmbgdgdaaGreat
namespace Go.Proofs.YtgnloodmbgdgdaaGreat
open Go.RowKit Go.Shelf
def put4 (w : World) (N : Nat) (a b c d : Value) : World := (((w.setCell ⟨N, 0, none⟩ a).setCell ⟨N, 1, none⟩ b).setCell ⟨N, 2, none⟩ c).setCell ⟨N, 3, none⟩ d
theorem put4_keep {S : Nat → Prop} (w : World) (N : Nat) (a b c d : Value) (h : ∀ k, S k → k ≠ N) : KeepS S w (put4 w N a b c d) := by
 refine ⟨by unfold put4; simp only [World.size_setCell]; exact Nat.le_refl _, fun k hb hl => ?_⟩
 have hne := h k hb
 unfold put4
 rw [Below.heap_setCell _ _ _ _ hne, Below.heap_setCell _ _ _ _ hne, Below.heap_setCell _ _ _ _ hne, Below.heap_setCell _ _ _ _ hne]
theorem put4_below {B N : Nat} {w w' : World} (h : Below B w w') (hN : B ≤ N) (a b c d : Value) : Below B w (put4 w' N a b c d) :=
 (((h.setCell (p := ⟨N, 0, none⟩) hN a).setCell (p := ⟨N, 1, none⟩) hN b).setCell (p := ⟨N, 2, none⟩) hN c).setCell (p := ⟨N, 3, none⟩) hN d
theorem BoxL.all4 {N : Nat} {a b c d : Value} {W : World} (h : BoxL N [a, b, c, d] W) : W.cell? ⟨N, 0, none⟩ = some a ∧ W.cell? ⟨N, 1, none⟩ = some b ∧ W.cell? ⟨N, 2, none⟩ = some c ∧ W.cell? ⟨N, 3, none⟩ = some d ∧ W.frozen? ⟨N, 0, none⟩ = false ∧ W.frozen? ⟨N, 1, none⟩ = false ∧ W.frozen? ⟨N, 2, none⟩ = false ∧ W.frozen? ⟨N, 3, none⟩ = false ∧ N < W.heap.size :=
 ⟨(h.2 0 a rfl).1, (h.2 1 b rfl).1, (h.2 2 c rfl).1, (h.2 3 d rfl).1, (h.2 0 a rfl).2, (h.2 1 b rfl).2, (h.2 2 c rfl).2, (h.2 3 d rfl).2, h.1⟩
theorem put4_st (w : World) (N : Nat) (a b c d : Value) : (put4 w N a b c d).os = w.os ∧ (put4 w N a b c d).tape = w.tape ∧ (put4 w N a b c d).output = w.output := ⟨rfl, rfl, rfl⟩
def GenOut (M : Nat) (sv : Value) (zs : List Int) (f : Fo) (i : Nat) (cl l : Int) (W : World) (e : Ending) (w' : World) : Prop :=
 ∃ r : Fr, e = .returned (.agg #[.int .i64 r.op, .int .i64 r.n, .slice r.a2 r.n2 r.c2, .slice r.a3 r.n3 r.c3]) ∧ Hid (FSr (fun k => W.heap.size ≤ k ∧ k < w'.heap.size) w' f r) ∧ Hid (Mk M sv zs i cl l w') ∧ Hid (But M W w')
theorem KeepS.imp {S S' : Nat → Prop} {w w' : World} (h : KeepS S w w') (hs : ∀ k, S' k → S k) : KeepS S' w w' := ⟨h.1, fun k hk hl => h.2 k (hs k hk) hl⟩
theorem KeepS.trans {S : Nat → Prop} {A B C : World} (h : KeepS S A B) (k : KeepS S B C) : KeepS S A C := ⟨Nat.le_trans h.1 k.1, fun b hb hl => (k.2 b hb (Nat.lt_of_lt_of_le hl h.1)).trans (h.2 b hb hl)⟩
theorem gen_end {M N : Nat} {sv : Value} {zs : List Int} {f : Fo} {i : Nat} {cl l : Int} {W w1 : World} (hN : W.heap.size = N) (hMN : M < N) (hE : Els .i64 W sv zs) (hM : Mk M sv zs i cl l w1) (hB : But M W w1) (r : Fr) (hF : FSr (fun k => N < k ∧ k < w1.heap.size) w1 f r) (c d : Value) (hc : c = .slice r.a2 r.n2 r.c2) (hd : d = .slice r.a3 r.n3 r.c3) :
  GenOut M sv zs f i cl l W (.returned (.agg #[.int .i64 r.op, .int .i64 r.n, c, d])) (put4 w1 N (.int .i64 r.op) (.int .i64 r.n) c d) := by
 subst hN hc hd
 have hk : KeepS (fun k => k ≠ W.heap.size) w1 (put4 w1 W.heap.size (.int .i64 r.op) (.int .i64 r.n) (.slice r.a2 r.n2 r.c2) (.slice r.a3 r.n3 r.c3)) := put4_keep _ _ _ _ _ _ fun _ h => h
 refine ⟨r, rfl, Lib.hid ?_, Lib.hid ⟨?_, ?_, hM.far⟩, Lib.hid ⟨Nat.le_trans hB.1 hk.1, fun b hb hl => (hk.2 b (by omega) (Nat.lt_of_lt_of_le hl hB.1)).trans (hB.2 b hb hl), (put4_st w1 W.heap.size (.int .i64 r.op) (.int .i64 r.n) (.slice r.a2 r.n2 r.c2) (.slice r.a3 r.n3 r.c3)).1.trans hB.st.1, (put4_st w1 W.heap.size (.int .i64 r.op) (.int .i64 r.n) (.slice r.a2 r.n2 r.c2) (.slice r.a3 r.n3 r.c3)).2.1.trans hB.st.2.1, (put4_st w1 W.heap.size (.int .i64 r.op) (.int .i64 r.n) (.slice r.a2 r.n2 r.c2) (.slice r.a3 r.n3 r.c3)).2.2.trans hB.st.2.2⟩⟩
 ·exact FSr.keep hF (hk.imp fun k h => by omega) (S' := fun k => W.heap.size ≤ k) (fun b _ h => by omega)
 ·exact hk.box hM.box (by omega)
 ·have h1 := hM.els
  refine h1.keepS (S := fun k => k ≠ W.heap.size) ?_ hk
  rcases hE with ⟨he, -⟩ | ⟨b, off, cap, hb, e, -⟩
  ·exact .inl he
  ·exact .inr ⟨b, off, _, cap, Nat.ne_of_lt hb, e⟩
set_option maxHeartbeats 8000000 in
set_option maxRecDepth 100000 in
theorem leaf_any (zs : List Int) (hw : Wfs zs) (M : Nat) (sv : Value) (i : Nat) (cl l : Int) (W : World) (h : Mk M sv zs i cl l W) (h1 : 1 ≤ cl) (h2 : cl ≤ 64) (hi : i ≤ 90000) :
  Calls Tryz.prog 100 #[.pointer (some ⟨M, 0, none⟩)] W (GenOut M sv zs (leafG zs cl i).1 (leafG zs cl i).2 cl l W) := by
 obtain ⟨W1, hW1⟩ : ∃ W1, W1 = W.alloc (.cells #[.int .i64 0, .int .i64 0, .slice none 0 0, .slice none 0 0] 29) := ⟨_, rfl⟩
 have hS1 : Since W W1 := by rw [hW1]; exact Since.alloc (Below.refl _ _) _
 have hX : BoxL W.heap.size [.int .i64 0, .int .i64 0, .slice none 0 0, .slice none 0 0] W1 := by rw [hW1]; exact BoxL.made W _ _
 have hsz : W1.heap.size = W.heap.size + 1 := by rw [hW1, World.size_alloc]
 have hMN : M < W.heap.size := h.box.1
 have K1 := Lib.hid (next_any zs hw M sv i cl l 11 W1 (h.since hS1) (by decide) (by decide) (by omega))
 have KN := Lib.hid fun (j : Nat) (n : Int) (w1 : World) (hm : Mk M sv zs j cl l w1) (h1 : 1 ≤ n) (h2 : n ≤ 1048576) (hi : j ≤ 99999) => next_any zs hw M sv j cl l n w1 hm h1 h2 hi
 have HE := Lib.hid h.els
 have HX := Lib.hid hX
 have HS1 := Lib.hid hS1
 have HZ := Lib.hid hsz
 have hp := pickI_range zs i 11 (by decide)
 have hL : leafG zs cl i = if pickI zs i 11 < 6 then (.mk 1 (pickI zs (i + 1) cl) [] [], i + 2) else if pickI zs i 11 = 10 then (.mk 0 0 [] [], i + 1) else (.mk 2 (pickI zs (i + 1) 3) (rangeL (pickI zs (i + 2) 1048576).toNat) [], i + 3) := rfl
 generalize leafG zs cl i = L at *
 generalize pickI zs i 11 = p at *
 have HL := Lib.hid hL
 obtain ⟨hp0, hp1⟩ := hp
 clear hX hS1 hsz hL h
 go_enter Tryz.func100, Tryz.ntmps100
 go_upto_region 1 with (fail)
 rw [← hW1]
 clear hW1
 generalize hN : W.heap.size = N at *
 have HN := Lib.hid hN
 clear hN
 go_wp2_with fail
 refine K1.out.mono ?_
 rintro e w1 ⟨rfl, hM1, hB1⟩
 have HM1 := Lib.hid hM1
 have HB1 := Lib.hid hB1
 have hX1 := hB1.box HX.out (by omega)
 clear hM1 hB1 K1 HX
 by_cases c1 : p < 6
 ·have hL2 : L = (.mk 1 (pickI zs (i + 1) cl) [] [], i + 2) := by rw [HL.out, if_pos c1]
  subst hL2
  clear HL
  obtain ⟨-, -, o2, -, -⟩ := HM1.out.box.open4
  go_wp2_with fail
  refine (KN.out _ cl w1 HM1.out h1 (by omega) (by omega)).mono ?_
  rintro e w2 ⟨rfl, hM2, hB2⟩
  have hX2 := hB2.box hX1 (by omega)
  obtain ⟨x0, x1, x2, x3, f0, f1, f2, f3, -⟩ := hX2.all4
  generalize pickI zs (i + 1) cl = q at *
  have hfin := gen_end HN.out hMN HE.out hM2 ((But.since HS1.out).trans (HB1.out.trans hB2)) ⟨1, q, none, 0, 0, none, 0, 0⟩ (f := .mk 1 q [] []) ⟨rfl, rfl, FS.of (.inl ⟨.inl rfl, rfl⟩) (.inl (.inl rfl)) (.inl ⟨.inl rfl, rfl⟩)⟩ _ _ rfl rfl
  have HF := Lib.hid hfin
  unfold put4 at HF
  clear hfin hX1 hX2 hM2 hB2 KN
  go_wp2
  exact bodyPost_ret (v := .agg #[.int .i64 1, .int .i64 q, .slice none 0 0, .slice none 0 0]) (by simp [results, Tryz.results100, go_sem, x0, x1, x2, x3]) rfl HF.out
 ·by_cases c2 : p = 10
  ·have hL2 : L = (.mk 0 0 [] [], i + 1) := by rw [HL.out, if_neg c1, if_pos c2]
   subst hL2
   subst c2
   clear HL c1
   obtain ⟨x0, x1, x2, x3, f0, f1, f2, f3, -⟩ := hX1.all4
   have hfin := gen_end HN.out hMN HE.out HM1.out ((But.since HS1.out).trans HB1.out) ⟨0, 0, none, 0, 0, none, 0, 0⟩ (f := .mk 0 0 [] []) ⟨rfl, rfl, FS.of (.inl ⟨.inl rfl, rfl⟩) (.inl (.inl rfl)) (.inl ⟨.inl rfl, rfl⟩)⟩ _ _ rfl rfl
   have HF := Lib.hid hfin
   unfold put4 at HF
   clear hfin hX1 KN
   go_wp2
   exact bodyPost_ret (v := .agg #[.int .i64 0, .int .i64 0, .slice none 0 0, .slice none 0 0]) (by simp [results, Tryz.results100, go_sem, x0, x1, x2, x3]) rfl HF.out
  ·obtain ⟨n, hn, hn2⟩ : ∃ n : Nat, pickI zs (i + 2) 1048576 = (n : Int) ∧ n < 1048576 := ⟨(pickI zs (i + 2) 1048576).toNat, by have := pickI_range zs (i + 2) 1048576 (by decide); omega, by have := pickI_range zs (i + 2) 1048576 (by decide); omega⟩
   have hL2 : L = (.mk 2 (pickI zs (i + 1) 3) (rangeL n) [], i + 1 + 1 + 1) := by rw [HL.out, if_neg c1, if_neg c2, hn, Int.toNat_natCast]
   have HPN := Lib.hid hn
   have c3 : (p == 10) = false := by simpa using c2
   subst hL2
   clear HL c2 hn
   go_wp2_with fail
   refine (KN.out _ 3 w1 HM1.out (by decide) (by decide) (by omega)).mono ?_
   rintro e w2 ⟨rfl, hM2, hB2⟩
   have HM2 := Lib.hid hM2
   have HB2 := Lib.hid hB2
   have hX2 := hB2.box hX1 (by omega)
   clear hM2 hB2 hX1
   generalize pickI zs (i + 1) 3 = q at *
   go_wp2_with fail
   refine (KN.out _ 1048576 w2 HM2.out (by decide) (by decide) (by omega)).mono ?_
   rintro e w3 ⟨rfl, hM3, hB3⟩
   have HM3 := Lib.hid hM3
   have HB3 := Lib.hid hB3
   have hX3 := hB3.box hX2 (by omega)
   have e2 : i + 1 + 1 = i + 2 := by omega
   rw [e2, HPN.out]
   clear hM3 hB3 hX2 e2 KN
   go_wp2_with fail
   refine (range_any n hn2 w3).mono ?_
   rintro e w4 ⟨v, rfl, hE4, hI4, hB4⟩
   obtain ⟨a2, d2, rfl⟩ := hE4.out.shape
   have hlt := hX3.1
   have hF : FSr (fun k => N < k ∧ k < w4.heap.size) w4 (.mk 2 q (rangeL n) []) ⟨2, q, a2, (rangeL n).length, d2, none, 0, 0⟩ := ⟨rfl, rfl, FS.of hE4.out (hI4.out.mono fun k hk => ⟨by have := hk.1; omega, hk.2⟩) (.inl ⟨.inl rfl, rfl⟩)⟩
   have hX4 := hX3.keep hB4.out
   obtain ⟨x0, x1, x2, x3, f0, f1, f2, f3, -⟩ := hX4.all4
   have hfin := gen_end HN.out hMN HE.out (HM3.out.since hB4.out) ((But.since HS1.out).trans (HB1.out.trans (HB2.out.trans (HB3.out.trans (But.since hB4.out))))) _ hF _ _ rfl rfl
   have HF := Lib.hid hfin
   unfold put4 at HF
   clear hfin hX3 hX4 hE4 hI4 hB4 hF
   generalize (rangeL n).length = m2 at *
   generalize rangeL n = RL at *
   go_wp2
   exact bodyPost_ret (v := .agg #[.int .i64 2, .int .i64 q, .slice a2 m2 d2, .slice none 0 0]) (by simp [results, Tryz.results100, go_sem, x0, x1, x2, x3]) rfl HF.out
end Go.Proofs.YtgnloodmbgdgdaaGreat
