import Derived.Test.YtelhpndlejommaaGreatNcNg
import Derived.Test.YtelhpndlejommaaGreatNjNl
import Derived.Test.YtelhpndlejommaaGreatYk
import Derived.Test.YtelhpndlejommaaGreatNd
import Derived.Test.YtelhpndlejommaaGreatNuNw
import Derived.Shelf.Spec.SlicesInsertGrow
import Derived.Laws.OwnMore
import Derived.Test.YtelhpndlejommaaGreatCaCc
import Derived.Test.YtelhpndlejommaaGreatNaNb
/- The reference's part at a slice without elements. -/
namespace Go.Proofs.YtelhpndlejommaaGreat
open Go.RowKit Go.Shelf

set_option maxHeartbeats 8000000 in
set_option maxRecDepth 100000 in
theorem part_emp (xa : Addr) (c0 : Nat) (r : Tr) (p : Th) (w : World) :
    Calls Tryz.prog 33 #[.slice (some xa) 0 c0, .agg #[.slice r.a1 r.n1 r.c1, .slice r.a2 r.n2 r.c2, .slice r.a3 r.n3 r.c3]] w (PartOut [] [] r p w) := by
  obtain ⟨sv0, hsv0⟩ : ∃ s : Value, s = .slice none 0 0 := ⟨_, rfl⟩
  obtain ⟨a1, n1, c1, a2, n2, c2, a3, n3, c3⟩ := r
  simp only
  have HB : Hid (w.heap.size ≤ w.heap.size) := Lib.hid (Nat.le_refl _)
  obtain ⟨W1, hW1⟩ : ∃ W1, W1 = w.alloc (.cells #[.slice a1 n1 c1, .slice a2 n2 c2, .slice a3 n3 c3] 27) := ⟨_, rfl⟩
  have hX1 : BoxL w.heap.size [.slice a1 n1 c1, .slice a2 n2 c2, .slice a3 n3 c3] W1 := by rw [hW1]; exact BoxL.made w _ _
  have hB1 : Below w.heap.size w W1 := by rw [hW1]; exact (Below.refl _ _).alloc (Nat.le_refl _) _
  have HX1 := Lib.hid hX1
  have HB1 := Lib.hid hB1
  have HE1 : Hid (REls RTh W1 (.slice (some xa) 0 c0) []) := Lib.hid (.inl ⟨.inr ⟨_, _, rfl⟩, rfl⟩)
  have HS1 := Lib.hid (Since.refl W1)
  have HP0 : Hid (partL p [] = ([] : List Th).take 0 ++ p :: ([] : List Th).drop 0) := Lib.hid rfl
  have HM : Hid (0 = ([] : List Tr).length) := Lib.hid rfl
  have HMP : Hid (0 = ([] : List Th).length) := Lib.hid rfl
  clear hX1 hB1 hsv0
  go_enter Tryz.func33, Tryz.ntmps33
  go_upto_region 1 with (fail)
  rw [← hW1]
  clear hW1
  go_wp2
  go_loopw [5] (fun x wr => x = .int .i64 0 ∧ Hid (Since W1 wr)) (fun x _ => 0 - (intOf x).toNat)
  case atStart => exact ⟨rfl, HS1⟩
  case round =>
    clear HS1
    obtain ⟨rfl, hS⟩ := hrel
    have HX := Lib.hid (HX1.out.keep hS.out)
    have HEw := Lib.hid (HE1.out.below hS.out)
    have HBw := Lib.hid (HB1.out.trans (Below.mono hS.out HB1.out.size))
    obtain ⟨x0, x1, x2, -⟩ := HX.out.open3
    rename World => wo
    by_cases hc : c0 = 0
    · subst hc
      go_wp2_with fail
      go_quiet (fail)
      go_upto_region 5 with (fail)
      have hSn : Since wo (wo.drewN nq) := below_drewN (Below.refl _ _) nq
      have HSm := Lib.hid hSn
      generalize wo.drewN nq = w2 at *
      clear x0 x1 x2 hSn
      have HX := Lib.hid (HX.out.keep HSm.out)
      have HEw := Lib.hid (HEw.out.below HSm.out)
      have HBw := Lib.hid (HBw.out.trans (Below.mono HSm.out HBw.out.size))
      obtain ⟨x0, x1, x2, -⟩ := HX.out.open3
      have HTK0 := (rfl_nil (R := RTh) (w := w2) (xs := ([] : List Tr).take 0) (.inr ⟨_, _, rfl⟩ : Emp (.slice (some xa) 0 0)) rfl)
      have HDR0 := (rfl_nil (R := RTh) (w := w2) (xs := ([] : List Tr).drop 0) (.inr ⟨_, _, rfl⟩ : Emp (.slice (some xa) 0 0)) rfl)
      have HTK : Hid (RFl RTh w2 (.slice (some xa) 0 0) (([] : List Tr).take 0)) := Lib.hid HTK0
      have HDR : Hid (RFl RTh w2 (.slice (some xa) 0 0) (([] : List Tr).drop 0)) := Lib.hid HDR0
      clear HTK0 HDR0
      have hl1 : ([] : List Tr).length + (([] : List Tr).take 0).length ≤ 1000000000 := by have := HM.out; rw [List.length_take]; simp only [List.length_nil]; omega
      have hl2 : ([] ++ ([] : List Tr).take 0).length + 1 ≤ 1000000000 := by have := HM.out; rw [List.length_append, List.length_take]; simp only [List.length_nil]; omega
      have hl3 : ([] ++ ([] : List Tr).take 0 ++ [(⟨a1, n1, c1, a2, n2, c2, a3, n3, c3⟩ : Tr)]).length + (([] : List Tr).drop 0).length ≤ 1000000000 := by have := HM.out; rw [List.length_append, List.length_append, List.length_take, List.length_drop]; simp only [List.length_nil, List.length_singleton]; omega
      go_wp2_with (at_builtin; first | (refine push_rows_f rfl _ _ 23 rfl RTh 27 72 _ Tryz.underlying23 Tryz.infoTh rfl (by decide) w2.heap.size (.slice none 0 0) [] (([] : List Tr).take 0) (.slice (some xa) 0 0) rfl rfl (ROwn.nil _ _ _ _) HTK.out (Nat.le_refl _) hl1 ?_; intro f1 l1 g1 w3 hn1 hO1 hB1 hP1; obtain ⟨y0, y1, y2, -⟩ := (HX.out.keep hB1.out).open3) | (refine push_row_f rfl _ _ 23 rfl RTh 27 72 _ Tryz.underlying23 Tryz.infoTh rfl (by decide) w2.heap.size (.slice f1 l1 g1) ([] ++ ([] : List Tr).take 0) [(⟨a1, n1, c1, a2, n2, c2, a3, n3, c3⟩ : Tr)] _ _ rfl rfl _ 1 rfl rfl rfl hO1.out hB1.out.size hl2 ?_; intro f2 l2 g2 w4 hn2 hO2 hB2 hP2; have HS4 : Hid (Since w2 w4) := Lib.hid (Below.trans hB1.out hB2.out)) | (refine push_rows_f rfl _ _ 23 rfl RTh 27 72 _ Tryz.underlying23 Tryz.infoTh rfl (by decide) w2.heap.size (.slice f2 l2 g2) ([] ++ ([] : List Tr).take 0 ++ [(⟨a1, n1, c1, a2, n2, c2, a3, n3, c3⟩ : Tr)]) (([] : List Tr).drop 0) (.slice (some xa) 0 0) rfl rfl hO2.out (HDR.out.since HS4.out) (Below.size HS4.out) hl3 ?_; intro f3 l3 g3 w5 hn3 hO3 hB3 hP3))
      have HF := Lib.hid (tail_own (l := ([] : List Tr).take 0 ++ (⟨a1, n1, c1, a2, n2, c2, a3, n3, c3⟩ : Tr) :: ([] : List Tr).drop 0) rfl HBw.out HS4.out hO3.out hB3.out HB.out (sv := sv0))
      go_ret
      exact ⟨_, _, _, 0, rfl, Lib.hid ⟨by rw [← HMP.out]; omega, HP0.out⟩, Lib.hid HF.out.1, Lib.hid HF.out.2.2⟩
    · have hc2 : ¬ c0 = 0 := hc
      have e1 : (0 : Int) ≤ (c0 : Int) := by omega
      go_wp2_with fail
      go_quiet (fail)
      go_upto_region 5 with (fail)
      have hSn : Since wo (wo.drewN nq) := below_drewN (Below.refl _ _) nq
      have HSm := Lib.hid hSn
      generalize wo.drewN nq = w2 at *
      clear x0 x1 x2 hSn
      have HX := Lib.hid (HX.out.keep HSm.out)
      have HEw := Lib.hid (HEw.out.below HSm.out)
      have HBw := Lib.hid (HBw.out.trans (Below.mono HSm.out HBw.out.size))
      obtain ⟨x0, x1, x2, -⟩ := HX.out.open3
      have HTK0 := (rfl_nil (R := RTh) (w := w2) (xs := ([] : List Tr).take 0) (.inr ⟨_, _, rfl⟩ : Emp (.slice (some xa) 0 c0)) rfl)
      have HDR0 := (rfl_nil (R := RTh) (w := w2) (xs := ([] : List Tr).drop 0) (.inr ⟨_, _, rfl⟩ : Emp (.slice (some xa) 0 c0)) rfl)
      have HTK : Hid (RFl RTh w2 (.slice (some xa) 0 c0) (([] : List Tr).take 0)) := Lib.hid HTK0
      have HDR : Hid (RFl RTh w2 (.slice (some xa) 0 c0) (([] : List Tr).drop 0)) := Lib.hid HDR0
      clear HTK0 HDR0
      have hl1 : ([] : List Tr).length + (([] : List Tr).take 0).length ≤ 1000000000 := by have := HM.out; rw [List.length_take]; simp only [List.length_nil]; omega
      have hl2 : ([] ++ ([] : List Tr).take 0).length + 1 ≤ 1000000000 := by have := HM.out; rw [List.length_append, List.length_take]; simp only [List.length_nil]; omega
      have hl3 : ([] ++ ([] : List Tr).take 0 ++ [(⟨a1, n1, c1, a2, n2, c2, a3, n3, c3⟩ : Tr)]).length + (([] : List Tr).drop 0).length ≤ 1000000000 := by have := HM.out; rw [List.length_append, List.length_append, List.length_take, List.length_drop]; simp only [List.length_nil, List.length_singleton]; omega
      go_wp2_with (at_builtin; first | (refine push_rows_f rfl _ _ 23 rfl RTh 27 72 _ Tryz.underlying23 Tryz.infoTh rfl (by decide) w2.heap.size (.slice none 0 0) [] (([] : List Tr).take 0) (.slice (some xa) 0 c0) rfl rfl (ROwn.nil _ _ _ _) HTK.out (Nat.le_refl _) hl1 ?_; intro f1 l1 g1 w3 hn1 hO1 hB1 hP1; obtain ⟨y0, y1, y2, -⟩ := (HX.out.keep hB1.out).open3) | (refine push_row_f rfl _ _ 23 rfl RTh 27 72 _ Tryz.underlying23 Tryz.infoTh rfl (by decide) w2.heap.size (.slice f1 l1 g1) ([] ++ ([] : List Tr).take 0) [(⟨a1, n1, c1, a2, n2, c2, a3, n3, c3⟩ : Tr)] _ _ rfl rfl _ 1 rfl rfl rfl hO1.out hB1.out.size hl2 ?_; intro f2 l2 g2 w4 hn2 hO2 hB2 hP2; have HS4 : Hid (Since w2 w4) := Lib.hid (Below.trans hB1.out hB2.out)) | (refine push_rows_f rfl _ _ 23 rfl RTh 27 72 _ Tryz.underlying23 Tryz.infoTh rfl (by decide) w2.heap.size (.slice f2 l2 g2) ([] ++ ([] : List Tr).take 0 ++ [(⟨a1, n1, c1, a2, n2, c2, a3, n3, c3⟩ : Tr)]) (([] : List Tr).drop 0) (.slice (some xa) 0 c0) rfl rfl hO2.out (HDR.out.since HS4.out) (Below.size HS4.out) hl3 ?_; intro f3 l3 g3 w5 hn3 hO3 hB3 hP3))
      have HF := Lib.hid (tail_own (l := ([] : List Tr).take 0 ++ (⟨a1, n1, c1, a2, n2, c2, a3, n3, c3⟩ : Tr) :: ([] : List Tr).drop 0) rfl HBw.out HS4.out hO3.out hB3.out HB.out (sv := sv0))
      go_ret
      exact ⟨_, _, _, 0, rfl, Lib.hid ⟨by rw [← HMP.out]; omega, HP0.out⟩, Lib.hid HF.out.1, Lib.hid HF.out.2.2⟩

/-- part at any slice. -/
theorem part_any2 (sv : Value) (xs : List Tr) (ps : List Th) (r : Tr) (p : Th) (w : World) (hE : REls RTh w sv xs) (hR : Rd3 w xs ps) (hp : TAt w.heap.size w p (.slice r.a1 r.n1 r.c1) (.slice r.a2 r.n2 r.c2) (.slice r.a3 r.n3 r.c3)) (hok : ∀ q ∈ ps, CmpOk q) (hpk : CmpOk p) (hl : xs.length ≤ 1000000) :
    Calls Tryz.prog 33 #[sv, .agg #[.slice r.a1 r.n1 r.c1, .slice r.a2 r.n2 r.c2, .slice r.a3 r.n3 r.c3]] w (PartOut xs ps r p w) := by
  by_cases hx : xs = []
  · subst hx
    have hps : ps = [] := List.eq_nil_of_length_eq_zero (by have := hR.1; simpa using this.symm)
    subst hps
    rcases hE with ⟨rfl | ⟨xa, c0, rfl⟩, -⟩ | ⟨b, cap, hb, rfl, hle, hc⟩
    · exact part_any _ [] [] r p w (.inl ⟨.inl rfl, rfl⟩) (fun _ => rfl) hR hp hok hpk hl
    · exact part_emp xa c0 r p w
    · exact part_emp _ cap r p w
  · exact part_any sv xs ps r p w hE (fun h => absurd h hx) hR hp hok hpk hl

end Go.Proofs.YtelhpndlejommaaGreat

/- With of the reference, and what With is. -/
namespace Go.Proofs.YtelhpndlejommaaGreat
open Go.RowKit Go.Shelf

/-- A thing with a part put into it. -/
def wth (t p : Th) : Th := .mk t.cs t.vs (partL p t.ps)
/-- What With answers: an error, and a thing. -/
noncomputable def withE (t p : Th) : Int := if validT t = 0 then (if validT p = 0 then validT (wth t p) else validT p) else validT t
open Classical in
noncomputable def withT (t p : Th) : Th := if validT t = 0 ∧ validT p = 0 ∧ validT (wth t p) = 0 then wth t p else .mk [] [] []

theorem withE_1 {t p : Th} (h : validT t ≠ 0) : withE t p = validT t := by unfold withE; rw [if_neg h]
theorem withE_2 {t p : Th} (h : validT t = 0) (h2 : validT p ≠ 0) : withE t p = validT p := by unfold withE; rw [if_pos h, if_neg h2]
theorem withE_3 {t p : Th} (h : validT t = 0) (h2 : validT p = 0) : withE t p = validT (wth t p) := by unfold withE; rw [if_pos h, if_pos h2]
theorem withT_no {t p : Th} (h : withE t p ≠ 0) : withT t p = .mk [] [] [] := by
  unfold withT
  refine if_neg fun h3 => h ?_
  rw [withE_3 h3.1 h3.2.1]
  exact h3.2.2
theorem withT_yes {t p : Th} (h : validT t = 0) (h2 : validT p = 0) (h3 : validT (wth t p) = 0) : withT t p = wth t p := by unfold withT; exact if_pos ⟨h, h2, h3⟩

theorem wth_perm (t p : Th) : (wth t p).ps.Perm (p :: t.ps) := partL_perm p t.ps
theorem wth_size (t p : Th) : (wth t p).size = t.size + p.size := by
  rw [Th.size_eq, Th.sizes_perm (wth_perm t p), Th.size_eq t, Th.sizes]
  omega
theorem wth_wt (t p : Th) : (wth t p).wt = t.wt + p.wt := by
  rw [Th.wt_eq, Th.wts_perm (wth_perm t p), Th.wt_eq t, Th.wts]
  show 3 + t.cs.length + 3 * t.vs.length + _ = _
  omega
theorem wth_wf {t p : Th} (ht : t.wf) (hp : p.wf) : (wth t p).wf := by
  have h := (Th.wf_eq t).1 ht
  refine (Th.wf_eq _).2 ⟨h.1, fun u hu => ?_⟩
  rcases List.mem_cons.1 ((wth_perm t p).mem_iff.1 hu) with e | e
  · rw [e]; exact hp
  · exact h.2 u e

/-- What With leaves. -/
def WithOut (S0 : Nat → Prop) (t p : Th) (W : World) (e : Ending) (w' : World) : Prop :=
  ∃ r : Tr, e = .returned (.tuple #[.agg #[.slice r.a1 r.n1 r.c1, .slice r.a2 r.n2 r.c2, .slice r.a3 r.n3 r.c3], .int .i64 (withE t p)]) ∧ Hid (TSr (fun k => (S0 k ∨ W.heap.size ≤ k) ∧ k < w'.heap.size) w' (withT t p) r) ∧ Hid (Below W.heap.size W w')

theorem with_no {S0 : Nat → Prop} {t p : Th} {W w : World} {N1 : Nat} {E : Int} (h1 : W.heap.size ≤ N1) (hB : Below W.heap.size W w) (hE : withE t p = E) (h0 : E ≠ 0) :
    WithOut S0 t p W (.returned (.tuple #[.agg #[.slice none 0 0, .slice none 0 0, .slice none 0 0], .int .i64 E])) (put3 w N1 (.slice none 0 0) (.slice none 0 0) (.slice none 0 0)) :=
  ⟨⟨none, 0, 0, none, 0, 0, none, 0, 0⟩, by rw [hE], Lib.hid (by rw [withT_no (by rw [hE]; exact h0)]; exact ts_nil _ _), Lib.hid (put3_below hB h1 _ _ _)⟩

theorem with_yes {S0 : Nat → Prop} {t p : Th} {W w : World} {N1 N8 : Nat} {r : Tr} (h1 : W.heap.size ≤ N1) (hB : Below W.heap.size W w) (hE : withE t p = 0) (hn : withT t p = wth t p) (hT : TS (fun k => ((S0 k ∨ W.heap.size ≤ k) ∧ k ≠ N1 ∧ k ≠ N8) ∧ k < w.heap.size) w (wth t p) (.slice r.a1 r.n1 r.c1) (.slice r.a2 r.n2 r.c2) (.slice r.a3 r.n3 r.c3)) :
    WithOut S0 t p W (.returned (.tuple #[.agg #[.slice r.a1 r.n1 r.c1, .slice r.a2 r.n2 r.c2, .slice r.a3 r.n3 r.c3], .int .i64 0])) (put3 w N1 (.slice r.a1 r.n1 r.c1) (.slice r.a2 r.n2 r.c2) (.slice r.a3 r.n3 r.c3)) := by
  refine ⟨r, by rw [hE], Lib.hid ?_, Lib.hid (put3_below hB h1 _ _ _)⟩
  rw [hn]
  exact TS.keep (put3_keep _ _ _ _ _ fun k hk => hk.1.2.1) (S' := fun k => S0 k ∨ W.heap.size ≤ k) (fun _ _ hk => hk.1.1) _ hT

/-- The thing with the part, in a row of the reference's. -/
theorem rwith_ts {S0 : Nat → Prop} {t p : Th} {W w1 w2 : World} {N1 N8 k : Nat} {rs : List Tr} {r : Tr} {x : Option Addr} {n cc : Nat} {a b c : Value} (hT : TS S0 W t a b c) (hp : TS S0 W p (.slice r.a1 r.n1 r.c1) (.slice r.a2 r.n2 r.c2) (.slice r.a3 r.n3 r.c3)) (h1 : W.heap.size ≤ N1) (h1' : N1 < w1.heap.size) (h8 : W.heap.size ≤ N8) (h8' : N8 < w1.heap.size)
    (hl : rs.length = t.ps.length) (hR : ∀ (j : Nat) (q : Th), t.ps[j]? = some q → ∃ r, rs[j]? = some r ∧ TS S0 W q (.slice r.a1 r.n1 r.c1) (.slice r.a2 r.n2 r.c2) (.slice r.a3 r.n3 r.c3)) (hB : Below W.heap.size W w2) (hO : ROwn RTh 27 w1.heap.size w2 (.slice x n cc) (rs.take k ++ r :: rs.drop k)) (hk : partL p t.ps = t.ps.take k ++ p :: t.ps.drop k) :
    TS (fun k => ((S0 k ∨ W.heap.size ≤ k) ∧ k ≠ N1 ∧ k ≠ N8) ∧ k < w2.heap.size) w2 (wth t p) a b (.slice x n cc) := by
  have hkp : ∀ (u : Th) (a b c : Value), TS S0 W u a b c → TS (fun k => ((S0 k ∨ W.heap.size ≤ k) ∧ k ≠ N1 ∧ k ≠ N8) ∧ k < w2.heap.size) w2 u a b c := fun u a b c h => TS.keep (S := S0) (S' := fun k => (S0 k ∨ W.heap.size ≤ k) ∧ k ≠ N1 ∧ k ≠ N8) ⟨hB.size, fun b _ hl => hB.block b hl⟩ (fun b hb hs => ⟨.inl hs, by omega, by omega⟩) u h
  have hL : Lie (fun k => (S0 k ∨ W.heap.size ≤ k) ∧ k ≠ N1 ∧ k ≠ N8) w2 rs t.ps := ⟨hl, fun j r' t' hr ht => by
    obtain ⟨r2, e1, e2⟩ := hR j t' ht
    rw [e1] at hr
    injection hr with hr
    subst hr
    exact hkp _ _ _ _ e2⟩
  have hI := hL.ins k (r := r) (t := p) (hkp _ _ _ _ hp)
  have hT2 := hkp t _ _ _ hT
  unfold wth
  rw [hk]
  cases t with
  | mk cs vs ps =>
    obtain ⟨⟨e1, l1⟩, ⟨e2, l2⟩, -⟩ := hT2.parts
    exact TS.of e1 l1 e2 l2 (PSl.of hO.els (hO.ins.mono fun k hk => ⟨⟨.inr (by omega), by omega, by omega⟩, hk.2⟩) hI.1 hI.2)

set_option maxHeartbeats 8000000 in
set_option maxRecDepth 100000 in
theorem rwith_any (S0 : Nat → Prop) (t p : Th) (hwf : t.wf) (hwt : t.wt ≤ 50000) (pwf : p.wf) (pwt : p.wt ≤ 50000) (a b c a' b' c' : Value) (W : World) (hS0 : ∀ k, S0 k → k < W.heap.size) (hTS : TS S0 W t a b c) (hPS : TS S0 W p a' b' c') :
    Calls Tryz.prog 15 #[.agg #[a, b, c], .agg #[a', b', c']] W (WithOut S0 t p W) := by
  have hT := TS.tat hS0 t hTS
  have hP := TS.tat hS0 p hPS
  have hsz : t.size ≤ 100000 := by have := Th.size_wt t; omega
  have hpz : p.size ≤ 100000 := by have := Th.size_wt p; omega
  obtain ⟨rs, hE, -, hrl, hR⟩ := (show PSl S0 W c t.ps by have := hTS; cases t; exact this.parts.2.2).rows
  have hps : ∀ q ∈ t.ps, CmpOk q := fun q hq => ⟨((Th.wf_eq t).1 hwf).2 q hq, by have := Th.sizes_mem hq; have := t.size_eq; omega⟩
  have hlen : rs.length ≤ 1000000 := by have := Th.sizes_len t.ps; have := t.size_eq; omega
  have KVA := Lib.hid fun W (h : TAt W.heap.size W t a b c) => rvalidt_any t (by omega) hwf a b c W h
  have KPA := Lib.hid fun W (h : TAt W.heap.size W p a' b' c') => rvalidt_any p (by omega) pwf a' b' c' W h
  have KWA := Lib.hid fun (a b c : Value) W h => rvalidt_any (wth t p) (by rw [wth_size]; omega) (wth_wf hwf pwf) a b c W h
  obtain ⟨⟨b1, m1, d1, b2, m2, d2, b3, m3, d3⟩, rfl, rfl, rfl, -⟩ := (TAt.ts p hP).shape
  obtain ⟨⟨a1, n1, c1, a2, n2, c2, a3, n3, c3⟩, rfl, rfl, rfl, -⟩ := (TAt.ts t hT).shape
  simp only at hE hT hP hTS hPS KVA KPA ⊢
  have hRd : Rd3 W rs t.ps := ⟨hrl, fun j r q hr hq => by
    obtain ⟨r2, e1, e2⟩ := hR j q hq
    rw [e1] at hr
    injection hr with hr
    subst hr
    exact TS.tat hS0 q e2⟩
  have KQ := Lib.hid fun w (h : Below W.heap.size W w) => part_any2 (.slice a3 n3 c3) rs t.ps ⟨b1, m1, d1, b2, m2, d2, b3, m3, d3⟩ p w (hE.below h) ⟨hRd.1, fun j r q hr hq => TAt.below h (hRd.2 j r q hr hq)⟩ (TAt.below h hP) hps ⟨pwf, by omega⟩ hlen
  have HTS := Lib.hid fun (w1 w2 : World) (N1 N8 k : Nat) (x : Option Addr) (n cc : Nat) h1 h1' h8 h8' hB hO hk => rwith_ts (S0 := S0) (t := t) (p := p) (W := W) (w1 := w1) (w2 := w2) (N1 := N1) (N8 := N8) (k := k) (rs := rs) (r := ⟨b1, m1, d1, b2, m2, d2, b3, m3, d3⟩) (x := x) (n := n) (cc := cc) hTS hPS h1 h1' h8 h8' hrl hR hB hO hk
  have HE1 := Lib.hid fun h => withE_1 (t := t) (p := p) h
  have HE2 := Lib.hid fun h h2 => withE_2 (t := t) (p := p) h h2
  have HE3 := Lib.hid fun h h2 => withE_3 (t := t) (p := p) h h2
  have HTY := Lib.hid fun h h2 h3 => withT_yes (t := t) (p := p) h h2 h3
  have HNO := Lib.hid fun (w : World) (N1 : Nat) (E : Int) h1 hB hE h0 => with_no (S0 := S0) (t := t) (p := p) (W := W) (w := w) (N1 := N1) (E := E) h1 hB hE h0
  have HYS := Lib.hid fun (w : World) (N1 N8 : Nat) (r : Tr) h1 hB hE hn hT => with_yes (S0 := S0) (t := t) (p := p) (W := W) (w := w) (N1 := N1) (N8 := N8) (r := r) h1 hB hE hn hT
  obtain ⟨W2, hW2⟩ : ∃ W2, W2 = ((W.alloc (.cells #[.slice a1 n1 c1, .slice a2 n2 c2, .slice a3 n3 c3] 27)).alloc (.cells #[.slice b1 m1 d1, .slice b2 m2 d2, .slice b3 m3 d3] 27)).alloc (.cells #[.slice none 0 0, .slice none 0 0, .slice none 0 0] 27) := ⟨_, rfl⟩
  have hB2 : Below W.heap.size W W2 := by rw [hW2]; exact (((Below.refl _ _).alloc (Nat.le_refl _) _).alloc (by simp) _).alloc (by simp only [World.size_alloc]; omega) _
  have hX : BoxL W.heap.size [.slice a1 n1 c1, .slice a2 n2 c2, .slice a3 n3 c3] W2 := by rw [hW2]; exact ((BoxL.made W _ _).under _).under _
  have hY : BoxL (W.heap.size + 1) [.slice b1 m1 d1, .slice b2 m2 d2, .slice b3 m3 d3] W2 := by
    rw [hW2]
    have := (BoxL.made (W.alloc (.cells #[.slice a1 n1 c1, .slice a2 n2 c2, .slice a3 n3 c3] 27)) #[.slice b1 m1 d1, .slice b2 m2 d2, .slice b3 m3 d3] 27).under (.cells #[.slice none 0 0, .slice none 0 0, .slice none 0 0] 27)
    rwa [World.size_alloc] at this
  have hR2 : BoxL (W.heap.size + 1 + 1) [.slice none 0 0, .slice none 0 0, .slice none 0 0] W2 := by
    rw [hW2]
    have := BoxL.made ((W.alloc (.cells #[.slice a1 n1 c1, .slice a2 n2 c2, .slice a3 n3 c3] 27)).alloc (.cells #[.slice b1 m1 d1, .slice b2 m2 d2, .slice b3 m3 d3] 27)) #[.slice none 0 0, .slice none 0 0, .slice none 0 0] 27
    rwa [World.size_alloc, World.size_alloc] at this
  have KV := Lib.hid (KVA.out W2 (TAt.below hB2 hT))
  have HBS := Lib.hid fun w (h : Since W2 w) => hB2.trans (Below.mono h hB2.size)
  have KP := Lib.hid fun w (h : Since W2 w) => KPA.out w (TAt.below (HBS.out w h) hP)
  have hsz2 : W2.heap.size = W.heap.size + 1 + 1 + 1 := by rw [hW2, World.size_alloc, World.size_alloc, World.size_alloc]
  have HSZ : Hid (W.heap.size ≤ W.heap.size + 1 + 1 ∧ W.heap.size + 1 + 1 < W2.heap.size) := Lib.hid (by omega)
  have HX := Lib.hid hX
  have HY := Lib.hid hY
  have HR := Lib.hid hR2
  obtain ⟨p0, p1, p2, -⟩ := hX.open3
  clear hX hY hR2 hsz2 hT hP hTS hPS hS0 hB2 KVA KPA hRd hps hlen hE hrl hR hsz hpz hwf hwt pwf pwt
  generalize hVt : validT t = Vt at *
  generalize hVp : validT p = Vp at *
  generalize hVw : validT (wth t p) = Vw at *
  clear hVt hVp hVw
  go_enter Tryz.func15, Tryz.ntmps15
  go_upto_region 1 with (fail)
  rw [← hW2]
  clear hW2
  generalize hN2 : W.heap.size + 1 + 1 = N1 at *
  generalize hNp : W.heap.size + 1 = Np at *
  clear hN2 hNp
  go_wp2_with fail
  refine KV.out.mono ?_
  rintro e w3 ⟨rfl, hB3⟩
  have hS3 : Since W2 w3 := hB3
  clear KV p0 p1 p2 hB3
  by_cases hv : Vt = 0
  · subst hv
    have HS3 := Lib.hid hS3
    obtain ⟨q0, q1, q2, -⟩ := (HY.out.keep hS3).open3
    clear hS3 HE1
    go_wp2_with fail
    refine (KP.out w3 HS3.out).mono ?_
    rintro e w4 ⟨rfl, hB4⟩
    have hS4 : Since W2 w4 := Since.step HS3.out hB4
    clear q0 q1 q2 hB4 KP HS3
    by_cases hv2 : Vp = 0
    · subst hv2
      obtain ⟨x0, x1, x2, -⟩ := (HX.out.keep hS4).open3
      obtain ⟨w5, hw5⟩ : ∃ w5, w5 = w4.alloc (.cells #[.slice a1 n1 c1, .slice a2 n2 c2, .slice a3 n3 c3] 27) := ⟨_, rfl⟩
      have hSa : Since w4 w5 := by rw [hw5]; exact Since.alloc (Since.refl _) _
      have hX5 : BoxL w4.heap.size [.slice a1 n1 c1, .slice a2 n2 c2, .slice a3 n3 c3] w5 := by rw [hw5]; exact BoxL.made _ _ _
      have HN5 : Hid (W2.heap.size ≤ w4.heap.size ∧ w4.heap.size < w5.heap.size) := Lib.hid ⟨since_size hS4, hX5.1⟩
      have HS5 := Lib.hid (Since.step hS4 hSa)
      have HX5 := Lib.hid hX5
      clear hS4 HE2
      go_upto_region 8 with (fail)
      rw [← hw5]
      generalize w4.heap.size = N8 at *
      clear hw5 x0 x1 x2 hSa hX5
      obtain ⟨x0, x1, x2, -⟩ := (HX.out.keep HS5.out).open3
      obtain ⟨q0, q1, q2, -⟩ := (HY.out.keep HS5.out).open3
      go_wp2_with fail
      refine (KQ.out w5 (HBS.out w5 HS5.out)).mono ?_
      rintro e w6 ⟨x, n, cc, k, rfl, hk, hO, hB6⟩
      have hS6 : Since w5 w6 := hB6.out
      have hS26 : Since W2 w6 := Since.step HS5.out hS6
      have hX6 := HX5.out.keep hS6
      have hT6 := HTS.out w5 w6 N1 N8 k x n cc HSZ.out.1 (by have := HSZ.out; have := HN5.out; omega) (by have := HSZ.out; have := HN5.out; omega) HN5.out.2 (HBS.out w6 hS26) hO.out hk.out.2
      obtain ⟨w7, hw7⟩ : ∃ w7, w7 = w6.setCell ⟨N8, 2, none⟩ (.slice x n cc) := ⟨_, rfl⟩
      have hX7 : BoxL N8 [.slice a1 n1 c1, .slice a2 n2 c2, .slice x n cc] w7 := by rw [hw7]; exact hX6.set1 2 _ (by simp)
      have hS27 : Since W2 w7 := by rw [hw7]; exact since_set hS26 HN5.out.1 _ _
      have hT7 : TS (fun k => ((S0 k ∨ W.heap.size ≤ k) ∧ k ≠ N1 ∧ k ≠ N8) ∧ k < w7.heap.size) w7 (wth t p) (.slice a1 n1 c1) (.slice a2 n2 c2) (.slice x n cc) := TS.keep (S' := fun k => (S0 k ∨ W.heap.size ≤ k) ∧ k ≠ N1 ∧ k ≠ N8) ⟨by rw [hw7, World.size_setCell]; exact Nat.le_refl _, fun b hb hl => by rw [hw7]; exact Below.heap_setCell _ _ _ _ hb.1.2.2⟩ (fun b _ hb => hb.1) _ hT6
      have KW := Lib.hid (KWA.out _ _ _ w7 (TS.tat (fun _ h => h.2) _ hT7))
      obtain ⟨y0, y1, y2, f0, f1, f2, -⟩ := hX6.open3
      have HS7 := Lib.hid hS27
      have HT7 := Lib.hid hT7
      have HX7 := Lib.hid hX7
      clear x0 x1 x2 q0 q1 q2 hk hO hB6 hS6 hS26 hX6 hT6 hX7 hS27 hT7 KQ KWA HX5
      go_upto_region 9 with (fail)
      rw [← hw7]
      clear hw7 y0 y1 y2 f0 f1 f2
      obtain ⟨y0, y1, y2, -⟩ := HX7.out.open3
      go_wp2_with fail
      refine KW.out.mono ?_
      rintro e w8 ⟨rfl, hB8⟩
      have hS8 : Since W2 w8 := Since.step HS7.out hB8
      have hX8 := HX7.out.keep hB8
      have hT8 : TS (fun k => ((S0 k ∨ W.heap.size ≤ k) ∧ k ≠ N1 ∧ k ≠ N8) ∧ k < w8.heap.size) w8 (wth t p) (.slice a1 n1 c1) (.slice a2 n2 c2) (.slice x n cc) := TS.keep (S' := fun k => (S0 k ∨ W.heap.size ≤ k) ∧ k ≠ N1 ∧ k ≠ N8) ⟨since_size hB8, fun b _ hl => Below.block hB8 b hl⟩ (fun b _ hb => hb.1) _ HT7.out
      clear y0 y1 y2 HT7 HX7
      obtain ⟨y0, y1, y2, -⟩ := hX8.open3
      obtain ⟨z0, z1, z2, zf0, zf1, zf2, -⟩ := (HR.out.keep hS8).open3
      by_cases hv3 : Vw = 0
      · subst hv3
        have HFI := Lib.hid (HYS.out w8 N1 N8 ⟨a1, n1, c1, a2, n2, c2, x, n, cc⟩ HSZ.out.1 (HBS.out _ hS8) (HE3.out (by trivial) (by trivial)) (HTY.out (by trivial) (by trivial) (by trivial)) hT8)
        unfold put3 at HFI
        clear hS8 hX8 hT8 hB8
        go_wp2
        exact bodyPost_ret (v := .tuple #[.agg #[.slice a1 n1 c1, .slice a2 n2 c2, .slice x n cc], .int .i64 0]) (by simp [results, Tryz.results15, go_sem, z0, z1, z2]) rfl HFI.out
      · have HFI := Lib.hid (HNO.out w8 N1 _ HSZ.out.1 (HBS.out _ hS8) (HE3.out (by trivial) (by trivial)) hv3)
        have hv4 : (Vw != 0) = true := bne_iff_ne.2 hv3
        unfold put3 at HFI
        clear hS8 hX8 hT8 hB8 hv3
        go_wp2
        exact bodyPost_ret (v := .tuple #[.agg #[.slice none 0 0, .slice none 0 0, .slice none 0 0], .int .i64 Vw]) (by simp [results, Tryz.results15, go_sem, z0, z1, z2]) rfl HFI.out
    · have HFI := Lib.hid (HNO.out w4 N1 _ HSZ.out.1 (HBS.out _ hS4) (HE2.out (by trivial) hv2) hv2)
      have hv4 : (Vp != 0) = true := bne_iff_ne.2 hv2
      obtain ⟨z0, z1, z2, zf0, zf1, zf2, -⟩ := (HR.out.keep hS4).open3
      unfold put3 at HFI
      clear hS4 hv2
      go_wp2
      exact bodyPost_ret (v := .tuple #[.agg #[.slice none 0 0, .slice none 0 0, .slice none 0 0], .int .i64 Vp]) (by simp [results, Tryz.results15, go_sem, z0, z1, z2]) rfl HFI.out
  · have HFI := Lib.hid (HNO.out w3 N1 _ HSZ.out.1 (HBS.out _ hS3) (HE1.out hv) hv)
    have hv4 : (Vt != 0) = true := bne_iff_ne.2 hv
    obtain ⟨z0, z1, z2, zf0, zf1, zf2, -⟩ := (HR.out.keep hS3).open3
    unfold put3 at HFI
    clear hS3 hv
    go_wp2
    exact bodyPost_ret (v := .tuple #[.agg #[.slice none 0 0, .slice none 0 0, .slice none 0 0], .int .i64 Vt]) (by simp [results, Tryz.results15, go_sem, z0, z1, z2]) rfl HFI.out

end Go.Proofs.YtelhpndlejommaaGreat

/- slices.Insert of one thing into a row of the call's own. -/
namespace Go.Proofs.YtelhpndlejommaaGreat
open Go.RowKit Go.Shelf Go.Lib

/-- copy, of elements of k cells. -/
theorem run_copy_k {P : Program} (w : World) (dT sT ty elem : TypeId) (b o dLen dCap : Nat) (a : Addr) (sLen sCap k : Nat) (cs : List Value)
    (hu : P.underlying dT = some (.slice elem)) (hs : (P.info? elem).map (·.size) = some k) (hn : cs.length = Nat.min sLen dLen * k)
    (hsrc : ∀ j v, cs[j]? = some v → w.cell? (a.add j) = some v) (hc : ∀ j, j < cs.length → (w.cell? ⟨b, o + j, none⟩).isSome = true) (hf : ∀ j, j < cs.length → w.frozen? ⟨b, o + j, none⟩ = false) (h1 : ∀ v ∈ cs, v.oneCell' = true) :
    (Builtin.copy_ #[dT, sT] ty #[.slice (some ⟨b, o, none⟩) dLen dCap, .slice (some a) sLen sCap]).run P w = .ok (goInt (Nat.min sLen dLen)) (w.setCells b o cs) := by
  have hl := run_loadCells_list (P := P) w a cs hsrc
  have hst := run_storeCells_cells (P := P) b o cs 0 w (by simpa using hc) (by simpa using hf) h1
  cases hq : P.info? elem with
  | none => simp [hq] at hs
  | some i =>
    have hi : i.size = k := by simpa [hq] using hs
    simp [Builtin.copy_, run_underlying hu, Builtin.lenOf, Builtin.firstCells, sizeOf, typeInfo, hq, hi, ← hn, hl, hst]

theorem set_split {α : Type} (xs : List α) (o : Nat) (v : α) (h : o < xs.length) : xs.set o v = xs.take o ++ v :: xs.drop (o + 1) := by
  rw [List.set_eq_take_append_cons_drop, if_pos h]

/-- Stores into a row, one behind the other. -/
theorem owns_cells {E : TypeId} {B g n c k : Nat} : ∀ (vs : List Value) (o : Nat) (w : World) (xs : List Value), w.ownsRow B E k (.slice (some ⟨g, 0, none⟩) n c) n xs → o + vs.length ≤ xs.length → (w.setCells g o vs).ownsRow B E k (.slice (some ⟨g, 0, none⟩) n c) n (xs.take o ++ vs ++ xs.drop (o + vs.length))
  | [], o, w, xs, h, _ => by
    rw [List.append_nil, List.length_nil, Nat.add_zero, List.take_append_drop]
    exact h
  | v :: vs, o, w, xs, h, hl => by
    rw [List.length_cons] at hl
    have h1 := owns_cells vs (o + 1) (w.setCell ⟨g, o, none⟩ v) (xs.set o v) (h.stored o v).1 (by rw [List.length_set]; omega)
    have e : (xs.set o v).take (o + 1) ++ vs ++ (xs.set o v).drop (o + 1 + vs.length) = xs.take o ++ v :: vs ++ xs.drop (o + (vs.length + 1)) := by
      have e1 : (xs.take o).length = o := by rw [List.length_take]; omega
      rw [set_split xs o v (by omega)]
      have e2 : (xs.take o ++ v :: xs.drop (o + 1)).take (o + 1) = xs.take o ++ [v] := by
        rw [List.take_append, e1, List.take_of_length_le (by omega), Nat.add_sub_cancel_left]; rfl
      have e3 : (xs.take o ++ v :: xs.drop (o + 1)).drop (o + 1 + vs.length) = xs.drop (o + (vs.length + 1)) := by
        rw [List.drop_append, e1, List.drop_of_length_le (by omega), List.nil_append, show o + 1 + vs.length - o = vs.length + 1 by omega, List.drop_succ_cons, List.drop_drop]
        congr 1
        omega
      rw [e2, e3]
      simp
    rw [e] at h1
    rw [List.length_cons]
    exact h1

theorem flat_ins {α : Type} (R : RowOf α) (rs : List α) (i : Nat) (x : α) : (rs.take i ++ x :: rs.drop i).flatMap R.cells = (rs.take i).flatMap R.cells ++ R.cells x ++ (rs.drop i).flatMap R.cells := by
  rw [List.flatMap_append, List.flatMap_cons, List.append_assoc]

theorem flat_split {α : Type} (R : RowOf α) (rs : List α) (i : Nat) (hi : i ≤ rs.length) : (rs.flatMap R.cells).take (i * R.k) = (rs.take i).flatMap R.cells ∧ (rs.flatMap R.cells).drop (i * R.k) = (rs.drop i).flatMap R.cells := by
  have e : rs.flatMap R.cells = (rs.take i).flatMap R.cells ++ (rs.drop i).flatMap R.cells := by rw [← List.flatMap_append, List.take_append_drop]
  have hl : ((rs.take i).flatMap R.cells).length = i * R.k := by rw [R.flat, List.length_take, Nat.min_eq_left hi]
  constructor
  · rw [e, List.take_left' hl]
  · rw [e, List.drop_left' hl]

/-- The cells of a row: a list of rows' cells as the stores of Insert leave it. -/
theorem ins_list {α : Type} (R : RowOf α) (rs : List α) (i : Nat) (hi : i ≤ rs.length) (x : α) (X : List Value) (hX : X.length = (rs.length + 1) * R.k) (h0 : X.take (i * R.k) = (rs.take i).flatMap R.cells) :
    let Y := X.take ((i + 1) * R.k) ++ (rs.drop i).flatMap R.cells ++ X.drop ((i + 1) * R.k + ((rs.drop i).flatMap R.cells).length)
    Y.length = (rs.length + 1) * R.k ∧ Y.take (i * R.k) ++ R.cells x ++ Y.drop (i * R.k + (R.cells x).length) = (rs.take i ++ x :: rs.drop i).flatMap R.cells := by
  intro Y
  have h1 : ((rs.drop i).flatMap R.cells).length = (rs.length - i) * R.k := by rw [R.flat, List.length_drop]
  have h2 : (i + 1) * R.k + (rs.length - i) * R.k = (rs.length + 1) * R.k := by rw [← Nat.add_mul]; congr 1; omega
  have h3 : (i + 1) * R.k = i * R.k + R.k := by rw [Nat.add_mul, Nat.one_mul]
  have hY : Y = X.take ((i + 1) * R.k) ++ (rs.drop i).flatMap R.cells := by
    show X.take ((i + 1) * R.k) ++ (rs.drop i).flatMap R.cells ++ X.drop ((i + 1) * R.k + ((rs.drop i).flatMap R.cells).length) = _
    rw [h1, h2, ← hX, List.drop_length, List.append_nil]
  have hl : (X.take ((i + 1) * R.k)).length = (i + 1) * R.k := by rw [List.length_take]; omega
  refine ⟨by rw [hY, List.length_append, hl, h1]; exact h2, ?_⟩
  rw [hY, R.len, flat_ins, ← h3, List.drop_left' hl, List.take_append_of_le_length (by rw [hl]; omega), List.take_take, Nat.min_eq_left (by omega), h0]

theorem tr_one (x : Tr) : ∀ v ∈ RTh.cells x, v.oneCell' = true := fun v hv => RTh.one x v hv
theorem trs_one (rs : List Tr) : ∀ v ∈ rs.flatMap RTh.cells, v.oneCell' = true := fun v hv => by
  obtain ⟨t, _, hv⟩ := List.mem_flatMap.1 hv
  exact RTh.one t v hv

theorem th_size : (Tryz.prog.info? 27).map (·.size) = some 3 := by
  obtain ⟨i0, hi, hz0, hz1, hz2⟩ := info_parts Tryz.infoTh
  rw [hi]
  simp [hz1]

/-- The arguments of Insert: a row and a block of one thing. -/
structure InsIn (B g n c vb : Nat) (rs : List Tr) (x : Tr) (w : World) : Prop where
  own : ROwn RTh 27 B w (.slice (some ⟨g, 0, none⟩) n c) rs
  hv : w.heap[vb]? = some (.cells (RTh.cells x).toArray 27)
  ne : vb ≠ g

theorem InsIn.cur {B g n c vb : Nat} {rs : List Tr} {x : Tr} {w : World} (h : InsIn B g n c vb rs x w) : n = rs.length ∧ B ≤ g ∧ n ≤ c ∧ c ≤ maxLen ∧ ∃ cur : Array Value, w.heap[g]? = some (.cells cur 27 (0, 0)) ∧ cur.size = c * 3 ∧ cur.toList.take (n * 3) = rs.flatMap RTh.cells := by
  have hn := h.own.els.len
  obtain ⟨hf, ⟨hv, _⟩ | ⟨g', cap', cur, hv, hg, hh, hcap, hmax, hsz, htk⟩⟩ := h.own
  · cases hv
  · cases hv
    exact ⟨hn, hg, hn ▸ hcap, hmax, cur, hh, hsz, hn ▸ htk⟩

theorem copy_frame {w W : World} (h : w.heap = W.heap) : (∀ x, w.cell? x = W.cell? x) ∧ ∀ x, w.frozen? x = W.frozen? x := by
  constructor <;> intro x <;> simp only [World.cell?, World.frozen?, h]

set_option maxHeartbeats 4000000 in
set_option maxRecDepth 100000 in
/-- There is room: in place. -/
theorem insert_shift (B g n c vb i : Nat) (rs : List Tr) (x : Tr) (w : World) (h : InsIn B g n c vb rs x w) (hi : i < n) (hroom : n + 1 ≤ c) (hl : n ≤ 1000000) :
    Calls Tryz.prog 32 #[.slice (some ⟨g, 0, none⟩) n c, .int .i64 i, .slice (some ⟨vb, 0, none⟩) 1 1] w (CutOut RTh 27 B (.slice (some ⟨g, 0, none⟩) n c) (rs.take i ++ x :: rs.drop i) w) := by
  obtain ⟨hn, hg, hnc, hcm, cur, hh, hsz, htk⟩ := h.cur
  have hc63 : c ≤ 9223372036854775807 := by unfold maxLen at hcm; omega
  have hcs : ∀ j v, (rs.flatMap RTh.cells)[j]? = some v → w.cell? ⟨g, j, none⟩ = some v := fun j v hj => by
    have := h.own.els.flat j v hj
    rwa [Nat.zero_add] at this
  have hsp : ∀ j, j < (n + 1) * 3 → (w.cell? ⟨g, j, none⟩).isSome = true := fun j hj => by
    simp only [World.cell?, hh, Option.isSome_none, Bool.false_eq_true, if_false]
    rw [Array.getElem?_eq_getElem (by omega)]
    rfl
  have hfz : ∀ j, w.frozen? ⟨g, j, none⟩ = false := fun j => by simp [World.frozen?, hh]
  have hvs : ∀ j v, (RTh.cells x)[j]? = some v → w.cell? ⟨vb, j, none⟩ = some v := fun j v hj => by
    simp only [World.cell?, h.hv, Option.isSome_none, Bool.false_eq_true, if_false]
    rw [← Array.getElem?_toList]
    exact hj
  have hfl := flat_split RTh rs i (by omega)
  have hdl : ((rs.drop i).flatMap RTh.cells).length = (n - i) * 3 := by rw [RTh.flat, List.length_drop, hn]; rfl
  have hcd : ∀ j v, ((rs.drop i).flatMap RTh.cells)[j]? = some v → w.cell? ⟨g, i * 3 + j, none⟩ = some v := fun j v hj => by
    rw [← hfl.2, List.getElem?_drop] at hj
    exact hcs _ v hj
  have hov : ∀ lb cb, (callFunc 62 #[.slice (some ⟨vb, 0, none⟩) 1 1, .slice (some ⟨g, (i + 1) * 3, none⟩) lb cb]).run Tryz.prog w = .ok (.value (.bool false)) w := fun lb cb => by
    rw [run_callFunc_extern Tryz.func62 (by kernel_rfl) (by kernel_rfl) (by kernel_rfl) (e := Extern.SlicesOverlaps.overlaps #[23, 23] #[4]) (by kernel_rfl),
      Lib.run_overlaps_apart w 23 4 27 Tryz.underlying23 3 Tryz.sizeOf27 ⟨vb, 0, none⟩ ⟨g, (i + 1) * 3, none⟩ 1 1 lb cb h.ne 27 27 3 (c * 3) (by simp [World.shape?, h.hv]; rfl) (by simp [World.shape?, hh, hsz]) (by omega) (by simp [World.frozen?, h.hv]) (by simp [World.frozen?, h.hv])]
    rfl
  have hcp1 : ∀ ty dc sc, (Builtin.copy_ #[23, 23] ty #[.slice (some ⟨g, (i + 1) * 3, none⟩) (n - i) dc, .slice (some ⟨g, i * 3, none⟩) (n + 1 - i) sc]).run Tryz.prog w.drew = .ok (goInt (Nat.min (n + 1 - i) (n - i))) (w.drew.setCells g ((i + 1) * 3) ((rs.drop i).flatMap RTh.cells)) := fun ty dc sc =>
    run_copy_k w.drew _ _ ty 27 g ((i + 1) * 3) (n - i) dc ⟨g, i * 3, none⟩ (n + 1 - i) sc 3 ((rs.drop i).flatMap RTh.cells) Tryz.underlying23 th_size (by rw [hdl]; simp only [Nat.min_def]; split <;> omega)
      (fun j v hj => by rw [Addr.add_lit]; exact hcd j v hj)
      (fun j hj => hsp _ (by rw [hdl] at hj; omega)) (fun j hj => hfz _) (trs_one _)
  obtain ⟨W1, hW1⟩ : ∃ W1, W1 = w.drew.setCells g ((i + 1) * 3) ((rs.drop i).flatMap RTh.cells) := ⟨_, rfl⟩
  have hsp1 : ∀ k, k < (n + 1) * 3 → (W1.cell? ⟨g, k, none⟩).isSome = true := fun k hk => by
    rw [hW1]
    exact isSome_setCells g _ _ w.drew (fun j hj => hsp ((i + 1) * 3 + j) (by rw [hdl] at hj; omega)) _ (hsp k hk)
  have hcp2 : ∀ (W : World), (∀ x, W.cell? x = W1.cell? x) → (∀ x, W.frozen? x = W1.frozen? x) → ∀ ty dc, (Builtin.copy_ #[23, 23] ty #[.slice (some ⟨g, i * 3, none⟩) (n + 1 - i) dc, .slice (some ⟨vb, 0, none⟩) 1 1]).run Tryz.prog W = .ok (goInt (Nat.min 1 (n + 1 - i))) (W.setCells g (i * 3) (RTh.cells x)) := fun W hWc hWf ty dc =>
    run_copy_k W _ _ ty 27 g (i * 3) (n + 1 - i) dc ⟨vb, 0, none⟩ 1 1 3 (RTh.cells x) Tryz.underlying23 th_size (by rw [show (RTh.cells x).length = 3 from RTh.len x]; simp only [Nat.min_def]; split <;> omega)
      (fun j v hj => by
        rw [Addr.add_lit, hWc, hW1, World.cell?_setCells_out g _ _ _ _ (fun h2 _ => absurd h2 h.ne), Nat.zero_add]
        exact hvs j v hj)
      (fun j hj => by rw [hWc]; exact hsp1 _ (by rw [show (RTh.cells x).length = 3 from RTh.len x] at hj; omega)) (fun j hj => by rw [hWf, hW1, World.frozen?_setCells]; exact hfz _) (tr_one x)
  -- what there is at the end
  have hown : w.drew.ownsRow B 27 3 (.slice (some ⟨g, 0, none⟩) (n + 1) c) (n + 1) (cur.toList.take ((n + 1) * 3)) := ⟨by rw [List.length_take, Array.length_toList]; omega, .inr ⟨g, c, cur, rfl, hg, hh, by omega, hcm, hsz, rfl⟩⟩
  have hXl : (cur.toList.take ((n + 1) * 3)).length = (n + 1) * 3 := hown.1
  obtain ⟨il1, il2⟩ := ins_list RTh rs i (by omega) x (cur.toList.take ((n + 1) * 3)) (by rw [hXl, hn]; rfl) (by
    rw [← hfl.1, ← htk, List.take_take, List.take_take]
    congr 1
    show min (i * 3) ((n + 1) * 3) = min (i * 3) (n * 3)
    omega)
  have o1 := owns_cells ((rs.drop i).flatMap RTh.cells) ((i + 1) * 3) w.drew _ hown (by rw [hdl, hXl]; omega)
  rw [← hW1] at o1
  have o2 := owns_cells (RTh.cells x) (i * 3) W1 _ o1 (by
    have h3 : (RTh.cells x).length = 3 := RTh.len x
    have h4 := il1
    have hk3 : RTh.k = 3 := rfl
    rw [hk3, ← hn] at h4
    rw [h3, h4]; omega)
  have hk3 : RTh.k = 3 := rfl
  rw [hk3] at il2
  rw [il2] at o2
  have hfin : CutOut RTh 27 B (.slice (some ⟨g, 0, none⟩) n c) (rs.take i ++ x :: rs.drop i) w (.returned (.slice (some ⟨g, 0, none⟩) (n + 1) c)) (W1.setCells g (i * 3) (RTh.cells x)) := by
    refine ⟨_, _, _, rfl, Lib.hid ?_, Lib.hid ?_, Lib.hid ?_⟩
    · unfold ROwn
      have hlen : (rs.take i ++ x :: rs.drop i).length = n + 1 := by simp; omega
      rw [hlen]
      exact o2
    · rw [hW1]
      exact pf_cells _ _ _ _ (pf_cells _ _ w w.drew ⟨⟨Nat.le_refl _, fun _ _ _ => rfl⟩, fun _ h => .inl h⟩)
    · rw [hW1]
      exact below_cells hg _ _ _ _ (below_cells hg _ _ w w.drew (Below.drew (Below.refl _ _)))
  have HF := Lib.hid hfin
  have hz1 : ¬ ((1 : Int) = 0) := by decide
  have hz2 : ¬ ((i : Int) = (n : Int)) := by omega
  have hw1 : IntKind.i64.wrap ((i : Int) + 1) = (i : Int) + 1 := by rw [IntKind.wrap_i64]; omega
  have hw2 : IntKind.i64.wrap ((n : Int) + 1) = (n : Int) + 1 := by rw [IntKind.wrap_i64]; omega
  have hb1 : (0 : Int) ≤ (i : Int) + 1 := by omega
  have hin : i ≤ n := by omega
  have htn : ((i : Int) + 1).toNat = i + 1 := by omega
  have htn2 : ((n : Int) + 1).toNat = n + 1 := by omega
  have hb2 : ¬ (c = i + 1) := by omega
  have hb3 : (i : Int) ≤ (n : Int) + 1 := by omega
  have hb4 : ¬ (c = i) := by omega
  have hb5 : ¬ ((n : Int) + 1 > (c : Int)) := by omega
  have hb6 : (n : Int) + 1 ≤ (c : Int) := by omega
  have hb7 : (i : Int) + 1 ≤ (n : Int) + 1 := by omega
  have hb8 : (i : Int) ≤ (n : Int) := by omega
  have hb9 : (0 : Int) ≤ (n : Int) + 1 := by omega
  rw [← hW1] at hcp1
  have HN := Lib.hid hn
  clear hn
  clear hfin o1 o2 il1 il2 hown hXl hsp1 hvs hcs hcd hsp hfz hfl hdl htk hsz hh h hk3 hcm hg
  go_enter Tryz.func32, Tryz.ntmps32
  go_wp2_with (simp only [hov])
  go_region_law (refine step_copy_runI rfl _ _ 23 23 rfl _ _ (by simp [Act.eval, Act.put]) (by simp [Act.eval, Act.put]) (hcp1 _ _ _) ?_)
  go_wp2_with (at_builtin; refine wpList_copy_runI _ rfl _ _ 23 23 rfl _ _ rfl rfl (hcp2 _ (fun _ => rfl) (fun _ => rfl) _ _) ?_)
  go_ret
  have hf := HF.out
  first | exact hf | (rw [hW1] at hf; exact hf)

set_option maxHeartbeats 4000000 in
set_option maxRecDepth 100000 in
/-- At the end. -/
theorem insert_end (B vb : Nat) (sv : Value) (rs : List Tr) (x : Tr) (w : World) (hO : ROwn RTh 27 B w sv rs) (hB : B ≤ w.heap.size) (hv : w.heap[vb]? = some (.cells (RTh.cells x).toArray 27)) (hl : rs.length ≤ 1000000) :
    Calls Tryz.prog 32 #[sv, .int .i64 rs.length, .slice (some ⟨vb, 0, none⟩) 1 1] w (CutOut RTh 27 B sv (rs ++ [x]) w) := by
  have hR : RFl RTh w (.slice (some ⟨vb, 0, none⟩) 1 1) [x] := .inr ⟨vb, 0, 1, rfl, fun j u hu => by
    rw [Nat.zero_add]
    simp only [World.cell?, hv, Option.isSome_none, Bool.false_eq_true, if_false]
    rw [← Array.getElem?_toList]
    simpa using hu⟩
  have HR := Lib.hid hR
  have HO := Lib.hid hO
  have hz1 : ¬ ((1 : Int) = 0) := by decide
  have hl1 : rs.length + ([x] : List Tr).length ≤ 1000000000 := by simp only [List.length_singleton]; omega
  rcases own_cases hO with ⟨rfl, rfl⟩ | ⟨g, c, rfl⟩
  · clear hO hR hv
    simp only [List.length_nil] at hl1 ⊢
    go_enter Tryz.func32, Tryz.ntmps32
    go_wp2_with (at_builtin; refine push_rows_f rfl _ _ 23 rfl RTh 27 72 _ Tryz.underlying23 Tryz.infoTh rfl (by decide) B (.slice none 0 0) [] [x] (.slice (some ⟨vb, 0, none⟩) 1 1) rfl rfl HO.out HR.out hB hl1 ?_; intro a2 n2 c2 w2 hn2 hO2 hB2 hP2)
    go_ret
    exact ⟨_, _, _, rfl, hO2, hP2, hB2⟩
  · have hnc : rs.length ≤ c := by
      obtain ⟨_, ⟨h1, _⟩ | ⟨_, _, _, h1, _, _, h2, _⟩⟩ := hO
      · cases h1
      · cases h1; exact h2
    have hcm : c ≤ maxLen := by
      obtain ⟨_, ⟨h1, _⟩ | ⟨_, _, _, h1, _, _, _, h2, _⟩⟩ := hO
      · cases h1
      · cases h1; exact h2
    have hc63 : c ≤ 9223372036854775807 := by unfold maxLen at hcm; omega
    generalize hn : rs.length = n at *
    have HN := Lib.hid hn
    have e1 : (0 : Int) ≤ (n : Int) := by omega
    have e2 : (n : Int) ≤ (c : Int) := by omega
    have e3 : ((n : Int)).toNat = n := by omega
    clear hO hR hv hn hcm
    by_cases hcn : c = n
    · subst hcn
      go_enter Tryz.func32, Tryz.ntmps32
      go_wp2_with (at_builtin; refine push_rows_f rfl _ _ 23 rfl RTh 27 72 _ Tryz.underlying23 Tryz.infoTh rfl (by decide) B (.slice (some ⟨g, 0, none⟩) c c) rs [x] (.slice (some ⟨vb, 0, none⟩) 1 1) rfl rfl HO.out HR.out hB (by rw [HN.out]; exact hl1) ?_; intro a2 n2 c2 w2 hn2 hO2 hB2 hP2)
      go_ret
      exact ⟨_, _, _, rfl, hO2, hP2, hB2⟩
    · have e4 : ¬ c = n := hcn
      go_enter Tryz.func32, Tryz.ntmps32
      go_wp2_with (at_builtin; refine push_rows_f rfl _ _ 23 rfl RTh 27 72 _ Tryz.underlying23 Tryz.infoTh rfl (by decide) B (.slice (some ⟨g, 0, none⟩) n c) rs [x] (.slice (some ⟨vb, 0, none⟩) 1 1) rfl rfl HO.out HR.out hB (by rw [HN.out]; exact hl1) ?_; intro a2 n2 c2 w2 hn2 hO2 hB2 hP2)
      go_ret
      exact ⟨_, _, _, rfl, hO2, hP2, hB2⟩

theorem ins_list2 {α : Type} (R : RowOf α) (rs : List α) (i : Nat) (hi : i ≤ rs.length) (x : α) (X : List Value) (hX : X.length = (rs.length + 1) * R.k) (h0 : X.take (i * R.k) = (rs.take i).flatMap R.cells) :
    let Y := X.take (i * R.k) ++ R.cells x ++ X.drop (i * R.k + (R.cells x).length)
    Y.length = (rs.length + 1) * R.k ∧ Y.take ((i + 1) * R.k) ++ (rs.drop i).flatMap R.cells ++ Y.drop ((i + 1) * R.k + ((rs.drop i).flatMap R.cells).length) = (rs.take i ++ x :: rs.drop i).flatMap R.cells := by
  intro Y
  have h1 : ((rs.drop i).flatMap R.cells).length = (rs.length - i) * R.k := by rw [R.flat, List.length_drop]
  have h2 : (i + 1) * R.k + (rs.length - i) * R.k = (rs.length + 1) * R.k := by rw [← Nat.add_mul]; congr 1; omega
  have h3 : (i + 1) * R.k = i * R.k + R.k := by rw [Nat.add_mul, Nat.one_mul]
  have hp : (X.take (i * R.k)).length = i * R.k := by rw [List.length_take, hX, ← h2]; omega
  have hY : Y.length = (rs.length + 1) * R.k := by
    show (X.take (i * R.k) ++ R.cells x ++ X.drop (i * R.k + (R.cells x).length)).length = _
    rw [List.length_append, List.length_append, hp, R.len, List.length_drop, hX]
    omega
  refine ⟨hY, ?_⟩
  have hT : Y.take ((i + 1) * R.k) = X.take (i * R.k) ++ R.cells x := by
    show (X.take (i * R.k) ++ R.cells x ++ X.drop (i * R.k + (R.cells x).length)).take ((i + 1) * R.k) = _
    exact List.take_left' (by rw [List.length_append, hp, R.len, h3])
  rw [hT, h1, h2, ← hY, List.drop_length, List.append_nil, h0, flat_ins]

set_option maxHeartbeats 4000000 in
set_option maxRecDepth 100000 in
/-- There is no room: a new row. -/
theorem insert_grow (B g n c vb i : Nat) (rs : List Tr) (x : Tr) (w : World) (h : InsIn B g n c vb rs x w) (hi : i < n) (hroom : c < n + 1) (hl : n ≤ 1000000) :
    Calls Tryz.prog 32 #[.slice (some ⟨g, 0, none⟩) n c, .int .i64 i, .slice (some ⟨vb, 0, none⟩) 1 1] w (CutOut RTh 27 B (.slice (some ⟨g, 0, none⟩) n c) (rs.take i ++ x :: rs.drop i) w) := by
  obtain ⟨hn, hg, hnc, hcm, cur, hh, hsz, htk⟩ := h.cur
  have hgw : g < w.heap.size := (Array.getElem?_eq_some_iff.1 hh).1
  have hvw : vb < w.heap.size := (Array.getElem?_eq_some_iff.1 h.hv).1
  obtain ⟨i0, hi0, hz0, hzs, hzb⟩ := info_parts Tryz.infoTh
  have hzs3 : i0.size = 3 := hzs
  have hcs : ∀ j v, (rs.flatMap RTh.cells)[j]? = some v → w.cell? ⟨g, j, none⟩ = some v := fun j v hj => by
    have := h.own.els.flat j v hj
    rwa [Nat.zero_add] at this
  have hvs : ∀ j v, (RTh.cells x)[j]? = some v → w.cell? ⟨vb, j, none⟩ = some v := fun j v hj => by
    simp only [World.cell?, h.hv, Option.isSome_none, Bool.false_eq_true, if_false]
    rw [← Array.getElem?_toList]
    exact hj
  have hfl := flat_split RTh rs i (by omega)
  have hk3 : RTh.k = 3 := rfl
  rw [hk3] at hfl
  have hx3 : (RTh.cells x).length = 3 := RTh.len x
  have htl : ((rs.take i).flatMap RTh.cells).length = i * 3 := by rw [RTh.flat, List.length_take, Nat.min_eq_left (by omega)]; rfl
  have hdl : ((rs.drop i).flatMap RTh.cells).length = (n - i) * 3 := by rw [RTh.flat, List.length_drop, hn]; rfl
  have hct : ∀ j v, ((rs.take i).flatMap RTh.cells)[j]? = some v → w.cell? ⟨g, j, none⟩ = some v := fun j v hj => by
    rw [← hfl.1, List.getElem?_take] at hj
    split at hj
    · exact hcs j v hj
    · cases hj
  have hcd : ∀ j v, ((rs.drop i).flatMap RTh.cells)[j]? = some v → w.cell? ⟨g, i * 3 + j, none⟩ = some v := fun j v hj => by
    rw [← hfl.2, List.getElem?_drop] at hj
    exact hcs _ v hj
  have hold : (Builtin.firstCells i0.size i (.slice (some ⟨g, 0, none⟩) i c)).run Tryz.prog w.drew = .ok ((rs.take i).flatMap RTh.cells).toArray w.drew := by
    rw [hzs3]
    exact run_firstCells_some w.drew 3 i ⟨g, 0, none⟩ i c ((rs.take i).flatMap RTh.cells) (by rw [htl]) (fun j v hj => by
      rw [Addr.add_lit, Nat.zero_add]
      exact hct j v hj)
  have hkk : (n : Int) + 1 - (i : Int) = ((n + 1 - i : Nat) : Int) := by omega
  have hik : i + (n + 1 - i) = n + 1 := by omega
  have hbig : (n + 1) * 72 ≤ 140737488355328 := by omega
  have hrz : ∀ ty, (Builtin.append_ #[23, 3] ty #[.slice (some ⟨g, 0, none⟩) i c, .int .i64 ((n : Int) + 1 - (i : Int))]).run Tryz.prog w =
      .ok (.slice (some ⟨w.heap.size, 0, none⟩) (n + 1) (grownCap w (n + 1) c 27)) (w.drew.alloc (.cells (((rs.take i).flatMap RTh.cells).toArray ++ Builtin.zeroCells (Value.agg #[.slice none 0 0, .slice none 0 0, .slice none 0 0]).cells (n + 1 - i) ++ Builtin.zeroCells (Value.agg #[.slice none 0 0, .slice none 0 0, .slice none 0 0]).cells (grownCap w (n + 1) c 27 - (n + 1))) 27)) := fun ty => by
    have h2 := Lib.run_append_grow_zeros (P := Tryz.prog) w 23 3 ty 27 i0 _ .i64 .i64 Tryz.underlying23 Tryz.underlying3 hi0 hz0 (some ⟨g, 0, none⟩) i c ((rs.take i).flatMap RTh.cells) hold (n + 1 - i) (by omega) (by omega) (by omega) (by omega) (by rw [hzb]; omega) (by rw [hzb, hik]; exact growslice_fits hroom hbig)
    rw [hik] at h2
    rw [hkk]
    exact h2
  obtain ⟨G, hG⟩ : ∃ G, G = grownCap w (n + 1) c 27 := ⟨_, rfl⟩
  have hGn : n + 1 ≤ G := by rw [hG]; exact grownCap_ge w _ _ _
  have hGm : G ≤ maxLen := by rw [hG]; exact grownCap_le_maxLen w (n + 1) c _ (by unfold maxLen; omega)
  have hG63 : G ≤ 9223372036854775807 := by unfold maxLen at hGm; omega
  obtain ⟨ROW, hROW⟩ : ∃ ROW : Array Value, ROW = ((rs.take i).flatMap RTh.cells).toArray ++ Builtin.zeroCells (Value.agg #[.slice none 0 0, .slice none 0 0, .slice none 0 0]).cells (n + 1 - i) ++ Builtin.zeroCells (Value.agg #[.slice none 0 0, .slice none 0 0, .slice none 0 0]).cells (G - (n + 1)) := ⟨_, rfl⟩
  rw [← hG, ← hROW] at hrz
  have hRs : ROW.size = G * 3 := by
    rw [hROW]
    simp only [Array.size_append, List.size_toArray, htl, Builtin.zeroCells, Array.size_map, Array.size_range]
    show i * 3 + (n + 1 - i) * 3 + (G - (n + 1)) * 3 = G * 3
    omega
  obtain ⟨N, hN⟩ : ∃ N, N = w.heap.size := ⟨_, rfl⟩
  obtain ⟨W1, hW1⟩ : ∃ W1, W1 = w.drew.alloc (.cells ROW 27) := ⟨_, rfl⟩
  rw [← hW1, ← hN] at hrz
  have hhN : W1.heap[N]? = some (.cells ROW 27) := by rw [hW1, hN]; exact heap_new w.drew _
  have hNs : ∀ j, j < G * 3 → (W1.cell? ⟨N, j, none⟩).isSome = true := fun j hj => by
    simp only [World.cell?, hhN, Option.isSome_none, Bool.false_eq_true, if_false]
    rw [Array.getElem?_eq_getElem (by omega)]
    rfl
  have hNf : ∀ j, W1.frozen? ⟨N, j, none⟩ = false := fun j => by simp [World.frozen?, hhN]
  have hOld : ∀ b j v, b < w.heap.size → w.cell? ⟨b, j, none⟩ = some v → W1.cell? ⟨b, j, none⟩ = some v := fun b j v hb hc => by
    rw [hW1]
    exact (cell_of_block (Below.heap_alloc w.drew _ _ hb) j).trans hc
  have hcpA : ∀ (W : World), (∀ x, W.cell? x = W1.cell? x) → (∀ x, W.frozen? x = W1.frozen? x) → ∀ ty dc, (Builtin.copy_ #[23, 23] ty #[.slice (some ⟨N, i * 3, none⟩) (n + 1 - i) dc, .slice (some ⟨vb, 0, none⟩) 1 1]).run Tryz.prog W = .ok (goInt (Nat.min 1 (n + 1 - i))) (W.setCells N (i * 3) (RTh.cells x)) := fun W hWc hWf ty dc =>
    run_copy_k W _ _ ty 27 N (i * 3) (n + 1 - i) dc ⟨vb, 0, none⟩ 1 1 3 (RTh.cells x) Tryz.underlying23 th_size (by rw [hx3]; simp only [Nat.min_def]; split <;> omega)
      (fun j v hj => by rw [Addr.add_lit, hWc, Nat.zero_add]; exact hOld _ _ v hvw (hvs j v hj))
      (fun j hj => by rw [hWc]; exact hNs _ (by rw [hx3] at hj; omega)) (fun j hj => by rw [hWf]; exact hNf _) (tr_one x)
  obtain ⟨W2, hW2⟩ : ∃ W2, W2 = W1.setCells N (i * 3) (RTh.cells x) := ⟨_, rfl⟩
  have hgN : g ≠ N := by omega
  have hNs2 : ∀ k, k < G * 3 → (W2.cell? ⟨N, k, none⟩).isSome = true := fun k hk => by
    rw [hW2]
    exact isSome_setCells N _ _ W1 (fun j hj => hNs (i * 3 + j) (by rw [hx3] at hj; omega)) k (hNs k hk)
  have hcpB : ∀ (W : World), (∀ x, W.cell? x = W2.cell? x) → (∀ x, W.frozen? x = W2.frozen? x) → ∀ ty dc sc, (Builtin.copy_ #[23, 23] ty #[.slice (some ⟨N, (i + 1) * 3, none⟩) (n - i) dc, .slice (some ⟨g, i * 3, none⟩) (n - i) sc]).run Tryz.prog W = .ok (goInt (Nat.min (n - i) (n - i))) (W.setCells N ((i + 1) * 3) ((rs.drop i).flatMap RTh.cells)) := fun W hWc hWf ty dc sc =>
    run_copy_k W _ _ ty 27 N ((i + 1) * 3) (n - i) dc ⟨g, i * 3, none⟩ (n - i) sc 3 ((rs.drop i).flatMap RTh.cells) Tryz.underlying23 th_size (by rw [hdl]; simp only [Nat.min_def]; split <;> omega)
      (fun j v hj => by rw [Addr.add_lit, hWc, hW2, World.cell?_setCells_out N _ _ _ _ (fun h2 _ => absurd h2 hgN)]; exact hOld _ _ v hgw (hcd j v hj))
      (fun j hj => by rw [hWc]; exact hNs2 _ (by rw [hdl] at hj; omega)) (fun j hj => by rw [hWf, hW2, World.frozen?_setCells]; exact hNf _) (trs_one _)
  -- what there is at the end
  have hown : W1.ownsRow N 27 3 (.slice (some ⟨N, 0, none⟩) (n + 1) G) (n + 1) (ROW.toList.take ((n + 1) * 3)) := ⟨by rw [List.length_take, Array.length_toList]; omega, .inr ⟨N, G, ROW, rfl, Nat.le_refl _, hhN, by omega, hGm, hRs, rfl⟩⟩
  have hXl : (ROW.toList.take ((n + 1) * 3)).length = (n + 1) * 3 := hown.1
  have hXt : (ROW.toList.take ((n + 1) * 3)).take (i * 3) = (rs.take i).flatMap RTh.cells := by
    rw [List.take_take, Nat.min_eq_left (by omega), hROW, Array.toList_append, Array.toList_append, List.append_assoc]
    exact List.take_left' htl
  obtain ⟨il1, il2⟩ := ins_list2 RTh rs i (by omega) x (ROW.toList.take ((n + 1) * 3)) (by rw [hXl, hn]; rfl) hXt
  rw [hk3] at il1 il2
  have o1 := owns_cells (RTh.cells x) (i * 3) W1 _ hown (by rw [hx3, hXl]; omega)
  rw [← hW2] at o1
  have o2 := owns_cells ((rs.drop i).flatMap RTh.cells) ((i + 1) * 3) W2 _ o1 (by rw [hdl, il1, ← hn]; omega)
  rw [il2] at o2
  have hB1 : Below N w W1 := by rw [hW1, hN]; exact (Below.drew (Below.refl _ w)).alloc (Nat.le_refl _) _
  have hB3 : Below N w (W2.setCells N ((i + 1) * 3) ((rs.drop i).flatMap RTh.cells)) := below_cells (Nat.le_refl _) _ _ _ _ (by rw [hW2]; exact below_cells (Nat.le_refl _) _ _ _ _ hB1)
  have HF := Lib.hid fun (wf : World) (hq : wf.heap = (W2.setCells N ((i + 1) * 3) ((rs.drop i).flatMap RTh.cells)).heap) (hbf : Below N w wf) => (⟨_, _, _, rfl, Lib.hid (by
      have hlen : (rs.take i ++ x :: rs.drop i).length = n + 1 := by simp; omega
      have : ROwn RTh 27 N wf (.slice (some ⟨N, 0, none⟩) (n + 1) G) (rs.take i ++ x :: rs.drop i) := by
        unfold ROwn World.ownsRow
        rw [hq, hlen]
        exact o2
      exact this.base (by omega)), Lib.hid (PF.fresh (by rw [← hN]; exact hbf) fun g' e => by injection e with e; rw [← e, hN]; exact Nat.le_refl _), Lib.hid (hbf.mono (by omega))⟩ : CutOut RTh 27 B (.slice (some ⟨g, 0, none⟩) n c) (rs.take i ++ x :: rs.drop i) w (.returned (.slice (some ⟨N, 0, none⟩) (n + 1) G)) wf)
  have HB3 := Lib.hid hB3
  have hz1 : ¬ ((1 : Int) = 0) := by decide
  have hz2 : ¬ ((i : Int) = (n : Int)) := by omega
  have hw1 : IntKind.i64.wrap ((i : Int) + 1) = (i : Int) + 1 := by rw [IntKind.wrap_i64]; omega
  have hw2 : IntKind.i64.wrap ((n : Int) + 1) = (n : Int) + 1 := by rw [IntKind.wrap_i64]; omega
  have hw3 : IntKind.i64.wrap ((n : Int) + 1 - (i : Int)) = (n : Int) + 1 - (i : Int) := by rw [IntKind.wrap_i64]; omega
  have hb1 : (0 : Int) ≤ (i : Int) + 1 := by omega
  have hin : i ≤ n := by omega
  have htn : ((i : Int) + 1).toNat = i + 1 := by omega
  have hb2 : ¬ (G = i + 1) := by omega
  have hb3 : (i : Int) ≤ (n : Int) + 1 := by omega
  have hb4 : ¬ (c = i) := by omega
  have hb5 : (n : Int) + 1 > (c : Int) := by omega
  have hb6 : ¬ (G = i) := by omega
  have hb7 : (i : Int) + 1 ≤ (n : Int) + 1 := by omega
  have hb8 : (i : Int) ≤ (n : Int) := by omega
  have hb10 : (i : Int) ≤ (c : Int) := by omega
  have hE1 : ∀ x, ((w.alloc (.cells ROW 27)).drew).cell? x = W1.cell? x := fun x => by rw [hW1]; rfl
  have hE2 : ∀ x, ((w.alloc (.cells ROW 27)).drew).frozen? x = W1.frozen? x := fun x => by rw [hW1]; rfl
  have hF1 : ∀ y, ((W1.setCells N (i * 3) (RTh.cells x)).drew).cell? y = W2.cell? y := fun y => by rw [hW2]; rfl
  have hF2 : ∀ y, ((W1.setCells N (i * 3) (RTh.cells x)).drew).frozen? y = W2.frozen? y := fun y => by rw [hW2]; rfl
  have hQ : ((W1.setCells N (i * 3) (RTh.cells x)).drew.setCells N ((i + 1) * 3) ((rs.drop i).flatMap RTh.cells)).heap = (W2.setCells N ((i + 1) * 3) ((rs.drop i).flatMap RTh.cells)).heap := by rw [hW2, ← drew_setCells]; rfl
  have hBF : Below N w ((W1.setCells N (i * 3) (RTh.cells x)).drew.setCells N ((i + 1) * 3) ((rs.drop i).flatMap RTh.cells)) := below_cells (Nat.le_refl _) _ _ _ _ (Below.drew (below_cells (Nat.le_refl _) _ _ _ _ hB1))
  have HQ := Lib.hid (HF.out _ hQ hBF)
  have hrz2 := fun ty => hrz ty
  clear hQ hBF HF HB3 hB3 hB1 o2 o1 il2 il1 hXt hXl hown hNs2 hW2 hOld hNf hNs hhN hRs hROW hrz hGm hGn hG hbig hik hkk hold hcd hct hdl htl hx3 hk3 hfl hvs hcs hzs3 hzb hzs hz0 hi0 hvw hgw htk hsz hh hg hcm h hgN hW1 hN hn hE1 hE2
  go_enter Tryz.func32, Tryz.ntmps32
  go_wp2_with (first
    | (at_builtin; refine Lib.wpList_append_run _ rfl _ _ _ _ rfl _ _ rfl rfl _ _ (hrz2 _) ?_)
    | (at_builtin; refine wpList_copy_runI _ rfl _ _ 23 23 rfl _ _ rfl rfl (hcpA _ (fun _ => rfl) (fun _ => rfl) _ _) ?_))
  go_region_law (refine step_copy_runI rfl _ _ 23 23 rfl (.slice (some ⟨N, (i + 1) * 3, none⟩) (n - i) (G - (i + 1))) (.slice (some ⟨g, i * 3, none⟩) (n - i) (c - i)) (by simp [Act.eval, Act.put]) (by simp [Act.eval, Act.put]) (hcpB _ hF1 hF2 _ _ _) ?_)
  go_wp2
  go_ret
  exact HQ.out

/-- Insert of one thing. -/
theorem insert_any (B vb i : Nat) (sv : Value) (rs : List Tr) (x : Tr) (w : World) (hO : ROwn RTh 27 B w sv rs) (hB : B ≤ w.heap.size) (hv : w.heap[vb]? = some (.cells (RTh.cells x).toArray 27)) (hne : sv.ownBlock ≠ some vb) (hi : i ≤ rs.length) (hl : rs.length ≤ 1000000) :
    Calls Tryz.prog 32 #[sv, .int .i64 i, .slice (some ⟨vb, 0, none⟩) 1 1] w (CutOut RTh 27 B sv (rs.take i ++ x :: rs.drop i) w) := by
  by_cases h : i = rs.length
  · subst h
    rw [List.take_of_length_le (Nat.le_refl _), List.drop_of_length_le (Nat.le_refl _)]
    exact insert_end B vb sv rs x w hO hB hv hl
  · rcases own_cases hO with ⟨rfl, rfl⟩ | ⟨g, c, rfl⟩
    · exact absurd (by simpa using hi) h
    · have hI : InsIn B g rs.length c vb rs x w := ⟨hO, hv, fun e => hne (by rw [e]; rfl)⟩
      by_cases hr : rs.length + 1 ≤ c
      · exact insert_shift B g rs.length c vb i rs x w hI (by omega) hr hl
      · exact insert_grow B g rs.length c vb i rs x w hI (by omega) (by omega) hl

end Go.Proofs.YtelhpndlejommaaGreat

/- slices.IndexFunc at things with With's closure. -/
namespace Go.Proofs.YtelhpndlejommaaGreat
open Go.RowKit Go.Shelf

set_option maxHeartbeats 4000000 in
set_option maxRecDepth 100000 in
theorem with1_any (q p : Th) (hq : CmpOk q) (hp : CmpOk p) (a b c a' b' c' : Value) (N : Nat) (w : World) (hT : TAt w.heap.size w q a b c) (hP : TAt w.heap.size w p a' b' c') (hX : BoxL N [a', b', c'] w) :
    Calls Tryz.prog 29 #[.agg #[a, b, c], .pointer (some ⟨N, 0, none⟩)] w fun e w' => e = .returned (.bool (decide (0 < Th.cmp q p))) ∧ Below w.heap.size w w' := by
  obtain ⟨⟨a1, n1, c1, a2, n2, c2, a3, n3, c3⟩, rfl, rfl, rfl, -⟩ := (TAt.ts q hT).shape
  obtain ⟨⟨a4, n4, c4, a5, n5, c5, a6, n6, c6⟩, rfl, rfl, rfl, -⟩ := (TAt.ts p hP).shape
  simp only at hX hT hP ⊢
  obtain ⟨W1, hW1⟩ : ∃ W1, W1 = w.alloc (.cells #[.slice a1 n1 c1, .slice a2 n2 c2, .slice a3 n3 c3] 27) := ⟨_, rfl⟩
  have hB1 : Below w.heap.size w W1 := by rw [hW1]; exact (Below.refl _ _).alloc (Nat.le_refl _) _
  have hY : BoxL w.heap.size [.slice a1 n1 c1, .slice a2 n2 c2, .slice a3 n3 c3] W1 := by rw [hW1]; exact BoxL.made w _ _
  have K1 := Lib.hid (tcmp_all q.size q (Nat.le_refl _) hq p hp _ _ _ _ _ _ W1 (TAt.below hB1 hT) (TAt.below hB1 hP))
  obtain ⟨x0, x1, x2, -⟩ := (hX.keep hB1).open3
  obtain ⟨y0, y1, y2, -⟩ := hY.open3
  have HB1 := Lib.hid hB1
  generalize Th.cmp q p = V at *
  clear hX hY hT hP hq hp hB1
  go_enter Tryz.func29, Tryz.ntmps29
  go_upto_region 1 with (fail)
  rw [← hW1]
  clear hW1
  go_wp2_with fail
  refine K1.out.mono ?_
  rintro e w2 ⟨rfl, hr⟩
  have HB2 := Lib.hid (HB1.out.trans (Below.mono hr HB1.out.size))
  clear hr x0 x1 x2 y0 y1 y2
  go_wp2
  go_ret
  exact ⟨rfl, HB2.out⟩

/-- What IndexFunc finds: where a part goes. -/
def IdxOut (p : Th) (ps : List Th) (w : World) (e : Ending) (w' : World) : Prop :=
  ∃ k : Nat, Hid (k ≤ ps.length ∧ partL p ps = ps.take k ++ p :: ps.drop k) ∧ (k < ps.length ∧ e = .returned (.int .i64 k) ∨ k = ps.length ∧ e = .returned (.int .i64 (-1))) ∧ Hid (Below w.heap.size w w')

set_option maxHeartbeats 4000000 in
set_option maxRecDepth 100000 in
theorem index_any (sv : Value) (ps : List Th) (p : Th) (a' b' c' : Value) (N : Nat) (w : World) (h : Ps w.heap.size w sv ps) (hok : ∀ q ∈ ps, CmpOk q) (hp : CmpOk p) (hP : TAt w.heap.size w p a' b' c') (hX : BoxL N [a', b', c'] w) (hl : ps.length ≤ 1000000) :
    Calls Tryz.prog 28 #[sv, .func (.func 29) #[] #[.pointer (some ⟨N, 0, none⟩)]] w (IdxOut p ps w) := by
  obtain ⟨a0, c0, rfl⟩ := h.shape
  have K1 := Lib.hid fun (q : Th) (hq : q ∈ ps) (a b c : Value) W (hB : Since w W) hT => with1_any q p (hok q hq) hp a b c a' b' c' N W hT (TAt.below hB hP) (hX.keep hB)
  have HPs := Lib.hid fun W (hB : Since w W) => Ps.below hB h
  have HA := Lib.hid (partL_at p)
  have hm : ps.length = ps.length := rfl
  generalize hm2 : ps.length = m at *
  have HM := Lib.hid hm2
  have HS0 := Lib.hid (Since.refl w)
  clear h hok hp hP hX hm hm2
  go_enter Tryz.func28, Tryz.ntmps28
  go_wp2
  go_loopw [8] (fun v wr => ∃ k : Nat, k ≤ m ∧ v = .int .i64 k ∧ Hid (∀ j x, j < k → ps[j]? = some x → Th.cmp x p ≤ 0) ∧ Hid (Since w wr)) (fun v _ => m - (intOf v).toNat)
  case atStart => exact ⟨0, by omega, rfl, Lib.hid fun j x hj => by omega, HS0⟩
  case round =>
    clear HS0
    obtain ⟨k, hk, rfl, hlt, hS⟩ := hrel
    by_cases hkm : k < m
    · have i1 : (k : Int) < m := by omega
      have i4 : ((k : Int)).toNat = k := by omega
      obtain ⟨g, q, rfl, -, -, -, hq, v1, v2, v3, e0, e1, e2, hTq⟩ := (HPs.out wr hS.out).get (j := k) hkm
      have kq := K1.out q (List.mem_of_getElem? hq) _ _ _ wr hS.out hTq
      obtain ⟨⟨q1, r1, y1, q2, r2, y2, q3, r3, y3⟩, rfl, rfl, rfl, -⟩ := (TAt.ts q hTq).shape
      simp only at e0 e1 e2 kq
      by_cases hv : 0 < Th.cmp q p
      · have HP0 := Lib.hid (HA.out k ps hlt.out (by rw [HM.out]; omega) (fun x hx => by rw [hq] at hx; injection hx with hx; subst hx; omega))
        rw [decide_eq_true hv] at kq
        have KQ := Lib.hid kq
        clear kq hq hTq hlt hv HA
        go_wp2_with fail
        refine KQ.out.mono ?_
        rintro e w2 ⟨rfl, hr⟩
        have HB2 := Lib.hid (Since.step hS.out hr)
        clear hr
        go_wp2
        go_ret
        exact ⟨k, Lib.hid ⟨by rw [HM.out]; omega, HP0.out⟩, .inl ⟨by rw [HM.out]; omega, rfl⟩, HB2⟩
      · have HZ : Hid (∀ j x, j < k + 1 → ps[j]? = some x → Th.cmp x p ≤ 0) := Lib.hid fun j x hj hx => by
          by_cases h : j < k
          · exact hlt.out j x h hx
          · have : j = k := by omega
            subst this
            rw [hq] at hx
            injection hx with hx
            subst hx
            omega
        rw [decide_eq_false hv] at kq
        have KQ := Lib.hid kq
        clear kq hq hTq hlt hv
        go_wp2_with fail
        refine KQ.out.mono ?_
        rintro e w2 ⟨rfl, hr⟩
        have HB2 := Lib.hid (Since.step hS.out hr)
        clear hr
        go_wp2
        go_roundw
        case rel => exact ⟨k + 1, by omega, by go_num, HZ, HB2⟩
        case measure => simp [intOf]; omega
    · have i1 : ¬ (k : Int) < m := by omega
      have HP0 := Lib.hid (HA.out k ps hlt.out (by rw [HM.out]; omega) (fun x hx => by have := (List.getElem?_eq_some_iff.1 hx).1; have := HM.out; omega))
      clear hlt HA
      go_wp2
      go_ret
      exact ⟨k, Lib.hid ⟨by rw [HM.out]; omega, HP0.out⟩, .inr ⟨by rw [HM.out]; omega, rfl⟩, hS⟩

end Go.Proofs.YtelhpndlejommaaGreat

/- With of package thing. -/
namespace Go.Proofs.YtelhpndlejommaaGreat
open Go.RowKit Go.Shelf

theorem alloc_at (w : World) (o : Obj) : (w.alloc o).heap[w.heap.size]? = some o := Array.getElem?_push_size

/-- What With's loop has seen. -/
def CutL (Vt Vp : Int) (W3 : World) (v : Value) (wr : World) : Prop := ∃ k : Int, v = .int .i64 k ∧ Hid (Since W3 wr) ∧ (k = 0 ∨ (k = 1 ∧ Hid (Vt = 0)) ∨ (k = 2 ∧ Hid (Vt = 0) ∧ Hid (Vp = 0)))
theorem cutL_0 {Vt Vp : Int} {W3 wr : World} (h : Since W3 wr) : CutL Vt Vp W3 (.int .i64 0) wr := ⟨0, rfl, Lib.hid h, .inl rfl⟩
theorem cutL_1 {Vt Vp : Int} {W3 wr : World} (h : Since W3 wr) (h1 : Vt = 0) : CutL Vt Vp W3 (.int .i64 1) wr := ⟨1, rfl, Lib.hid h, .inr (.inl ⟨rfl, Lib.hid h1⟩)⟩
theorem cutL_2 {Vt Vp : Int} {W3 wr : World} (h : Since W3 wr) (h1 : Vt = 0) (h2 : Vp = 0) : CutL Vt Vp W3 (.int .i64 2) wr := ⟨2, rfl, Lib.hid h, .inr (.inr ⟨rfl, Lib.hid h1, Lib.hid h2⟩)⟩

/-- What lies there behind the Insert. -/
def CutW (p : Th) (cs : List Int) (vs : List Va) (ps : List Th) (N0 N : Nat) (va vb : Value) (W2 : World) (s : Value) (wx : World) : Prop :=
  ∃ ak lk ck rs, s = .slice ak lk ck ∧ Hid (OB (fun k => False ∨ N0 ≤ k) N0 N wx va vb (.slice ak lk ck) cs vs rs (partL p ps)) ∧ Hid (Since W2 wx)
theorem cutW_of {p : Th} {cs : List Int} {vs : List Va} {rs : List Tr} {ps : List Th} {N0 N : Nat} {va vb : Value} {W2 wx : World} {ak : Option Addr} {lk ck : Nat} (h : Hid (OB (fun k => False ∨ N0 ≤ k) N0 N wx va vb (.slice ak lk ck) cs vs rs (partL p ps))) (h2 : Hid (Since W2 wx)) : CutW p cs vs ps N0 N va vb W2 (.slice ak lk ck) wx := ⟨ak, lk, ck, rs, rfl, h, h2⟩

set_option maxHeartbeats 8000000 in
set_option maxRecDepth 100000 in
theorem twith_any (S0 : Nat → Prop) (t p : Th) (hwf : t.wf) (hwt : t.wt ≤ 50000) (pwf : p.wf) (pwt : p.wt ≤ 50000) (a b c a' b' c' : Value) (W : World) (hT : TAt W.heap.size W t a b c) (hP : TAt W.heap.size W p a' b' c') :
    Calls Tryz.prog 14 #[.agg #[a, b, c], .agg #[a', b', c']] W (WithOut S0 t p W) := by
  have hsz : t.size ≤ 100000 := by have := Th.size_wt t; omega
  have hpz : p.size ≤ 100000 := by have := Th.size_wt p; omega
  have hPs : Ps W.heap.size W c t.ps := by have := hT; cases t; exact this.parts.2.2
  have hps : ∀ q ∈ t.ps, CmpOk q := fun q hq => ⟨((Th.wf_eq t).1 hwf).2 q hq, by have := Th.sizes_mem hq; have := t.size_eq; omega⟩
  have hlen : t.ps.length ≤ 1000000 := by have := Th.sizes_len t.ps; have := t.size_eq; omega
  have KVA := Lib.hid fun W (h : TAt W.heap.size W t a b c) => tvalid_any t (by omega) hwf a b c W h
  have KPA := Lib.hid fun W (h : TAt W.heap.size W p a' b' c') => tvalid_any p (by omega) pwf a' b' c' W h
  have KWA := Lib.hid fun (a b c : Value) W h => tvalid_any (wth t p) (by rw [wth_size]; omega) (wth_wf hwf pwf) a b c W h
  have KCA := Lib.hid fun W (h : TAt W.heap.size W t a b c) => clone_all t.size t (Nat.le_refl _) hwf (by omega) a b c W h
  have KDA := Lib.hid fun W (h : TAt W.heap.size W p a' b' c') => (clone_all p.size p (Nat.le_refl _) pwf (by omega) a' b' c' W h).mono fun _ _ h => CloneOut.thing h
  have KXA := Lib.hid fun (N : Nat) W (h : Ps W.heap.size W c t.ps) (hX : BoxL N [a', b', c'] W) (hT : TAt W.heap.size W p a' b' c') => index_any c t.ps p a' b' c' N W h hps ⟨pwf, by omega⟩ hT hX hlen
  obtain ⟨⟨b1, m1, d1, b2, m2, d2, b3, m3, d3⟩, rfl, rfl, rfl, -⟩ := (TAt.ts p hP).shape
  obtain ⟨⟨a1, n1, c1, a2, n2, c2, a3, n3, c3⟩, rfl, rfl, rfl, -⟩ := (TAt.ts t hT).shape
  simp only at hT hP hPs KVA KPA KCA KDA KXA ⊢
  have HN3 := Lib.hid hPs.len
  have HE1 := Lib.hid fun h => withE_1 (t := t) (p := p) h
  have HE2 := Lib.hid fun h h2 => withE_2 (t := t) (p := p) h h2
  have HE3 := Lib.hid fun h h2 => withE_3 (t := t) (p := p) h h2
  have HTY := Lib.hid fun h h2 h3 => withT_yes (t := t) (p := p) h h2 h3
  have HNO := Lib.hid fun (w : World) (N1 : Nat) (E : Int) h1 hB hE h0 => with_no (S0 := S0) (t := t) (p := p) (W := W) (w := w) (N1 := N1) (E := E) h1 hB hE h0
  have HYS := Lib.hid fun (w : World) (N1 N8 : Nat) (r : Tr) h1 hB hE hn hT => with_yes (S0 := S0) (t := t) (p := p) (W := W) (w := w) (N1 := N1) (N8 := N8) (r := r) h1 hB hE hn hT
  obtain ⟨W2, hW2⟩ : ∃ W2, W2 = ((W.alloc (.cells #[.slice a1 n1 c1, .slice a2 n2 c2, .slice a3 n3 c3] 27)).alloc (.cells #[.slice b1 m1 d1, .slice b2 m2 d2, .slice b3 m3 d3] 27)).alloc (.cells #[.slice none 0 0, .slice none 0 0, .slice none 0 0] 27) := ⟨_, rfl⟩
  have hB2 : Below W.heap.size W W2 := by rw [hW2]; exact (((Below.refl _ _).alloc (Nat.le_refl _) _).alloc (by simp) _).alloc (by simp only [World.size_alloc]; omega) _
  have hX : BoxL W.heap.size [.slice a1 n1 c1, .slice a2 n2 c2, .slice a3 n3 c3] W2 := by rw [hW2]; exact ((BoxL.made W _ _).under _).under _
  have hY : BoxL (W.heap.size + 1) [.slice b1 m1 d1, .slice b2 m2 d2, .slice b3 m3 d3] W2 := by
    rw [hW2]
    have := (BoxL.made (W.alloc (.cells #[.slice a1 n1 c1, .slice a2 n2 c2, .slice a3 n3 c3] 27)) #[.slice b1 m1 d1, .slice b2 m2 d2, .slice b3 m3 d3] 27).under (.cells #[.slice none 0 0, .slice none 0 0, .slice none 0 0] 27)
    rwa [World.size_alloc] at this
  have hR2 : BoxL (W.heap.size + 1 + 1) [.slice none 0 0, .slice none 0 0, .slice none 0 0] W2 := by
    rw [hW2]
    have := BoxL.made ((W.alloc (.cells #[.slice a1 n1 c1, .slice a2 n2 c2, .slice a3 n3 c3] 27)).alloc (.cells #[.slice b1 m1 d1, .slice b2 m2 d2, .slice b3 m3 d3] 27)) #[.slice none 0 0, .slice none 0 0, .slice none 0 0] 27
    rwa [World.size_alloc, World.size_alloc] at this
  have HBS := Lib.hid fun w (h : Since W2 w) => hB2.trans (Below.mono h hB2.size)
  have KV := Lib.hid fun w (h : Since W2 w) => KVA.out w (TAt.below (HBS.out w h) hT)
  have KP := Lib.hid fun w (h : Since W2 w) => KPA.out w (TAt.below (HBS.out w h) hP)
  have KC := Lib.hid fun w (h : Since W2 w) => KCA.out w (TAt.below (HBS.out w h) hT)
  have KD := Lib.hid fun w (h : Since W2 w) => KDA.out w (TAt.below (HBS.out w h) hP)
  have KX := Lib.hid fun w (h : Since W2 w) => KXA.out (W.heap.size + 1) w (Ps.below (HBS.out w h) hPs) (hY.keep h) (TAt.below (HBS.out w h) hP)
  have hsz2 : W2.heap.size = W.heap.size + 1 + 1 + 1 := by rw [hW2, World.size_alloc, World.size_alloc, World.size_alloc]
  have HSZ : Hid (W.heap.size ≤ W.heap.size + 1 + 1 ∧ W.heap.size + 1 + 1 < W2.heap.size ∧ W.heap.size + 1 < W2.heap.size) := Lib.hid (by omega)
  have HX := Lib.hid hX
  have HY := Lib.hid hY
  have HR := Lib.hid hR2
  have HLEN := Lib.hid hlen
  obtain ⟨W3, hW3⟩ : ∃ W3, W3 = W2.alloc (.cells #[.slice a1 n1 c1, .slice a2 n2 c2, .slice a3 n3 c3, .slice b1 m1 d1, .slice b2 m2 d2, .slice b3 m3 d3] 27) := ⟨_, rfl⟩
  have hRow : BoxL W2.heap.size [.slice a1 n1 c1, .slice a2 n2 c2, .slice a3 n3 c3, .slice b1 m1 d1, .slice b2 m2 d2, .slice b3 m3 d3] W3 := by rw [hW3]; exact BoxL.made _ _ _
  have HS3 : Hid (Since W2 W3) := Lib.hid (by rw [hW3]; exact Since.alloc (Since.refl _) _)
  have HRow := Lib.hid hRow
  have HW3 := Lib.hid hW3
  obtain ⟨p0, p1, p2, -⟩ := hX.open3
  obtain ⟨q0, q1, q2, -⟩ := hY.open3
  clear hX hY hR2 hsz2 hT hP hB2 KVA KPA KCA KDA KXA hps hlen hsz hpz hwf hwt pwf pwt hPs hRow hW3
  generalize hVt : validT t = Vt at *
  generalize hVp : validT p = Vp at *
  generalize hVw : validT (wth t p) = Vw at *
  clear hVt hVp hVw
  go_enter Tryz.func14, Tryz.ntmps14
  go_upto_region 1 with (fail)
  rw [← hW2]
  clear hW2
  generalize hN2 : W.heap.size + 1 + 1 = N1 at *
  generalize hNp : W.heap.size + 1 = Np at *
  clear hN2 hNp
  go_wp2_with fail
  clear p0 p1 p2 q0 q1 q2
  go_loopw [16] (fun v wr => CutL Vt Vp W3 v wr) (fun v _ => 2 - (intOf v).toNat)
  case atStart => exact cutL_0 (by rw [HW3.out]; exact Since.refl _)
  case round =>
    obtain ⟨k, rfl, hS, hk⟩ := hrel
    rename World => wo
    have HRo := Lib.hid (HRow.out.keep hS.out)
    have HSo : Hid (Since W2 wo) := Lib.hid (Since.step HS3.out hS.out)
    rcases hk with rfl | ⟨rfl, hv1⟩ | ⟨rfl, hv1, hv2⟩
    · have e0 := (HRo.out.2 0 _ rfl).1
      have e1 := (HRo.out.2 1 _ rfl).1
      have e2 := (HRo.out.2 2 _ rfl).1
      obtain ⟨wr, hwr⟩ : ∃ wr, wr = wo.alloc (.cells #[.slice a1 n1 c1, .slice a2 n2 c2, .slice a3 n3 c3] 27) := ⟨_, rfl⟩
      have hSx : Since wo wr := by rw [hwr]; exact Since.alloc (Since.refl _) _
      have hX5 : BoxL wo.heap.size [.slice a1 n1 c1, .slice a2 n2 c2, .slice a3 n3 c3] wr := by rw [hwr]; exact BoxL.made _ _ _
      obtain ⟨o0, o1, o2, -⟩ := hX5.open3
      have HSX := Lib.hid hSx
      clear hX5 hSx
      go_upto_region 4 with (fail)
      rw [← hwr]
      generalize wo.heap.size = M5 at *
      clear hwr e0 e1 e2
      go_wp2_with fail
      refine (KV.out wr (Since.step HSo.out HSX.out)).mono ?_
      rintro e w4 ⟨rfl, hB4⟩
      have HS4 : Hid (Since W3 w4) := Lib.hid (Since.step (Since.step hS.out HSX.out) hB4)
      clear o0 o1 o2 hB4
      by_cases hv : Vt = 0
      · have HC := Lib.hid (cutL_1 (Vp := Vp) HS4.out hv)
        subst hv
        go_wp2
        go_roundw
        case rel => exact HC.out
        case measure => simp [intOf]
      · have hS4 := Since.step HS3.out HS4.out
        have HFI := Lib.hid (HNO.out w4 N1 _ HSZ.out.1 (HBS.out _ hS4) (HE1.out hv) hv)
        have hv4 : (Vt != 0) = true := bne_iff_ne.2 hv
        obtain ⟨z0, z1, z2, zf0, zf1, zf2, -⟩ := (HR.out.keep hS4).open3
        unfold put3 at HFI
        clear hS4 hv
        go_wp2
        exact bodyPost_ret (v := .tuple #[.agg #[.slice none 0 0, .slice none 0 0, .slice none 0 0], .int .i64 Vt]) (by simp [results, Tryz.results14, go_sem, z0, z1, z2]) rfl HFI.out
    · have e0 := (HRo.out.2 3 _ rfl).1
      have e1 := (HRo.out.2 4 _ rfl).1
      have e2 := (HRo.out.2 5 _ rfl).1
      obtain ⟨wr, hwr⟩ : ∃ wr, wr = wo.alloc (.cells #[.slice b1 m1 d1, .slice b2 m2 d2, .slice b3 m3 d3] 27) := ⟨_, rfl⟩
      have hSx : Since wo wr := by rw [hwr]; exact Since.alloc (Since.refl _) _
      have hX5 : BoxL wo.heap.size [.slice b1 m1 d1, .slice b2 m2 d2, .slice b3 m3 d3] wr := by rw [hwr]; exact BoxL.made _ _ _
      obtain ⟨o0, o1, o2, -⟩ := hX5.open3
      have HSX := Lib.hid hSx
      clear hX5 hSx
      go_upto_region 4 with (fail)
      rw [← hwr]
      generalize wo.heap.size = M5 at *
      clear hwr e0 e1 e2
      go_wp2_with fail
      refine (KP.out wr (Since.step HSo.out HSX.out)).mono ?_
      rintro e w4 ⟨rfl, hB4⟩
      have HS4 : Hid (Since W3 w4) := Lib.hid (Since.step (Since.step hS.out HSX.out) hB4)
      clear o0 o1 o2 hB4
      by_cases hv : Vp = 0
      · have HC := Lib.hid (cutL_2 HS4.out hv1.out hv)
        subst hv
        go_wp2
        go_roundw
        case rel => exact HC.out
        case measure => simp [intOf]
      · have hS4 := Since.step HS3.out HS4.out
        have HFI := Lib.hid (HNO.out w4 N1 _ HSZ.out.1 (HBS.out _ hS4) (HE2.out hv1.out hv) hv)
        have hv4 : (Vp != 0) = true := bne_iff_ne.2 hv
        obtain ⟨z0, z1, z2, zf0, zf1, zf2, -⟩ := (HR.out.keep hS4).open3
        unfold put3 at HFI
        clear hS4 hv
        go_wp2
        exact bodyPost_ret (v := .tuple #[.agg #[.slice none 0 0, .slice none 0 0, .slice none 0 0], .int .i64 Vp]) (by simp [results, Tryz.results14, go_sem, z0, z1, z2]) rfl HFI.out
    · obtain ⟨x0, x1, x2, -⟩ := (HX.out.keep HSo.out).open3
      go_wp2_with fail
      refine (KX.out wo HSo.out).mono ?_
      rintro e w5 ⟨k, hk, he, hB5⟩
      obtain ⟨z, rfl, hz⟩ : ∃ z : Int, e = .returned (.int .i64 z) ∧ Hid ((k < t.ps.length ∧ z = k) ∨ (k = t.ps.length ∧ z = -1)) := by
        rcases he with ⟨h1, h2⟩ | ⟨h1, h2⟩
        · exact ⟨_, h2, Lib.hid (.inl ⟨h1, rfl⟩)⟩
        · exact ⟨_, h2, Lib.hid (.inr ⟨h1, rfl⟩)⟩
      have HS5 : Hid (Since W2 w5) := Lib.hid (Since.step HSo.out hB5.out)
      clear x0 x1 x2 he hB5 HRo HRow hS HW3 HS3 HSo
      obtain ⟨x0, x1, x2, -⟩ := (HX.out.keep HS5.out).open3
      go_upto_if 32 with (fail)
      go_cut [9] (fun s wx => s = .int .i64 (k : Int) ∧ wx = w5)
      case first =>
        rcases hz.out with ⟨h1, h2⟩ | ⟨h1, h2⟩
        · subst h2
          have i1 : ¬ ((k : Int) < 0) := by omega
          clear h1
          go_wp2_with fail
          go_meet
          exact ⟨rfl, rfl⟩
        · subst h2
          have i1 : ((-1 : Int) < 0) := by omega
          have HEK : Hid ((n3 : Int) = (k : Int)) := Lib.hid (by have := HN3.out; omega)
          clear h1
          go_wp2_with fail
          go_meet
          exact ⟨by rw [HEK.out], rfl⟩
      case rest =>
      obtain ⟨rfl, rfl⟩ := hcut
      rename World => w5
      clear hz
      go_wp2_with fail
      refine (KC.out w5 HS5.out).mono ?_
      rintro e wn ⟨⟨g5, l5, c5, g6, l6, c6, g7, l7, c7⟩, Nc, N0, rs0, rfl, hOc, hN0, hBn⟩
      simp only
      obtain ⟨wr, hwr⟩ : ∃ wr, wr = wn.alloc (.cells #[.slice g5 l5 c5, .slice g6 l6 c6, .slice g7 l7 c7] 27) := ⟨_, rfl⟩
      have hOR : OB (fun k => False ∨ N0 ≤ k) N0 wn.heap.size wr (.slice g5 l5 c5) (.slice g6 l6 c6) (.slice g7 l7 c7) t.cs t.vs rs0 t.ps := by rw [hwr]; exact hOc.out.rebox _
      have hSw : Since w5 wr := by rw [hwr]; exact Since.alloc hBn.out _
      have hS2 : Since W2 wr := Since.step HS5.out hSw
      have HN0R : Hid (N0 ≤ wr.heap.size) := Lib.hid (by have := hOR.hB; have := hOR.box.1; omega)
      have HNN : Hid (W2.heap.size ≤ N0) := Lib.hid (Nat.le_trans (since_size HS5.out) hN0.out)
      have HOR := Lib.hid hOR
      have HM5 : Hid ((.slice g7 l7 c7 : Value).ownBlock ≠ some Np) := Lib.hid fun e => by have := (hOR.oc.lt _ e).1; have := HNN.out; have := HSZ.out; omega
      have HM6 : Hid (Np ≠ wn.heap.size ∧ W2.heap.size ≤ wn.heap.size) := Lib.hid (by have := hOR.hB; have := HNN.out; have := HSZ.out; exact ⟨by omega, by omega⟩)
      have hln : rs0.length ≤ 1000000 := by have := hOR.lie.1; have := HLEN.out; omega
      have HKK : Hid (k ≤ rs0.length) := Lib.hid (by have := hOR.lie.1; have := hk.out.1; omega)
      have KI := Lib.hid fun (vb : Nat) (x : Tr) (w : World) hO hB hv hne => insert_any N0 vb k (.slice g7 l7 c7) rs0 x w hO hB hv hne HKK.out hln
      have HCUR := Lib.hid (show ∀ (w wn : World), Since W2 w → Below N0 w wn → Since W2 wn from fun w wn h k => Below.trans h (k.mono HNN.out))
      have KQ := Lib.hid fun (W : World) (h : Since wr W) => KD.out W (Since.step hS2 h)
      clear hOc hN0 hBn hOR hSw hln KC x0 x1 x2
      go_upto_region 12 with (fail)
      rw [← hwr]
      generalize wn.heap.size = N10 at *
      clear hwr
      obtain ⟨o0, o1, o2, -⟩ := (HY.out.keep hS2).open3
      obtain ⟨x0, x1, x2, f0, f1, f2, -⟩ := HOR.out.box.open3
      go_cut [44] (fun s wx => CutW p t.cs t.vs t.ps N0 N10 (.slice g5 l5 c5) (.slice g6 l6 c6) W2 s wx)
      case first =>
        refine wp_region_noPanic ?_
        refine wp_region_held_drew (S := fun w' => w'.cell? ⟨Np, 0, none⟩ = some (.slice b1 m1 d1) ∧ w'.cell? ⟨Np, 1, none⟩ = some (.slice b2 m2 d2) ∧ w'.cell? ⟨Np, 2, none⟩ = some (.slice b3 m3 d3) ∧ Since W2 w') (by kernel_rfl) (by (with_reducible refine ⟨Since.cell ?_ o0, Since.cell ?_ o1, Since.cell ?_ o2, ?_⟩) <;> (repeat (first | with_reducible assumption | with_reducible exact Since.refl _ | with_reducible refine Since.alloc ?_ _ | with_reducible refine Since.drew ?_))) (fun hHeld => ?_)
        refine wpAnyH_take (i := 0) (oi := ⟨some 38, Op.fieldAddr 27 (Operand.tmp 10) 2, 0, _, _, none⟩) (v := ?_) rfl (by kernel_rfl) (by kernel_rfl) (by kernel_rfl) (fun _ _ _ h => h) (Or.inl ⟨by rfl, ?_⟩) (by assumption) ?_
        rotate_left 1
        · (intro w hSw; (try dsimp only at hSw); go_simp; first | done | with_reducible rfl)
        try simp only [Act.put, List.setIfInBounds_toArray, List.set_cons_zero, List.set_cons_succ]
        refine wpAnyH_take (i := 2) (oi := ⟨some 40, Op.move (Operand.tmp 9), 3, _, _, none⟩) (v := ?_) rfl (by kernel_rfl) (by kernel_rfl) (by kernel_rfl) (fun _ _ _ h => h) (Or.inl ⟨by rfl, ?_⟩) (by assumption) ?_
        rotate_left 1
        · (intro w hSw; (try dsimp only at hSw); go_simp; first | done | with_reducible rfl)
        try simp only [Act.put, List.setIfInBounds_toArray, List.set_cons_zero, List.set_cons_succ]
        refine wpAnyH_take (i := 3) (oi := ⟨some 41, Op.load 27 (Operand.tmp 3), 27, _, _, none⟩) (v := ?_) rfl (by kernel_rfl) (by kernel_rfl) (by kernel_rfl) (fun _ _ _ h => h) (Or.inl ⟨by rfl, ?_⟩) (by assumption) ?_
        rotate_left 1
        · (intro w hSw; (try dsimp only at hSw); go_simp; first | done | with_reducible rfl)
        try simp only [Act.put, List.setIfInBounds_toArray, List.set_cons_zero, List.set_cons_succ]
        refine wpAnyH_ready (rs := [1, 4]) (by kernel_rfl) (by simp) ?_
        refine AllReadyH.cons (o := ⟨some 39, Op.load 23 (Operand.tmp 38), 23, _, _, none⟩) rfl (fun K hK => ?_) (AllReadyH.cons (o := ⟨some 42, Op.call { callee := Callee.value (Operand.func 31), args := #[Operand.tmp 41], argTypes := #[27] }, 27, _, _, none⟩) rfl (fun K hK => ?_) AllReadyH.nil)
        · go_simp
          try go_wp2_with fail
          refine hK.out _ _ ?_ (fun hHeld => ?_)
          · (with_reducible refine ⟨Since.cell ?_ o0, Since.cell ?_ o1, Since.cell ?_ o2, ?_⟩) <;> (repeat (first | with_reducible assumption | with_reducible exact Since.refl _ | with_reducible refine Since.alloc ?_ _ | with_reducible refine Since.drew ?_))
          clear hK K
          try simp only [Act.put, List.setIfInBounds_toArray, List.set_cons_zero, List.set_cons_succ]
          refine wpAnyH_ready (rs := [4]) (by kernel_rfl) (by simp) ?_
          refine AllReadyH.cons (o := ⟨some 42, Op.call { callee := Callee.value (Operand.func 31), args := #[Operand.tmp 41], argTypes := #[27] }, 27, _, _, none⟩) rfl (fun K hK => ?_) AllReadyH.nil
          go_simp
          refine (KQ.out _ (by (repeat (first | with_reducible assumption | with_reducible exact Since.refl _ | with_reducible refine Since.alloc ?_ _ | with_reducible refine Since.drew ?_)))).mono ?_
          rintro e v9 ⟨u9, ⟨s1, t1, u1, s2, t2, u2, s3, t3, u3⟩, rfl, hT9, HP9, hB9⟩
          try simp only
          have hSv : Since wr v9 := by (with_reducible refine Since.step ?_ hB9.out); (repeat (first | with_reducible assumption | with_reducible exact Since.refl _ | with_reducible refine Since.alloc ?_ _ | with_reducible refine Since.drew ?_))
          have hsv : Since W2 v9 := Since.step hS2 hSv
          have hSa : Since wr (v9.alloc (.cells #[.slice s1 t1 u1, .slice s2 t2 u2, .slice s3 t3 u3] 27)) := Since.alloc hSv _
          have hsa : Since W2 (v9.alloc (.cells #[.slice s1 t1 u1, .slice s2 t2 u2, .slice s3 t3 u3] 27)) := Since.step hS2 hSa
          have HOA := Lib.hid (HOR.out.frame hSa)
          have HPT := Lib.hid (HOR.out.fresh HN0R.out (Nat.le_refl _) hT9.out (Since.alloc (Since.refl v9) (.cells #[.slice s1 t1 u1, .slice s2 t2 u2, .slice s3 t3 u3] 27)))
          have hw2 := Since.cell hSv x2
          have hxa := Since.cell hSa x2
          have hxad := Since.cell (Since.drew hSa) x2
          have HBX := Lib.hid (alloc_at v9 (.cells #[.slice s1 t1 u1, .slice s2 t2 u2, .slice s3 t3 u3] 27))
          have hzB : N0 ≤ (v9.alloc (.cells #[.slice s1 t1 u1, .slice s2 t2 u2, .slice s3 t3 u3] 27)).heap.size := Nat.le_trans HN0R.out (since_size hSa)
          have hsad := Since.drew hsa
          try go_wp2_with fail
          refine hK.out _ _ ?_ (fun hHeld => ?_)
          · (with_reducible refine ⟨Since.cell ?_ o0, Since.cell ?_ o1, Since.cell ?_ o2, ?_⟩) <;> (repeat (first | with_reducible assumption | with_reducible exact Since.refl _ | with_reducible refine Since.alloc ?_ _ | with_reducible refine Since.drew ?_))
          clear hK K
          try simp only [Act.put, List.setIfInBounds_toArray, List.set_cons_zero, List.set_cons_succ]
          refine wpAnyH_ready (rs := [5]) (by kernel_rfl) (by simp) ?_
          refine AllReadyH.cons (o := ⟨some 43, Op.buildSlice 23 1 #[(0, Operand.tmp 42)], 23, _, _, none⟩) rfl (fun K hK => ?_) AllReadyH.nil
          go_simp
          try go_wp2_with fail
          refine hK.out _ _ ?_ (fun hHeld => ?_)
          · (with_reducible refine ⟨Since.cell ?_ o0, Since.cell ?_ o1, Since.cell ?_ o2, ?_⟩) <;> (repeat (first | with_reducible assumption | with_reducible exact Since.refl _ | with_reducible refine Since.alloc ?_ _ | with_reducible refine Since.drew ?_))
          clear hK K
          try simp only [Act.put, List.setIfInBounds_toArray, List.set_cons_zero, List.set_cons_succ]
          refine wpAnyH_ready (rs := [6]) (by kernel_rfl) (by simp) ?_
          refine AllReadyH.cons (o := ⟨some 44, Op.call { callee := Callee.value (Operand.func 32), args := #[Operand.tmp 39, Operand.tmp 40, Operand.tmp 43], argTypes := #[23, 3, 23] }, 23, _, _, none⟩) rfl (fun K hK => ?_) AllReadyH.nil
          go_simp
          refine (KI.out v9.heap.size ⟨s1, t1, u1, s2, t2, u2, s3, t3, u3⟩ _ ?_ ?_ ?_ ?_).mono ?_
          · exact HOA.out.oc
          · exact hzB
          · exact HBX.out
          · exact fun e => by have := (HOR.out.oc.lt _ e).2; have := since_size hSv; omega
          rintro e wn ⟨ak, lk, ck, rfl, hOn, hPn0, hBn⟩
          have hPn : Hid (PF (.slice g7 l7 c7) (v9.alloc (.cells #[.slice s1 t1 u1, .slice s2 t2 u2, .slice s3 t3 u3] 27)) wn (.slice ak lk ck)) := hPn0
          obtain ⟨y0, y1, y2, g0, g1, g2, -⟩ := (HOA.out.there3 hPn.out).open3
          have hsn : Since W2 wn := by (with_reducible refine HCUR.out _ _ ?_ hBn.out); (repeat (first | with_reducible assumption | with_reducible exact Since.refl _ | with_reducible refine Since.alloc ?_ _ | with_reducible refine Since.drew ?_))
          have ho0 := cell_pf hPn.out HM5.out (Since.cell hSa o0)
          have ho1 := cell_pf hPn.out HM5.out (Since.cell hSa o1)
          have ho2 := cell_pf hPn.out HM5.out (Since.cell hSa o2)
          clear hPn0
          try go_wp2_with fail
          refine hK.out _ _ ?_ (fun hHeld => ?_)
          · first | exact ⟨ho0, ho1, ho2, hsn⟩ | exact ⟨ho0, ho1, ho2, Since.drew hsn⟩
          clear hK K
          try simp only [Act.put, List.setIfInBounds_toArray, List.set_cons_zero, List.set_cons_succ]
          refine wpAnyH_take (i := 7) (oi := ⟨some 45, Op.fieldAddr 27 (Operand.tmp 10) 2, 0, _, _, none⟩) (v := ?_) rfl (by kernel_rfl) (by kernel_rfl) (by kernel_rfl) (fun _ _ _ h => h) (Or.inl ⟨by rfl, ?_⟩) (by assumption) ?_
          rotate_left 1
          · (intro w hSw; (try dsimp only at hSw); go_simp; first | done | with_reducible rfl)
          try simp only [Act.put, List.setIfInBounds_toArray, List.set_cons_zero, List.set_cons_succ]
          refine wpAnyH_ready (rs := [8]) (by kernel_rfl) (by simp) ?_
          refine AllReadyH.cons (o := ⟨none, Op.store 23 (Operand.tmp 45) (Operand.tmp 44), 0, _, _, none⟩) rfl (fun K hK => ?_) AllReadyH.nil
          go_simp
          go_wp2_with fail
          have hsp : Since W2 (wn.setCell ⟨N10, 2, none⟩ (.slice ak lk ck)) := since_set hsn HM6.out.2 _ _
          refine hK.out _ _ ?_ (fun hHeld => ?_)
          · first | exact ⟨cell_set HM6.out.1 ho0, cell_set HM6.out.1 ho1, cell_set HM6.out.1 ho2, hsp⟩ | exact ⟨cell_set HM6.out.1 ho0, cell_set HM6.out.1 ho1, cell_set HM6.out.1 ho2, Since.drew hsp⟩
          clear hK K
          try simp only [Act.put, List.setIfInBounds_toArray, List.set_cons_zero, List.set_cons_succ]
          refine wpAnyH_done (by kernel_rfl) ?_ _
          refine NoPanic.normal ?_
          have HL9 := Lib.hid (HOA.out.lie.ins k (r := ⟨s1, t1, u1, s2, t2, u2, s3, t3, u3⟩) HPT.out)
          have HO7 : Hid (OB (fun k => False ∨ N0 ≤ k) N0 N10 (wn.setCell ⟨N10, 2, none⟩ (.slice ak lk ck)) (.slice g5 l5 c5) (.slice g6 l6 c6) (.slice ak lk ck) t.cs t.vs (rs0.take k ++ ⟨s1, t1, u1, s2, t2, u2, s3, t3, u3⟩ :: rs0.drop k) (partL p t.ps)) := Lib.hid (by rw [hk.out.2, ← HP9.out]; exact HOA.out.set3 hPn.out hOn.out HL9.out)
          have HS7 : Hid (Since W2 (wn.setCell ⟨N10, 2, none⟩ (.slice ak lk ck))) := Lib.hid hsp
          have HC7 := Lib.hid (cutW_of HO7 HS7)
          go_wp2_with fail
          go_meet
          exact HC7.out
        · go_simp
          refine (KQ.out _ (by (repeat (first | with_reducible assumption | with_reducible exact Since.refl _ | with_reducible refine Since.alloc ?_ _ | with_reducible refine Since.drew ?_)))).mono ?_
          rintro e v9 ⟨u9, ⟨s1, t1, u1, s2, t2, u2, s3, t3, u3⟩, rfl, hT9, HP9, hB9⟩
          try simp only
          have hSv : Since wr v9 := by (with_reducible refine Since.step ?_ hB9.out); (repeat (first | with_reducible assumption | with_reducible exact Since.refl _ | with_reducible refine Since.alloc ?_ _ | with_reducible refine Since.drew ?_))
          have hsv : Since W2 v9 := Since.step hS2 hSv
          have hSa : Since wr (v9.alloc (.cells #[.slice s1 t1 u1, .slice s2 t2 u2, .slice s3 t3 u3] 27)) := Since.alloc hSv _
          have hsa : Since W2 (v9.alloc (.cells #[.slice s1 t1 u1, .slice s2 t2 u2, .slice s3 t3 u3] 27)) := Since.step hS2 hSa
          have HOA := Lib.hid (HOR.out.frame hSa)
          have HPT := Lib.hid (HOR.out.fresh HN0R.out (Nat.le_refl _) hT9.out (Since.alloc (Since.refl v9) (.cells #[.slice s1 t1 u1, .slice s2 t2 u2, .slice s3 t3 u3] 27)))
          have hw2 := Since.cell hSv x2
          have hxa := Since.cell hSa x2
          have hxad := Since.cell (Since.drew hSa) x2
          have HBX := Lib.hid (alloc_at v9 (.cells #[.slice s1 t1 u1, .slice s2 t2 u2, .slice s3 t3 u3] 27))
          have hzB : N0 ≤ (v9.alloc (.cells #[.slice s1 t1 u1, .slice s2 t2 u2, .slice s3 t3 u3] 27)).heap.size := Nat.le_trans HN0R.out (since_size hSa)
          have hsad := Since.drew hsa
          try go_wp2_with fail
          refine hK.out _ _ ?_ (fun hHeld => ?_)
          · (with_reducible refine ⟨Since.cell ?_ o0, Since.cell ?_ o1, Since.cell ?_ o2, ?_⟩) <;> (repeat (first | with_reducible assumption | with_reducible exact Since.refl _ | with_reducible refine Since.alloc ?_ _ | with_reducible refine Since.drew ?_))
          clear hK K
          try simp only [Act.put, List.setIfInBounds_toArray, List.set_cons_zero, List.set_cons_succ]
          refine wpAnyH_ready (rs := [1, 5]) (by kernel_rfl) (by simp) ?_
          refine AllReadyH.cons (o := ⟨some 39, Op.load 23 (Operand.tmp 38), 23, _, _, none⟩) rfl (fun K hK => ?_) (AllReadyH.cons (o := ⟨some 43, Op.buildSlice 23 1 #[(0, Operand.tmp 42)], 23, _, _, none⟩) rfl (fun K hK => ?_) AllReadyH.nil)
          · go_simp
            try go_wp2_with fail
            refine hK.out _ _ ?_ (fun hHeld => ?_)
            · (with_reducible refine ⟨Since.cell ?_ o0, Since.cell ?_ o1, Since.cell ?_ o2, ?_⟩) <;> (repeat (first | with_reducible assumption | with_reducible exact Since.refl _ | with_reducible refine Since.alloc ?_ _ | with_reducible refine Since.drew ?_))
            clear hK K
            try simp only [Act.put, List.setIfInBounds_toArray, List.set_cons_zero, List.set_cons_succ]
            refine wpAnyH_ready (rs := [5]) (by kernel_rfl) (by simp) ?_
            refine AllReadyH.cons (o := ⟨some 43, Op.buildSlice 23 1 #[(0, Operand.tmp 42)], 23, _, _, none⟩) rfl (fun K hK => ?_) AllReadyH.nil
            go_simp
            try go_wp2_with fail
            refine hK.out _ _ ?_ (fun hHeld => ?_)
            · (with_reducible refine ⟨Since.cell ?_ o0, Since.cell ?_ o1, Since.cell ?_ o2, ?_⟩) <;> (repeat (first | with_reducible assumption | with_reducible exact Since.refl _ | with_reducible refine Since.alloc ?_ _ | with_reducible refine Since.drew ?_))
            clear hK K
            try simp only [Act.put, List.setIfInBounds_toArray, List.set_cons_zero, List.set_cons_succ]
            refine wpAnyH_ready (rs := [6]) (by kernel_rfl) (by simp) ?_
            refine AllReadyH.cons (o := ⟨some 44, Op.call { callee := Callee.value (Operand.func 32), args := #[Operand.tmp 39, Operand.tmp 40, Operand.tmp 43], argTypes := #[23, 3, 23] }, 23, _, _, none⟩) rfl (fun K hK => ?_) AllReadyH.nil
            go_simp
            refine (KI.out v9.heap.size ⟨s1, t1, u1, s2, t2, u2, s3, t3, u3⟩ _ ?_ ?_ ?_ ?_).mono ?_
            · exact HOA.out.oc
            · exact hzB
            · exact HBX.out
            · exact fun e => by have := (HOR.out.oc.lt _ e).2; have := since_size hSv; omega
            rintro e wn ⟨ak, lk, ck, rfl, hOn, hPn0, hBn⟩
            have hPn : Hid (PF (.slice g7 l7 c7) (v9.alloc (.cells #[.slice s1 t1 u1, .slice s2 t2 u2, .slice s3 t3 u3] 27)) wn (.slice ak lk ck)) := hPn0
            obtain ⟨y0, y1, y2, g0, g1, g2, -⟩ := (HOA.out.there3 hPn.out).open3
            have hsn : Since W2 wn := by (with_reducible refine HCUR.out _ _ ?_ hBn.out); (repeat (first | with_reducible assumption | with_reducible exact Since.refl _ | with_reducible refine Since.alloc ?_ _ | with_reducible refine Since.drew ?_))
            have ho0 := cell_pf hPn.out HM5.out (Since.cell hSa o0)
            have ho1 := cell_pf hPn.out HM5.out (Since.cell hSa o1)
            have ho2 := cell_pf hPn.out HM5.out (Since.cell hSa o2)
            clear hPn0
            try go_wp2_with fail
            refine hK.out _ _ ?_ (fun hHeld => ?_)
            · first | exact ⟨ho0, ho1, ho2, hsn⟩ | exact ⟨ho0, ho1, ho2, Since.drew hsn⟩
            clear hK K
            try simp only [Act.put, List.setIfInBounds_toArray, List.set_cons_zero, List.set_cons_succ]
            refine wpAnyH_take (i := 7) (oi := ⟨some 45, Op.fieldAddr 27 (Operand.tmp 10) 2, 0, _, _, none⟩) (v := ?_) rfl (by kernel_rfl) (by kernel_rfl) (by kernel_rfl) (fun _ _ _ h => h) (Or.inl ⟨by rfl, ?_⟩) (by assumption) ?_
            rotate_left 1
            · (intro w hSw; (try dsimp only at hSw); go_simp; first | done | with_reducible rfl)
            try simp only [Act.put, List.setIfInBounds_toArray, List.set_cons_zero, List.set_cons_succ]
            refine wpAnyH_ready (rs := [8]) (by kernel_rfl) (by simp) ?_
            refine AllReadyH.cons (o := ⟨none, Op.store 23 (Operand.tmp 45) (Operand.tmp 44), 0, _, _, none⟩) rfl (fun K hK => ?_) AllReadyH.nil
            go_simp
            go_wp2_with fail
            have hsp : Since W2 (wn.setCell ⟨N10, 2, none⟩ (.slice ak lk ck)) := since_set hsn HM6.out.2 _ _
            refine hK.out _ _ ?_ (fun hHeld => ?_)
            · first | exact ⟨cell_set HM6.out.1 ho0, cell_set HM6.out.1 ho1, cell_set HM6.out.1 ho2, hsp⟩ | exact ⟨cell_set HM6.out.1 ho0, cell_set HM6.out.1 ho1, cell_set HM6.out.1 ho2, Since.drew hsp⟩
            clear hK K
            try simp only [Act.put, List.setIfInBounds_toArray, List.set_cons_zero, List.set_cons_succ]
            refine wpAnyH_done (by kernel_rfl) ?_ _
            refine NoPanic.normal ?_
            have HL9 := Lib.hid (HOA.out.lie.ins k (r := ⟨s1, t1, u1, s2, t2, u2, s3, t3, u3⟩) HPT.out)
            have HO7 : Hid (OB (fun k => False ∨ N0 ≤ k) N0 N10 (wn.setCell ⟨N10, 2, none⟩ (.slice ak lk ck)) (.slice g5 l5 c5) (.slice g6 l6 c6) (.slice ak lk ck) t.cs t.vs (rs0.take k ++ ⟨s1, t1, u1, s2, t2, u2, s3, t3, u3⟩ :: rs0.drop k) (partL p t.ps)) := Lib.hid (by rw [hk.out.2, ← HP9.out]; exact HOA.out.set3 hPn.out hOn.out HL9.out)
            have HS7 : Hid (Since W2 (wn.setCell ⟨N10, 2, none⟩ (.slice ak lk ck))) := Lib.hid hsp
            have HC7 := Lib.hid (cutW_of HO7 HS7)
            go_wp2_with fail
            go_meet
            exact HC7.out
          · go_simp
            try go_wp2_with fail
            refine hK.out _ _ ?_ (fun hHeld => ?_)
            · (with_reducible refine ⟨Since.cell ?_ o0, Since.cell ?_ o1, Since.cell ?_ o2, ?_⟩) <;> (repeat (first | with_reducible assumption | with_reducible exact Since.refl _ | with_reducible refine Since.alloc ?_ _ | with_reducible refine Since.drew ?_))
            clear hK K
            try simp only [Act.put, List.setIfInBounds_toArray, List.set_cons_zero, List.set_cons_succ]
            refine wpAnyH_ready (rs := [1]) (by kernel_rfl) (by simp) ?_
            refine AllReadyH.cons (o := ⟨some 39, Op.load 23 (Operand.tmp 38), 23, _, _, none⟩) rfl (fun K hK => ?_) AllReadyH.nil
            go_simp
            try go_wp2_with fail
            refine hK.out _ _ ?_ (fun hHeld => ?_)
            · (with_reducible refine ⟨Since.cell ?_ o0, Since.cell ?_ o1, Since.cell ?_ o2, ?_⟩) <;> (repeat (first | with_reducible assumption | with_reducible exact Since.refl _ | with_reducible refine Since.alloc ?_ _ | with_reducible refine Since.drew ?_))
            clear hK K
            try simp only [Act.put, List.setIfInBounds_toArray, List.set_cons_zero, List.set_cons_succ]
            refine wpAnyH_ready (rs := [6]) (by kernel_rfl) (by simp) ?_
            refine AllReadyH.cons (o := ⟨some 44, Op.call { callee := Callee.value (Operand.func 32), args := #[Operand.tmp 39, Operand.tmp 40, Operand.tmp 43], argTypes := #[23, 3, 23] }, 23, _, _, none⟩) rfl (fun K hK => ?_) AllReadyH.nil
            go_simp
            refine (KI.out v9.heap.size ⟨s1, t1, u1, s2, t2, u2, s3, t3, u3⟩ _ ?_ ?_ ?_ ?_).mono ?_
            · exact HOA.out.oc
            · exact hzB
            · exact HBX.out
            · exact fun e => by have := (HOR.out.oc.lt _ e).2; have := since_size hSv; omega
            rintro e wn ⟨ak, lk, ck, rfl, hOn, hPn0, hBn⟩
            have hPn : Hid (PF (.slice g7 l7 c7) (v9.alloc (.cells #[.slice s1 t1 u1, .slice s2 t2 u2, .slice s3 t3 u3] 27)) wn (.slice ak lk ck)) := hPn0
            obtain ⟨y0, y1, y2, g0, g1, g2, -⟩ := (HOA.out.there3 hPn.out).open3
            have hsn : Since W2 wn := by (with_reducible refine HCUR.out _ _ ?_ hBn.out); (repeat (first | with_reducible assumption | with_reducible exact Since.refl _ | with_reducible refine Since.alloc ?_ _ | with_reducible refine Since.drew ?_))
            have ho0 := cell_pf hPn.out HM5.out (Since.cell hSa o0)
            have ho1 := cell_pf hPn.out HM5.out (Since.cell hSa o1)
            have ho2 := cell_pf hPn.out HM5.out (Since.cell hSa o2)
            clear hPn0
            try go_wp2_with fail
            refine hK.out _ _ ?_ (fun hHeld => ?_)
            · first | exact ⟨ho0, ho1, ho2, hsn⟩ | exact ⟨ho0, ho1, ho2, Since.drew hsn⟩
            clear hK K
            try simp only [Act.put, List.setIfInBounds_toArray, List.set_cons_zero, List.set_cons_succ]
            refine wpAnyH_take (i := 7) (oi := ⟨some 45, Op.fieldAddr 27 (Operand.tmp 10) 2, 0, _, _, none⟩) (v := ?_) rfl (by kernel_rfl) (by kernel_rfl) (by kernel_rfl) (fun _ _ _ h => h) (Or.inl ⟨by rfl, ?_⟩) (by assumption) ?_
            rotate_left 1
            · (intro w hSw; (try dsimp only at hSw); go_simp; first | done | with_reducible rfl)
            try simp only [Act.put, List.setIfInBounds_toArray, List.set_cons_zero, List.set_cons_succ]
            refine wpAnyH_ready (rs := [8]) (by kernel_rfl) (by simp) ?_
            refine AllReadyH.cons (o := ⟨none, Op.store 23 (Operand.tmp 45) (Operand.tmp 44), 0, _, _, none⟩) rfl (fun K hK => ?_) AllReadyH.nil
            go_simp
            go_wp2_with fail
            have hsp : Since W2 (wn.setCell ⟨N10, 2, none⟩ (.slice ak lk ck)) := since_set hsn HM6.out.2 _ _
            refine hK.out _ _ ?_ (fun hHeld => ?_)
            · first | exact ⟨cell_set HM6.out.1 ho0, cell_set HM6.out.1 ho1, cell_set HM6.out.1 ho2, hsp⟩ | exact ⟨cell_set HM6.out.1 ho0, cell_set HM6.out.1 ho1, cell_set HM6.out.1 ho2, Since.drew hsp⟩
            clear hK K
            try simp only [Act.put, List.setIfInBounds_toArray, List.set_cons_zero, List.set_cons_succ]
            refine wpAnyH_done (by kernel_rfl) ?_ _
            refine NoPanic.normal ?_
            have HL9 := Lib.hid (HOA.out.lie.ins k (r := ⟨s1, t1, u1, s2, t2, u2, s3, t3, u3⟩) HPT.out)
            have HO7 : Hid (OB (fun k => False ∨ N0 ≤ k) N0 N10 (wn.setCell ⟨N10, 2, none⟩ (.slice ak lk ck)) (.slice g5 l5 c5) (.slice g6 l6 c6) (.slice ak lk ck) t.cs t.vs (rs0.take k ++ ⟨s1, t1, u1, s2, t2, u2, s3, t3, u3⟩ :: rs0.drop k) (partL p t.ps)) := Lib.hid (by rw [hk.out.2, ← HP9.out]; exact HOA.out.set3 hPn.out hOn.out HL9.out)
            have HS7 : Hid (Since W2 (wn.setCell ⟨N10, 2, none⟩ (.slice ak lk ck))) := Lib.hid hsp
            have HC7 := Lib.hid (cutW_of HO7 HS7)
            go_wp2_with fail
            go_meet
            exact HC7.out
      case rest =>
      obtain ⟨ak, lk, ck, rs7, rfl, hO7, hS7⟩ := hcut
      rename World => w7
      clear o0 o1 o2 x0 x1 x2 f0 f1 f2 KI KQ KD KX KV KP hS2 HS5
      have hT7 := hO7.out.done (fun k hk => .inr hk)
      have KW := Lib.hid (KWA.out _ _ _ w7 (TS.tat (fun _ h => h.2) _ hT7))
      obtain ⟨y0, y1, y2, -⟩ := hO7.out.box.open3
      have HBX7 := Lib.hid hO7.out.box
      have HT7 : Hid (TS (fun k => ((S0 k ∨ W.heap.size ≤ k) ∧ k ≠ N1 ∧ k ≠ N1) ∧ k < w7.heap.size) w7 (wth t p) (.slice g5 l5 c5) (.slice g6 l6 c6) (.slice ak lk ck)) := Lib.hid (TS.keep (w := w7) (W := w7) ⟨Nat.le_refl _, fun _ _ _ => rfl⟩ (S' := fun k => (S0 k ∨ W.heap.size ≤ k) ∧ k ≠ N1 ∧ k ≠ N1) (fun k _ hk => by have := HNN.out; have := HSZ.out; rcases hk.1 with h | h; exact h.elim; exact ⟨.inr (by omega), by omega, by omega⟩) _ hT7)
      clear hT7 KWA hO7
      go_wp2_with fail
      refine KW.out.mono ?_
      rintro e w8 ⟨rfl, hB8⟩
      have hS8 : Since W2 w8 := Since.step hS7.out hB8
      have hX8 := HBX7.out.keep hB8
      have hT8 : TS (fun k => ((S0 k ∨ W.heap.size ≤ k) ∧ k ≠ N1 ∧ k ≠ N1) ∧ k < w8.heap.size) w8 (wth t p) (.slice g5 l5 c5) (.slice g6 l6 c6) (.slice ak lk ck) := TS.keep (S' := fun k => (S0 k ∨ W.heap.size ≤ k) ∧ k ≠ N1 ∧ k ≠ N1) ⟨since_size hB8, fun b _ hl => Below.block hB8 b hl⟩ (fun b _ hb => hb.1) _ HT7.out
      clear y0 y1 y2 HT7
      obtain ⟨y0, y1, y2, -⟩ := hX8.open3
      obtain ⟨z0, z1, z2, zf0, zf1, zf2, -⟩ := (HR.out.keep hS8).open3
      by_cases hv3 : Vw = 0
      · have HFI := Lib.hid (HYS.out w8 N1 N1 ⟨g5, l5, c5, g6, l6, c6, ak, lk, ck⟩ HSZ.out.1 (HBS.out _ hS8) ((HE3.out hv1.out hv2.out).trans hv3) (HTY.out hv1.out hv2.out hv3) hT8)
        subst hv3
        unfold put3 at HFI
        clear hS8 hX8 hT8 hB8
        go_wp2
        exact bodyPost_ret (v := .tuple #[.agg #[.slice g5 l5 c5, .slice g6 l6 c6, .slice ak lk ck], .int .i64 0]) (by simp [results, Tryz.results14, go_sem, z0, z1, z2]) rfl HFI.out
      · have HFI := Lib.hid (HNO.out w8 N1 _ HSZ.out.1 (HBS.out _ hS8) (HE3.out hv1.out hv2.out) hv3)
        have hv4 : (Vw != 0) = true := bne_iff_ne.2 hv3
        unfold put3 at HFI
        clear hS8 hX8 hT8 hB8 hv3
        go_wp2
        exact bodyPost_ret (v := .tuple #[.agg #[.slice none 0 0, .slice none 0 0, .slice none 0 0], .int .i64 Vw]) (by simp [results, Tryz.results14, go_sem, z0, z1, z2]) rfl HFI.out

end Go.Proofs.YtelhpndlejommaaGreat

