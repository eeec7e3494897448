/- The example of the section of things. -/
import Derived.Test.YtelhpndlejommaaGreatZd
namespace Go.Proofs.YtelhpndlejommaaGreat
open Go.RowKit Go.Shelf

def litT : Th := .mk [2, 5] [⟨1, 3, 2⟩] [.mk [0] [] []]

theorem litT_size : litT.size = 2 := by simp [litT, Th.size, Th.sizes]
theorem litT_deep : litT.deep = 2 := by simp [litT, Th.deep, Th.deeps]

theorem inc_two {a b lim : Int} (h0 : 0 ≤ a) (h1 : a < b) (h2 : b < lim) : Inc lim [a, b] := fun i x hx => by
  match i with
  | 0 => simp at hx; subst hx; exact ⟨h0, by omega, fun y h => by omega⟩
  | 1 =>
    simp at hx
    subst hx
    refine ⟨by omega, h2, fun y _ hy => ?_⟩
    simp at hy
    omega
  | i + 2 => simp at hx

theorem inc_one {a lim : Int} (h0 : 0 ≤ a) (h2 : a < lim) : Inc lim [a] := fun i x hx => by
  match i with
  | 0 => simp at hx; subst hx; exact ⟨h0, by omega, fun y h => by omega⟩
  | i + 1 => simp at hx

theorem litT_good : litT.good := by
  refine ⟨⟨inc_two (by decide) (by decide) (by decide), fun v hv => ?_, inc_one (by decide) (by decide)⟩, ⟨⟨inc_one (by decide) (by decide), fun v hv => (by cases hv), Inc.nil 32⟩, trivial⟩, trivial⟩
  rw [List.mem_singleton.1 hv]
  exact ⟨⟨by decide, by decide, by decide, by decide, by decide⟩, by decide⟩

theorem litT_valid : validT litT = 0 := by
  unfold validT
  rw [litT_size, litT_deep, if_neg (by omega), if_pos (Th.goodB_t litT_good)]

theorem litT_wf : litT.wf := by
  refine ⟨⟨⟨fun z hz => ?_, by simp⟩, fun v hv => ?_, by simp⟩, ⟨⟨⟨fun z hz => ?_, by simp⟩, fun v hv => (by cases hv), by simp⟩, trivial⟩, trivial⟩
  · simp at hz; rcases hz with rfl | rfl <;> exact ⟨by decide, by decide⟩
  · rw [List.mem_singleton.1 hv]; exact ⟨⟨by decide, by decide⟩, ⟨by decide, by decide⟩, ⟨by decide, by decide⟩⟩
  · simp at hz; subst hz; exact ⟨by decide, by decide⟩

theorem litT_enc : litT.enc = [2, 4, 10, 2, 2, 6, 4, 2, 1, 0, 0, 0] := by
  have h : ∀ n : Nat, n < 128 → Hm.uv n = [(n : Int)] := fun n hn => Hm.uv_small hn
  simp [litT, Th.enc, Th.encL, numsL, Va.nums, encs, Hm.zig, h]

/-- A thing of three slices. -/
theorem tat_of {w : World} {cs : List Int} {vs : List Va} {ps : List Th} {a b c : Value} (h1 : Els .i64 w a cs) (h2 : REls RVa w b vs) (h3 : Ps w.heap.size w c ps) : TAt w.heap.size w (.mk cs vs ps) a b c := TAt.of h1 h1.lows h2 h2.lows h3

theorem ps_nil {B : Nat} {w : World} : Ps B w (.slice none 0 0) [] := .inl ⟨.inl rfl, rfl⟩

theorem rels_nil {α : Type} {R : RowOf α} {w : World} : REls R w (.slice none 0 0) [] := .inl ⟨.inl rfl, rfl⟩

theorem els_nil {k : IntKind} {w : World} : Els k w (.slice none 0 0) [] := .inl ⟨.inl rfl, rfl⟩

/-- A new row of one thing. -/
theorem ps_one {w : World} {t : Th} {a b c : Value} (h : TAt w.heap.size w t a b c) (T : TypeId) : Ps (w.alloc (.cells #[a, b, c] T)).heap.size (w.alloc (.cells #[a, b, c] T)) (.slice (some ⟨w.heap.size, 0, none⟩) 1 1) [t] := by
  have hX := BoxL.made w #[a, b, c] T
  refine .inr ⟨w.heap.size, 1, by simp, by simp, rfl, Nat.le_refl _, ⟨a, b, c, ?_, ?_, ?_, h.under _⟩, trivial⟩
  · exact (hX.2 0 a rfl).1
  · exact (hX.2 1 b rfl).1
  · exact (hX.2 2 c rfl).1

theorem lit_at (w : World) (T1 T2 T3 : TypeId) : ∃ W a b c, W = (((w.alloc (.cells #[.int .i64 2, .int .i64 5] T1)).alloc (.cells #[.int .i64 1, .int .i64 3, .int .i64 2] T2)).alloc (.cells #[.int .i64 0] T1)).alloc (.cells #[.slice (some ⟨w.heap.size + 1 + 1, 0, none⟩) 1 1, .slice none 0 0, .slice none 0 0] T3) ∧
    a = .slice (some ⟨w.heap.size, 0, none⟩) 2 2 ∧ b = .slice (some ⟨w.heap.size + 1, 0, none⟩) 1 1 ∧ c = .slice (some ⟨w.heap.size + 1 + 1 + 1, 0, none⟩) 1 1 ∧ TAt W.heap.size W litT a b c ∧ Below w.heap.size w W ∧ W.heap.size = w.heap.size + 1 + 1 + 1 + 1 := by
  refine ⟨_, _, _, _, rfl, rfl, rfl, rfl, ?_, ?_, by simp⟩
  · have e1 : Els .i64 (w.alloc (.cells #[.int .i64 2, .int .i64 5] T1)) (.slice (some ⟨w.heap.size, 0, none⟩) 2 2) [2, 5] := Els.new .i64 w T1 [2, 5]
    have hb := fun (W : World) (o : Obj) => (Below.refl W.heap.size W).alloc (Nat.le_refl _) o
    have e2 := (ROwn.new RVa T2 (w.alloc (.cells #[.int .i64 2, .int .i64 5] T1)) [⟨1, 3, 2⟩] #[.int .i64 1, .int .i64 3, .int .i64 2] rfl (by unfold maxLen; simp)).els
    have e3 : Els .i64 (((w.alloc (.cells #[.int .i64 2, .int .i64 5] T1)).alloc (.cells #[.int .i64 1, .int .i64 3, .int .i64 2] T2)).alloc (.cells #[.int .i64 0] T1)) (.slice (some ⟨((w.alloc (.cells #[.int .i64 2, .int .i64 5] T1)).alloc (.cells #[.int .i64 1, .int .i64 3, .int .i64 2] T2)).heap.size, 0, none⟩) 1 1) [0] := Els.new .i64 _ T1 [0]
    have e4 := ps_one (tat_of e3 (rels_nil (R := RVa)) ps_nil) T3
    simp only [World.size_alloc] at e2 e3 e4
    have e1' := ((e1.below (hb _ (.cells #[.int .i64 1, .int .i64 3, .int .i64 2] T2))).below (hb _ (.cells #[.int .i64 0] T1))).below (hb _ (.cells #[.slice (some ⟨w.heap.size + 1 + 1, 0, none⟩) 1 1, .slice none 0 0, .slice none 0 0] T3))
    have e2' := (e2.below (hb _ (.cells #[.int .i64 0] T1))).below (hb _ (.cells #[.slice (some ⟨w.heap.size + 1 + 1, 0, none⟩) 1 1, .slice none 0 0, .slice none 0 0] T3))
    refine tat_of e1' e2' ?_
    simp only [World.size_alloc]
    exact e4
  · exact ((((Below.refl _ _).alloc (Nat.le_refl _) _).alloc (by simp) _).alloc (by simp; omega) _).alloc (by simp; omega) _

set_option maxHeartbeats 4000000 in
set_option maxRecDepth 100000 in
theorem lives06_any (w : World) : Calls Tryz.prog 13 #[] w fun e w' => e = .returned (.bool true) ∧ Below w.heap.size w w' := by
  obtain ⟨W, a, b, c, hW, rfl, rfl, rfl, hT, hB, hs⟩ := lit_at w 3 46 27
  have hbX : Below W.heap.size W (W.alloc (.cells #[.slice (some ⟨w.heap.size, 0, none⟩) 2 2, .slice (some ⟨w.heap.size + 1, 0, none⟩) 1 1, .slice (some ⟨w.heap.size + 1 + 1 + 1, 0, none⟩) 1 1] 27)) := (Below.refl _ _).alloc (Nat.le_refl _) _
  have hX := BoxL.made W #[.slice (some ⟨w.heap.size, 0, none⟩) 2 2, .slice (some ⟨w.heap.size + 1, 0, none⟩) 1 1, .slice (some ⟨w.heap.size + 1 + 1 + 1, 0, none⟩) 1 1] 27
  have hT2 := hT.below hbX
  obtain ⟨W2, hW2⟩ : ∃ W2, W2 = W.alloc (.cells #[.slice (some ⟨w.heap.size, 0, none⟩) 2 2, .slice (some ⟨w.heap.size + 1, 0, none⟩) 1 1, .slice (some ⟨w.heap.size + 1 + 1 + 1, 0, none⟩) 1 1] 27) := ⟨_, rfl⟩
  rw [← hW2] at hT2 hX hbX
  rw [hs] at hX
  rw [hW] at hW2
  have HB2 := Lib.hid (hB.trans (hbX.mono hB.size))
  have KE := Lib.hid (tenc_any litT (by rw [litT_size]; omega) litT_wf _ _ _ _ hT2)
  have KSz := Lib.hid fun W' (h : Since W2 W') => tsize_any 2 litT (by rw [litT_size]; omega) (by omega) _ _ _ W' (hT2.below h)
  have KDp := Lib.hid fun W' (h : Since W2 W') => tdeep_any 2 litT (by rw [litT_size]; omega) (by omega) _ _ _ W' (hT2.below h)
  rw [litT_size] at KSz
  rw [litT_deep] at KDp
  rw [litT_valid, litT_enc] at KE
  have HX := Lib.hid hX
  clear hT hB hs hX hbX hT2 hW
  obtain ⟨x0, x1, x2, -, -, -, -⟩ := HX.out.open3
  go_enter Tryz.func13, Tryz.ntmps13
  go_upto_region 2 with (fail)
  rw [← hW2]
  clear hW2
  go_wp2_with fail
  refine (KE.out).mono ?_
  rintro e W3 hE
  rcases hE with ⟨_, a1, n1, c1, rfl, HN1, O1, B1⟩ | ⟨h, _⟩
  rotate_left 1
  · exact absurd rfl h
  obtain ⟨y0, y1, y2, -, -, -, -⟩ := (HX.out.keep B1.out).open3
  have HS3 : Hid (Since W2 W3) := Lib.hid B1.out
  clear x0 x1 x2
  go_wp2_with fail
  refine (KSz.out _ HS3.out).mono ?_
  rintro e W4 ⟨rfl, hr⟩
  have HS4 : Hid (Since W2 W4) := Lib.hid (Since.step HS3.out hr)
  have HE4 := Lib.hid (O1.out.els.below hr)
  obtain ⟨z0, z1, z2, -, -, -, -⟩ := (HX.out.keep HS4.out).open3
  clear y0 y1 y2 hr O1
  go_wp2_with fail
  refine (KDp.out _ HS4.out).mono ?_
  rintro e W5 ⟨rfl, hr⟩
  have HS5 : Hid (Since W2 W5) := Lib.hid (Since.step HS4.out hr)
  have HE5 := Lib.hid (HE4.out.below hr)
  have hb6 : Below W5.heap.size W5 (W5.alloc (.cells #[.int .u8 2, .int .u8 4, .int .u8 10, .int .u8 2, .int .u8 2, .int .u8 6, .int .u8 4, .int .u8 2, .int .u8 1, .int .u8 0, .int .u8 0, .int .u8 0] 5)) := (Below.refl _ _).alloc (Nat.le_refl _) _
  have e6 : Els .u8 (W5.alloc (.cells #[.int .u8 2, .int .u8 4, .int .u8 10, .int .u8 2, .int .u8 2, .int .u8 6, .int .u8 4, .int .u8 2, .int .u8 1, .int .u8 0, .int .u8 0, .int .u8 0] 5)) (.slice (some ⟨W5.heap.size, 0, none⟩) 12 12) [2, 4, 10, 2, 2, 6, 4, 2, 1, 0, 0, 0] := Els.new .u8 W5 5 [2, 4, 10, 2, 2, 6, 4, 2, 1, 0, 0, 0]
  have k6 := sameBytes_any _ _ _ _ _ (HE5.out.below hb6) e6 (by simp)
  rw [decide_eq_true rfl] at k6
  have K6 := Lib.hid k6
  have HS6 : Hid (Since W2 (W5.alloc (.cells #[.int .u8 2, .int .u8 4, .int .u8 10, .int .u8 2, .int .u8 2, .int .u8 6, .int .u8 4, .int .u8 2, .int .u8 1, .int .u8 0, .int .u8 0, .int .u8 0] 5))) := Lib.hid (Since.step HS5.out hb6)
  clear z0 z1 z2 hr hb6 e6 k6
  go_wp2_with fail
  refine (K6.out).mono ?_
  rintro e W7 ⟨rfl, hr⟩
  have HS7 := Lib.hid (Since.step HS6.out hr)
  have HZ := Lib.hid (HB2.out.trans (Below.mono HS7.out HB2.out.size))
  clear hr
  go_wp2
  go_ret
  exact ⟨rfl, HZ.out⟩

end Go.Proofs.YtelhpndlejommaaGreat
