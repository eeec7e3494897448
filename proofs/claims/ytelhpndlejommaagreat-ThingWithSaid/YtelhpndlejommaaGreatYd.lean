/- Contracts of package thing: proper. -/
import Derived.Test.YtelhpndlejommaaGreatYc
namespace Go.Proofs.YtelhpndlejommaaGreat
open Go.RowKit Go.Shelf

/-- proper, for things of at most so many nodes. -/
def ProperK (m : Nat) : Prop := ∀ (u : Th), u.size ≤ m → u.wf → ∀ (x y z : Value) (W : World), TAt W.heap.size W u x y z → Calls Tryz.prog 24 #[.agg #[x, y, z]] W fun e w' => e = .returned (.bool u.goodB) ∧ Below W.heap.size W w'

/-- A box stays, where what is below a size stays, and it lies below. -/
theorem BoxL.keep2 {W w1 : World} {N B : Nat} {vs : List Value} (h : BoxL N vs W) (hN : N < B) (hb : Below B W w1) : BoxL N vs w1 :=
  ⟨Nat.lt_of_lt_of_le h.1 hb.size, fun i v hv => ⟨(hb.cell (p := ⟨N, i, none⟩) hN).trans (h.2 i v hv).1, (hb.frozen (p := ⟨N, i, none⟩) hN).trans (h.2 i v hv).2⟩⟩

set_option maxHeartbeats 1000000 in
set_option maxRecDepth 100000 in
theorem prop1_any (m : Nat) (KP : Hid (ProperK m)) (u : Th) (hu : u.size ≤ m) (hw : u.wf) (x y z : Value) (W : World) (h : TAt W.heap.size W u x y z) :
    Calls Tryz.prog 53 #[.agg #[x, y, z]] W fun e w' => e = .returned (.bool (!u.goodB)) ∧ Below W.heap.size W w' := by
  obtain ⟨a1, c1, a2, c2, a3, c3, rfl, rfl, rfl, -⟩ := h.shape
  have K := Lib.hid fun o => KP.out u hu hw _ _ _ (W.alloc o) (h.under o)
  generalize u.goodB = G at *
  generalize u.cs.length = n1 at *
  generalize u.vs.length = n2 at *
  generalize u.ps.length = n3 at *
  clear h KP hu hw
  go_enter Tryz.func53, Tryz.ntmps53
  go_wp2_with fail
  refine (K.out _).mono ?_
  rintro e w2 ⟨rfl, hr⟩
  have HB := Lib.hid (below_new hr)
  clear hr
  go_wp2
  go_ret
  exact ⟨rfl, HB.out⟩

theorem sizes_le {ts : List Th} {m : Nat} {t : Th} (h : Th.sizes ts ≤ m) (ht : t ∈ ts) : t.size ≤ m := Nat.le_trans (Th.sizes_mem ht) h

set_option maxHeartbeats 4000000 in
set_option maxRecDepth 100000 in
theorem idxp_any (m : Nat) (hm : m ≤ 1000000) (KP : Hid (ProperK m)) (sv : Value) (ts : List Th) (w : World) (h : Ps w.heap.size w sv ts) (hs : Th.sizes ts ≤ m) (hw : ∀ t ∈ ts, t.wf) :
    Calls Tryz.prog 28 #[sv, .func (.func 53) #[] #[]] w (IdxT ts Th.good w) := by
  obtain ⟨a, cap, rfl⟩ := h.shape
  have HP := Lib.hid h
  have HS := Lib.hid hs
  have HW := Lib.hid hw
  have hl := Th.sizes_len ts
  have K1 := Lib.hid fun (u : Th) (hu : u ∈ ts) x y z W (hh : TAt W.heap.size W u x y z) => prop1_any m KP u (sizes_le hs hu) (hw u hu) x y z W hh
  generalize hn : ts.length = n at *
  have HN := Lib.hid hn
  have hn6 : n ≤ 1000000 := by omega
  clear h hs hw hn hl KP
  go_enter Tryz.func28, Tryz.ntmps28
  go_wp2
  go_loopw [8] (fun x wr => ∃ k : Nat, k ≤ n ∧ x = .int .i64 k ∧ Hid (∀ t ∈ ts.take k, t.good) ∧ Hid (Below w.heap.size w wr)) (fun x _ => n - (intOf x).toNat)
  case atStart => exact ⟨0, by omega, rfl, fun t ht => by simp at ht, Below.refl _ _⟩
  case round =>
    obtain ⟨k, hk, rfl, hG, hB⟩ := hrel
    by_cases hlt : k < n
    · have i1 : (k : Int) < n := by omega
      obtain ⟨g, u, rfl, hgB, hgs, hcap, hu, x, y, z, q0, q1, q2, hT⟩ := (HP.out.low hB.out).get hlt
      have hmem := List.mem_of_getElem? hu
      have K := Lib.hid (K1.out u hmem x y z wr (hT.mono hB.out.size))
      have HGT : Hid (u.goodB = true → ∀ t ∈ ts.take (k + 1), t.good) := Lib.hid fun hg t ht => by
        rw [List.take_add_one, hu, List.mem_append] at ht
        rcases ht with ht | ht
        · exact hG.out t ht
        · simp at ht
          subst ht
          exact Th.goodB_iff.1 hg
      have HGF : Hid (u.goodB = false → ¬ ∀ t ∈ ts, t.good) := Lib.hid fun hg hall => by
        have := Th.goodB_t (hall u hmem)
        rw [hg] at this
        cases this
      generalize u.goodB = G at *
      clear hT hu hmem
      go_wp2_with fail
      refine (K.out).mono ?_
      rintro e w1 ⟨rfl, hr⟩
      have H1 := Lib.hid (hB.out.trans (hr.mono hB.out.size))
      clear hr hB
      cases G
      case true =>
        have HA := Lib.hid (HGT.out rfl)
        clear HGT HGF hG
        go_wp2
        go_roundw
        case rel => exact ⟨k + 1, by omega, by go_num, HA, H1⟩
        case measure => simp [intOf]; omega
      case false =>
        have HA := Lib.hid (HGF.out rfl)
        clear HGT HGF hG
        go_wp2
        go_ret
        exact ⟨k, rfl, .inr ⟨HA.out, by omega⟩, H1.out⟩
    · have i1 : ¬ (k : Int) < n := by omega
      have HA : Hid (∀ t ∈ ts, t.good) := Lib.hid (by have := hG.out; rwa [List.take_of_length_le (by rw [HN.out]; omega)] at this)
      clear hG
      go_wp2
      go_ret
      exact ⟨-1, rfl, .inl ⟨HA.out, rfl⟩, hB.out⟩

open Classical in
set_option maxHeartbeats 2000000 in
set_option maxRecDepth 100000 in
theorem conp_any (m : Nat) (hm : m ≤ 1000000) (KP : Hid (ProperK m)) (sv : Value) (ts : List Th) (w : World) (h : Ps w.heap.size w sv ts) (hs : Th.sizes ts ≤ m) (hw : ∀ t ∈ ts, t.wf) :
    Calls Tryz.prog 49 #[sv, .func (.func 53) #[] #[]] w fun e w' => e = .returned (.bool (!decide (∀ t ∈ ts, t.good))) ∧ Below w.heap.size w w' := by
  have k1 := Lib.hid (idxp_any m hm KP sv ts w h hs hw)
  obtain ⟨a, cap, rfl⟩ := h.shape
  generalize ts.length = n at *
  clear h hw hs KP
  go_enter Tryz.func49, Tryz.ntmps49
  go_wp2_with fail
  refine (k1.out).mono ?_
  rintro e w1 ⟨v, rfl, hv, hB⟩
  have HV : Hid (decide (0 ≤ v) = !decide (∀ t ∈ ts, t.good)) := Lib.hid (by
    rcases hv with ⟨h1, rfl⟩ | ⟨h1, h2⟩
    · rw [decide_eq_true h1]; rfl
    · rw [decide_eq_false h1, decide_eq_true h2]; rfl)
  have HB := Lib.hid hB
  clear hv hB
  go_wp2
  go_ret
  exact ⟨ret_bool HV.out, HB.out⟩

theorem good_b {t : Th} {A B : Prop} (h : t.good ↔ A ∧ B) : (¬ A → t.goodB = false) ∧ (A → ¬ B → t.goodB = false) ∧ (A → B → t.goodB = true) :=
  ⟨fun ha => Th.goodB_f fun hg => ha (h.1 hg).1, fun _ hb => Th.goodB_f fun hg => hb (h.1 hg).2, fun ha hb => Th.goodB_t (h.2 ⟨ha, hb⟩)⟩

open Classical in
set_option maxHeartbeats 8000000 in
set_option maxRecDepth 100000 in
theorem proper_step (m : Nat) (hm : m ≤ 1000000) (KP : Hid (ProperK m)) : ProperK (m + 1) := by
  intro t ht hwf a b c w h
  obtain ⟨a1, c1, a2, c2, a3, c3, rfl, rfl, rfl, hC, hV, hP, -, -⟩ := h.shape
  have HB0 := Lib.hid ((Below.refl w.heap.size w).alloc (Nat.le_refl _) (.cells #[.slice a1 t.cs.length c1, .slice a2 t.vs.length c2, .slice a3 t.ps.length c3] 27))
  have XA := Lib.hid (BoxL.made w #[.slice a1 t.cs.length c1, .slice a2 t.vs.length c2, .slice a3 t.ps.length c3] 27)
  have hge := t.good_eq
  obtain ⟨⟨⟨-, hcl⟩, hwv, hvl⟩, hwp⟩ := t.wf_eq.1 hwf
  have hsm : Th.sizes t.ps ≤ m := by have := t.size_eq; omega
  have KC := Lib.hid fun W (hB : Below w.heap.size w W) => inc_any a1 t.cs.length c1 t.cs 64 W (hC.below hB) (by omega)
  have KD := Lib.hid fun W (hB : Below w.heap.size w W) => conp_any m hm KP _ t.ps W (hP.below hB) hsm hwp
  have KR := Lib.hid fun (v : Va) (hv : v ∈ t.vs) W => rvalid_any v.n v.d W (hwv v hv).2.1 (hwv v hv).2.2
  have KI := Lib.hid fun (ao : Option Addr) (no co : Nat) (L : List Int) W (hE : Els .i64 W (.slice ao no co) L) (hl : no ≤ 1000000000) => inc_any ao no co L 32 W hE hl
  have HV := Lib.hid hV
  have HI0 := Lib.hid Tryz.infoI64
  have hg1 : (¬ Inc 64 t.cs → t.goodB = false) := fun hn => Th.goodB_f fun hg => hn (hge.1 hg).1.1
  have hg2 : (∀ v ∈ t.vs, ¬ v.ok → t.goodB = false) := fun v hv hn => Th.goodB_f fun hg => hn ((hge.1 hg).1.2.1 v hv)
  have hg3 : (¬ Inc 32 (t.vs.map Va.t) → t.goodB = false) := fun hn => Th.goodB_f fun hg => hn (hge.1 hg).1.2.2
  have hg4 : Inc 64 t.cs → (∀ v ∈ t.vs, v.ok) → Inc 32 (t.vs.map Va.t) → t.goodB = decide (∀ u ∈ t.ps, u.good) := fun h1 h2 h3 => by
    by_cases hall : ∀ u ∈ t.ps, u.good
    · rw [decide_eq_true hall]; exact Th.goodB_t (hge.2 ⟨⟨h1, h2, h3⟩, hall⟩)
    · rw [decide_eq_false hall]; exact Th.goodB_f fun hg => hall (hge.1 hg).2
  have HG1 := Lib.hid hg1
  have HG2 := Lib.hid hg2
  have HG3 := Lib.hid hg3
  have HG4 := Lib.hid hg4
  generalize t.goodB = T at *
  generalize t.ps = ps at *
  generalize t.cs = cs at *
  generalize t.vs = vs at *
  generalize decide (∀ u ∈ ps, u.good) = D at *
  generalize cs.length = n1 at *
  generalize ps.length = n3 at *
  generalize hn : vs.length = n at *
  have HN := Lib.hid hn
  have hn6 : n ≤ 1000000 := by omega
  clear h hC hV hP hge hwv hwp hwf hsm hvl hg1 hg2 hg3 hg4 hn KP
  go_enter Tryz.func24, Tryz.ntmps24
  go_wp2
  go_loopw [3, 9] (fun s x wr => ∃ k : Nat, ∃ ao no co, k ≤ n ∧ x = .int .i64 k ∧ s = .slice ao no co ∧ Hid (∀ v ∈ vs.take k, v.ok) ∧ Hid (Own .i64 3 (w.heap.size + 1) wr (.slice ao no co) ((vs.take k).map Va.t)) ∧ Hid (BoxL w.heap.size [.slice a1 n1 c1, .slice a2 n c2, .slice a3 n3 c3] wr) ∧ Hid (Below w.heap.size w wr)) (fun _ x _ => n - (intOf x).toNat)
  case atStart => exact ⟨0, none, 0, 0, by omega, rfl, rfl, fun v hv => by simp at hv, World.ownsRow_nil _ _ _ _, XA, HB0⟩
  case round =>
    obtain ⟨k, ao, no, co, hk, rfl, rfl, hG, hO, hX, hB⟩ := hrel
    clear XA
    by_cases hlt : k < n
    · have i1 : (k : Int) < n := by omega
      obtain ⟨v, hv⟩ : ∃ v, vs[k]? = some v := ⟨vs[k]'(by rw [HN.out]; exact hlt), List.getElem?_eq_getElem _⟩
      obtain ⟨g, rfl, hgs, hcap, -⟩ := HV.out.get hlt
      obtain ⟨q0, q1, q2, -⟩ := va_at (HV.out.below hB.out) hv
      have hmem := List.mem_of_getElem? hv
      have KRv := Lib.hid (KR.out v hmem)
      have HM : Hid (v.ok → (∀ u ∈ vs.take (k + 1), u.ok)) := Lib.hid fun hok u hu => by
        rw [List.take_add_one, hv, List.mem_append] at hu
        rcases hu with hu | hu
        · exact hG.out u hu
        · simp at hu
          subst hu
          exact hok
      have HG2v := Lib.hid (HG2.out v hmem)
      have HSN := Lib.hid (map_snoc hv)
      have hlen : ((vs.take k).map Va.t).length ≤ 1000000000000 := by
        rw [List.length_map, List.length_take]
        have := HN.out
        omega
      clear hv hmem
      obtain ⟨vt, vn, vd⟩ := v
      simp only at *
      unfold rv at KRv
      have XV := Lib.hid (BoxL.made wr #[.int .i64 vt, .int .i64 vn, .int .i64 vd] 46)
      by_cases ho : Qm.Ok vn vd
      · rw [Qm.validI_ok.2 ho] at KRv
        go_wp2_with fail
        refine (KRv.out _).mono ?_
        rintro e w2 ⟨rfl, hr⟩
        have XV2 := Lib.hid (XV.out.keep hr)
        have HB2 := Lib.hid (hB.out.trans ((below_new hr).mono hB.out.size))
        have HX2 := Lib.hid (hX.out.keep (below_new hr))
        have HO2 := Lib.hid (hO.out.below (below_new hr))
        clear hr XV hX hO hB
        obtain ⟨s0, s1, s2, -, -, -, s3⟩ := XV2.out.open3
        by_cases hd : vd ≤ 65536
        · have hd2 : ¬ vd > 65536 := by omega
          have HA := Lib.hid (HM.out ⟨ho, hd⟩)
          clear HM HG2v hG ho
          go_wp2_with (at_builtin; refine push_own rfl _ _ 22 rfl .i64 3 8 Tryz.underlying22 HI0.out (by decide) (w.heap.size + 1) (.slice ao no co) ((vs.take k).map Va.t) _ _ rfl rfl HO2.out HX2.out.1 hlen ?_; intro a4 n4 c4 w4 hn4 hO4 hB4)
          have HO4 : Hid (Own .i64 3 (w.heap.size + 1) w4 (.slice a4 n4 c4) ((vs.take (k + 1)).map Va.t)) := Lib.hid (by rw [HSN.out]; exact hO4.out)
          have HX4 : Hid (BoxL w.heap.size [.slice a1 n1 c1, .slice (some ⟨g, 0, none⟩) n c2, .slice a3 n3 c3] w4) := Lib.hid (HX2.out.keep2 (Nat.lt_succ_self _) hB4.out)
          have HB4 := Lib.hid (HB2.out.trans (hB4.out.mono (Nat.le_succ _)))
          clear hO4 hB4 hn4
          go_wp2
          go_roundw
          case rel => exact ⟨k + 1, a4, n4, c4, by omega, by go_num, rfl, HA, HO4, HX4, HB4⟩
          case measure => simp [intOf]; omega
        · have hd2 : vd > 65536 := by omega
          have HT := Lib.hid (HG2v.out fun hok => hd hok.2)
          clear HG2v HM hG
          go_wp2
          go_ret
          exact ⟨ret_bool HT.out.symm, HB2.out⟩
      · have hz : Qm.validI vn vd = 1 := (Qm.validI_two vn vd).resolve_left fun h => ho (Qm.validI_ok.1 h)
        rw [hz] at KRv
        have HT := Lib.hid (HG2v.out fun hok => ho hok.1)
        clear HG2v HM hG hz
        go_wp2_with fail
        refine (KRv.out _).mono ?_
        rintro e w2 ⟨rfl, hr⟩
        have HB2 := Lib.hid (hB.out.trans ((below_new hr).mono hB.out.size))
        clear hr
        go_wp2
        go_ret
        exact ⟨ret_bool HT.out.symm, HB2.out⟩
    · have i1 : ¬ (k : Int) < n := by omega
      have hall := hG.out
      have hO5 := hO.out
      rw [List.take_of_length_le (by rw [HN.out]; omega)] at hall hO5
      have HALL := Lib.hid hall
      have hno := hO5.els.len
      have KA := KC.out wr hB.out
      have KB := KI.out ao no co (vs.map Va.t) wr hO5.els (by rw [hno, List.length_map]; have := HN.out; omega)
      have hq1 : (incB 64 cs = true → Inc 64 cs) ∧ (incB 64 cs = false → T = false) := ⟨incB_iff.1, fun h => HG1.out fun hi => by rw [incB_t hi] at h; cases h⟩
      have hq2 : (incB 32 (vs.map Va.t) = true → Inc 32 (vs.map Va.t)) ∧ (incB 32 (vs.map Va.t) = false → T = false) := ⟨incB_iff.1, fun h => HG3.out fun hi => by rw [incB_t hi] at h; cases h⟩
      generalize incB 64 cs = Q1 at *
      generalize incB 32 (vs.map Va.t) = Q2 at *
      have HQ1 := Lib.hid hq1
      have HQ2 := Lib.hid hq2
      have KAH := Lib.hid KA
      have KBH := Lib.hid KB
      have KDH := Lib.hid (KD.out wr hB.out)
      obtain ⟨r0, r1, r2, -, -, -, r3⟩ := hX.out.open3
      clear hq1 hq2 KA KB hall hO5 hno hO hG KC KD KI KR
      cases Q1
      case false =>
        have HT := Lib.hid (HQ1.out.2 rfl)
        clear HQ1 HQ2
        go_wp2_with fail
        refine (KAH.out).mono ?_
        rintro e w2 ⟨rfl, rfl⟩
        go_wp2
        go_ret
        exact ⟨ret_bool HT.out.symm, hB.out⟩
      case true =>
        cases Q2
        case false =>
          have HT := Lib.hid (HQ2.out.2 rfl)
          clear HQ1 HQ2
          go_wp2_with fail
          refine (KAH.out).mono ?_
          rintro e w2 ⟨rfl, rfl⟩
          go_wp2_with fail
          refine (KBH.out).mono ?_
          rintro e w2 ⟨rfl, rfl⟩
          go_wp2
          go_ret
          exact ⟨ret_bool HT.out.symm, hB.out⟩
        case true =>
          have HT := Lib.hid (HG4.out (HQ1.out.1 rfl) HALL.out (HQ2.out.1 rfl))
          clear HQ1 HQ2
          go_wp2_with fail
          refine (KAH.out).mono ?_
          rintro e w2 ⟨rfl, rfl⟩
          go_wp2_with fail
          refine (KBH.out).mono ?_
          rintro e w2 ⟨rfl, rfl⟩
          go_wp2_with fail
          refine (KDH.out).mono ?_
          rintro e w2 ⟨rfl, hr⟩
          have HB2 := Lib.hid (hB.out.trans (hr.mono hB.out.size))
          clear hr
          go_wp2
          go_ret
          exact ⟨ret_bool (by rw [HT.out]), HB2.out⟩

theorem proper_all : ∀ m : Nat, m ≤ 1000000 → ProperK m
  | 0, _ => fun u hu => by have := u.size_pos; omega
  | m + 1, h => proper_step m (by omega) (Lib.hid (proper_all m (by omega)))

end Go.Proofs.YtelhpndlejommaaGreat
