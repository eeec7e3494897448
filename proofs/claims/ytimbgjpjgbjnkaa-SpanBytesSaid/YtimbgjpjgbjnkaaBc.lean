/- Decode of package span. -/
import Derived.Test.YtimbgjpjgbjnkaaWfBa
import Derived.Test.YtimbgjpjgbjnkaaMnySpo
namespace Go.Proofs.Ytimbgjpjgbjnkaa
open Go.RowKit Go.Shelf

/-- An empty interval of a new table. -/
def ivZ : Iv := ⟨0, 0, 0, 0, false, false, false, false⟩

theorem cells8 (i : Nat) (h : i < 8) : (RIv.cells ivZ)[i]? = some ((#[.int .i64 0, .int .i64 0, .int .i64 0, .int .i64 0, .bool false, .bool false, .bool false, .bool false] : Array Value)[i]!) := by
  match i, h with
  | 0, _ => rfl
  | 1, _ => rfl
  | 2, _ => rfl
  | 3, _ => rfl
  | 4, _ => rfl
  | 5, _ => rfl
  | 6, _ => rfl
  | 7, _ => rfl
  | i + 8, h => omega

theorem made_iv (n : Nat) : (madeCells #[.int .i64 0, .int .i64 0, .int .i64 0, .int .i64 0, .bool false, .bool false, .bool false, .bool false] (n * 8)).toList = (List.replicate n ivZ).flatMap RIv.cells := by
  apply List.ext_getElem?
  intro m
  by_cases hm : m < n * 8
  · have hq : m / 8 < n := by omega
    have e : m / 8 * 8 + m % 8 = m := by omega
    have h1 := RIv.at (List.replicate n ivZ) (m / 8) ivZ (by rw [List.getElem?_replicate, if_pos hq]) (m % 8) (Nat.mod_lt _ (by decide))
    rw [show RIv.k = 8 from rfl, e, cells8 _ (Nat.mod_lt _ (by decide))] at h1
    rw [h1, Array.getElem?_toList]
    unfold madeCells
    rw [Array.getElem?_map, Array.getElem?_range, if_pos hm]
    rfl
  · have h1 : (madeCells #[.int .i64 0, .int .i64 0, .int .i64 0, .int .i64 0, .bool false, .bool false, .bool false, .bool false] (n * 8)).toList.length = n * 8 := by rw [Array.length_toList, size_madeCells]
    have h2 : ((List.replicate n ivZ).flatMap RIv.cells).length = n * 8 := by rw [RIv.flat, List.length_replicate]; rfl
    rw [List.getElem?_eq_none (by omega), List.getElem?_eq_none (by omega)]

theorem ROwn.kept {α : Type} {R : RowOf α} {E : TypeId} {B p G n c : Nat} {w w1 : World} {xs : List α} (h : ROwn R E B w (.slice (some ⟨G, 0, none⟩) n c) xs) (hG : w.grownBy w1 (some p)) (hp : p ≠ G) : ROwn R E B w1 (.slice (some ⟨G, 0, none⟩) n c) xs := by
  obtain ⟨hx, ⟨hv, hn⟩ | ⟨g, cap, cur, hv, hg, hc, hr⟩⟩ := h
  · exact ⟨hx, .inl ⟨hv, hn⟩⟩
  · have e : g = G := by cases hv; rfl
    subst e
    refine ⟨hx, .inr ⟨g, cap, cur, hv, hg, ?_, hr⟩⟩
    exact (hG.block g (Array.getElem?_eq_some_iff.1 hc).1 (fun e => hp (Option.some.inj e).symm)).trans hc

theorem Rd.set {p d G k : Nat} {w : World} {l : List Int} {e : Int} {v : Value} (h : Rd p d w l e) (hp : p ≠ G) (hd : d ≠ G) : Rd p d (w.setCell ⟨G, k, none⟩ v) l e := by
  have hb : ∀ b, b ≠ G → (w.setCell ⟨G, k, none⟩ v).heap[b]? = w.heap[b]? := fun b hb => Below.heap_setCell _ _ _ _ hb
  obtain ⟨x, T, h1, h2 | ⟨h3, h4, h5⟩⟩ := h
  · exact ⟨x, T, (hb p hp).trans h1, .inl h2⟩
  · exact ⟨x, T, (hb p hp).trans h1, .inr ⟨h3, by simp [World.setCell]; exact h4, h5.keep (hb d hd)⟩⟩

theorem reads_below {p : Nat} {a b : World} {B : Nat} (h : a.grownBy b (some p)) (hB : B ≤ p) (hs : B ≤ a.heap.size) : Below B a b :=
  (Below.refl B a).grown h hs fun j hj => by injection hj with e; omega

/-- A read, told by a codec. -/
def RdC (v : Value) (p d : Nat) (W : World) (l' : List Int) (e' : Int) (x : Ending) (w' : World) : Prop := x = .returned v ∧ Hid (Rd p d w' l' e') ∧ Hid (W.grownBy w' (some p))

theorem rint_c (p d : Nat) (l : List Int) (e : Int) (W : World) (h : Rd p d W l e) (hb : Hm.Byt l) (hl : l.length ≤ 100000000000) {y : Int} {l' : List Int} {e' : Int} (hr : intC.rd l e = (y, l', e')) :
    Calls Try.prog 40 #[.pointer (some ⟨p, 0, none⟩)] W (RdC (.int .i64 y) p d W l' e') := by
  have h1 : (Hm.unzig (Hm.rU l e).1, (Hm.rU l e).2.1, (Hm.rU l e).2.2) = (y, l', e') := hr
  simp only [Prod.mk.injEq] at h1
  obtain ⟨rfl, rfl, rfl⟩ := h1
  exact (rint_any p d l e W h hb hl).mono fun x w' hh => ⟨hh.1, hh.2.1, hh.2.2⟩

theorem rbool_c (p d : Nat) (l : List Int) (e : Int) (W : World) (h : Rd p d W l e) (hb : Hm.Byt l) (hl : l.length ≤ 100000000000) {y : Bool} {l' : List Int} {e' : Int} (hr : boolC.rd l e = (y, l', e')) :
    Calls Try.prog 76 #[.pointer (some ⟨p, 0, none⟩)] W (RdC (.bool y) p d W l' e') := by
  have h1 : Hm.rB l e = (y, l', e') := hr
  have h2 := rbool_any p d l e W h hb hl
  rw [h1] at h2
  exact h2.mono fun x w' hh => ⟨hh.1, hh.2.1, hh.2.2⟩

/-- What Decode leaves. -/
def DecP (D : Option (List Iv)) (w : World) (e : Ending) (w' : World) : Prop :=
  (∃ xs a n c, D = some xs ∧ e = .returned (.tuple #[.slice a n c, .int .i64 0]) ∧ Hid (REls RIv w' (.slice a n c) xs) ∧ Hid (Below w.heap.size w w')) ∨
  (D = none ∧ e = .returned (.tuple #[.slice none 0 0, .int .i64 2]) ∧ Hid (Below w.heap.size w w'))

theorem set_mid8 {acc : List Iv} {n k : Nat} (hk : acc.length = k) (h : k < n) (y : Iv) : (acc ++ List.replicate (n - k) ivZ).set k y = acc ++ [y] ++ List.replicate (n - (k + 1)) ivZ := by
  obtain ⟨m, hm⟩ : ∃ m, n - k = m + 1 := ⟨n - k - 1, by omega⟩
  have e : n - (k + 1) = m := by omega
  rw [hm, e, List.replicate_succ, ← hk, List.set_append_right _ _ (Nat.le_refl _), Nat.sub_self]
  simp

theorem get_mid8 {acc : List Iv} {n k : Nat} (hk : acc.length = k) (h : k < n) : (acc ++ List.replicate (n - k) ivZ)[k]? = some ivZ := by
  obtain ⟨m, hm⟩ : ∃ m, n - k = m + 1 := ⟨n - k - 1, by omega⟩
  rw [hm, List.replicate_succ, ← hk, List.getElem?_append_right (Nat.le_refl _), Nat.sub_self]
  rfl

set_option maxHeartbeats 16000000 in
set_option maxRecDepth 100000 in
theorem sdecode_any (sv : Value) (b : List Int) (w : World) (hl : Els .u8 w sv b) (hb : Hm.Byt b) (hlen : b.length ≤ 100000) :
    Calls Try.prog 37 #[sv] w (DecP (decS b) w) := by
  obtain ⟨a, cap, rfl⟩ := hl.shape
  obtain ⟨i0, hi0, hz0, hz1, hz2⟩ := info_parts Try.infoIv
  have HI := Lib.hid hi0
  have HZ := Lib.hid hz0
  have HZ1 := Lib.hid hz1
  have HZ2 := Lib.hid hz2
  have k1 := rread_any _ b w (by omega) hl
  have k2 := fun p d W (h : Rd p d W b 0) => rint_any p d b 0 W h hb (by omega)
  have hd1 : (Hm.unzig (Hm.rU b 0).1 < 0 ∨ 32 < Hm.unzig (Hm.rU b 0).1) → decS b = none := fun h => by unfold decS; rw [if_pos h]
  have hd2 : ¬ (Hm.unzig (Hm.rU b 0).1 < 0 ∨ 32 < Hm.unzig (Hm.rU b 0).1) → decS b = (if Hm.rEnd (ivC.rep (Hm.unzig (Hm.rU b 0).1).toNat (Hm.rU b 0).2.1 (Hm.rU b 0).2.2 []).2.1 (ivC.rep (Hm.unzig (Hm.rU b 0).1).toNat (Hm.rU b 0).2.1 (Hm.rU b 0).2.2 []).2.2 = 0 ∧ validL (ivC.rep (Hm.unzig (Hm.rU b 0).1).toNat (Hm.rU b 0).2.1 (Hm.rU b 0).2.2 []).1 = 0 then some (ivC.rep (Hm.unzig (Hm.rU b 0).1).toNat (Hm.rU b 0).2.1 (Hm.rU b 0).2.2 []).1 else none) := fun h => by unfold decS; rw [if_neg h]
  have hleft := Hm.rU_left hb 0
  have hnum := fun n => ivC.rep_num n (Hm.rU b 0).2.1 (Hm.rU b 0).2.2 [] hleft.1 (fun x hx => by cases hx)
  generalize (Hm.rU b 0).1 = z at *
  generalize (Hm.rU b 0).2.1 = l1 at *
  generalize (Hm.rU b 0).2.2 = e1 at *
  generalize Hm.unzig z = c at *
  have K1 := Lib.hid k1
  have K2 := Lib.hid k2
  generalize decS b = D at *
  generalize hbl : b.length = bl at *
  clear k1 k2 hi0 hz0 hz1 hz2 hl
  by_cases hc : c < 0 ∨ 32 < c
  · have hnone := hd1 hc
    subst hnone
    have hcc : (decide (c < 0) = true) ∨ (decide (c < 0) = false ∧ decide (c > 32) = true) := by
      by_cases h0 : c < 0
      · exact .inl (decide_eq_true h0)
      · exact .inr ⟨decide_eq_false h0, decide_eq_true (by omega)⟩
    clear hd1 hd2 hleft hnum hc
    rcases hcc with hcc | ⟨hcc, hcc2⟩
    all_goals
      go_enter Try.func37, Try.ntmps37
      go_wp2_with fail
      refine (K1.out).mono ?_
      rintro e w1 ⟨p, d, rfl, hp, hd, hdl, HR1, HB1⟩
      go_wp2_with fail
      refine (K2.out p d w1 HR1.out).mono ?_
      rintro e w2 ⟨rfl, HR2, hG2⟩
      have HB2 := Lib.hid (Below.trans HB1.out (reads_below hG2 hp HB1.out.size))
      clear HR2 hG2
      go_wp2
      go_ret2
      exact .inr ⟨rfl, rfl, HB2⟩
  · have hD2 := hd2 hc
    obtain ⟨n, rfl⟩ := Int.eq_ofNat_of_zero_le (show 0 ≤ c by omega)
    have hn32 : n ≤ 32 := by omega
    have hcc : decide ((n : Int) < 0) = false := decide_eq_false (by omega)
    have hcc2 : decide ((n : Int) > 32) = false := decide_eq_false (by omega)
    have hnum := hnum n
    rw [Int.toNat_natCast] at hD2
    generalize hR : ivC.rep n l1 e1 [] = R at *
    obtain ⟨RP, rl, re⟩ := R
    simp only [List.length_nil, Nat.zero_add] at hnum hD2
    have HRES := Lib.hid hR
    have HNUM := Lib.hid hnum
    have HD2 := Lib.hid hD2
    have HLF := Lib.hid hleft
    clear hd1 hd2 hc hR hnum hD2 hleft
    go_enter Try.func37, Try.ntmps37
    go_wp2_with fail
    refine (K1.out).mono ?_
    rintro e w1 ⟨p, d, rfl, hp, hd, hdl, HR1, HB1⟩
    go_wp2_with fail
    refine (K2.out p d w1 HR1.out).mono ?_
    rintro e w2 ⟨rfl, HR2, hG2⟩
    have HR2 := Lib.hid HR2
    have hdl2 : d < w2.heap.size := Nat.lt_of_lt_of_le hdl hG2.size
    have hpl2 : p < w2.heap.size := HR2.out.lt
    have HB2 := Lib.hid (Below.trans HB1.out (reads_below hG2 hp HB1.out.size))
    clear hG2 HR1 HB1 hdl
    go_wp2_with (at_make; go_loud (refine wpList_make_full _ rfl _ _ 23 rfl w2.heap.size 27 i0 _ 8 Try.underlying23 HI.out HZ.out HZ1.out .i64 .i64 n n n rfl rfl rfl rfl (by rw [HZ2.out]; omega) (by unfold maxLen; omega) (Nat.le_refl _) ?_); intro w3 hown hgrow; have HO3 := Lib.hid hown; have HG3 := Lib.hid hgrow; clear hown hgrow)
    generalize hG : w2.heap.size = G at *
    have hpG : p ≠ G := by omega
    have hdG : d ≠ G := by omega
    have HB3 := Lib.hid (HB2.out.grown HG3.out (by have := HB2.out.size; omega) (fun j hj => by cases hj))
    have HR3 : Hid (Rd p d w3 l1 e1) := HR2.out.below (by rw [hG]; exact (Below.refl G w2).grown HG3.out (Nat.le_of_eq hG.symm) (fun j hj => by cases hj))
    have hdl3 : d < w3.heap.size := Nat.lt_of_lt_of_le (by rw [hG]; exact hdl2) HG3.out.size
    have HC0 : Hid (ROwn RIv 27 G w3 (.slice (some ⟨G, 0, none⟩) n n) ([] ++ List.replicate (n - 0) ivZ)) := Lib.hid (by
      have h1 := HO3.out
      rw [show (Value.cells (.agg #[.int .i64 0, .int .i64 0, .int .i64 0, .int .i64 0, .bool false, .bool false, .bool false, .bool false])) = #[.int .i64 0, .int .i64 0, .int .i64 0, .int .i64 0, .bool false, .bool false, .bool false, .bool false] from rfl, made_iv] at h1
      unfold ROwn
      rw [List.nil_append, Nat.sub_zero, List.length_replicate]
      exact h1)
    have hwG : w.heap.size ≤ G := by have := HB2.out.size; omega
    clear HO3 HG3 HR2 HB2 hG
    go_loopw [22] (fun i wr => ∃ k : Nat, k ≤ n ∧ i = .int .i64 k ∧ ∃ acc l e, Hid (acc.length = k) ∧ Hid (ivC.rep (n - k) l e acc = (RP, rl, re)) ∧ Hid (Rd p d wr l e) ∧ Hid (Hm.Byt l ∧ l.length ≤ bl) ∧ Hid (ROwn RIv 27 G wr (.slice (some ⟨G, 0, none⟩) n n) (acc ++ List.replicate (n - k) ivZ)) ∧ d < wr.heap.size ∧ Hid (Below w.heap.size w wr)) (fun i _ => n - (intOf i).toNat)
    case atStart => exact ⟨0, Nat.zero_le _, rfl, [], l1, e1, rfl, HRES, HR3, HLF, HC0, hdl3, HB3⟩
    case round =>
      obtain ⟨k, hk, rfl, acc, l0, e0, hacc, hres, hRd, hbl, hOw, hdw, hB⟩ := hrel
      by_cases hlt : k < n
      · have hki : (k : Int) < n := by omega
        have hch : ∃ (ya : Int) (l1 : List Int) (e1 : Int) (yb : Int) (l2 : List Int) (e2 : Int) (yc : Int) (l3 : List Int) (e3 : Int) (yd : Int) (l4 : List Int) (e4 : Int) (yp : Bool) (l5 : List Int) (e5 : Int) (yq : Bool) (l6 : List Int) (e6 : Int) (yr : Bool) (l7 : List Int) (e7 : Int) (ys : Bool) (l8 : List Int) (e8 : Int), intC.rd l0 e0 = (ya, l1, e1) ∧ intC.rd l1 e1 = (yb, l2, e2) ∧ intC.rd l2 e2 = (yc, l3, e3) ∧ intC.rd l3 e3 = (yd, l4, e4) ∧ boolC.rd l4 e4 = (yp, l5, e5) ∧ boolC.rd l5 e5 = (yq, l6, e6) ∧ boolC.rd l6 e6 = (yr, l7, e7) ∧ boolC.rd l7 e7 = (ys, l8, e8) ∧ ivC.rd l0 e0 = (⟨ya, yb, yc, yd, yp, yq, yr, ys⟩, l8, e8) := ⟨_, _, _, _, _, _, _, _, _, _, _, _, _, _, _, _, _, _, _, _, _, _, _, _, rfl, rfl, rfl, rfl, rfl, rfl, rfl, rfl, rfl⟩
        obtain ⟨ya, l1, e1, yb, l2, e2, yc, l3, e3, yd, l4, e4, yp, l5, e5, yq, l6, e6, yr, l7, e7, ys, l8, e8, hr1, hr2, hr3, hr4, hr5, hr6, hr7, hr8, hrd⟩ := hch
        have hst : ivC.rep (n - (k + 1)) l8 e8 (acc ++ [⟨ya, yb, yc, yd, yp, yq, yr, ys⟩]) = (RP, rl, re) := by
          have h1 := hres.out
          rw [show n - k = (n - (k + 1)) + 1 by omega, Codec.rep, hrd] at h1
          exact h1
        have HST := Lib.hid hst
        have HR_1 := Lib.hid hr1
        have HR_2 := Lib.hid hr2
        have HR_3 := Lib.hid hr3
        have HR_4 := Lib.hid hr4
        have HR_5 := Lib.hid hr5
        have HR_6 := Lib.hid hr6
        have HR_7 := Lib.hid hr7
        have HR_8 := Lib.hid hr8
        have hb0 : Hm.Byt l0 ∧ l0.length ≤ bl := hbl.out
        have hb1 : Hm.Byt l1 ∧ l1.length ≤ bl := by
          have h1 := intC.left l0 e0 hb0.1
          rw [hr1] at h1
          exact ⟨h1.1, Nat.le_trans h1.2 hb0.2⟩
        have hb2 : Hm.Byt l2 ∧ l2.length ≤ bl := by
          have h1 := intC.left l1 e1 hb1.1
          rw [hr2] at h1
          exact ⟨h1.1, Nat.le_trans h1.2 hb1.2⟩
        have hb3 : Hm.Byt l3 ∧ l3.length ≤ bl := by
          have h1 := intC.left l2 e2 hb2.1
          rw [hr3] at h1
          exact ⟨h1.1, Nat.le_trans h1.2 hb2.2⟩
        have hb4 : Hm.Byt l4 ∧ l4.length ≤ bl := by
          have h1 := intC.left l3 e3 hb3.1
          rw [hr4] at h1
          exact ⟨h1.1, Nat.le_trans h1.2 hb3.2⟩
        have hb5 : Hm.Byt l5 ∧ l5.length ≤ bl := by
          have h1 := boolC.left l4 e4 hb4.1
          rw [hr5] at h1
          exact ⟨h1.1, Nat.le_trans h1.2 hb4.2⟩
        have hb6 : Hm.Byt l6 ∧ l6.length ≤ bl := by
          have h1 := boolC.left l5 e5 hb5.1
          rw [hr6] at h1
          exact ⟨h1.1, Nat.le_trans h1.2 hb5.2⟩
        have hb7 : Hm.Byt l7 ∧ l7.length ≤ bl := by
          have h1 := boolC.left l6 e6 hb6.1
          rw [hr7] at h1
          exact ⟨h1.1, Nat.le_trans h1.2 hb6.2⟩
        have hb8 : Hm.Byt l8 ∧ l8.length ≤ bl := by
          have h1 := boolC.left l7 e7 hb7.1
          rw [hr8] at h1
          exact ⟨h1.1, Nat.le_trans h1.2 hb7.2⟩
        have HB_0 := Lib.hid hb0
        have HB_1 := Lib.hid hb1
        have HB_2 := Lib.hid hb2
        have HB_3 := Lib.hid hb3
        have HB_4 := Lib.hid hb4
        have HB_5 := Lib.hid hb5
        have HB_6 := Lib.hid hb6
        have HB_7 := Lib.hid hb7
        have HB_8 := Lib.hid hb8
        have hx1 := get_mid8 hacc.out hlt
        have hx2 := fun y => set_mid8 hacc.out hlt y
        have HX1 := Lib.hid hx1
        have HX2 := Lib.hid hx2
        have hpw := hRd.out.lt
        have HG_0 : Hid (wr.grownBy wr (some p)) := Lib.hid (grown_refl _ _)
        have hRd_0 := hRd
        clear hst hrd hx1 hx2 hres hr1 hr2 hr3 hr4 hr5 hr6 hr7 hr8 hb0 hb1 hb2 hb3 hb4 hb5 hb6 hb7 hb8 hbl hRd
        have kk := rint_c p d l0 e0 wr hRd_0.out HB_0.out.1 (by have := HB_0.out.2; omega) HR_1.out
        have KK := Lib.hid kk
        clear kk
        go_wp2_with fail
        refine (KK.out).mono ?_
        rintro e v1 ⟨rfl, hRd_1, hg⟩
        have HG_1 := Lib.hid (grown_trans HG_0.out hg.out)
        clear KK hg HG_0 hRd_0 HR_1 HB_0
        have kk := rint_c p d l1 e1 v1 hRd_1.out HB_1.out.1 (by have := HB_1.out.2; omega) HR_2.out
        have KK := Lib.hid kk
        clear kk
        go_wp2_with fail
        refine (KK.out).mono ?_
        rintro e v2 ⟨rfl, hRd_2, hg⟩
        have HG_2 := Lib.hid (grown_trans HG_1.out hg.out)
        clear KK hg HG_1 hRd_1 HR_2 HB_1
        have kk := rint_c p d l2 e2 v2 hRd_2.out HB_2.out.1 (by have := HB_2.out.2; omega) HR_3.out
        have KK := Lib.hid kk
        clear kk
        go_wp2_with fail
        refine (KK.out).mono ?_
        rintro e v3 ⟨rfl, hRd_3, hg⟩
        have HG_3 := Lib.hid (grown_trans HG_2.out hg.out)
        clear KK hg HG_2 hRd_2 HR_3 HB_2
        have kk := rint_c p d l3 e3 v3 hRd_3.out HB_3.out.1 (by have := HB_3.out.2; omega) HR_4.out
        have KK := Lib.hid kk
        clear kk
        go_wp2_with fail
        refine (KK.out).mono ?_
        rintro e v4 ⟨rfl, hRd_4, hg⟩
        have HG_4 := Lib.hid (grown_trans HG_3.out hg.out)
        clear KK hg HG_3 hRd_3 HR_4 HB_3
        have kk := rbool_c p d l4 e4 v4 hRd_4.out HB_4.out.1 (by have := HB_4.out.2; omega) HR_5.out
        have KK := Lib.hid kk
        clear kk
        go_wp2_with fail
        refine (KK.out).mono ?_
        rintro e v5 ⟨rfl, hRd_5, hg⟩
        have HG_5 := Lib.hid (grown_trans HG_4.out hg.out)
        clear KK hg HG_4 hRd_4 HR_5 HB_4
        have kk := rbool_c p d l5 e5 v5 hRd_5.out HB_5.out.1 (by have := HB_5.out.2; omega) HR_6.out
        have KK := Lib.hid kk
        clear kk
        go_wp2_with fail
        refine (KK.out).mono ?_
        rintro e v6 ⟨rfl, hRd_6, hg⟩
        have HG_6 := Lib.hid (grown_trans HG_5.out hg.out)
        clear KK hg HG_5 hRd_5 HR_6 HB_5
        have kk := rbool_c p d l6 e6 v6 hRd_6.out HB_6.out.1 (by have := HB_6.out.2; omega) HR_7.out
        have KK := Lib.hid kk
        clear kk
        go_wp2_with fail
        refine (KK.out).mono ?_
        rintro e v7 ⟨rfl, hRd_7, hg⟩
        have HG_7 := Lib.hid (grown_trans HG_6.out hg.out)
        clear KK hg HG_6 hRd_6 HR_7 HB_6
        have kk := rbool_c p d l7 e7 v7 hRd_7.out HB_7.out.1 (by have := HB_7.out.2; omega) HR_8.out
        have KK := Lib.hid kk
        clear kk
        go_wp2_with fail
        refine (KK.out).mono ?_
        rintro e v8 ⟨rfl, hRd_8, hg⟩
        have HG_8 := Lib.hid (grown_trans HG_7.out hg.out)
        clear KK hg HG_7 hRd_7 HR_8 HB_7
        have hO8 := hOw.out.kept HG_8.out hpG
        have HO9 := Lib.hid (by have := hO8.put8 k ivZ HX1.out ya yb yc yd yp yq yr ys; rw [HX2.out] at this; exact this : ROwn RIv 27 G ((((((((v8.setCell ⟨G, k * 8, none⟩ (.int .i64 ya)).setCell ⟨G, k * 8 + 1, none⟩ (.int .i64 yb)).setCell ⟨G, k * 8 + 2, none⟩ (.int .i64 yc)).setCell ⟨G, k * 8 + 3, none⟩ (.int .i64 yd)).setCell ⟨G, k * 8 + 4, none⟩ (.bool yp)).setCell ⟨G, k * 8 + 5, none⟩ (.bool yq)).setCell ⟨G, k * 8 + 6, none⟩ (.bool yr)).setCell ⟨G, k * 8 + 7, none⟩ (.bool ys)) (.slice (some ⟨G, 0, none⟩) n n) (acc ++ [⟨ya, yb, yc, yd, yp, yq, yr, ys⟩] ++ List.replicate (n - (k + 1)) ivZ))
        have hRd9 : Hid (Rd p d ((((((((v8.setCell ⟨G, k * 8, none⟩ (.int .i64 ya)).setCell ⟨G, k * 8 + 1, none⟩ (.int .i64 yb)).setCell ⟨G, k * 8 + 2, none⟩ (.int .i64 yc)).setCell ⟨G, k * 8 + 3, none⟩ (.int .i64 yd)).setCell ⟨G, k * 8 + 4, none⟩ (.bool yp)).setCell ⟨G, k * 8 + 5, none⟩ (.bool yq)).setCell ⟨G, k * 8 + 6, none⟩ (.bool yr)).setCell ⟨G, k * 8 + 7, none⟩ (.bool ys)) l8 e8) := Lib.hid (Rd.set (Rd.set (Rd.set (Rd.set (Rd.set (Rd.set (Rd.set (Rd.set hRd_8.out hpG hdG) hpG hdG) hpG hdG) hpG hdG) hpG hdG) hpG hdG) hpG hdG) hpG hdG)
        obtain ⟨c0, c1, c2, c3, c4, c5, c6, c7⟩ := iv8_at hO8.els HX1.out
        have hf := fun j => hO8.free j
        have f0 := hf (k * 8)
        have f1 := hf (k * 8 + 1)
        have f2 := hf (k * 8 + 2)
        have f3 := hf (k * 8 + 3)
        have f4 := hf (k * 8 + 4)
        have f5 := hf (k * 8 + 5)
        have f6 := hf (k * 8 + 6)
        have f7 := hf (k * 8 + 7)
        have hb8 := Below.trans hB.out (reads_below HG_8.out hp hB.out.size)
        have HB9 : Hid (Below w.heap.size w ((((((((v8.setCell ⟨G, k * 8, none⟩ (.int .i64 ya)).setCell ⟨G, k * 8 + 1, none⟩ (.int .i64 yb)).setCell ⟨G, k * 8 + 2, none⟩ (.int .i64 yc)).setCell ⟨G, k * 8 + 3, none⟩ (.int .i64 yd)).setCell ⟨G, k * 8 + 4, none⟩ (.bool yp)).setCell ⟨G, k * 8 + 5, none⟩ (.bool yq)).setCell ⟨G, k * 8 + 6, none⟩ (.bool yr)).setCell ⟨G, k * 8 + 7, none⟩ (.bool ys))) := Lib.hid (Below.setCell (Below.setCell (Below.setCell (Below.setCell (Below.setCell (Below.setCell (Below.setCell (Below.setCell hb8 hwG _) hwG _) hwG _) hwG _) hwG _) hwG _) hwG _) hwG _)
        have hds : d < ((((((((v8.setCell ⟨G, k * 8, none⟩ (.int .i64 ya)).setCell ⟨G, k * 8 + 1, none⟩ (.int .i64 yb)).setCell ⟨G, k * 8 + 2, none⟩ (.int .i64 yc)).setCell ⟨G, k * 8 + 3, none⟩ (.int .i64 yd)).setCell ⟨G, k * 8 + 4, none⟩ (.bool yp)).setCell ⟨G, k * 8 + 5, none⟩ (.bool yq)).setCell ⟨G, k * 8 + 6, none⟩ (.bool yr)).setCell ⟨G, k * 8 + 7, none⟩ (.bool ys)).heap.size := by simp only [World.size_setCell]; exact Nat.lt_of_lt_of_le hdw HG_8.out.size
        have HACC : Hid ((acc ++ [(⟨ya, yb, yc, yd, yp, yq, yr, ys⟩ : Iv)]).length = k + 1) := Lib.hid (by rw [List.length_append, hacc.out]; rfl)
        clear hO8 hf hb8 hOw hB hRd_8 HG_8
        go_wp2
        go_roundw
        case rel => exact ⟨k + 1, by omega, by go_num, acc ++ [⟨ya, yb, yc, yd, yp, yq, yr, ys⟩], l8, e8, HACC, HST, hRd9, HB_8, HO9, hds, HB9⟩
        case measure => simp [intOf]; omega
      · have hki : ¬ (k : Int) < n := by omega
        have hkn : k = n := by omega
        subst hkn
        have hr := hres.out
        rw [Nat.sub_self, Codec.rep] at hr
        simp only [Prod.mk.injEq] at hr
        obtain ⟨rfl, rfl, rfl⟩ := hr
        have hels := hOw.out.els
        rw [Nat.sub_self, List.replicate_zero, List.append_nil] at hels
        have hwf : ∀ x ∈ acc, x.wf := fun x hx => ivC_good.1 (HNUM.out.1 x hx)
        have k4 := rend_any p d l0 e0 wr hRd.out (by have := hbl.out.2; omega)
        have hD2 := HD2.out
        have k5 := svalid_any _ acc wr hels hwf (by rw [hacc.out]; omega)
        have HELS := Lib.hid hels
        generalize Hm.rEnd l0 e0 = q at *
        generalize validL acc = V at *
        have K4 := Lib.hid k4
        have K5 := Lib.hid k5
        clear k4 k5 hels hres HD2 hwf hOw HNUM
        by_cases hq : q = 0
        · subst hq
          by_cases hv : V = 0
          · subst hv
            rw [if_pos ⟨rfl, rfl⟩] at hD2
            have HDD := Lib.hid hD2
            clear hD2
            go_wp2_with fail
            refine (K4.out).mono ?_
            rintro e w' ⟨rfl, rfl⟩
            go_wp2_with fail
            refine (K5.out).mono ?_
            rintro e w5 ⟨rfl, hr5⟩
            have HE5 := Lib.hid (HELS.out.below hr5)
            have HB5 := Lib.hid (hB.out.trans (hr5.mono hB.out.size))
            clear hr5
            go_wp2
            go_ret2
            exact .inl ⟨acc, _, _, _, HDD.out, rfl, HE5, HB5⟩
          · rw [if_neg (fun h => hv h.2)] at hD2
            have HDD := Lib.hid hD2
            have hz : (V != 0) = true := bne_iff_ne.2 hv
            clear hD2 hv
            go_wp2_with fail
            refine (K4.out).mono ?_
            rintro e w' ⟨rfl, rfl⟩
            go_wp2_with fail
            refine (K5.out).mono ?_
            rintro e w5 ⟨rfl, hr5⟩
            have HB5 := Lib.hid (hB.out.trans (hr5.mono hB.out.size))
            clear hr5
            go_wp2
            go_ret2
            exact .inr ⟨HDD.out, rfl, HB5⟩
        · rw [if_neg (fun h => hq h.1)] at hD2
          have HDD := Lib.hid hD2
          have hz : (q != 0) = true := bne_iff_ne.2 hq
          clear hq hD2
          go_wp2_with fail
          refine (K4.out).mono ?_
          rintro e w' ⟨rfl, rfl⟩
          go_wp2
          go_ret2
          exact .inr ⟨HDD.out, rfl, hB⟩

end Go.Proofs.Ytimbgjpjgbjnkaa
