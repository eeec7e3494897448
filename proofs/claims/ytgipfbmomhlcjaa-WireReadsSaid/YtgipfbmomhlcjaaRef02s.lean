/- The other methods of the reference reader. -/
import Derived.Test.YtgipfbmomhlcjaaRef02r
namespace Go.Proofs.Ytgipfbmomhlcjaa
open Go.RowKit Go.Shelf

set_option maxRecDepth 100000 in
set_option maxHeartbeats 1000000 in
theorem tback_any (z : Nat) (w : World) (h : z < 18446744073709551616) :
    Calls Try.prog 63 #[.int .u64 z] w fun x w' => x = .returned (.int .i64 (Hm.unzig z)) ∧ w = w' := by
  have hz : (z : Int) ≤ 18446744073709551615 := by omega
  clear h
  by_cases h1 : z % 2 = 1
  · have e : Hid (Hm.unzig z = -((z : Int) / 2) - 1) := by show _ = _; unfold Hm.unzig; rw [if_pos h1]; omega
    have t : ((z : Int) % 2 == 1) = true := by rw [beq_iff_eq]; omega
    clear h1
    go_enter Try.func63, Try.ntmps63
    go_wp2
    go_ret
    exact ⟨ret_int e.out.symm, rfl⟩
  · have e : Hid (Hm.unzig z = (z : Int) / 2) := by show _ = _; unfold Hm.unzig; rw [if_neg h1]; omega
    have t : ((z : Int) % 2 == 1) = false := by rw [beq_eq_false_iff_ne]; omega
    clear h1
    go_enter Try.func63, Try.ntmps63
    go_wp2
    go_ret
    exact ⟨ret_int e.out.symm, rfl⟩

theorem rU_lt' {l : List Int} {e : Int} (hb : Hm.Byt l) : (Hm.rU l e).1 < 18446744073709551616 := rU_lt hb e

set_option maxRecDepth 100000 in
set_option maxHeartbeats 1000000 in
theorem tint_any (p d : Nat) (l : List Int) (e : Int) (w : World) (h : Tw p d w l e) (ho : Hm.Okay l e) (hb : Hm.Byt l) :
    Calls Try.prog 50 #[.pointer (some ⟨p, 0, none⟩)] w (Tws p d w (.int .i64 (Hm.unzig (Hm.rU l e).1)) (Hm.rU l e).2.1 (Hm.rU l e).2.2) := by
  have K := Lib.hid (tuint_any p d l e w h ho)
  have K2 := Lib.hid (fun W => tback_any (Hm.rU l e).1 W (rU_lt hb e))
  generalize (Hm.rU l e).1 = z at *
  generalize (Hm.rU l e).2.1 = l3 at *
  generalize (Hm.rU l e).2.2 = e3 at *
  clear h ho hb
  go_enter Try.func50, Try.ntmps50
  go_wp2_with fail
  (with_reducible refine K.out.mono ?_)
  rintro x w1 ⟨rfl, hR, hg⟩
  have HR := Lib.hid hR
  have HG := Lib.hid hg
  clear hR hg
  go_wp2_with fail
  refine (K2.out _).mono ?_
  rintro x w' ⟨rfl, rfl⟩
  go_wp2_with fail
  go_ret
  exact ⟨rfl, HR.out, HG.out⟩

set_option maxRecDepth 100000 in
set_option maxHeartbeats 2000000 in
theorem tbool_any (p d : Nat) (l : List Int) (e : Int) (w : World) (h : Tw p d w l e) (ho : Hm.Okay l e) :
    Calls Try.prog 51 #[.pointer (some ⟨p, 0, none⟩)] w (Tws p d w (.bool (Hm.rB l e).1) (Hm.rB l e).2.1 (Hm.rB l e).2.2) := by
  obtain ⟨l2, hR, hl2, hb, hl⟩ := h
  obtain ⟨a, n, c, h0, h1, f0, f1, hn, hnc, hv⟩ := hR.open
  have HR := Lib.hid hR
  have HBY := Lib.hid hb
  have HLL := Lib.hid hl
  by_cases he : e = 0
  · subst he
    obtain rfl := hl2 rfl
    cases l2 with
    | nil =>
      obtain rfl : n = 0 := by rw [hn.out]; rfl
      have e1 : Hid (Hm.rB [] 0 = (false, [], 3)) := rfl
      clear hl2 hR hb hl ho
      go_enter Try.func51, Try.ntmps51
      go_wp2_with fail
      go_ret
      rw [e1.out]
      exact ⟨rfl, tw_err (HR.out.err (e' := 3)) (by decide) HBY.out HLL.out, grown_set _ _ _ _⟩
    | cons cc t =>
      have hn0 : 0 < n := by rw [hn.out]; simp
      obtain ⟨hc0, hc1, hbt⟩ := rd_byt hb
      obtain ⟨b, off, rfl, hcx⟩ := (took_els hv.out).at 0 hn0
      have hcx2 : w.cell? ⟨b, off, none⟩ = some (.int .u8 cc) := hcx
      have HBT := Lib.hid hbt
      have hlt : Hid (t.length ≤ 1000) := by show _ ≤ _; rw [List.length_cons] at hl; omega
      have hnz : ((n : Int) == 0) = false := by rw [beq_eq_false_iff_ne]; omega
      clear hl2 hR hb hl ho hcx hbt
      by_cases c1 : 1 < cc
      · have e1 : Hid (Hm.rB (cc :: t) 0 = (false, [], 2)) := by show _ = _; unfold Hm.rB; simp only; rw [if_pos c1]; rfl
        go_enter Try.func51, Try.ntmps51
        go_wp2_with fail
        go_ret
        rw [e1.out]
        exact ⟨rfl, tw_err (HR.out.err (e' := 2)) (by decide) HBY.out HLL.out, grown_set _ _ _ _⟩
      · have c1' : cc ≤ 1 := by omega
        have e1 : Hid (Hm.rB (cc :: t) 0 = (decide (cc = 1), t, 0)) := by show _ = _; unfold Hm.rB; simp only; rw [if_neg c1]
        have hk1 : Hid (1 ≤ (cc :: t).length) := by show _ ≤ _; simp
        have hcc : cc = 0 ∨ cc = 1 := by omega
        clear c1
        by_cases hkc : 1 = c
        · subst hkc
          obtain rfl : n = 1 := by omega
          rcases hcc with rfl | rfl
          all_goals
            go_enter Try.func51, Try.ntmps51
            go_wp2_with fail
            go_ret
            rw [e1.out]
            obtain ⟨_, _, _, _, _, _, hR2, hG⟩ := took_mk (k := 1) (sv := .slice (some ⟨b, off, none⟩) 0 0) HR.out hv.out hk1.out hn.out (.inl ⟨.inr ⟨_, 0, rfl⟩, hn.out⟩)
            exact ⟨rfl, tw_of hR2.out HBT.out hlt.out, hG.out⟩
        · have hkc2 : 1 < c := by omega
          clear hkc
          rcases hcc with rfl | rfl
          all_goals
            go_enter Try.func51, Try.ntmps51
            go_wp2_with fail
            go_ret
            rw [e1.out]
            obtain ⟨_, _, _, _, _, _, hR2, hG⟩ := took_mk (k := 1) (sv := .slice (some ⟨b, off + 1, none⟩) (n - 1) (c - 1)) HR.out hv.out hk1.out hn.out (.inr ⟨_, rfl, by simp [Addr.add]⟩)
            exact ⟨rfl, tw_of hR2.out HBT.out hlt.out, hG.out⟩
  · obtain rfl := okay_nil ho he
    have te : (e == 0) = false := by rw [beq_eq_false_iff_ne]; exact he
    have te2 : (e != 0) = true := by rw [bne_iff_ne]; exact he
    have HE := Lib.hid he
    clear hl2 hR hb hl ho he
    go_enter Try.func51, Try.ntmps51
    go_wp2_with fail
    go_ret
    rw [rB_err HE.out]
    exact ⟨rfl, tw_err HR.out HE.out HBY.out HLL.out, grown_refl _ _⟩

set_option maxRecDepth 100000 in
set_option maxHeartbeats 2000000 in
theorem tlen_any (p d : Nat) (l : List Int) (e : Int) (w : World) (h : Tw p d w l e) (ho : Hm.Okay l e) (hb : Hm.Byt l) :
    Calls Try.prog 64 #[.pointer (some ⟨p, 0, none⟩)] w (Tws p d w (.int .i64 (Hm.rLen l e).1) (Hm.rLen l e).2.1 (Hm.rLen l e).2.2) := by
  have K := Lib.hid (tuint_any p d l e w h ho)
  have hok := Hm.rU_okay ho
  have hzl : ((Hm.rU l e).1 : Int) ≤ 18446744073709551615 := by have := rU_lt hb e; omega
  have hdef : Hm.rLen l e = if (Hm.rU l e).2.1.length < (Hm.rU l e).1 then (0, [], stk (Hm.rU l e).2.2 3) else ((Hm.rU l e).1, (Hm.rU l e).2.1, (Hm.rU l e).2.2) := rfl
  generalize Hm.rLen l e = q at *
  generalize (Hm.rU l e).1 = z at *
  generalize (Hm.rU l e).2.1 = l3 at *
  generalize (Hm.rU l e).2.2 = e3 at *
  have HD := Lib.hid hdef
  have HOK := Lib.hid hok
  clear h ho hb hdef hok
  go_enter Try.func64, Try.ntmps64
  go_wp2_with fail
  (with_reducible refine K.out.mono ?_)
  rintro x w1 ⟨rfl, ⟨l2, hR, hl2, hb2, hll2⟩, hg⟩
  obtain ⟨a, n, c, h0, h1, f0, f1, hn, hnc, hv⟩ := hR.open
  have HR := Lib.hid hR
  have HG := Lib.hid hg
  have HBY := Lib.hid hb2
  have HLL := Lib.hid hll2
  have hn9 : n ≤ 1000 := by rw [hn.out]; exact hll2
  by_cases he : e3 = 0
  · subst he
    obtain rfl := hl2 rfl
    clear hl2 hR hg hb2 hll2
    by_cases hc : l2.length < z
    · have hq : q = (0, [], 3) := by rw [HD.out, if_pos hc]; rfl
      have HQ := Lib.hid hq
      have hnz : n < z := by rw [hn.out]; exact hc
      have hnz2 : decide (n < z) = true := by simpa using hnz
      clear hc hq
      go_wp2_with fail
      go_ret
      rw [HQ.out]
      exact ⟨rfl, tw_err (HR.out.err (e' := 3)) (by decide) HBY.out HLL.out, grown_trans HG.out (grown_set _ _ _ _)⟩
    · have hq : q = (z, l2, 0) := by rw [HD.out, if_neg hc]
      have HQ := Lib.hid hq
      have hnz : z ≤ n := by rw [hn.out]; exact Nat.le_of_not_lt hc
      have hnz2 : decide (n < z) = false := by simpa using hnz
      clear hc hq
      go_wp2_with fail
      go_ret
      rw [HQ.out]
      exact ⟨rfl, tw_of HR.out HBY.out HLL.out, HG.out⟩
  · have hz0 : z = 0 ∧ l3 = [] := by
      rcases HOK.out with h | h
      · exact absurd h he
      · exact ⟨h.2.1, h.2.2⟩
    obtain ⟨rfl, rfl⟩ := hz0
    have hq : q = (0, [], e3) := by rw [HD.out, if_neg (by simp)]
    have HQ := Lib.hid hq
    have te : (e3 == 0) = false := by rw [beq_eq_false_iff_ne]; exact he
    have te2 : (e3 != 0) = true := by rw [bne_iff_ne]; exact he
    have HE := Lib.hid he
    clear hl2 hR hg hb2 hll2 he hq
    go_wp2_with fail
    go_ret
    rw [HQ.out]
    exact ⟨rfl, tw_err HR.out HE.out HBY.out HLL.out, HG.out⟩

set_option maxRecDepth 100000 in
set_option maxHeartbeats 1000000 in
theorem tend_any (p d : Nat) (l : List Int) (e : Int) (w : World) (h : Tw p d w l e) (ho : Hm.Okay l e) :
    Calls Try.prog 25 #[.pointer (some ⟨p, 0, none⟩)] w fun x w' => x = .returned (.int .i64 (Hm.rEnd l e)) ∧ w = w' := by
  obtain ⟨l2, hR, hl2, hb, hl⟩ := h
  obtain ⟨a, n, c, h0, h1, f0, f1, hn, hnc, hv⟩ := hR.open
  have hn2 : n ≤ 1000 := by rw [hn.out]; exact hl
  clear hR hb hl hv f0 f1
  by_cases he : e = 0
  · obtain rfl := hl2 he
    clear hl2
    by_cases hn0 : 0 < n
    · have hr : Hid (Hm.rEnd l2 e = 2) := by
        show _ = _
        rw [Hm.rEnd, if_pos ⟨he, by rw [← hn.out]; exact hn0⟩]
      subst he
      have hn1 : 0 < (n : Int) := by omega
      clear ho
      go_enter Try.func25, Try.ntmps25
      go_wp2_with fail
      go_ret
      exact ⟨ret_int hr.out.symm, rfl⟩
    · obtain rfl : n = 0 := by omega
      have hr : Hid (Hm.rEnd l2 e = 0) := by
        show _ = _
        rw [Hm.rEnd, if_neg (by rw [← hn.out]; omega), he]
      subst he
      clear hn0 ho
      go_enter Try.func25, Try.ntmps25
      go_wp2_with fail
      go_ret
      exact ⟨ret_int hr.out.symm, rfl⟩
  · have hr : Hid (Hm.rEnd l e = e) := by
      show _ = _
      rw [Hm.rEnd, if_neg (fun h => he h.1)]
    have te : (e == 0) = false := by rw [beq_eq_false_iff_ne]; exact he
    clear he ho hl2
    go_enter Try.func25, Try.ntmps25
    go_wp2_with fail
    go_ret
    exact ⟨ret_int hr.out.symm, rfl⟩

end Go.Proofs.Ytgipfbmomhlcjaa
