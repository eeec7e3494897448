/- The reader of the reference model: what its methods return; its box alone turns. -/
import Derived.Test.YtgipfbmomhlcjaaOne
import Derived.Test.YtgipfbmomhlcjaaRef02
namespace Go.Proofs.Ytgipfbmomhlcjaa
open Go.RowKit Go.Shelf

/-- The reference reader at p stands where a reader with the bytes l and the error e does: with an error its bytes are of no account. -/
def Tw (p d : Nat) (w : World) (l : List Int) (e : Int) : Prop := ∃ l2, Rd p d w l2 e ∧ (e = 0 → l2 = l) ∧ Hm.Byt l2 ∧ l2.length ≤ 1000

theorem tw_of {p d : Nat} {w : World} {l : List Int} {e : Int} (h : Rd p d w l e) (hb : Hm.Byt l) (hl : l.length ≤ 1000) : Tw p d w l e := ⟨l, h, fun _ => rfl, hb, hl⟩

theorem tw_err {p d : Nat} {w : World} {l l' : List Int} {e : Int} (h : Rd p d w l e) (he : e ≠ 0) (hb : Hm.Byt l) (hl : l.length ≤ 1000) : Tw p d w l' e := ⟨l, h, fun h0 => absurd h0 he, hb, hl⟩

theorem Tw.keep {p d : Nat} {w w' : World} {l : List Int} {e : Int} (h : Tw p d w l e) (hs : w.heap.size ≤ w'.heap.size) (hp : w'.heap[p]? = w.heap[p]?) (hd : d < w.heap.size → w'.heap[d]? = w.heap[d]?) : Tw p d w' l e := by
  obtain ⟨l2, hR, h1⟩ := h
  exact ⟨l2, hR.keep hs hp hd, h1⟩

theorem Tw.other {p d p2 : Nat} {w w' : World} {l : List Int} {e : Int} (h : Tw p d w l e) (hG : w.grownBy w' (some p2)) (hp : p ≠ p2) (hd : d ≠ p2) : Tw p d w' l e := by
  obtain ⟨l2, hR, h1⟩ := h
  exact ⟨l2, hR.other hG hp hd, h1⟩

theorem Tw.below {p d : Nat} {w w' : World} {l : List Int} {e : Int} (h : Tw p d w l e) (hB : Below w.heap.size w w') : Tw p d w' l e := by
  obtain ⟨l2, hR, h1⟩ := h
  exact ⟨l2, hR.below hB, h1⟩

theorem Tw.lt {p d : Nat} {w : World} {l : List Int} {e : Int} (h : Tw p d w l e) : p < w.heap.size := by
  obtain ⟨l2, hR, _⟩ := h
  exact hR.lt

/-- What a method of the reference reader leaves. -/
def Tws (p d : Nat) (w : World) (v : Value) (l : List Int) (e : Int) (x : Ending) (w' : World) : Prop := x = .returned v ∧ Tw p d w' l e ∧ w.grownBy w' (some p)

theorem drop_cons {l : List Int} {k : Nat} (h : k < l.length) : l.drop k = l[k]?.getD 0 :: l.drop (k + 1) := by
  rw [List.drop_eq_getElem_cons h, List.getElem?_eq_getElem h]
  rfl

theorem byt_at {l : List Int} (h : Hm.Byt l) (k : Nat) : 0 ≤ l[k]?.getD 0 ∧ l[k]?.getD 0 < 256 := h.at k

/-- A group as the reference reader adds it. -/
theorem add_spelt {k acc U : Nat} {c : Int} (hU : U = 128 ^ k) (hc0 : 0 ≤ c) (h : acc + 128 ^ k * (c.toNat % 128) < 18446744073709551616) : IntKind.u64.wrap ((acc : Int) + IntKind.u64.wrap (c % 128 * (U : Int))) = ((acc + 128 ^ k * (c.toNat % 128) : Nat) : Int) := by
  subst hU
  have e1 : c % 128 * ((128 ^ k : Nat) : Int) = ((128 ^ k * (c.toNat % 128) : Nat) : Int) := by
    have e2 : c % 128 = ((c.toNat % 128 : Nat) : Int) := by omega
    rw [e2, Int.natCast_mul, Int.mul_comm]
  rw [e1, IntKind.wrap_u64, IntKind.wrap_u64]
  omega

theorem unit_spelt {k U : Nat} (hU : U = 128 ^ k) (hk : k ≤ 8) : IntKind.u64.wrap ((U : Int) * 128) = ((128 ^ (k + 1) : Nat) : Int) := by
  subst hU
  have h := Hm.pow128_le hk
  rw [IntKind.wrap_u64, Nat.pow_succ]
  omega

set_option maxRecDepth 100000 in
set_option maxHeartbeats 4000000 in
theorem tuint0 (p d : Nat) (l : List Int) (w : World) (h : Rd p d w l 0) (hb : Hm.Byt l) (hl : l.length ≤ 1000) :
    Calls Try.prog 49 #[.pointer (some ⟨p, 0, none⟩)] w (Tws p d w (.int .u64 (Hm.rU l 0).1) (Hm.rU l 0).2.1 (Hm.rU l 0).2.2) := by
  obtain ⟨a, n, c, h0, h1, f0, f1, hn, hnc, hv⟩ := h.open
  have HH := Lib.hid h
  have HBY := Lib.hid hb
  have HLL := Lib.hid hl
  have hn9 : n ≤ 1000 := by rw [hn.out]; exact hl
  clear h hb hl
  go_enter Try.func49, Try.ntmps49
  go_wp2_with fail
  go_loop [3, 4, 5] (fun v u i => ∃ k acc U : Nat, k ≤ 9 ∧ k ≤ n ∧ i = .int .i64 k ∧ v = .int .u64 acc ∧ u = .int .u64 U ∧ Hid (U = 128 ^ k) ∧ Hid (acc < 128 ^ k ∧ Hm.rdU 0 0 l = Hm.rdU k acc (l.drop k))) (fun _ _ i => 10 - (intOf i).toNat)
  case atStart => exact ⟨0, 0, 1, by omega, by omega, rfl, rfl, rfl, rfl, ⟨by decide, rfl⟩⟩
  case round =>
    obtain ⟨k, acc, U, hk, hkn, rfl, rfl, rfl, hU, hD⟩ := hrel
    by_cases hlt : k < n
    · have hdc := Lib.hid (drop_cons (l := l) (k := k) (by rw [← hn.out]; exact hlt))
      obtain ⟨hc0, hc1⟩ := byt_at HBY.out k
      obtain ⟨b, off, rfl, hcx⟩ := (took_els hv.out).at k hlt
      have HD2 := Lib.hid (show Hm.rdU 0 0 l = Hm.rdU k acc (l[k]?.getD 0 :: l.drop (k + 1)) by rw [← hdc.out]; exact hD.out.2)
      generalize l[k]?.getD 0 = cc at *
      have hklt : ¬ (n : Int) ≤ k := by omega
      by_cases k9 : k = 9
      · have t9 : ((k : Int) == 9) = true := by rw [beq_iff_eq]; omega
        have tk0 : 0 < (k : Int) := by omega
        have K9 := Lib.hid k9
        clear k9 hklt
        by_cases c1 : 1 < cc
        · have ok := c1
          go_wp2_with fail
          go_ret
          have e0 : Hm.rU l 0 = (0, [], 2) := rU_bad 0 HD2.out (.inl ⟨K9.out, c1⟩)
          rw [e0]
          exact ⟨rfl, tw_err (HH.out.err (e' := 2)) (by decide) HBY.out HLL.out, grown_set _ _ _ _⟩
        · have c1' : cc ≤ 1 := by omega
          clear c1
          by_cases c0 : cc = 0
          · subst c0
            go_wp2_with fail
            go_ret
            have e0 : Hm.rU l 0 = (0, [], 2) := rU_bad 0 HD2.out (.inr ⟨by omega, rfl⟩)
            rw [e0]
            exact ⟨rfl, tw_err (HH.out.err (e' := 2)) (by decide) HBY.out HLL.out, grown_set _ _ _ _⟩
          · have tc0 : (cc == 0) = false := by rw [beq_eq_false_iff_ne]; exact c0
            have c128 : cc < 128 := by omega
            have hadd := Lib.hid (add_spelt (c := cc) (acc := acc) hU.out hc0 (group_fits hk (by omega) hD.out.1))
            have hr := Lib.hid (rU_last 0 HD2.out (by omega) c128)
            have hk1 := Lib.hid (show k + 1 ≤ l.length by rw [← hn.out]; exact hlt)
            have hby1 := Lib.hid (HBY.out.drop (k + 1))
            have hle1 := Lib.hid (show (l.drop (k + 1)).length ≤ 1000 by rw [List.length_drop]; have := HLL.out; omega)
            by_cases hkc : k + 1 = c
            · obtain rfl : n = k + 1 := by omega
              subst hkc
              go_wp2_with fail
              go_ret
              rw [hr.out]
              obtain ⟨_, _, _, _, _, _, hR, hG⟩ := took_mk (sv := .slice (some ⟨b, off, none⟩) 0 0) HH.out hv.out hk1.out hn.out (.inl ⟨.inr ⟨_, 0, rfl⟩, hn.out⟩)
              refine ⟨ret_int ?_, tw_of hR.out hby1.out hle1.out, hG.out⟩
              rw [hadd.out, show cc.toNat % 128 = cc.toNat by omega]
            · have hkc2 : k + 1 < c := by omega
              have hkc3 : (k : Int) + 1 < c := by omega
              clear hkc
              go_wp2_with fail
              go_ret
              rw [hr.out]
              obtain ⟨_, _, _, _, _, _, hR, hG⟩ := took_mk (sv := .slice (some ⟨b, off + (k + 1), none⟩) (n - (k + 1)) (c - (k + 1))) HH.out hv.out hk1.out hn.out (.inr ⟨_, rfl, by simp [Addr.add]⟩)
              refine ⟨ret_int ?_, tw_of hR.out hby1.out hle1.out, hG.out⟩
              rw [hadd.out, show cc.toNat % 128 = cc.toNat by omega]
      · have hk8 : k ≤ 8 := by omega
        have t9 : ((k : Int) == 9) = false := by rw [beq_eq_false_iff_ne]; omega
        by_cases k0 : k = 0
        · have tk0 : decide (0 < (k : Int)) = false := by rw [decide_eq_false_iff_not]; omega
          have tk00 : (k : Int) ≤ 0 := by omega
          have K0 := Lib.hid k0
          clear k9 k0 hklt
          by_cases c128 : cc < 128
          · have ok := c128
            have hadd := Lib.hid (add_spelt (c := cc) (acc := acc) hU.out hc0 (group_fits hk (by omega) hD.out.1))
            have hr := Lib.hid (rU_last 0 HD2.out (by omega) c128)
            have hk1 := Lib.hid (show k + 1 ≤ l.length by rw [← hn.out]; exact hlt)
            have hby1 := Lib.hid (HBY.out.drop (k + 1))
            have hle1 := Lib.hid (show (l.drop (k + 1)).length ≤ 1000 by rw [List.length_drop]; have := HLL.out; omega)
            by_cases hkc : k + 1 = c
            · obtain rfl : n = k + 1 := by omega
              subst hkc
              go_wp2_with fail
              go_ret
              rw [hr.out]
              obtain ⟨_, _, _, _, _, _, hR, hG⟩ := took_mk (sv := .slice (some ⟨b, off, none⟩) 0 0) HH.out hv.out hk1.out hn.out (.inl ⟨.inr ⟨_, 0, rfl⟩, hn.out⟩)
              refine ⟨ret_int ?_, tw_of hR.out hby1.out hle1.out, hG.out⟩
              rw [hadd.out, show cc.toNat % 128 = cc.toNat by omega]
            · have hkc2 : k + 1 < c := by omega
              have hkc3 : (k : Int) + 1 < c := by omega
              clear hkc
              go_wp2_with fail
              go_ret
              rw [hr.out]
              obtain ⟨_, _, _, _, _, _, hR, hG⟩ := took_mk (sv := .slice (some ⟨b, off + (k + 1), none⟩) (n - (k + 1)) (c - (k + 1))) HH.out hv.out hk1.out hn.out (.inr ⟨_, rfl, by simp [Addr.add]⟩)
              refine ⟨ret_int ?_, tw_of hR.out hby1.out hle1.out, hG.out⟩
              rw [hadd.out, show cc.toNat % 128 = cc.toNat by omega]
          · have hadd := Lib.hid (add_spelt (c := cc) (acc := acc) hU.out hc0 (group_fits hk (by omega) hD.out.1))
            have hun := Lib.hid (unit_spelt hU.out hk8)
            have hm := Lib.hid (Hm.rdU_more (i := k) (acc := acc) (c := cc) (l := l.drop (k + 1)) (by have := K0.out; omega) (by omega))
            go_wp2_with fail
            go_round
            case rel => exact ⟨k + 1, acc + 128 ^ k * (cc.toNat % 128), 128 ^ (k + 1), by omega, by omega, by go_num, congrArg _ hadd.out, congrArg _ hun.out, rfl, ⟨group_next hD.out.1, HD2.out.trans hm.out⟩⟩
            case measure => simp [intOf]; omega
        · have tk0 : 0 < (k : Int) := by omega
          by_cases c0 : cc = 0
          · subst c0
            go_wp2_with fail
            go_ret
            have e0 : Hm.rU l 0 = (0, [], 2) := rU_bad 0 HD2.out (.inr ⟨by omega, rfl⟩)
            rw [e0]
            exact ⟨rfl, tw_err (HH.out.err (e' := 2)) (by decide) HBY.out HLL.out, grown_set _ _ _ _⟩
          · have tc0 : (cc == 0) = false := by rw [beq_eq_false_iff_ne]; exact c0
            by_cases c128 : cc < 128
            · have ok := c128
              have hadd := Lib.hid (add_spelt (c := cc) (acc := acc) hU.out hc0 (group_fits hk (by omega) hD.out.1))
              have hr := Lib.hid (rU_last 0 HD2.out (by omega) c128)
              have hk1 := Lib.hid (show k + 1 ≤ l.length by rw [← hn.out]; exact hlt)
              have hby1 := Lib.hid (HBY.out.drop (k + 1))
              have hle1 := Lib.hid (show (l.drop (k + 1)).length ≤ 1000 by rw [List.length_drop]; have := HLL.out; omega)
              by_cases hkc : k + 1 = c
              · obtain rfl : n = k + 1 := by omega
                subst hkc
                go_wp2_with fail
                go_ret
                rw [hr.out]
                obtain ⟨_, _, _, _, _, _, hR, hG⟩ := took_mk (sv := .slice (some ⟨b, off, none⟩) 0 0) HH.out hv.out hk1.out hn.out (.inl ⟨.inr ⟨_, 0, rfl⟩, hn.out⟩)
                refine ⟨ret_int ?_, tw_of hR.out hby1.out hle1.out, hG.out⟩
                rw [hadd.out, show cc.toNat % 128 = cc.toNat by omega]
              · have hkc2 : k + 1 < c := by omega
                have hkc3 : (k : Int) + 1 < c := by omega
                clear hkc
                go_wp2_with fail
                go_ret
                rw [hr.out]
                obtain ⟨_, _, _, _, _, _, hR, hG⟩ := took_mk (sv := .slice (some ⟨b, off + (k + 1), none⟩) (n - (k + 1)) (c - (k + 1))) HH.out hv.out hk1.out hn.out (.inr ⟨_, rfl, by simp [Addr.add]⟩)
                refine ⟨ret_int ?_, tw_of hR.out hby1.out hle1.out, hG.out⟩
                rw [hadd.out, show cc.toNat % 128 = cc.toNat by omega]
            · have hadd := Lib.hid (add_spelt (c := cc) (acc := acc) hU.out hc0 (group_fits hk (by omega) hD.out.1))
              have hun := Lib.hid (unit_spelt hU.out hk8)
              have hm := Lib.hid (Hm.rdU_more (i := k) (acc := acc) (c := cc) (l := l.drop (k + 1)) (by omega) (by omega))
              clear k9 k0 c0
              go_wp2_with fail
              go_round
              case rel => exact ⟨k + 1, acc + 128 ^ k * (cc.toNat % 128), 128 ^ (k + 1), by omega, by omega, by go_num, congrArg _ hadd.out, congrArg _ hun.out, rfl, ⟨group_next hD.out.1, HD2.out.trans hm.out⟩⟩
              case measure => simp [intOf]; omega
    · have hge : (n : Int) ≤ k := by omega
      have hdn : Hid (l.drop k = []) := by show _ = _; rw [List.drop_eq_nil_iff]; rw [← hn.out]; omega
      go_wp2_with fail
      go_ret
      have e0 : Hm.rU l 0 = (0, [], 3) := by rw [Hm.rU, hD.out.2, hdn.out, Hm.rdU_nil]; rfl
      rw [e0]
      exact ⟨rfl, tw_err (HH.out.err (e' := 3)) (by decide) HBY.out HLL.out, grown_set _ _ _ _⟩

theorem okay_nil {l : List Int} {e : Int} (h : Hm.Okay l e) (he : e ≠ 0) : l = [] := by
  rcases h with h | ⟨_, h⟩
  · exact absurd h he
  · exact h

set_option maxRecDepth 100000 in
set_option maxHeartbeats 1000000 in
theorem tuint1 (p d : Nat) (l2 : List Int) (e : Int) (w : World) (h : Rd p d w l2 e) (he : e ≠ 0) :
    Calls Try.prog 49 #[.pointer (some ⟨p, 0, none⟩)] w fun x w' => x = .returned (.int .u64 0) ∧ w = w' := by
  obtain ⟨a, n, c, h0, h1, f0, f1, hn, hnc, hv⟩ := h.open
  have te : (e == 0) = false := by rw [beq_eq_false_iff_ne]; exact he
  clear h he
  go_enter Try.func49, Try.ntmps49
  go_wp2_with fail
  go_loop [3, 4, 5] (fun v u i => v = .int .u64 0 ∧ u = .int .u64 1 ∧ i = .int .i64 0) (fun _ _ _ => 0)
  case atStart => exact ⟨rfl, rfl, rfl⟩
  case round =>
    obtain ⟨rfl, rfl, rfl⟩ := hrel
    go_wp2_with fail
    go_ret
    exact ⟨rfl, rfl⟩

theorem tuint_any (p d : Nat) (l : List Int) (e : Int) (w : World) (h : Tw p d w l e) (ho : Hm.Okay l e) :
    Calls Try.prog 49 #[.pointer (some ⟨p, 0, none⟩)] w (Tws p d w (.int .u64 (Hm.rU l e).1) (Hm.rU l e).2.1 (Hm.rU l e).2.2) := by
  obtain ⟨l2, hR, h0, hb, hl⟩ := h
  by_cases he : e = 0
  · subst he
    obtain rfl := h0 rfl
    exact tuint0 p d l2 w hR hb hl
  · obtain rfl := okay_nil ho he
    rw [Hm.rU_err he]
    refine (tuint1 p d l2 e w hR he).mono ?_
    rintro x w' ⟨rfl, rfl⟩
    exact ⟨rfl, tw_err hR he hb hl, grown_refl _ _⟩

end Go.Proofs.Ytgipfbmomhlcjaa
