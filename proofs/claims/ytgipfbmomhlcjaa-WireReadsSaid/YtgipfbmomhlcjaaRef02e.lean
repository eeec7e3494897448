/- Encode of the reference model, and the walk of the law WireWrites. -/
import Derived.Test.YtgipfbmomhlcjaaRef02
import Derived.Test.YtgipfbmomhlcjaaLaw02c
namespace Go.Proofs.Ytgipfbmomhlcjaa
open Go.RowKit Go.Shelf

set_option maxRecDepth 100000 in
set_option maxHeartbeats 8000000 in
theorem sencode_any (a : Option Addr) (n c : Nat) (xs : List V) (w : World) (h : VEls w a n c xs) (hG : ∀ x ∈ xs, x.Good) (hn : n ≤ 100) :
    Calls Try.prog 17 #[.slice a n c] w fun e w' => Makes .u8 5 (encVs xs) w e w' := by
  have HI := Lib.hid Try.infoU8
  have HH := Lib.hid h
  have HG := Lib.hid hG
  have HN := Lib.hid h.1
  clear h hG
  go_enter Try.func17, Try.ntmps17
  go_wp2_with fail
  go_loopw [3, 4] (fun v i wr => ∃ k : Nat, ∃ ao lo co, k ≤ n ∧ i = .int .i64 k ∧ v = .slice ao lo co ∧ Hid (Own .u8 5 w.heap.size wr (.slice ao lo co) (encVs (xs.take k))) ∧ Hid (Below w.heap.size w wr)) (fun _ i _ => n - (intOf i).toNat)
  case atStart => exact ⟨0, none, 0, 0, Nat.zero_le _, rfl, rfl, World.ownsRow_nil _ _ _ _, Below.refl _ _⟩
  case round =>
    obtain ⟨k, ao, lo, co, hk, rfl, rfl, hO, hB⟩ := hrel
    have hs : w.heap.size ≤ wr.heap.size := hB.out.size
    by_cases hlt : k < n
    · obtain ⟨x, hx⟩ : ∃ x, xs[k]? = some x := ⟨_, List.getElem?_eq_getElem (by rw [← HN.out]; exact hlt)⟩
      have hgx := HG.out x (List.mem_of_getElem? hx)
      have hst := Lib.hid (take_snoc_v xs k x hx)
      have hzl := Lib.hid (show (encVs (xs.take k)).length ≤ 2000000 by
        have h9 := encVs_len (xs.take k) fun z hz => HG.out z (List.mem_of_mem_take hz)
        have h10 : (xs.take k).length ≤ k := List.length_take_le _ _
        omega)
      obtain ⟨b, off, bv, lv, rfl, h0, h1, h2, h3, h4, h5, h6, _, _⟩ := HH.out.at hB.out hx
      have hel := Lib.hid (encV_len hgx)
      clear hx
      obtain ⟨kd, u, nn, bs, ls⟩ := x
      dsimp only at h0 h1 h2 h3 h4
      obtain ⟨ab, cb, rfl⟩ := h5.out.shape
      obtain ⟨al, cl, rfl⟩ := h6.out.shape
      by_cases d0 : kd = 0
      · subst d0
        have K2 := Lib.hid (suint_any u wr hgx.u)
        have he : Hid (encV ⟨0, u, nn, bs, ls⟩ = Hm.uv u) := by show _ = _; rfl
        clear hgx
        go_wp2_with fail
        (with_reducible refine K2.out.mono ?_)
        rintro e w2 ⟨a2, n2, c2, rfl, hn2, hO2, hB2⟩
        have hs2 : wr.heap.size ≤ w2.heap.size := hB2.out.size
        have hO3 := Lib.hid (hO.out.below hB2.out)
        go_wp2_with (at_builtin; refine push_all rfl _ _ 24 rfl .u8 5 1 Try.underlying24 HI.out (by decide) w.heap.size (.slice ao lo co) _ _ (Hm.uv u) rfl rfl hO3.out hO2.out.els (by omega) (by have h7 := hzl.out; have h8 := hel.out; rw [he.out] at h8; omega) ?_; intro a4 n4 c4 w4 hn4 hO4 hB4)
        go_roundw
        case rel => exact ⟨k + 1, a4, n4, c4, by omega, by go_num, rfl, (by show Own _ _ _ _ _ _; rw [hst.out, encVs_snoc, he.out]; exact hO4.out), (hB.out.trans (hB2.out.mono hB.out.size)).trans hB4.out⟩
        case measure => simp [intOf]; omega
      by_cases d1 : kd = 1
      · subst d1
        clear d0
        have K2 := Lib.hid (sint_any nn wr hgx.n)
        have he : Hid (encV ⟨1, u, nn, bs, ls⟩ = Hm.uv (Hm.zig nn)) := by show _ = _; rfl
        clear hgx
        go_wp2_with fail
        (with_reducible refine K2.out.mono ?_)
        rintro e w2 ⟨a2, n2, c2, rfl, hn2, hO2, hB2⟩
        have hs2 : wr.heap.size ≤ w2.heap.size := hB2.out.size
        have hO3 := Lib.hid (hO.out.below hB2.out)
        go_wp2_with (at_builtin; refine push_all rfl _ _ 24 rfl .u8 5 1 Try.underlying24 HI.out (by decide) w.heap.size (.slice ao lo co) _ _ (Hm.uv (Hm.zig nn)) rfl rfl hO3.out hO2.out.els (by omega) (by have h7 := hzl.out; have h8 := hel.out; rw [he.out] at h8; omega) ?_; intro a4 n4 c4 w4 hn4 hO4 hB4)
        go_roundw
        case rel => exact ⟨k + 1, a4, n4, c4, by omega, by go_num, rfl, (by show Own _ _ _ _ _ _; rw [hst.out, encVs_snoc, he.out]; exact hO4.out), (hB.out.trans (hB2.out.mono hB.out.size)).trans hB4.out⟩
        case measure => simp [intOf]; omega
      by_cases d2 : kd = 2
      · subst d2
        clear d0 d1
        rcases hgx.n1 rfl with hn0 | hn0
        · dsimp only at hn0
          subst hn0
          have K2 := Lib.hid (show Calls Try.prog 42 #[.bool false] wr fun e w' => Makes .u8 5 [0] wr e w' from sbool_any false wr)
          have he : Hid (encV ⟨2, u, 0, bs, ls⟩ = [0]) := by show _ = _; rfl
          clear hgx
          go_wp2_with fail
          (with_reducible refine K2.out.mono ?_)
          rintro e w2 ⟨a2, n2, c2, rfl, hn2, hO2, hB2⟩
          have hs2 : wr.heap.size ≤ w2.heap.size := hB2.out.size
          have hO3 := Lib.hid (hO.out.below hB2.out)
          go_wp2_with (at_builtin; refine push_all rfl _ _ 24 rfl .u8 5 1 Try.underlying24 HI.out (by decide) w.heap.size (.slice ao lo co) _ _ ([0]) rfl rfl hO3.out hO2.out.els (by omega) (by have h7 := hzl.out; have h8 := hel.out; simp; omega) ?_; intro a4 n4 c4 w4 hn4 hO4 hB4)
          go_roundw
          case rel => exact ⟨k + 1, a4, n4, c4, by omega, by go_num, rfl, (by show Own _ _ _ _ _ _; rw [hst.out, encVs_snoc, he.out]; exact hO4.out), (hB.out.trans (hB2.out.mono hB.out.size)).trans hB4.out⟩
          case measure => simp [intOf]; omega
        · dsimp only at hn0
          subst hn0
          have K2 := Lib.hid (show Calls Try.prog 42 #[.bool true] wr fun e w' => Makes .u8 5 [1] wr e w' from sbool_any true wr)
          have he : Hid (encV ⟨2, u, 1, bs, ls⟩ = [1]) := by show _ = _; rfl
          clear hgx
          go_wp2_with fail
          (with_reducible refine K2.out.mono ?_)
          rintro e w2 ⟨a2, n2, c2, rfl, hn2, hO2, hB2⟩
          have hs2 : wr.heap.size ≤ w2.heap.size := hB2.out.size
          have hO3 := Lib.hid (hO.out.below hB2.out)
          go_wp2_with (at_builtin; refine push_all rfl _ _ 24 rfl .u8 5 1 Try.underlying24 HI.out (by decide) w.heap.size (.slice ao lo co) _ _ ([1]) rfl rfl hO3.out hO2.out.els (by omega) (by have h7 := hzl.out; have h8 := hel.out; simp; omega) ?_; intro a4 n4 c4 w4 hn4 hO4 hB4)
          go_roundw
          case rel => exact ⟨k + 1, a4, n4, c4, by omega, by go_num, rfl, (by show Own _ _ _ _ _ _; rw [hst.out, encVs_snoc, he.out]; exact hO4.out), (hB.out.trans (hB2.out.mono hB.out.size)).trans hB4.out⟩
          case measure => simp [intOf]; omega
      by_cases d3 : kd = 3
      · subst d3
        clear d0 d1 d2
        have K2 := Lib.hid (sraw_any ab bs.length cb bs wr h5.out (by have h7 := hgx.bl; dsimp only at h7; omega))
        have he : Hid (encV ⟨3, u, nn, bs, ls⟩ = Hm.uv bs.length ++ bs) := by show _ = _; rfl
        clear hgx
        go_wp2_with fail
        (with_reducible refine K2.out.mono ?_)
        rintro e w2 ⟨a2, n2, c2, rfl, hn2, hO2, hB2⟩
        have hs2 : wr.heap.size ≤ w2.heap.size := hB2.out.size
        have hO3 := Lib.hid (hO.out.below hB2.out)
        go_wp2_with (at_builtin; refine push_all rfl _ _ 24 rfl .u8 5 1 Try.underlying24 HI.out (by decide) w.heap.size (.slice ao lo co) _ _ (Hm.uv bs.length ++ bs) rfl rfl hO3.out hO2.out.els (by omega) (by have h7 := hzl.out; have h8 := hel.out; rw [he.out] at h8; omega) ?_; intro a4 n4 c4 w4 hn4 hO4 hB4)
        go_roundw
        case rel => exact ⟨k + 1, a4, n4, c4, by omega, by go_num, rfl, (by show Own _ _ _ _ _ _; rw [hst.out, encVs_snoc, he.out]; exact hO4.out), (hB.out.trans (hB2.out.mono hB.out.size)).trans hB4.out⟩
        case measure => simp [intOf]; omega
      by_cases d4 : kd = 4
      · subst d4
        clear d0 d1 d2 d3
        have K2 := Lib.hid (sraw_any ab bs.length cb bs wr h5.out (by have h7 := hgx.bl; dsimp only at h7; omega))
        have he : Hid (encV ⟨4, u, nn, bs, ls⟩ = Hm.uv bs.length ++ bs) := by show _ = _; rfl
        clear hgx
        go_wp2_with fail
        (with_reducible refine K2.out.mono ?_)
        rintro e w2 ⟨a2, n2, c2, rfl, hn2, hO2, hB2⟩
        have hs2 : wr.heap.size ≤ w2.heap.size := hB2.out.size
        have hO3 := Lib.hid (hO.out.below hB2.out)
        go_wp2_with (at_builtin; refine push_all rfl _ _ 24 rfl .u8 5 1 Try.underlying24 HI.out (by decide) w.heap.size (.slice ao lo co) _ _ (Hm.uv bs.length ++ bs) rfl rfl hO3.out hO2.out.els (by omega) (by have h7 := hzl.out; have h8 := hel.out; rw [he.out] at h8; omega) ?_; intro a4 n4 c4 w4 hn4 hO4 hB4)
        go_roundw
        case rel => exact ⟨k + 1, a4, n4, c4, by omega, by go_num, rfl, (by show Own _ _ _ _ _ _; rw [hst.out, encVs_snoc, he.out]; exact hO4.out), (hB.out.trans (hB2.out.mono hB.out.size)).trans hB4.out⟩
        case measure => simp [intOf]; omega
      · obtain rfl : kd = 5 := by have h7 := hgx.kind; dsimp only at h7; omega
        clear d0 d1 d2 d3 d4
        have K2 := Lib.hid (sints_any al ls.length cl ls wr h6.out hgx.nums (by have h7 := hgx.ll; dsimp only at h7; omega))
        have he : Hid (encV ⟨5, u, nn, bs, ls⟩ = Hm.uv ls.length ++ encs ls) := by show _ = _; rfl
        clear hgx
        go_wp2_with fail
        (with_reducible refine K2.out.mono ?_)
        rintro e w2 ⟨a2, n2, c2, rfl, hn2, hO2, hB2⟩
        have hs2 : wr.heap.size ≤ w2.heap.size := hB2.out.size
        have hO3 := Lib.hid (hO.out.below hB2.out)
        go_wp2_with (at_builtin; refine push_all rfl _ _ 24 rfl .u8 5 1 Try.underlying24 HI.out (by decide) w.heap.size (.slice ao lo co) _ _ (Hm.uv ls.length ++ encs ls) rfl rfl hO3.out hO2.out.els (by omega) (by have h7 := hzl.out; have h8 := hel.out; rw [he.out] at h8; omega) ?_; intro a4 n4 c4 w4 hn4 hO4 hB4)
        go_roundw
        case rel => exact ⟨k + 1, a4, n4, c4, by omega, by go_num, rfl, (by show Own _ _ _ _ _ _; rw [hst.out, encVs_snoc, he.out]; exact hO4.out), (hB.out.trans (hB2.out.mono hB.out.size)).trans hB4.out⟩
        case measure => simp [intOf]; omega
    · obtain rfl : k = n := by omega
      have hall : Hid (xs.take k = xs) := by show _ = _; rw [HN.out, List.take_length]
      have hO5 := hO.out
      rw [hall.out] at hO5
      have HO5 := Lib.hid hO5
      clear hO5 hlt
      go_wp2_with fail
      go_ret
      exact makes_of HO5.out hB.out

end Go.Proofs.Ytgipfbmomhlcjaa
