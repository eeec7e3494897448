/- Contracts of package span: sortedEnds. -/
import Derived.Test.YtimbgjpjgbjnkaaSp5
import Derived.Test.YtimbgjpjgbjnkaaSp3Sp4
namespace Go.Proofs.Ytimbgjpjgbjnkaa
open Go.RowKit Go.Shelf

theorem ROwn.head {α : Type} {R : RowOf α} {E : TypeId} {B : Nat} {w : World} {a : Option Addr} {n c : Nat} {xs : List α} (h : ROwn R E B w (.slice a n c) xs) (h0 : 0 < n) : ∃ g, a = some ⟨g, 0, none⟩ ∧ B ≤ g := by
  obtain ⟨_, ⟨hv, _⟩ | ⟨g, cap, cur, hv, hg, _⟩⟩ := h
  · cases hv; omega
  · cases hv; exact ⟨g, rfl, hg⟩

/-- An end, as numbers. -/
def En.raw (e : En) : Cut × Int × Int := (e.c, e.i, e.h)

/-- The ends of a list's intervals. -/
def rawEnds (i : Nat) (xs : List Iv) : List (Cut × Int × Int) := xs.flatMap fun x => [(x.from, (i : Int), 1), (x.to, (i : Int), -1)]

/-- The ends of the first k lists. -/
def allEnds (xss : List (List Iv)) (k : Nat) : List (Cut × Int × Int) := (List.range k).flatMap fun i => rawEnds i (xss[i]?.getD [])

/-- All ends. -/
def ends0 : List (Cut × Int × Int) := [(lowC, 0, 0), (highC, 0, 0)]

theorem rawEnds_len (i : Nat) (xs : List Iv) : (rawEnds i xs).length = 2 * xs.length := by
  induction xs with
  | nil => rfl
  | cons x xs ih => unfold rawEnds at *; rw [List.flatMap_cons, List.length_append, ih, List.length_cons]; simp; omega

theorem rawEnds_snoc (i : Nat) {xs : List Iv} {j : Nat} {x : Iv} (h : xs[j]? = some x) : rawEnds i (xs.take (j + 1)) = rawEnds i (xs.take j) ++ [(x.from, (i : Int), 1), (x.to, (i : Int), -1)] := by
  unfold rawEnds
  rw [List.take_add_one, h, List.flatMap_append]
  simp

theorem allEnds_succ (xss : List (List Iv)) (k : Nat) : allEnds xss (k + 1) = allEnds xss k ++ rawEnds k (xss[k]?.getD []) := by
  unfold allEnds
  rw [List.range_succ, List.flatMap_append]
  simp

theorem allEnds_len {xss : List (List Iv)} (h : ∀ xs ∈ xss, xs.length ≤ 100000) (k : Nat) : (allEnds xss k).length ≤ 200000 * k := by
  induction k with
  | zero => simp [allEnds]
  | succ k ih =>
    rw [allEnds_succ, List.length_append, rawEnds_len]
    have : (xss[k]?.getD []).length ≤ 100000 := by
      cases hx : xss[k]? with
      | none => simp
      | some xs => exact h xs (List.mem_of_getElem? hx)
    omega

/-- A slice of slices of intervals. -/
def LEls (w : World) (sv : Value) (xss : List (List Iv)) : Prop := ∃ b cap, sv = .slice (some ⟨b, 0, none⟩) xss.length cap ∧ xss.length ≤ cap ∧ b < w.heap.size ∧ ∀ (j : Nat) (xs : List Iv), xss[j]? = some xs → ∃ v, w.cell? ⟨b, j, none⟩ = some v ∧ REls RIv w v xs

theorem LEls.below {w W : World} {sv : Value} {xss : List (List Iv)} (h : LEls w sv xss) (hB : Below w.heap.size w W) : LEls W sv xss := by
  obtain ⟨b, cap, e, hc, hb, hat⟩ := h
  refine ⟨b, cap, e, hc, Nat.lt_of_lt_of_le hb hB.size, fun j xs hx => ?_⟩
  obtain ⟨v, h1, h2⟩ := hat j xs hx
  exact ⟨v, (hB.cell (p := ⟨b, j, none⟩) hb).trans h1, h2.below hB⟩

theorem Try.infoEnd : (Try.prog.info? 115).map (fun i => (i.zero, i.size, i.bytes)) = some (some (.agg #[.int .i64 0, .int .i64 0, .bool false, .int .i64 0, .int .i64 0]), 5, 40) := by kernel_rfl

/-- What sortedEnds leaves. -/
def EndsOut (T : List (Cut × Int × Int)) (w : World) (e : Ending) (w' : World) : Prop := ∃ ys : List En, SortedE ys ∧ (ys.map En.raw).Perm T ∧ RMakes REn 115 ys w e w'

set_option maxHeartbeats 8000000 in
set_option maxRecDepth 100000 in
theorem ends_any (sv : Value) (xss : List (List Iv)) (w : World) (h : LEls w sv xss) (hg : ∀ xs ∈ xss, ∀ x ∈ xs, x.good = true) (hl : ∀ xs ∈ xss, xs.length ≤ 100000) (hm : xss.length ≤ 10) :
    Calls Try.prog 86 #[sv] w (EndsOut (ends0 ++ allEnds xss xss.length) w) := by
  have hlen := Lib.hid fun k => allEnds_len hl k
  have HL := Lib.hid hl
  obtain ⟨b, cap, rfl, hcap, hb, hat⟩ := h
  have HAT := Lib.hid hat
  have HG := Lib.hid hg
  generalize hm' : xss.length = m at *
  have HM := Lib.hid hm'
  clear hat hg hm' hl
  have k1 := Lib.hid fun w => lowest_any w
  have k2 := Lib.hid fun w => highest_any w
  have hcut : lowC.v = .agg #[.int .i64 (-1099511627776), .int .i64 1, .bool false] := rfl
  have hcut2 : highC.v = .agg #[.int .i64 1099511627776, .int .i64 1, .bool true] := rfl
  rw [hcut] at k1
  rw [hcut2] at k2
  clear hcut hcut2
  go_enter Try.func86, Try.ntmps86
  go_wp2_with fail
  refine (k1.out _).mono ?_
  rintro e w' ⟨rfl, rfl⟩
  go_wp2_with fail
  refine (k2.out _).mono ?_
  rintro e w' ⟨rfl, rfl⟩
  have hO0 := ROwn.new REn 115 ((w.alloc (.cells #[.int .i64 (-1099511627776), .int .i64 1, .bool false] 75)).alloc (.cells #[.int .i64 1099511627776, .int .i64 1, .bool true] 75)) [⟨lowC, 0, 0, key_low⟩, ⟨highC, 0, 0, key_high⟩] #[.int .i64 (-1099511627776), .int .i64 1, .bool false, .int .i64 0, .int .i64 0, .int .i64 1099511627776, .int .i64 1, .bool true, .int .i64 0, .int .i64 0] rfl (by show 2 ≤ maxLen; unfold maxLen; omega)
  rw [size_alloc, size_alloc] at hO0
  have hB0 := (((Below.refl w.heap.size w).alloc (Nat.le_refl _) (.cells #[.int .i64 (-1099511627776), .int .i64 1, .bool false] 75)).alloc (by simp) (.cells #[.int .i64 1099511627776, .int .i64 1, .bool true] 75)).alloc (by simp; omega) (.cells #[.int .i64 (-1099511627776), .int .i64 1, .bool false, .int .i64 0, .int .i64 0, .int .i64 1099511627776, .int .i64 1, .bool true, .int .i64 0, .int .i64 0] 115)
  have HO0 := Lib.hid (hO0.base (B' := w.heap.size) (by omega))
  have HB0 := Lib.hid hB0
  clear hO0 hB0 k1 k2
  go_wp2
  go_loopw [3, 17] (fun v x wr => ∃ k : Nat, ∃ a : Option Addr, ∃ n c : Nat, ∃ es : List En, k ≤ m ∧ x = .int .i64 k ∧ v = .slice a n c ∧ Hid (n = es.length) ∧ Hid (ROwn REn 115 w.heap.size wr (.slice a n c) es) ∧ Hid (es.map En.raw = ends0 ++ allEnds xss k) ∧ Hid (Below w.heap.size w wr)) (fun _ x _ => m - (intOf x).toNat)
  case atStart => exact ⟨0, _, _, _, [⟨lowC, 0, 0, key_low⟩, ⟨highC, 0, 0, key_high⟩], by omega, rfl, rfl, rfl, HO0, rfl, HB0⟩
  case round =>
    obtain ⟨k, a, n, c, es, hk, rfl, rfl, hn, hO, hE, hB⟩ := hrel
    rename World => wo
    by_cases hlt : k < m
    · have hki : (k : Int) < m := by omega
      obtain ⟨xs, hx⟩ : ∃ xs, xss[k]? = some xs := ⟨xss[k]'(by rw [HM.out]; exact hlt), List.getElem?_eq_getElem _⟩
      obtain ⟨lv, hc1, hR⟩ := HAT.out k xs hx
      obtain ⟨la, lc, rfl⟩ := hR.shape
      have hcell := (hB.out.cell (p := ⟨b, k, none⟩) hb).trans hc1
      have HGX := Lib.hid (HG.out xs (List.mem_of_getElem? hx))
      have hxl := HL.out xs (List.mem_of_getElem? hx)
      have HX := Lib.hid hx
      have HR := Lib.hid hR
      generalize hln : xs.length = l at *
      have HLN := Lib.hid hln
      clear hc1 hR hx hln
      go_wp2
      go_loopw [3, 24] (fun v x wr => ∃ j : Nat, ∃ a : Option Addr, ∃ n c : Nat, ∃ es : List En, j ≤ l ∧ x = .int .i64 j ∧ v = .slice a n c ∧ Hid (n = es.length) ∧ Hid (ROwn REn 115 w.heap.size wr (.slice a n c) es) ∧ Hid (es.map En.raw = ends0 ++ allEnds xss k ++ rawEnds k (xs.take j)) ∧ Hid (Below w.heap.size w wr)) (fun _ x _ => l - (intOf x).toNat)
      case atStart => exact ⟨0, a, n, c, es, by omega, rfl, rfl, hn, hO, by show Hid (_ = _ ++ rawEnds k []); rw [show rawEnds k [] = [] from rfl, List.append_nil]; exact hE, hB⟩
      case round =>
        clear hn hO hE hB hcell
        obtain ⟨j, a, n, c, es, hj, rfl, rfl, hn, hO, hE, hB⟩ := hrel
        by_cases hlt2 : j < l
        · have hji : (j : Int) < l := by omega
          obtain ⟨x, hx⟩ : ∃ x, xs[j]? = some x := ⟨xs[j]'(by rw [HLN.out]; exact hlt2), List.getElem?_eq_getElem _⟩
          obtain ⟨b2, rfl, -⟩ := HR.out.get hlt2
          obtain ⟨g0, g1, g2, g3, g4, g5, g6, g7, hb2⟩ := iv_at (HR.out.below hB.out) hx
          have k3 := Lib.hid fun W => bounds_any x W
          have hok := good_parts (HGX.out x (List.mem_of_getElem? hx))
          have hnl : es.length ≤ 3000000 := by
            have h1 := congrArg List.length hE.out
            have h2 := hlen.out k
            rw [List.length_map, List.length_append, List.length_append, rawEnds_len, List.length_take] at h1
            have : ends0.length = 2 := rfl
            omega
          have HS := Lib.hid (rawEnds_snoc k hx)
          generalize x.from = fc at *
          generalize x.to = tc at *
          have HF1 := Lib.hid hok.1
          have HF2 := Lib.hid hok.2.1
          clear hx hok
          have hB1 := Lib.hid (hB.out.alloc hB.out.size (.cells #[.int .i64 x.a, .int .i64 x.b, .int .i64 x.c, .int .i64 x.d, .bool x.p, .bool x.q, .bool x.r, .bool x.s] 27))
          have hO1 := Lib.hid (hO.out.below ((Below.refl _ wr).alloc (Nat.le_refl _) (.cells #[.int .i64 x.a, .int .i64 x.b, .int .i64 x.c, .int .i64 x.d, .bool x.p, .bool x.q, .bool x.r, .bool x.s] 27)))
          clear hB hO
          obtain ⟨xa, xb, xc, xd, xp, xq, xr, xs'⟩ := x
          obtain ⟨fn, fd, fa⟩ := fc
          obtain ⟨tn, td, ta⟩ := tc
          unfold Iv.v Cut.v at k3
          simp only at *
          go_wp2_with fail
          refine (k3.out _).mono ?_
          rintro e w2 ⟨rfl, hB⟩
          have H2 := Lib.hid (((hB1.out.trans (hB.mono hB1.out.size)).alloc (hB1.out.trans (hB.mono hB1.out.size)).size (.cells #[.int .i64 fn, .int .i64 fd, .bool fa] 75)).alloc (Nat.le_trans (hB1.out.trans (hB.mono hB1.out.size)).size (by simp)) (.cells #[.int .i64 tn, .int .i64 td, .bool ta] 75))
          have O2 := Lib.hid (((hO1.out.below hB).below ((Below.refl _ w2).alloc (Nat.le_refl _) (.cells #[.int .i64 fn, .int .i64 fd, .bool fa] 75))).below ((Below.refl _ (w2.alloc (.cells #[.int .i64 fn, .int .i64 fd, .bool fa] 75))).alloc (Nat.le_refl _) (.cells #[.int .i64 tn, .int .i64 td, .bool ta] 75)))
          clear hB hB1 hO1 g0 g1 g2 g3 g4 g5 g6 g7
          go_wp2_with (at_builtin; refine push_row rfl _ _ _ rfl REn 115 40 _ Try.underlying112 Try.infoEnd rfl (by decide) w.heap.size (.slice a n c) es [⟨⟨fn, fd, fa⟩, (k : Int), 1, HF1.out⟩, ⟨⟨tn, td, ta⟩, (k : Int), -1, HF2.out⟩] _ _ rfl rfl _ 2 (by simp) rfl rfl O2.out (by have := H2.out.size; simp at this ⊢; omega) (by omega) ?_; intro an nn cn wn hnn hOn hBn)
          go_roundw
          case rel =>
            refine ⟨j + 1, an, nn, cn, es ++ [⟨⟨fn, fd, fa⟩, (k : Int), 1, HF1.out⟩, ⟨⟨tn, td, ta⟩, (k : Int), -1, HF2.out⟩], by omega, by go_num, rfl, ?_, hOn, ?_, H2.out.trans hBn.out⟩
            · show nn = _
              rw [hnn.out, List.length_append]
              rfl
            · show List.map _ _ = _
              rw [HS.out, List.map_append, hE.out, List.append_assoc]
              rfl
          case measure => simp [intOf]; omega
        · have hji : (l : Int) ≤ (j : Int) := by omega
          have hE2 : Hid (es.map En.raw = ends0 ++ allEnds xss (k + 1)) := by
            have := hE.out
            rw [List.take_of_length_le (by rw [HLN.out]; omega)] at this
            show es.map En.raw = ends0 ++ allEnds xss (k + 1)
            rw [allEnds_succ, HX.out, this, List.append_assoc]
            rfl
          go_wp2
          go_roundw
          case rel => exact ⟨k + 1, a, n, c, es, by omega, by go_num, rfl, hn, hO, hE2, hB⟩
          case measure => simp [intOf]; omega
    · have hki : (m : Int) ≤ (k : Int) := by omega
      have hkm : k = m := by omega
      have hnl : es.length ≤ 3000000 ∧ 2 ≤ es.length := by
        have h1 := congrArg List.length hE.out
        have h2 := hlen.out k
        rw [List.length_map, List.length_append] at h1
        have : ends0.length = 2 := rfl
        omega
      obtain ⟨g, rfl, hg⟩ := hO.out.head (by have := hn.out; omega)
      have ks := Lib.hid (sort_any w.heap.size g n c es wo hO.out (by omega))
      subst hkm
      clear hlt hki
      go_wp2_with fail
      refine (ks.out).mono ?_
      rintro e w2 ⟨rfl, ys, hp, hs, hO2, hB2⟩
      have HE := Lib.hid (hE.out ▸ hp.map En.raw)
      have HS := Lib.hid hs
      have HO2 := Lib.hid hO2
      have HB2 := Lib.hid (hB.out.trans hB2)
      clear hp hs hO2 hB2
      go_wp2
      go_ret
      exact ⟨ys, HS.out, HE.out, rmakes_of HO2.out HB2.out⟩

end Go.Proofs.Ytimbgjpjgbjnkaa
