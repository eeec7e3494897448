/- What write and read of the laws do, and Same. -/
import Derived.Test.YtgipfbmomhlcjaaWvals
import Derived.Test.YtgipfbmomhlcjaaWlives
namespace Go.Proofs.Ytgipfbmomhlcjaa
open Go.RowKit Go.Shelf

/-- The value val is x, its slices readable. -/
def VAt (w : World) (val : Value) (x : V) (bv lv : Value) : Prop := val = .agg #[.int .i64 x.kind, .int .u64 x.u, .int .i64 x.n, bv, lv] ∧ Els .u8 w bv x.b ∧ Els .i64 w lv x.l

theorem VAt.below {w w' : World} {val : Value} {x : V} {bv lv : Value} (h : VAt w val x bv lv) (hB : Below w.heap.size w w') : VAt w' val x bv lv := ⟨h.1, h.2.1.below hB, h.2.2.below hB⟩

theorem els_alloc {k : IntKind} {w : World} {sv : Value} {zs : List Int} (h : Els k w sv zs) (o : Obj) : Els k (w.alloc o) sv zs := h.below ((Below.refl _ w).alloc (Nat.le_refl _) _)

theorem wr_alloc {p B : Nat} {w : World} {zs : List Int} (h : Wr p B w zs) (o : Obj) : Wr p B (w.alloc o) zs := h.below ((Below.refl _ w).alloc (Nat.le_refl _) _)

theorem low_alloc {p : Nat} {w : World} (h : p ≤ w.heap.size) (o : Obj) : Below p w (w.alloc o) := (Below.refl p w).alloc h o

theorem bs_str {zs : List Int} (h : Hm.Byt zs) : Hm.bs (strOfNums zs) = zs := bs_nums h

set_option maxRecDepth 100000 in
set_option maxHeartbeats 4000000 in
theorem write_any (p B : Nat) (x : V) (bv lv : Value) (zs : List Int) (w : World) (hG : x.Good) (hz : zs.length ≤ 70000000000) (hE : Els .u8 w bv x.b) (hL : Els .i64 w lv x.l) (hbl : LowEls p bv) (hll : LowEls p lv) (h : Wr p B w zs) :
    Calls Try.prog 14 #[.pointer (some ⟨p, 0, none⟩), .agg #[.int .i64 x.kind, .int .u64 x.u, .int .i64 x.n, bv, lv]] w fun e w' => e = .returned (.tuple #[]) ∧ Wr p B w' (zs ++ encV x) ∧ Below p w w' := by
  obtain ⟨k, u, n, b, l⟩ := x
  simp only at hE hL
  have hpl := h.lt
  have HPL := Lib.hid (show p ≤ w.heap.size by omega)
  clear hpl
  by_cases h0 : k = 0
  · subst h0
    have K := Lib.hid (wuint_any p B u zs (w.alloc (.cells #[.int .i64 0, .int .u64 u, .int .i64 n, bv, lv] 28)) hG.u (by omega) (wr_alloc h _))
    have e0 : encV ⟨0, u, n, b, l⟩ = Hm.uv u := rfl
    rw [e0]
    clear hG hz hE hL hbl hll h e0
    go_enter Try.func14, Try.ntmps14
    go_wp2_with fail
    (with_reducible refine K.out.mono ?_)
    rintro e w1 ⟨rfl, W1, B1⟩
    have W1h := Lib.hid W1
    have B1h := Lib.hid B1
    clear W1 B1
    go_wp2_with fail
    go_end0
    exact ⟨rfl, W1h.out, (low_alloc HPL.out _).trans B1h.out⟩
  by_cases h1 : k = 1
  · subst h1
    have K := Lib.hid (wint_any p B n zs (w.alloc (.cells #[.int .i64 1, .int .u64 u, .int .i64 n, bv, lv] 28)) hG.n (by omega) (wr_alloc h _))
    have e0 : encV ⟨1, u, n, b, l⟩ = Hm.uv (Hm.zig n) := rfl
    rw [e0]
    clear hG hz hE hL hbl hll h e0 h0
    go_enter Try.func14, Try.ntmps14
    go_wp2_with fail
    (with_reducible refine K.out.mono ?_)
    rintro e w1 ⟨rfl, W1, B1⟩
    have W1h := Lib.hid W1
    have B1h := Lib.hid B1
    clear W1 B1
    go_wp2_with fail
    go_end0
    exact ⟨rfl, W1h.out, (low_alloc HPL.out _).trans B1h.out⟩
  by_cases h2 : k = 2
  · subst h2
    rcases hG.n1 rfl with hn | hn
    · simp only at hn
      subst hn
      have K := Lib.hid (wbool_any p B false zs (w.alloc (.cells #[.int .i64 2, .int .u64 u, .int .i64 0, bv, lv] 28)) (by omega) (wr_alloc h _))
      have e0 : encV ⟨2, u, 0, b, l⟩ = [if false = true then 1 else 0] := rfl
      rw [e0]
      clear hG hz hE hL hbl hll h e0 h0 h1
      go_enter Try.func14, Try.ntmps14
      go_wp2_with fail
      (with_reducible refine K.out.mono ?_)
      rintro e w1 ⟨rfl, W1, B1⟩
      have W1h := Lib.hid W1
      have B1h := Lib.hid B1
      clear W1 B1
      go_wp2_with fail
      go_end0
      exact ⟨rfl, W1h.out, (low_alloc HPL.out _).trans B1h.out⟩
    · simp only at hn
      subst hn
      have K := Lib.hid (wbool_any p B true zs (w.alloc (.cells #[.int .i64 2, .int .u64 u, .int .i64 1, bv, lv] 28)) (by omega) (wr_alloc h _))
      have e0 : encV ⟨2, u, 1, b, l⟩ = [if true = true then 1 else 0] := rfl
      rw [e0]
      clear hG hz hE hL hbl hll h e0 h0 h1
      go_enter Try.func14, Try.ntmps14
      go_wp2_with fail
      (with_reducible refine K.out.mono ?_)
      rintro e w1 ⟨rfl, W1, B1⟩
      have W1h := Lib.hid W1
      have B1h := Lib.hid B1
      clear W1 B1
      go_wp2_with fail
      go_end0
      exact ⟨rfl, W1h.out, (low_alloc HPL.out _).trans B1h.out⟩
  by_cases h3 : k = 3
  · subst h3
    have hbs := hG.bl
    have hby := hG.byt
    simp only at hbs hby
    have K := Lib.hid (wtext_any p B (strOfNums b) zs (w.alloc (.cells #[.int .i64 3, .int .u64 u, .int .i64 n, bv, lv] 28)) (by omega) (by rw [strOfNums_size]; omega) (wr_alloc h _))
    rw [strOfNums_size, bs_str hby] at K
    have e0 : encV ⟨3, u, n, b, l⟩ = Hm.uv b.length ++ b := rfl
    rw [e0]
    obtain ⟨a, c, rfl⟩ := hE.shape
    have hcv := conv_els (els_alloc hE (.cells #[.int .i64 3, .int .u64 u, .int .i64 n, .slice a b.length c, lv] 28))
    clear hG hz hE hL hbl hll h e0 h0 h1 h2 hbs hby
    go_enter Try.func14, Try.ntmps14
    go_wp2_with fail
    (with_reducible refine K.out.mono ?_)
    rintro e w1 ⟨rfl, W1, B1⟩
    have W1h := Lib.hid W1
    have B1h := Lib.hid B1
    clear W1 B1
    go_wp2_with fail
    go_end0
    exact ⟨rfl, W1h.out, (low_alloc HPL.out _).trans B1h.out⟩
  by_cases h4 : k = 4
  · subst h4
    have hbs := hG.bl
    simp only at hbs
    obtain ⟨a, c, rfl⟩ := hE.shape
    have K := Lib.hid (wraw_any p B a b.length c b zs (w.alloc (.cells #[.int .i64 4, .int .u64 u, .int .i64 n, .slice a b.length c, lv] 28)) (by omega) (by omega) (els_alloc hE _) (wr_alloc h _) hbl)
    have e0 : encV ⟨4, u, n, b, l⟩ = Hm.uv b.length ++ b := rfl
    rw [e0]
    clear hG hz hE hL hbl hll h e0 h0 h1 h2 h3 hbs
    go_enter Try.func14, Try.ntmps14
    go_wp2_with fail
    (with_reducible refine K.out.mono ?_)
    rintro e w1 ⟨rfl, W1, B1⟩
    have W1h := Lib.hid W1
    have B1h := Lib.hid B1
    clear W1 B1
    go_wp2_with fail
    go_end0
    exact ⟨rfl, W1h.out, (low_alloc HPL.out _).trans B1h.out⟩
  · obtain rfl : k = 5 := by have := hG.kind; simp only at this; omega
    have hls := hG.ll
    simp only at hls
    obtain ⟨a, c, rfl⟩ := hL.shape
    have K := Lib.hid (wints_any p B a l.length c l zs (w.alloc (.cells #[.int .i64 5, .int .u64 u, .int .i64 n, bv, .slice a l.length c] 28)) (by omega) (by omega) hG.nums (els_alloc hL _) (wr_alloc h _) hll)
    have e0 : encV ⟨5, u, n, b, l⟩ = Hm.uv l.length ++ encs l := rfl
    rw [e0]
    clear hG hz hE hL hbl hll h e0 h0 h1 h2 h3 h4 hls
    go_enter Try.func14, Try.ntmps14
    go_wp2_with fail
    (with_reducible refine K.out.mono ?_)
    rintro e w1 ⟨rfl, W1, B1⟩
    have W1h := Lib.hid W1
    have B1h := Lib.hid B1
    clear W1 B1
    go_wp2_with fail
    go_end0
    exact ⟨rfl, W1h.out, (low_alloc HPL.out _).trans B1h.out⟩

end Go.Proofs.Ytgipfbmomhlcjaa
