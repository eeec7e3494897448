import Derived.Test.YtimbgjpjgbjnkaaRef03
import Derived.Test.YtimbgjpjgbjnkaaKit
import Derived.Test.YtimbgjpjgbjnkaaRow
import Derived.Test.YtimbgjpjgbjnkaaKey
import Derived.Test.YtimbgjpjgbjnkaaRatRat4
/- Boxes of ratios that lie while calls go on. -/
namespace Go.Proofs.Ytimbgjpjgbjnkaa
open Go.RowKit Go.Shelf

theorem Since.alloc {wb W : World} (h : Since wb W) (o : Obj) : Since wb (W.alloc o) := Below.alloc h h.size o

theorem Since.adrew (w : World) (o : Obj) : Since w (w.alloc o).drew := Below.drew (Since.alloc (Below.refl _ _) o)

/-- The box of a ratio. -/
def BoxAt (N : Nat) (a b : Value) (w1 : World) : Prop := w1.cell? ⟨N, 0, none⟩ = some a ∧ w1.cell? ⟨N, 1, none⟩ = some b ∧ w1.frozen? ⟨N, 0, none⟩ = false ∧ w1.frozen? ⟨N, 1, none⟩ = false ∧ N < w1.heap.size

theorem BoxAt.new {w w1 : World} {a b : Value} {t : TypeId} (hb : Below (w.alloc (.cells #[a, b] t)).heap.size (w.alloc (.cells #[a, b] t)) w1) : BoxAt w.heap.size a b w1 := box_r hb

theorem BoxAt.newd {w w1 : World} {a b : Value} {t : TypeId} (hb : Below (w.alloc (.cells #[a, b] t)).drew.heap.size (w.alloc (.cells #[a, b] t)).drew w1) : BoxAt w.heap.size a b w1 := box_r (((Below.refl _ _).drew).trans hb)

theorem BoxAt.keep {W w1 : World} {N : Nat} {a b : Value} (h : BoxAt N a b W) (hb : Below W.heap.size W w1) : BoxAt N a b w1 :=
  ⟨(hb.cell (p := ⟨N, 0, none⟩) h.2.2.2.2).trans h.1, (hb.cell (p := ⟨N, 1, none⟩) h.2.2.2.2).trans h.2.1, (hb.frozen (p := ⟨N, 0, none⟩) h.2.2.2.2).trans h.2.2.1, (hb.frozen (p := ⟨N, 1, none⟩) h.2.2.2.2).trans h.2.2.2.1, Nat.lt_of_lt_of_le h.2.2.2.2 hb.size⟩

theorem BoxAt.under {W : World} {N : Nat} {a b : Value} (h : BoxAt N a b W) (o : Obj) : BoxAt N a b (W.alloc o) := h.keep ((Below.refl _ _).alloc (Nat.le_refl _) o)

theorem BoxAt.made (w : World) (a b : Value) (t : TypeId) : BoxAt w.heap.size a b (w.alloc (.cells #[a, b] t)) := BoxAt.new (Below.refl _ _)

/-- What the recursion leaves: the box of its result, and its error. -/
def CutR (X : World) (p q k : Int) (s8 s9 : Value) (wx : World) : Prop := ∃ N : Nat, s8 = .pointer (some ⟨N, 0, none⟩) ∧ s9 = .int .i64 k ∧ BoxAt N (.int .i64 p) (.int .i64 q) wx ∧ X.heap.size ≤ N ∧ Below X.heap.size X wx

theorem CutR.alloc {X w2 w' : World} {p q k : Int} (t : TypeId) (hX : Below X.heap.size X w2) (hB : Since w2 w') : CutR X p q k (.pointer (some ⟨w'.heap.size, 0, none⟩)) (.int .i64 k) (w'.alloc (.cells #[.int .i64 p, .int .i64 q] t)) := by
  obtain ⟨c0, c1, f0, f1⟩ := cell_new2 w' (.int .i64 p) (.int .i64 q) t
  have h := hX.trans (Below.mono hB hX.size)
  exact ⟨_, rfl, rfl, ⟨c0, c1, f0, f1, by simp⟩, h.size, h.alloc h.size _⟩

theorem CutR.store {X w2 w' : World} {p q k : Int} {N : Nat} {a b : Value} (hX : Below X.heap.size X w2) (hB : Since w2 w') (h : BoxAt N a b w') (hN : X.heap.size ≤ N) : CutR X p q k (.pointer (some ⟨N, 0, none⟩)) (.int .i64 k) ((w'.setCell ⟨N, 0, none⟩ (.int .i64 p)).setCell ⟨N, 1, none⟩ (.int .i64 q)) := by
  have h2 := hX.trans (Below.mono hB hX.size)
  obtain ⟨c0, c1, f0, f1, hz⟩ := h
  refine ⟨N, rfl, rfl, ⟨?_, ?_, ?_, ?_, ?_⟩, hN, (h2.setCell (p := ⟨N, 0, none⟩) hN _).setCell (p := ⟨N, 1, none⟩) hN _⟩
  · exact (World.cell?_setCell_other _ ⟨N, 1, none⟩ ⟨N, 0, none⟩ _ (by simp)).trans (World.cell?_setCell_same _ _ _ c0)
  · exact World.cell?_setCell_same _ _ _ ((World.cell?_setCell_other _ ⟨N, 0, none⟩ ⟨N, 1, none⟩ _ (by simp)).trans c1)
  · rw [World.frozen?_setCell, World.frozen?_setCell]
    exact f0
  · rw [World.frozen?_setCell, World.frozen?_setCell]
    exact f1
  · exact Nat.lt_of_lt_of_le hz (((Below.refl N w').setCell (p := ⟨N, 0, none⟩) (Nat.le_refl _) _).setCell (p := ⟨N, 1, none⟩) (Nat.le_refl _) _).size

end Go.Proofs.Ytimbgjpjgbjnkaa

/- Blocks that lie, with their cells. -/
namespace Go.Proofs.Ytimbgjpjgbjnkaa
open Go.RowKit

/-- A block that lies, with its cells. -/
def BoxL (N : Nat) (vs : List Value) (W : World) : Prop := N < W.heap.size ∧ ∀ i v, vs[i]? = some v → W.cell? ⟨N, i, none⟩ = some v ∧ W.frozen? ⟨N, i, none⟩ = false

theorem BoxL.made (w : World) (cs : Array Value) (t : TypeId) : BoxL w.heap.size cs.toList (w.alloc (.cells cs t)) := by
  refine ⟨by simp, fun i v h => ?_⟩
  have hn := heap_new w (.cells cs t)
  unfold World.cell? World.frozen?
  simp only [hn]
  rw [Array.getElem?_toList] at h
  exact ⟨h, by simp⟩

theorem BoxL.keep {W w1 : World} {N : Nat} {vs : List Value} (h : BoxL N vs W) (hb : Below W.heap.size W w1) : BoxL N vs w1 :=
  ⟨Nat.lt_of_lt_of_le h.1 hb.size, fun i v hv => ⟨(hb.cell (p := ⟨N, i, none⟩) h.1).trans (h.2 i v hv).1, (hb.frozen (p := ⟨N, i, none⟩) h.1).trans (h.2 i v hv).2⟩⟩

theorem BoxL.under {W : World} {N : Nat} {vs : List Value} (h : BoxL N vs W) (o : Obj) : BoxL N vs (W.alloc o) := h.keep ((Below.refl _ _).alloc (Nat.le_refl _) o)

theorem BoxL.open2 {N : Nat} {a b : Value} {W : World} (h : BoxL N [a, b] W) : W.cell? ⟨N, 0, none⟩ = some a ∧ W.cell? ⟨N, 1, none⟩ = some b ∧ W.frozen? ⟨N, 0, none⟩ = false ∧ W.frozen? ⟨N, 1, none⟩ = false ∧ N < W.heap.size :=
  ⟨(h.2 0 a rfl).1, (h.2 1 b rfl).1, (h.2 0 a rfl).2, (h.2 1 b rfl).2, h.1⟩

theorem BoxL.open3 {N : Nat} {a b c : Value} {W : World} (h : BoxL N [a, b, c] W) : W.cell? ⟨N, 0, none⟩ = some a ∧ W.cell? ⟨N, 1, none⟩ = some b ∧ W.cell? ⟨N, 2, none⟩ = some c ∧ W.frozen? ⟨N, 0, none⟩ = false ∧ W.frozen? ⟨N, 1, none⟩ = false ∧ W.frozen? ⟨N, 2, none⟩ = false ∧ N < W.heap.size :=
  ⟨(h.2 0 a rfl).1, (h.2 1 b rfl).1, (h.2 2 c rfl).1, (h.2 0 a rfl).2, (h.2 1 b rfl).2, (h.2 2 c rfl).2, h.1⟩

theorem BoxL.open8 {N : Nat} {a b c d e f g i : Value} {W : World} (h : BoxL N [a, b, c, d, e, f, g, i] W) : W.cell? ⟨N, 0, none⟩ = some a ∧ W.cell? ⟨N, 1, none⟩ = some b ∧ W.cell? ⟨N, 2, none⟩ = some c ∧ W.cell? ⟨N, 3, none⟩ = some d ∧ W.cell? ⟨N, 4, none⟩ = some e ∧ W.cell? ⟨N, 5, none⟩ = some f ∧ W.cell? ⟨N, 6, none⟩ = some g ∧ W.cell? ⟨N, 7, none⟩ = some i ∧ N < W.heap.size :=
  ⟨(h.2 0 a rfl).1, (h.2 1 b rfl).1, (h.2 2 c rfl).1, (h.2 3 d rfl).1, (h.2 4 e rfl).1, (h.2 5 f rfl).1, (h.2 6 g rfl).1, (h.2 7 i rfl).1, h.1⟩

theorem cell_new8 (w : World) (a b c d e f g i : Value) (t : TypeId) : BoxL w.heap.size [a, b, c, d, e, f, g, i] (w.alloc (.cells #[a, b, c, d, e, f, g, i] t)) := BoxL.made w _ t

end Go.Proofs.Ytimbgjpjgbjnkaa

/- Intervals and cuts as values. -/
namespace Go.Proofs.Ytimbgjpjgbjnkaa
open Go.RowKit Go.Shelf

/-- An interval: Lo, Hi, LoOpen, HiOpen, LoInf, HiInf. -/
structure Iv where
  a : Int
  b : Int
  c : Int
  d : Int
  p : Bool
  q : Bool
  r : Bool
  s : Bool
deriving DecidableEq, Inhabited

def Iv.v (x : Iv) : Value := .agg #[.int .i64 x.a, .int .i64 x.b, .int .i64 x.c, .int .i64 x.d, .bool x.p, .bool x.q, .bool x.r, .bool x.s]

/-- Its numbers are ints. -/
def Iv.wf (x : Iv) : Prop := I64 x.a ∧ I64 x.b ∧ I64 x.c ∧ I64 x.d

/-- Intervals in a row. -/
def RIv : RowOf Iv where
  cells x := [.int .i64 x.a, .int .i64 x.b, .int .i64 x.c, .int .i64 x.d, .bool x.p, .bool x.q, .bool x.r, .bool x.s]
  k := 8
  len _ := rfl
  one x v h := by simp at h; rcases h with rfl | rfl | rfl | rfl | rfl | rfl | rfl | rfl <;> rfl
  pos := by decide

def Cut.v (c : Cut) : Value := .agg #[.int .i64 c.n, .int .i64 c.d, .bool c.a]

def lowC : Cut := ⟨-1099511627776, 1, false⟩
def highC : Cut := ⟨1099511627776, 1, true⟩

/-- The cuts between which an interval's numbers lie. -/
def Iv.from (x : Iv) : Cut := if x.r then lowC else ⟨x.a, x.b, x.p⟩
def Iv.to (x : Iv) : Cut := if x.s then highC else ⟨x.c, x.d, !x.q⟩

end Go.Proofs.Ytimbgjpjgbjnkaa

/- Contracts of package span: lowest, highest, bounds. -/
namespace Go.Proofs.Ytimbgjpjgbjnkaa
open Go.RowKit Go.Shelf

theorem lowest_any (w : World) :
    Calls Try.prog 90 #[] w fun e w' => e = .returned lowC.v ∧ w' = w.alloc (.cells #[.int .i64 (-1099511627776), .int .i64 1, .bool false] 75) := by
  unfold lowC Cut.v
  go_enter Try.func90, Try.ntmps90
  go_wp2
  exact bodyPost_ret (v := .agg #[.int .i64 (-1099511627776), .int .i64 1, .bool false]) (by simp [results, Try.results90, go_sem]) rfl ⟨rfl, rfl⟩

theorem highest_any (w : World) :
    Calls Try.prog 87 #[] w fun e w' => e = .returned highC.v ∧ w' = w.alloc (.cells #[.int .i64 1099511627776, .int .i64 1, .bool true] 75) := by
  unfold highC Cut.v
  go_enter Try.func87, Try.ntmps87
  go_wp2
  exact bodyPost_ret (v := .agg #[.int .i64 1099511627776, .int .i64 1, .bool true]) (by simp [results, Try.results87, go_sem]) rfl ⟨rfl, rfl⟩

set_option maxHeartbeats 2000000 in
set_option maxRecDepth 100000 in
theorem bounds_any (x : Iv) (w : World) :
    Calls Try.prog 49 #[x.v] w fun e w' => e = .returned (.tuple #[x.from.v, x.to.v]) ∧ Below w.heap.size w w' := by
  obtain ⟨a, b, c, d, p, q, r, s⟩ := x
  have k1 := Lib.hid fun w => lowest_any w
  have k2 := Lib.hid fun w => highest_any w
  unfold Iv.v Iv.from Iv.to Cut.v lowC highC at *
  simp only at *
  cases r <;> cases s
  all_goals
    simp only [if_true, if_false, Bool.false_eq_true] at *
    go_enter Try.func49, Try.ntmps49
    go_wp2_with fail
    refine (k1.out _).mono ?_
    rintro e w' ⟨rfl, rfl⟩
    go_wp2_with fail
    refine (k2.out _).mono ?_
    rintro e w' ⟨rfl, rfl⟩
    go_wp2
    go_region
    all_goals
      go_wp2
      exact bodyPost_ret (v := .tuple #[_, _]) (by simp [results, Try.results49, go_sem]) rfl ⟨rfl, ((((((Below.refl _ _).alloc (Nat.le_refl _) _).alloc (by simp) _).alloc (by simp; omega) _).alloc (by simp; omega) _).alloc (by simp; omega) _).drew⟩

end Go.Proofs.Ytimbgjpjgbjnkaa

/- Contracts of package span: compare, validEnd, validInterval. -/
namespace Go.Proofs.Ytimbgjpjgbjnkaa
open Go.RowKit Go.Shelf

theorem ok_nums {a b : Int} (h : Qm.Ok a b) : I64 a ∧ I64 b := ⟨⟨by have := h.2.2.1; omega, by have := h.2.2.2.1; omega⟩, ⟨by have := h.1; omega, by have := h.2.1; omega⟩⟩

theorem cmpR_good {a b c d : Int} (o : Qm.Ok a b) (o' : Qm.Ok c d) : cmpR a b c d = (Qm.cmpI a b c d, 0) := by
  unfold cmpR
  rw [if_pos (Qm.bothI_ok.2 ⟨o, o'⟩)]

set_option maxHeartbeats 2000000 in
set_option maxRecDepth 100000 in
theorem scmp_any (x y : Cut) (w : World) (hx : x.Ok) (hy : y.Ok) :
    Calls Try.prog 50 #[x.v, y.v] w fun e w' => e = .returned (.int .i64 (cmpC x y)) ∧ Below w.heap.size w w' := by
  rw [cmpC_eq hx hy]
  have k1 := fun w => rcmp_any x.n x.d y.n y.d w (ok_nums hx).1 (ok_nums hx).2 (ok_nums hy).1 (ok_nums hy).2
  rw [cmpR_good hx hy] at k1
  obtain ⟨n, d, a⟩ := x
  obtain ⟨n', d', a'⟩ := y
  unfold Cut.v rv at *
  simp only at *
  clear hx hy
  generalize Qm.cmpI n d n' d' = V at *
  have XA := Lib.hid ((BoxL.made w #[.int .i64 n, .int .i64 d, .bool a] 75).under (.cells #[.int .i64 n', .int .i64 d', .bool a'] 75))
  have xb := BoxL.made (w.alloc (.cells #[.int .i64 n, .int .i64 d, .bool a] 75)) #[.int .i64 n', .int .i64 d', .bool a'] 75
  rw [size_alloc] at xb
  have XB := Lib.hid xb
  have HB0 := Lib.hid (((Below.refl w.heap.size w).alloc (Nat.le_refl _) (.cells #[.int .i64 n, .int .i64 d, .bool a] 75)).alloc (by simp) (.cells #[.int .i64 n', .int .i64 d', .bool a'] 75))
  have K1 := Lib.hid k1
  clear xb k1
  by_cases hV : V = 0
  · subst hV
    cases a <;> cases a'
    all_goals
      go_enter Try.func50, Try.ntmps50
      go_wp2_with fail
      refine (K1.out _).mono ?_
      rintro e w1 ⟨rfl, hB⟩
      have H1 := Lib.hid (HB0.out.trans (hB.mono HB0.out.size))
      obtain ⟨a0, a1, a2, -, -, -, a3⟩ := BoxL.open3 (XA.out.keep hB)
      obtain ⟨b0, b1, b2, -, -, -, b3⟩ := BoxL.open3 (XB.out.keep hB)
      clear hB
      go_wp2
      go_ret
      exact ⟨rfl, H1.out⟩
  · have hVb : (V == 0) = false := by simpa using hV
    rw [if_pos hV]
    go_enter Try.func50, Try.ntmps50
    go_wp2_with fail
    refine (K1.out _).mono ?_
    rintro e w1 ⟨rfl, hB⟩
    have H1 := Lib.hid (HB0.out.trans (hB.mono HB0.out.size))
    clear hB
    go_wp2
    go_ret
    exact ⟨rfl, H1.out⟩

/-- A small ratio. -/
def SmallR (n d : Int) : Prop := Qm.Ok n d ∧ -1073741824 ≤ n ∧ n ≤ 1073741824 ∧ d ≤ 32768

instance (n d : Int) : Decidable (SmallR n d) := inferInstanceAs (Decidable (_ ∧ _ ∧ _ ∧ _))

/-- Whether an end's fields fit. -/
def endB (n d : Int) (o i : Bool) : Bool := if i then decide (n = 0 ∧ d = 0) && !o else decide (SmallR n d)

set_option maxHeartbeats 4000000 in
set_option maxRecDepth 100000 in
theorem vend_any (n d : Int) (o i : Bool) (w : World) (hn : I64 n) (hd : I64 d) :
    Calls Try.prog 85 #[rv n d, .bool o, .bool i] w fun e w' => e = .returned (.bool (endB n d o i)) ∧ Below w.heap.size w w' := by
  have HB0 := Lib.hid ((Below.refl w.heap.size w).alloc (Nat.le_refl _) (.cells #[.int .i64 n, .int .i64 d] 25))
  have XA := Lib.hid (BoxL.made w #[.int .i64 n, .int .i64 d] 25)
  cases i
  case true =>
    have hE : endB n d o true = (decide (n = 0 ∧ d = 0) && !o) := rfl
    rw [hE]
    unfold rv
    by_cases hn0 : n = 0
    · by_cases hd0 : d = 0
      · subst hn0
        subst hd0
        cases o
        all_goals
          go_enter Try.func85, Try.ntmps85
          go_wp2
          go_ret
          exact ⟨rfl, HB0.out⟩
      · have hb : (d == 0) = false := by simpa using hd0
        rw [decide_eq_false (show ¬ (n = 0 ∧ d = 0) from fun h => hd0 h.2)]
        subst hn0
        go_enter Try.func85, Try.ntmps85
        go_wp2
        all_goals (go_ret; exact ⟨rfl, HB0.out⟩)
    · have hb : (n == 0) = false := by simpa using hn0
      rw [decide_eq_false (show ¬ (n = 0 ∧ d = 0) from fun h => hn0 h.1)]
      go_enter Try.func85, Try.ntmps85
      go_wp2
      all_goals (go_ret; exact ⟨rfl, HB0.out⟩)
  case false =>
    have hE : endB n d o false = decide (SmallR n d) := rfl
    rw [hE]
    have k1 := fun w => rvalid_any n d w hn hd
    unfold rv at *
    by_cases hv : Qm.Ok n d
    · have hz : Qm.validI n d = 0 := Qm.validI_ok.2 hv
      rw [hz] at k1
      have K1 := Lib.hid k1
      clear k1 hz
      by_cases h1 : -1073741824 ≤ n
      · by_cases h2 : n ≤ 1073741824
        · by_cases h3 : d ≤ 32768
          · rw [decide_eq_true (show SmallR n d from ⟨hv, h1, h2, h3⟩)]
            clear hv
            go_enter Try.func85, Try.ntmps85
            go_wp2_with fail
            refine (K1.out _).mono ?_
            rintro e w1 ⟨rfl, hB⟩
            have H1 := Lib.hid (HB0.out.trans (hB.mono HB0.out.size))
            obtain ⟨a0, a1, -, -, a3⟩ := BoxL.open2 (XA.out.keep hB)
            clear hB
            go_wp2
            go_ret
            exact ⟨rfl, H1.out⟩
          · rw [decide_eq_false (show ¬ SmallR n d from fun h => h3 h.2.2.2)]
            clear hv
            go_enter Try.func85, Try.ntmps85
            go_wp2_with fail
            refine (K1.out _).mono ?_
            rintro e w1 ⟨rfl, hB⟩
            have H1 := Lib.hid (HB0.out.trans (hB.mono HB0.out.size))
            obtain ⟨a0, a1, -, -, a3⟩ := BoxL.open2 (XA.out.keep hB)
            clear hB
            go_wp2
            go_ret
            exact ⟨ret_bool (decide_eq_false (by omega)), H1.out⟩
        · rw [decide_eq_false (show ¬ SmallR n d from fun h => h2 h.2.2.1)]
          clear hv
          go_enter Try.func85, Try.ntmps85
          go_wp2_with fail
          refine (K1.out _).mono ?_
          rintro e w1 ⟨rfl, hB⟩
          have H1 := Lib.hid (HB0.out.trans (hB.mono HB0.out.size))
          obtain ⟨a0, a1, -, -, a3⟩ := BoxL.open2 (XA.out.keep hB)
          clear hB
          go_wp2
          go_ret
          exact ⟨rfl, H1.out⟩
      · rw [decide_eq_false (show ¬ SmallR n d from fun h => h1 h.2.1)]
        clear hv
        go_enter Try.func85, Try.ntmps85
        go_wp2_with fail
        refine (K1.out _).mono ?_
        rintro e w1 ⟨rfl, hB⟩
        have H1 := Lib.hid (HB0.out.trans (hB.mono HB0.out.size))
        obtain ⟨a0, a1, -, -, a3⟩ := BoxL.open2 (XA.out.keep hB)
        clear hB
        go_wp2
        go_ret
        exact ⟨rfl, H1.out⟩
    · have hz : Qm.validI n d = 1 := (Qm.validI_two n d).resolve_left fun h => hv (Qm.validI_ok.1 h)
      rw [hz] at k1
      have K1 := Lib.hid k1
      clear k1 hz
      rw [decide_eq_false (show ¬ SmallR n d from fun h => hv h.1)]
      clear hv
      go_enter Try.func85, Try.ntmps85
      go_wp2_with fail
      refine (K1.out _).mono ?_
      rintro e w1 ⟨rfl, hB⟩
      have H1 := Lib.hid (HB0.out.trans (hB.mono HB0.out.size))
      obtain ⟨a0, a1, -, -, a3⟩ := BoxL.open2 (XA.out.keep hB)
      clear hB
      go_wp2
      go_ret
      exact ⟨rfl, H1.out⟩

theorem key_low : lowC.Ok := by show Qm.Ok _ _; decide
theorem key_high : highC.Ok := by show Qm.Ok _ _; decide

/-- An end that fits gives a cut. -/
theorem end_ok {n d : Int} {o i : Bool} (h : endB n d o i = true) : (i = true ∧ n = 0 ∧ d = 0 ∧ o = false) ∨ (i = false ∧ SmallR n d) := by
  unfold endB at h
  cases i
  · exact .inr ⟨rfl, by simpa using h⟩
  · simp at h
    exact .inl ⟨rfl, h.1.1, h.1.2, h.2⟩

/-- Whether an interval is valid. -/
noncomputable def Iv.good (x : Iv) : Bool := endB x.a x.b x.p x.r && endB x.c x.d x.q x.s && decide (x.from.key < x.to.key)

theorem from_ok {x : Iv} (h : endB x.a x.b x.p x.r = true) : x.from.Ok := by
  unfold Iv.from
  rcases end_ok h with ⟨e, _⟩ | ⟨e, h⟩
  · rw [e]; exact key_low
  · rw [e]; exact h.1

theorem to_ok {x : Iv} (h : endB x.c x.d x.q x.s = true) : x.to.Ok := by
  unfold Iv.to
  rcases end_ok h with ⟨e, _⟩ | ⟨e, h⟩
  · rw [e]; exact key_high
  · rw [e]; exact h.1

set_option maxHeartbeats 4000000 in
set_option maxRecDepth 100000 in
theorem viv_any (x : Iv) (w : World) (hx : x.wf) :
    Calls Try.prog 43 #[x.v] w fun e w' => e = .returned (.bool x.good) ∧ Below w.heap.size w w' := by
  have k1 := Lib.hid fun w => vend_any x.a x.b x.p x.r w hx.1 hx.2.1
  have k2 := Lib.hid fun w => vend_any x.c x.d x.q x.s w hx.2.2.1 hx.2.2.2
  have k3 := Lib.hid fun w => bounds_any x w
  have k4 := Lib.hid fun (h1 : endB x.a x.b x.p x.r = true) (h2 : endB x.c x.d x.q x.s = true) W => scmp_any x.from x.to W (from_ok h1) (to_ok h2)
  have HB0 := Lib.hid ((Below.refl w.heap.size w).alloc (Nat.le_refl _) (.cells #[.int .i64 x.a, .int .i64 x.b, .int .i64 x.c, .int .i64 x.d, .bool x.p, .bool x.q, .bool x.r, .bool x.s] 27))
  have XA := Lib.hid (cell_new8 w (.int .i64 x.a) (.int .i64 x.b) (.int .i64 x.c) (.int .i64 x.d) (.bool x.p) (.bool x.q) (.bool x.r) (.bool x.s) 27)
  have hG : x.good = (endB x.a x.b x.p x.r && endB x.c x.d x.q x.s && decide (x.from.key < x.to.key)) := rfl
  have hC : decide (x.from.key < x.to.key) = decide (cmpC x.from x.to < 0) := by
    unfold cmpC
    by_cases h : x.from.key < x.to.key
    · rw [if_pos h, decide_eq_true h]; rfl
    · rw [if_neg h, decide_eq_false h]
      split <;> rfl
  rw [hC] at hG
  rw [hG]
  clear hG hC hx
  unfold Iv.v
  generalize x.from = F at *
  generalize x.to = T at *
  generalize cmpC F T = V at *
  by_cases h1 : endB x.a x.b x.p x.r = true
  · by_cases h2 : endB x.c x.d x.q x.s = true
    · have K4 := Lib.hid (k4.out h1 h2)
      rw [h1] at k1
      rw [h2] at k2
      rw [h1, h2]
      clear h1 h2 k4
      obtain ⟨a, b, c, d, p, q, r, s⟩ := x
      obtain ⟨fn, fd, fa⟩ := F
      obtain ⟨tn, td, ta⟩ := T
      unfold rv Iv.v Cut.v at *
      simp only at *
      go_enter Try.func43, Try.ntmps43
      go_wp2_with fail
      refine (k1.out _).mono ?_
      rintro e w1 ⟨rfl, hB⟩
      have H1 := Lib.hid (HB0.out.trans (hB.mono HB0.out.size))
      have X1 := Lib.hid (XA.out.keep hB)
      obtain ⟨a0, a1, a2, a3, a4, a5, a6, a7, a8⟩ := X1.out.open8
      clear hB
      go_wp2_with fail
      refine (k2.out _).mono ?_
      rintro e w2 ⟨rfl, hB⟩
      have H2 := Lib.hid (H1.out.trans (hB.mono H1.out.size))
      have X2 := Lib.hid (X1.out.keep hB)
      clear hB a0 a1 a2 a3 a4 a5 a6 a7 a8 X1
      obtain ⟨a0, a1, a2, a3, a4, a5, a6, a7, a8⟩ := X2.out.open8
      go_wp2_with fail
      refine (k3.out _).mono ?_
      rintro e w3 ⟨rfl, hB⟩
      have H3 := Lib.hid (H2.out.trans (hB.mono H2.out.size))
      clear hB a0 a1 a2 a3 a4 a5 a6 a7 a8 X2
      go_wp2_with fail
      refine (K4.out _).mono ?_
      rintro e w4 ⟨rfl, hB⟩
      have H4 := Lib.hid (((H3.out.alloc H3.out.size _).alloc (Nat.le_trans H3.out.size (by simp)) _).trans (hB.mono (Nat.le_trans H3.out.size (by simp; omega))))
      clear hB
      go_wp2
      go_ret
      exact ⟨rfl, H4.out⟩
    · have hf : endB x.c x.d x.q x.s = false := by simpa using h2
      rw [h1] at k1
      rw [hf] at k2
      rw [h1, hf]
      clear h1 h2 hf k4 k3
      obtain ⟨a, b, c, d, p, q, r, s⟩ := x
      unfold rv at *
      simp only at *
      go_enter Try.func43, Try.ntmps43
      go_wp2_with fail
      refine (k1.out _).mono ?_
      rintro e w1 ⟨rfl, hB⟩
      have H1 := Lib.hid (HB0.out.trans (hB.mono HB0.out.size))
      have X1 := Lib.hid (XA.out.keep hB)
      obtain ⟨a0, a1, a2, a3, a4, a5, a6, a7, a8⟩ := X1.out.open8
      clear hB
      go_wp2_with fail
      refine (k2.out _).mono ?_
      rintro e w2 ⟨rfl, hB⟩
      have H2 := Lib.hid (H1.out.trans (hB.mono H1.out.size))
      clear hB a0 a1 a2 a3 a4 a5 a6 a7 a8 X1
      go_wp2
      go_ret
      exact ⟨rfl, H2.out⟩
  · have hf : endB x.a x.b x.p x.r = false := by simpa using h1
    rw [hf] at k1
    rw [hf]
    clear h1 hf k4 k3 k2
    obtain ⟨a, b, c, d, p, q, r, s⟩ := x
    unfold rv at *
    simp only at *
    go_enter Try.func43, Try.ntmps43
    go_wp2_with fail
    refine (k1.out _).mono ?_
    rintro e w1 ⟨rfl, hB⟩
    have H1 := Lib.hid (HB0.out.trans (hB.mono HB0.out.size))
    clear hB
    go_wp2
    go_ret
    exact ⟨rfl, H1.out⟩

end Go.Proofs.Ytimbgjpjgbjnkaa

