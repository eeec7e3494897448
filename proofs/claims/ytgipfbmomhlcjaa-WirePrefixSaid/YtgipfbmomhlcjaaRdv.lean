/- What read of the laws returns and does. -/
import Derived.Test.YtgipfbmomhlcjaaWrite
namespace Go.Proofs.Ytgipfbmomhlcjaa
open Go.RowKit Go.Shelf

/-- The slice leads to another block than p, or it has no elements. -/
def Off (p : Nat) (sv : Value) : Prop := Emp sv ∨ ∃ b off n cap, b ≠ p ∧ sv = .slice (some ⟨b, off, none⟩) n cap

theorem Els.past {k : IntKind} {p : Nat} {w w' : World} {sv : Value} {zs : List Int} (h : Els k w sv zs) (ho : Off p sv) (hG : w.grownBy w' (some p)) : Els k w' sv zs := by
  rcases h with ⟨he, hz⟩ | ⟨b, off, cap, hb, rfl, hle, hc⟩
  · exact .inl ⟨he, hz⟩
  · have hb2 := Nat.lt_of_lt_of_le hb hG.size
    rcases ho with he | ⟨b2, off2, n2, cap2, hne, he⟩
    · refine .inr ⟨b, off, cap, hb2, rfl, hle, ?_⟩
      intro j hj
      rcases he with he | ⟨x, c2, he⟩
      · cases he
      · simp only [Value.slice.injEq] at he
        omega
    · cases he
      exact .inr ⟨b, off, cap, hb2, rfl, hle, fun j hj => (cell_of_block (hG.block b hb (by simpa using hne)) _).trans (hc j hj)⟩

/-- The slice lies in a block from N on, or it has no elements. -/
def Far (N : Nat) (sv : Value) : Prop := Emp sv ∨ ∃ b off n cap, N ≤ b ∧ sv = .slice (some ⟨b, off, none⟩) n cap

theorem Far.off {N p : Nat} {sv : Value} (h : Far N sv) (hp : p < N) : Off p sv := by
  rcases h with h | ⟨b, off, n, cap, hb, h⟩
  · exact .inl h
  · exact .inr ⟨b, off, n, cap, by omega, h⟩

theorem Far.mono {N M : Nat} {sv : Value} (h : Far N sv) (hM : M ≤ N) : Far M sv := by
  rcases h with h | ⟨b, off, n, cap, hb, h⟩
  · exact .inl h
  · exact .inr ⟨b, off, n, cap, by omega, h⟩

/-- What read leaves. -/
def Got (p d : Nat) (w : World) (x : V) (l : List Int) (e : Int) (r : Ending) (w' : World) : Prop :=
  ∃ bv lv, r = .returned (.agg #[.int .i64 x.kind, .int .u64 x.u, .int .i64 x.n, bv, lv]) ∧ Hid (Els .u8 w' bv x.b) ∧ Hid (Els .i64 w' lv x.l) ∧ Hid (Far w.heap.size bv) ∧ Hid (Far w.heap.size lv) ∧ Hid (Rd p d w' l e) ∧ Hid (w.grownBy w' (some p))

/-- The cells of a value. -/
def five (k u n : Int) (bv lv : Value) : Array Value := #[.int .i64 k, .int .u64 u, .int .i64 n, bv, lv]

/-- Where read calls a method: its result's box, and the value's. -/
def two (k : Nat) (w : World) : World := (w.alloc (.cells (five 0 0 0 (.slice none 0 0) (.slice none 0 0)) 28)).alloc (.cells (five k 0 0 (.slice none 0 0) (.slice none 0 0)) 28)

theorem two_below (k : Nat) (w : World) : Below w.heap.size w (two k w) := ((Below.refl _ w).alloc (Nat.le_refl _) _).alloc (by simp) _

theorem two_size (k : Nat) (w : World) : (two k w).heap.size = w.heap.size + 1 + 1 := by simp [two]

theorem five_cells {W : World} {b : Nat} {k u n : Int} {bv lv : Value} {T : TypeId} (h : W.heap[b]? = some (.cells (five k u n bv lv) T (0, 0))) :
    W.cell? ⟨b, 0, none⟩ = some (.int .i64 k) ∧ W.cell? ⟨b, 1, none⟩ = some (.int .u64 u) ∧ W.cell? ⟨b, 2, none⟩ = some (.int .i64 n) ∧ W.cell? ⟨b, 3, none⟩ = some bv ∧ W.cell? ⟨b, 4, none⟩ = some lv ∧ ∀ i, W.frozen? ⟨b, i, none⟩ = false := by
  refine ⟨?_, ?_, ?_, ?_, ?_, fun i => ?_⟩ <;> simp [World.cell?, World.frozen?, five, h]

theorem two_blocks {k p : Nat} {w w1 : World} (hp : p < w.heap.size) (hG : (two k w).grownBy w1 (some p)) :
    w1.heap[w.heap.size]? = some (.cells (five 0 0 0 (.slice none 0 0) (.slice none 0 0)) 28 (0, 0)) ∧
    w1.heap[w.heap.size + 1]? = some (.cells (five k 0 0 (.slice none 0 0) (.slice none 0 0)) 28 (0, 0)) := by
  have hs := two_size k w
  constructor
  · rw [hG.block _ (by omega) (by simp; omega)]
    exact heap_old _ (heap_new w _)
  · rw [hG.block _ (by omega) (by simp; omega)]
    have := heap_new (w.alloc (.cells (five 0 0 0 (.slice none 0 0) (.slice none 0 0)) 28)) (.cells (five k 0 0 (.slice none 0 0) (.slice none 0 0)) 28)
    have hz : (w.alloc (.cells (five 0 0 0 (.slice none 0 0) (.slice none 0 0)) 28)).heap.size = w.heap.size + 1 := by simp
    rw [hz] at this
    exact this

/-- But for blocks N and the next one the world is as it was. -/
def Six (N : Nat) (w W : World) : Prop := W.os = w.os ∧ W.tape = w.tape ∧ W.output = w.output ∧ W.heap.size = w.heap.size ∧ ∀ k, k ≠ N → k ≠ N + 1 → W.heap[k]? = w.heap[k]?

theorem six_refl (N : Nat) (w : World) : Six N w w := ⟨rfl, rfl, rfl, rfl, fun _ _ _ => rfl⟩

theorem six0 {N i : Nat} {w W : World} {v : Value} (h : Six N w W) : Six N w (W.setCell ⟨N, i, none⟩ v) :=
  ⟨h.1, h.2.1, h.2.2.1, by simpa [World.setCell] using h.2.2.2.1, fun k h1 h2 => (Below.heap_setCell _ _ _ _ h1).trans (h.2.2.2.2 k h1 h2)⟩

theorem six1 {N i : Nat} {w W : World} {v : Value} (h : Six N w W) : Six N w (W.setCell ⟨N + 1, i, none⟩ v) :=
  ⟨h.1, h.2.1, h.2.2.1, by simpa [World.setCell] using h.2.2.2.1, fun k h1 h2 => (Below.heap_setCell _ _ _ _ h2).trans (h.2.2.2.2 k h1 h2)⟩

theorem Els.six {k : IntKind} {N : Nat} {w W : World} {sv : Value} {zs : List Int} (h : Els k w sv zs) (hf : Far (N + 2) sv) (hs : Six N w W) : Els k W sv zs := by
  rcases h with ⟨he, hz⟩ | ⟨b, off, cap, hb, rfl, hle, hc⟩
  · exact .inl ⟨he, hz⟩
  · rcases hf with he | ⟨b2, off2, n2, cap2, hne, he⟩
    · refine .inr ⟨b, off, cap, by rw [hs.2.2.2.1]; exact hb, rfl, hle, ?_⟩
      intro j hj
      rcases he with he | ⟨x, c2, he⟩
      · cases he
      · simp only [Value.slice.injEq] at he
        omega
    · cases he
      exact .inr ⟨b, off, cap, by rw [hs.2.2.2.1]; exact hb, rfl, hle, fun j hj => (cell_of_block (hs.2.2.2.2 b (by omega) (by omega)) _).trans (hc j hj)⟩

theorem got_close {p d k : Nat} {w w1 W : World} {x : V} {l : List Int} {e : Int} {bv lv : Value} (hp : p < w.heap.size) (hd : d < w.heap.size) (hR : Rd p d w1 l e) (hG : (two k w).grownBy w1 (some p))
    (hbE : Els .u8 w1 bv x.b) (hlE : Els .i64 w1 lv x.l) (hbF : Far (w.heap.size + 2) bv) (hlF : Far (w.heap.size + 2) lv) (hs : Six w.heap.size w1 W) :
    Got p d w x l e (.returned (.agg #[.int .i64 x.kind, .int .u64 x.u, .int .i64 x.n, bv, lv])) W := by
  have hz := two_size k w
  have hB := two_below k w
  refine ⟨bv, lv, rfl, hbE.six hbF hs, hlE.six hlF hs, hbF.mono (by omega), hlF.mono (by omega), ?_, ?_⟩
  · exact hR.keep (by rw [hs.2.2.2.1]; exact Nat.le_refl _) (hs.2.2.2.2 p (by omega) (by omega)) fun _ => hs.2.2.2.2 d (by omega) (by omega)
  · refine ⟨hs.1.trans (hG.os.trans hB.os), hs.2.1.trans (hG.tape.trans hB.tape), hs.2.2.1.trans (hG.output.trans hB.output), ?_, ?_⟩
    · rw [hs.2.2.2.1]
      exact Nat.le_trans hB.size hG.size
    · intro i hi hr
      exact (hs.2.2.2.2 i (by omega) (by omega)).trans ((hG.block i (by omega) hr).trans (hB.block i hi))

theorem rdV0 (l : List Int) (e : Int) : rdV 0 l e = (⟨0, (Hm.rU l e).1, 0, [], []⟩, (Hm.rU l e).2) := rfl
theorem rdV1 (l : List Int) (e : Int) : rdV 1 l e = (⟨1, 0, Hm.unzig (Hm.rU l e).1, [], []⟩, (Hm.rU l e).2) := rfl
theorem rdV2 (l : List Int) (e : Int) : rdV 2 l e = (⟨2, 0, if (Hm.rB l e).1 then 1 else 0, [], []⟩, (Hm.rB l e).2) := rfl
theorem rdV3 (l : List Int) (e : Int) : rdV 3 l e = (⟨3, 0, 0, (Hm.rRaw l e).1, []⟩, (Hm.rRaw l e).2) := rfl
theorem rdV4 (l : List Int) (e : Int) : rdV 4 l e = (⟨4, 0, 0, (Hm.rRaw l e).1, []⟩, (Hm.rRaw l e).2) := rfl
theorem rdV5 (l : List Int) (e : Int) : rdV 5 l e = (⟨5, 0, 0, [], (Hm.rInts l e).1⟩, (Hm.rInts l e).2) := rfl

theorem own_far {k : IntKind} {E : TypeId} {B : Nat} {w : World} {sv : Value} {zs : List Int} (h : Own k E B w sv zs) : Far B sv := by
  obtain ⟨_, ⟨hv, _⟩ | ⟨g, cap, cur, hv, hg, _⟩⟩ := h
  · exact .inl (.inl hv)
  · exact .inr ⟨g, 0, _, cap, hg, hv⟩

theorem emp_els (k : IntKind) (w : World) : Els k w (.slice none 0 0) [] := .inl ⟨.inl rfl, rfl⟩

theorem emp_far (N : Nat) : Far N (.slice none 0 0) := .inl (.inl rfl)

set_option maxRecDepth 100000 in
set_option maxHeartbeats 4000000 in
theorem read0 (p d : Nat) (l : List Int) (e : Int) (w : World) (h : Rd p d w l e) (hd : d < w.heap.size) (hb : Hm.Byt l) (hl : l.length ≤ 100000000000) :
    Calls Try.prog 22 #[.pointer (some ⟨p, 0, none⟩), .int .i64 0] w (Got p d w (rdV 0 l e).1 (rdV 0 l e).2.1 (rdV 0 l e).2.2) := by
  have hp := h.lt
  rw [rdV0]
  have K := Lib.hid (ruint_any p d l e (two 0 w) (h.below (two_below 0 w)) hb hl)
  clear h hb hl
  go_enter Try.func22, Try.ntmps22
  go_wp2_with fail
  refine K.out.mono ?_
  rintro x w1 ⟨rfl, hR, hG⟩
  obtain ⟨b1, b2⟩ := two_blocks hp hG
  obtain ⟨c10, c11, c12, c13, c14, f1⟩ := five_cells b1
  obtain ⟨c20, c21, c22, c23, c24, f2⟩ := five_cells b2
  have HR := Lib.hid hR
  have HG := Lib.hid hG
  clear hR hG b1 b2
  go_wp2_with fail
  exact bodyPost_ret (v := .agg #[.int .i64 0, .int .u64 (Hm.rU l e).1, .int .i64 0, .slice none 0 0, .slice none 0 0]) (by simp [results, Try.results22, go_sem, c10, c11, c12, c13, c14]) rfl
    (got_close (x := ⟨0, (Hm.rU l e).1, 0, [], []⟩) hp hd HR.out HG.out (emp_els _ _) (emp_els _ _) (emp_far _) (emp_far _) (six0 (six0 (six0 (six0 (six0 (six1 (six_refl _ _))))))))

set_option maxRecDepth 100000 in
set_option maxHeartbeats 4000000 in
theorem read1 (p d : Nat) (l : List Int) (e : Int) (w : World) (h : Rd p d w l e) (hd : d < w.heap.size) (hb : Hm.Byt l) (hl : l.length ≤ 100000000000) :
    Calls Try.prog 22 #[.pointer (some ⟨p, 0, none⟩), .int .i64 1] w (Got p d w (rdV 1 l e).1 (rdV 1 l e).2.1 (rdV 1 l e).2.2) := by
  have hp := h.lt
  rw [rdV1]
  have K := Lib.hid (rint_any p d l e (two 1 w) (h.below (two_below 1 w)) hb hl)
  clear h hb hl
  go_enter Try.func22, Try.ntmps22
  go_wp2_with fail
  refine K.out.mono ?_
  rintro x w1 ⟨rfl, hR, hG⟩
  obtain ⟨b1, b2⟩ := two_blocks hp hG
  obtain ⟨c10, c11, c12, c13, c14, f1⟩ := five_cells b1
  obtain ⟨c20, c21, c22, c23, c24, f2⟩ := five_cells b2
  have HR := Lib.hid hR
  have HG := Lib.hid hG
  clear hR hG b1 b2
  go_wp2_with fail
  exact bodyPost_ret (v := .agg #[.int .i64 1, .int .u64 0, .int .i64 (Hm.unzig (Hm.rU l e).1), .slice none 0 0, .slice none 0 0]) (by simp [results, Try.results22, go_sem, c10, c11, c12, c13, c14]) rfl
    (got_close (x := ⟨1, 0, Hm.unzig (Hm.rU l e).1, [], []⟩) hp hd HR.out HG.out (emp_els _ _) (emp_els _ _) (emp_far _) (emp_far _) (six0 (six0 (six0 (six0 (six0 (six1 (six_refl _ _))))))))

set_option maxRecDepth 100000 in
set_option maxHeartbeats 4000000 in
theorem read2 (p d : Nat) (l : List Int) (e : Int) (w : World) (h : Rd p d w l e) (hd : d < w.heap.size) (hb : Hm.Byt l) (hl : l.length ≤ 100000000000) :
    Calls Try.prog 22 #[.pointer (some ⟨p, 0, none⟩), .int .i64 2] w (Got p d w (rdV 2 l e).1 (rdV 2 l e).2.1 (rdV 2 l e).2.2) := by
  have hp := h.lt
  rw [rdV2]
  have K := Lib.hid (rbool_any p d l e (two 2 w) (h.below (two_below 2 w)) hb hl)
  generalize (Hm.rB l e).2 = q at *
  generalize (Hm.rB l e).1 = v at *
  clear h hb hl
  cases v
  · go_enter Try.func22, Try.ntmps22
    go_wp2_with fail
    refine K.out.mono ?_
    rintro x w1 ⟨rfl, hR, hG⟩
    obtain ⟨b1, b2⟩ := two_blocks hp hG
    obtain ⟨c10, c11, c12, c13, c14, f1⟩ := five_cells b1
    obtain ⟨c20, c21, c22, c23, c24, f2⟩ := five_cells b2
    have HR := Lib.hid hR
    have HG := Lib.hid hG
    clear hR hG b1 b2
    go_wp2_with fail
    exact bodyPost_ret (v := .agg #[.int .i64 2, .int .u64 0, .int .i64 0, .slice none 0 0, .slice none 0 0]) (by simp [results, Try.results22, go_sem, c10, c11, c12, c13, c14]) rfl
      (got_close (x := ⟨2, 0, 0, [], []⟩) hp hd HR.out HG.out (emp_els _ _) (emp_els _ _) (emp_far _) (emp_far _) (six0 (six0 (six0 (six0 (six0 (six_refl _ _)))))))
  · go_enter Try.func22, Try.ntmps22
    go_wp2_with fail
    refine K.out.mono ?_
    rintro x w1 ⟨rfl, hR, hG⟩
    obtain ⟨b1, b2⟩ := two_blocks hp hG
    obtain ⟨c10, c11, c12, c13, c14, f1⟩ := five_cells b1
    obtain ⟨c20, c21, c22, c23, c24, f2⟩ := five_cells b2
    have HR := Lib.hid hR
    have HG := Lib.hid hG
    clear hR hG b1 b2
    go_wp2_with fail
    exact bodyPost_ret (v := .agg #[.int .i64 2, .int .u64 0, .int .i64 1, .slice none 0 0, .slice none 0 0]) (by simp [results, Try.results22, go_sem, c10, c11, c12, c13, c14]) rfl
      (got_close (x := ⟨2, 0, 1, [], []⟩) hp hd HR.out HG.out (emp_els _ _) (emp_els _ _) (emp_far _) (emp_far _) (six0 (six0 (six0 (six0 (six0 (six1 (six_refl _ _))))))))

set_option maxRecDepth 100000 in
set_option maxHeartbeats 4000000 in
theorem read4 (p d : Nat) (l : List Int) (e : Int) (w : World) (h : Rd p d w l e) (hd : d < w.heap.size) (hb : Hm.Byt l) (hl : l.length ≤ 100000000000) :
    Calls Try.prog 22 #[.pointer (some ⟨p, 0, none⟩), .int .i64 4] w (Got p d w (rdV 4 l e).1 (rdV 4 l e).2.1 (rdV 4 l e).2.2) := by
  have hp := h.lt
  rw [rdV4]
  have K := Lib.hid (rraw_any p d l e (two 4 w) (h.below (two_below 4 w)) hb hl)
  generalize (Hm.rRaw l e).2 = q at *
  generalize (Hm.rRaw l e).1 = v at *
  clear h hb hl
  go_enter Try.func22, Try.ntmps22
  go_wp2_with fail
  refine K.out.mono ?_
  rintro x w1 ⟨a, n, c, rfl, hn, hO, hR, hG⟩
  have hG := hG.out
  obtain ⟨b1, b2⟩ := two_blocks hp hG
  obtain ⟨c10, c11, c12, c13, c14, f1⟩ := five_cells b1
  obtain ⟨c20, c21, c22, c23, c24, f2⟩ := five_cells b2
  have HG := Lib.hid hG
  clear hG b1 b2
  go_wp2_with fail
  have hO2 := hO.out
  have hfar := own_far hO2
  rw [two_size] at hfar
  exact bodyPost_ret (v := .agg #[.int .i64 4, .int .u64 0, .int .i64 0, .slice a n c, .slice none 0 0]) (by simp [results, Try.results22, go_sem, c10, c11, c12, c13, c14]) rfl
    (got_close (x := ⟨4, 0, 0, v, []⟩) hp hd hR.out HG.out hO2.els (emp_els _ _) hfar (emp_far _) (six0 (six0 (six0 (six0 (six0 (six1 (six_refl _ _))))))))

set_option maxRecDepth 100000 in
set_option maxHeartbeats 4000000 in
theorem read5 (p d : Nat) (l : List Int) (e : Int) (w : World) (h : Rd p d w l e) (hd : d < w.heap.size) (hb : Hm.Byt l) (hl : l.length ≤ 100000000000) :
    Calls Try.prog 22 #[.pointer (some ⟨p, 0, none⟩), .int .i64 5] w (Got p d w (rdV 5 l e).1 (rdV 5 l e).2.1 (rdV 5 l e).2.2) := by
  have hp := h.lt
  rw [rdV5]
  have K := Lib.hid (rints_any p d l e (two 5 w) (h.below (two_below 5 w)) (by rw [two_size]; omega) hb hl)
  generalize (Hm.rInts l e).2 = q at *
  generalize (Hm.rInts l e).1 = v at *
  clear h hb hl
  go_enter Try.func22, Try.ntmps22
  go_wp2_with fail
  refine K.out.mono ?_
  rintro x w1 ⟨a, n, c, rfl, hn, hO, hR, hG⟩
  have hG := hG.out
  obtain ⟨b1, b2⟩ := two_blocks hp hG
  obtain ⟨c10, c11, c12, c13, c14, f1⟩ := five_cells b1
  obtain ⟨c20, c21, c22, c23, c24, f2⟩ := five_cells b2
  have HG := Lib.hid hG
  clear hG b1 b2
  go_wp2_with fail
  have hO2 := hO.out
  have hfar := own_far hO2
  rw [two_size] at hfar
  exact bodyPost_ret (v := .agg #[.int .i64 5, .int .u64 0, .int .i64 0, .slice none 0 0, .slice a n c]) (by simp [results, Try.results22, go_sem, c10, c11, c12, c13, c14]) rfl
    (got_close (x := ⟨5, 0, 0, [], v⟩) hp hd hR.out HG.out (emp_els _ _) hO2.els (emp_far _) hfar (six0 (six0 (six0 (six0 (six0 (six1 (six_refl _ _))))))))

theorem rRaw_byt {l : List Int} (hb : Hm.Byt l) (e : Int) : Hm.Byt (Hm.rRaw l e).1 := (rLen_le hb e).2.2.take _

theorem got_text {p d : Nat} {w w1 W1 : World} {v l : List Int} {e : Int} {cap : Nat} {T : TypeId} {fz : Nat × Nat} (hp : p < w.heap.size) (hd : d < w.heap.size) (hR : Rd p d w1 l e) (hG : (two 3 w).grownBy w1 (some p)) (hb : Hm.Byt v)
    (hz : w.heap.size + 1 < w1.heap.size) (hcap : (strOfNums v).size ≤ cap) (hs : Six w.heap.size w1 W1) :
    Got p d w ⟨3, 0, 0, v, []⟩ l e (.returned (.agg #[.int .i64 3, .int .u64 0, .int .i64 0, .slice (some ⟨w1.heap.size, 0, none⟩) (strOfNums v).size cap, .slice none 0 0])) (W1.alloc (.cells (bytesRow (strOfNums v) cap) T fz)).drew := by
  obtain ⟨bv, lv, _, _, _, _, _, hR1, hG1⟩ := got_close (x := ⟨3, 0, 0, [], []⟩) hp hd hR hG (emp_els _ _) (emp_els _ _) (emp_far _) (emp_far _) hs
  obtain ⟨hE, hB⟩ := bytes_world0 W1 (strOfNums v) cap T fz hcap _ rfl
  rw [hs.2.2.2.1] at hE
  rw [bs_str hb] at hE
  exact ⟨_, _, rfl, hE, emp_els _ _, .inr ⟨w1.heap.size, 0, _, _, by omega, rfl⟩, .inl (.inl rfl), hR1.out.below hB, grown_trans hG1.out (grown_below hB)⟩

set_option maxRecDepth 100000 in
set_option maxHeartbeats 4000000 in
theorem read3 (p d : Nat) (l : List Int) (e : Int) (w : World) (h : Rd p d w l e) (hd : d < w.heap.size) (hb : Hm.Byt l) (hl : l.length ≤ 100000000000) :
    Calls Try.prog 22 #[.pointer (some ⟨p, 0, none⟩), .int .i64 3] w (Got p d w (rdV 3 l e).1 (rdV 3 l e).2.1 (rdV 3 l e).2.2) := by
  have hp := h.lt
  rw [rdV3]
  have K := Lib.hid (rtext_any p d l e (two 3 w) (h.below (two_below 3 w)) hb hl)
  have hbv := rRaw_byt hb e
  generalize (Hm.rRaw l e).2 = q at *
  generalize (Hm.rRaw l e).1 = v at *
  have HBV := Lib.hid hbv
  clear h hb hl hbv
  have kc := fun (w : World) => run_bytes_of_string (P := Try.prog) w 9 24 5 (strOfNums v) Try.underlying9 Try.underlying24 Try.underlying5
  go_enter Try.func22, Try.ntmps22
  go_wp2_with fail
  refine K.out.mono ?_
  rintro x w1 ⟨rfl, hR, hG⟩
  obtain ⟨b1, b2⟩ := two_blocks hp hG
  obtain ⟨c10, c11, c12, c13, c14, f1⟩ := five_cells b1
  obtain ⟨c20, c21, c22, c23, c24, f2⟩ := five_cells b2
  have hz1 : w.heap.size + 1 < w1.heap.size := by have h1 := hG.size; rw [two_size] at h1; omega
  have hz2 : w.heap.size < w1.heap.size := by omega
  have HR := Lib.hid hR
  have HG := Lib.hid hG
  clear hR hG b1 b2
  go_wp2_with fail
  have hcap := grownCap_ge w1 (strOfNums v).size 0 5
  exact bodyPost_ret (v := .agg #[.int .i64 3, .int .u64 0, .int .i64 0, .slice (some ⟨w1.heap.size, 0, none⟩) (strOfNums v).size (grownCap w1 (strOfNums v).size 0 5), .slice none 0 0])
    (by simp [results, Try.results22, go_sem, c10, c11, c12, c13, c14, hz2]) rfl
    (got_text hp hd HR.out HG.out HBV.out hz1 hcap (six0 (six0 (six0 (six0 (six0 (six1 (six_refl _ _))))))))

theorem read_any (p d k : Nat) (l : List Int) (e : Int) (w : World) (h : Rd p d w l e) (hd : d < w.heap.size) (hk : k ≤ 5) (hb : Hm.Byt l) (hl : l.length ≤ 100000000000) :
    Calls Try.prog 22 #[.pointer (some ⟨p, 0, none⟩), .int .i64 k] w (Got p d w (rdV k l e).1 (rdV k l e).2.1 (rdV k l e).2.2) := by
  match k, hk with
  | 0, _ => exact read0 p d l e w h hd hb hl
  | 1, _ => exact read1 p d l e w h hd hb hl
  | 2, _ => exact read2 p d l e w h hd hb hl
  | 3, _ => exact read3 p d l e w h hd hb hl
  | 4, _ => exact read4 p d l e w h hd hb hl
  | 5, _ => exact read5 p d l e w h hd hb hl

end Go.Proofs.Ytgipfbmomhlcjaa
