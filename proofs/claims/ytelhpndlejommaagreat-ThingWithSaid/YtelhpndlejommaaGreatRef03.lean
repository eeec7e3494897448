/- Contracts of priorartref03: common, Of, New, Valid, Both, Less, Cmp, Add, Neg. -/
import Derived.Test.YtelhpndlejommaaGreatProg
import Derived.Test.YtelhpndlejommaaGreatKit
import Derived.Test.YtelhpndlejommaaGreatSmall
import Derived.Test.YtelhpndlejommaaGreatQmath
namespace Go.Proofs.YtelhpndlejommaaGreat
open Go.RowKit Go.Shelf

/-- A ratio, as a value. -/
def rv (n d : Int) : Value := .agg #[.int .i64 n, .int .i64 d]

/-- A ratio and an error, as a value. -/
def rve (x : Int × Int × Int) : Value := .tuple #[.agg #[.int .i64 x.1, .int .i64 x.2.1], .int .i64 x.2.2]

theorem tmod_le (a b : Int) (h : b ≠ 0) : (a.tmod b).natAbs < b.natAbs := by
  rw [Int.natAbs_tmod]
  exact Nat.mod_lt _ (by omega)


theorem ediv_le {a b M : Int} (hb : 1 ≤ b) (h : -M ≤ a) (h' : a ≤ M) : -M ≤ a / b ∧ a / b ≤ M := by
  have hM : 0 ≤ M := by omega
  constructor
  · rw [Int.le_ediv_iff_mul_le (by omega)]
    have : M * 1 ≤ M * b := Int.mul_le_mul_of_nonneg_left hb hM
    rw [Int.neg_mul]
    omega
  · apply Int.ediv_le_of_le_mul (by omega)
    have : M * 1 ≤ M * b := Int.mul_le_mul_of_nonneg_left hb hM
    omega

theorem tdiv_of_dvd {a b : Int} (h : b ∣ a) : a.tdiv b = a / b := Int.tdiv_eq_ediv_of_dvd h

/-- Of, for a denominator above 0. -/
theorem of_end {n d N D : Int} (h : 0 < d) (hN : n / Qm.g n d = N) (hD : d / Qm.g n d = D) : Qm.ofR n d = if N > 1099511627776 ∨ N < -1099511627776 ∨ D > 1048576 then (0, 0, 5) else (N, D, 0) := by
  rw [Qm.ofR_pos h, hN, hD]

/-- What was there before a call reads as before. -/
theorem bcell {W w1 : World} (hb : Below W.heap.size W w1) : (∀ b o, b < W.heap.size → w1.cell? ⟨b, o, none⟩ = W.cell? ⟨b, o, none⟩) ∧ (∀ b o, b < W.heap.size → w1.frozen? ⟨b, o, none⟩ = W.frozen? ⟨b, o, none⟩) :=
  ⟨fun b o h => hb.cell (p := ⟨b, o, none⟩) h, fun b o h => hb.frozen (p := ⟨b, o, none⟩) h⟩

/-- The box of a result that is a ratio, after a call. -/
theorem box_r {w w1 : World} {a b : Value} {t : TypeId} (hb : Below (w.alloc (.cells #[a, b] t)).heap.size (w.alloc (.cells #[a, b] t)) w1) :
    w1.cell? ⟨w.heap.size, 0, none⟩ = some a ∧ w1.cell? ⟨w.heap.size, 1, none⟩ = some b ∧ w1.frozen? ⟨w.heap.size, 0, none⟩ = false ∧ w1.frozen? ⟨w.heap.size, 1, none⟩ = false ∧ w.heap.size < w1.heap.size := by
  have h := bcell hb
  have hs := hb.size
  simp at hs
  refine ⟨?_, ?_, ?_, ?_, by omega⟩
  · rw [h.1 _ _ (by simp)]; simp only [World.cell?, heap_new]; rfl
  · rw [h.1 _ _ (by simp)]; simp only [World.cell?, heap_new]; rfl
  · rw [h.2 _ _ (by simp)]; simp only [World.frozen?, heap_new]; rfl
  · rw [h.2 _ _ (by simp)]; simp only [World.frozen?, heap_new]; rfl

theorem cell_new2 (w : World) (a b : Value) (t : TypeId) :
    (w.alloc (.cells #[a, b] t)).cell? ⟨w.heap.size, 0, none⟩ = some a ∧ (w.alloc (.cells #[a, b] t)).cell? ⟨w.heap.size, 1, none⟩ = some b ∧ (w.alloc (.cells #[a, b] t)).frozen? ⟨w.heap.size, 0, none⟩ = false ∧ (w.alloc (.cells #[a, b] t)).frozen? ⟨w.heap.size, 1, none⟩ = false := by
  refine ⟨?_, ?_, ?_, ?_⟩
  · simp only [World.cell?, heap_new]; rfl
  · simp only [World.cell?, heap_new]; rfl
  · simp only [World.frozen?, heap_new]; rfl
  · simp only [World.frozen?, heap_new]; rfl

theorem size_alloc (w : World) (o : Obj) : (w.alloc o).heap.size = w.heap.size + 1 := by simp

/-- Two boxes of ratios. -/
abbrev two (w : World) (a b c d : Value) (t : TypeId) : World := (w.alloc (.cells #[a, b] t)).alloc (.cells #[c, d] t)

/-- Three. -/
abbrev three (w : World) (a b c d x y : Value) (t : TypeId) : World := (two w a b c d t).alloc (.cells #[x, y] t)

theorem box_2 {w w1 : World} {a b c d : Value} {t : TypeId} (hb : Below (two w a b c d t).heap.size (two w a b c d t) w1) :
    w1.cell? ⟨w.heap.size, 0, none⟩ = some a ∧ w1.cell? ⟨w.heap.size, 1, none⟩ = some b ∧ w1.cell? ⟨w.heap.size + 1, 0, none⟩ = some c ∧ w1.cell? ⟨w.heap.size + 1, 1, none⟩ = some d ∧ w.heap.size + 1 < w1.heap.size := by
  have h := bcell hb
  have hs := hb.size
  obtain ⟨a0, a1, _, _⟩ := cell_new2 w a b t
  obtain ⟨c0, c1, _, _⟩ := cell_new2 (w.alloc (.cells #[a, b] t)) c d t
  rw [size_alloc] at c0 c1
  have s2 : (two w a b c d t).heap.size = w.heap.size + 2 := by rw [size_alloc, size_alloc]
  refine ⟨?_, ?_, ?_, ?_, by omega⟩
  · rw [h.1 _ _ (by omega)]; exact cell_alloc_l _ a0
  · rw [h.1 _ _ (by omega)]; exact cell_alloc_l _ a1
  · rw [h.1 _ _ (by omega)]; exact c0
  · rw [h.1 _ _ (by omega)]; exact c1

theorem box_3 {w w1 : World} {a b c d x y : Value} {t : TypeId} (hb : Below (three w a b c d x y t).heap.size (three w a b c d x y t) w1) :
    w1.cell? ⟨w.heap.size, 0, none⟩ = some a ∧ w1.cell? ⟨w.heap.size, 1, none⟩ = some b ∧ w1.cell? ⟨w.heap.size + 1, 0, none⟩ = some c ∧ w1.cell? ⟨w.heap.size + 1, 1, none⟩ = some d ∧
    w1.cell? ⟨w.heap.size + 2, 0, none⟩ = some x ∧ w1.cell? ⟨w.heap.size + 2, 1, none⟩ = some y ∧ w1.frozen? ⟨w.heap.size + 2, 0, none⟩ = false ∧ w1.frozen? ⟨w.heap.size + 2, 1, none⟩ = false ∧ w.heap.size + 2 < w1.heap.size := by
  have s2 : (two w a b c d t).heap.size = w.heap.size + 2 := by rw [size_alloc, size_alloc]
  have s3 : (three w a b c d x y t).heap.size = w.heap.size + 3 := by rw [size_alloc, s2]
  have h := bcell hb
  have hs := hb.size
  obtain ⟨b0, b1, b2, b3, _⟩ := box_2 (Below.refl (two w a b c d t).heap.size _)
  obtain ⟨c0, c1, c2, c3⟩ := cell_new2 (two w a b c d t) x y t
  rw [s2] at c0 c1 c2 c3
  refine ⟨?_, ?_, ?_, ?_, ?_, ?_, ?_, ?_, by omega⟩
  · rw [h.1 _ _ (by omega)]; exact cell_alloc_l _ b0
  · rw [h.1 _ _ (by omega)]; exact cell_alloc_l _ b1
  · rw [h.1 _ _ (by omega)]; exact cell_alloc_l _ b2
  · rw [h.1 _ _ (by omega)]; exact cell_alloc_l _ b3
  · rw [h.1 _ _ (by omega)]; exact c0
  · rw [h.1 _ _ (by omega)]; exact c1
  · rw [h.2 _ _ (by omega)]; exact c2
  · rw [h.2 _ _ (by omega)]; exact c3


end Go.Proofs.YtelhpndlejommaaGreat
