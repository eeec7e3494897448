/- RatioBetween: what its walk wants. -/
import Derived.Test.YtloddocibfbkpaaRef03l
import Derived.Test.YtloddocibfbkpaaRat10
import Derived.Test.YtloddocibfbkpaaLaw03c
import Derived.Deep.DeepCutAuto
namespace Go.Proofs.Ytloddocibfbkpaa
open Go.RowKit Go.Shelf

/-- What Between returns of small ratios. -/
theorem btw_small {a b c d : Int} {R : Int × Int × Int} (h : Qm.Btw a b c d R) (o : Qm.Ok a b) (o' : Qm.Ok c d) (hb : b ≤ 32768) (hd : d ≤ 32768) (ha1 : -1073741824 ≤ a) (ha2 : a ≤ 1073741824) (hc1 : -1073741824 ≤ c) (hc2 : c ≤ 1073741824) :
    (¬ a * d < c * b → R = (0, 0, 13)) ∧ (a * d < c * b → ∃ x y, R = (x, y, 0) ∧ Qm.Ok x y ∧ y ≤ b + d ∧ Qm.cmpI a b x y = -1 ∧ Qm.cmpI x y c d = -1) := by
  have e : Qm.bothI a b c d = 0 := Qm.bothI_ok.2 ⟨o, o'⟩
  have b1 := o.1
  have d1 := o'.1
  constructor
  · intro hn
    rcases h with ⟨h1, _⟩ | ⟨_, _, h3⟩ | ⟨_, h2, _⟩
    · omega
    · exact h3
    · exact absurd h2 hn
  · intro hlt
    have lt1 : ∀ {p q r s : Int}, p * s < r * q → Qm.cmpI p q r s = -1 := fun h => by unfold Qm.cmpI; rw [if_pos h]
    rcases h with ⟨h1, _⟩ | ⟨_, h2, _⟩ | ⟨_, _, h3⟩
    · omega
    · exact absurd hlt h2
    · rcases h3 with ⟨ha, hc, rfl⟩ | ⟨ha, p, q, hs, rfl⟩ | ⟨ha, hc, p, q, hs, rfl⟩
      · exact ⟨0, 1, rfl, ⟨by decide, by decide, by decide, by decide, by decide⟩, by omega, lt1 (by omega), lt1 (by omega)⟩
      · have hle := hs.le b1 d1 hlt
        have hq := hs.1
        have hp := hs.pos ha b1
        refine ⟨p, q, ?_, ⟨by omega, by omega, by omega, by omega, hs.low⟩, hle.1, lt1 hs.2.1, lt1 hs.2.2.1⟩
        rw [Qm.ofR_lowest (by omega) hs.low, if_neg (by omega)]
      · have hlt2 : -c * b < -a * d := by rw [Int.neg_mul, Int.neg_mul]; omega
        have hle := hs.le d1 b1 hlt2
        have hq := hs.1
        have hp := hs.pos (by omega) d1
        have hg : Qm.g (-p) q = 1 := by have := hs.low; unfold Qm.g at *; simpa using this
        have l1 := hs.2.1
        have l2 := hs.2.2.1
        rw [Int.neg_mul] at l1 l2
        refine ⟨-p, q, ?_, ⟨by omega, by omega, by omega, by omega, hg⟩, by omega, lt1 ?_, lt1 ?_⟩
        · rw [Qm.ofR_lowest (by omega) hg, if_neg (by omega)]
        · rw [Int.neg_mul]; omega
        · rw [Int.neg_mul]; omega

/-- What the law's test leaves. -/
def CutQ (VB b d M : Int) (wb : World) (s : Value) (wx : World) : Prop := ∃ q : Bool, s = .bool q ∧ (q = false → VB = 0 ∧ b ≤ 32768 ∧ d ≤ 32768 ∧ M ≤ 1073741824) ∧ Since wb wx

/-- The greatest of four. -/
def mx4 (x y z u : Int) : Int := if u > (if z > (if y > x then y else x) then z else (if y > x then y else x)) then u else (if z > (if y > x then y else x) then z else (if y > x then y else x))

theorem mx4_le {x y z u M : Int} (h : mx4 x y z u ≤ M) : x ≤ M ∧ y ≤ M ∧ z ≤ M ∧ u ≤ M := by
  unfold mx4 at h
  split at h <;> split at h <;> split at h <;> omega

theorem run_max4 {P : Program} (w : World) (ts : Array TypeId) (t : TypeId) (x y z u : Int) : (Builtin.max_ ts t #[.int .i64 x, .int .i64 y, .int .i64 z, .int .i64 u]).run P w = .ok (.int .i64 (mx4 x y z u)) w := by
  simp [Builtin.max_, Builtin.max2, mx4]

/-- The five ratios. -/
def btwP (a1 b1 n c : Int) (k : Nat) : Int := match k with | 0 => a1 | 1 => b1 | 2 => n | 3 => 0 | _ => c
def btwQ (a2 b2 d c : Int) (k : Nat) : Int := match k with | 0 => a2 | 1 => b2 | 2 => d | 3 => 1 | _ => c

theorem btw_tab (w : World) (a1 a2 b1 b2 n d c1 c2 : Int) (t : TypeId) : TabAt w.heap.size 5 (btwP a1 b1 n c1) (btwQ a2 b2 d c2) (w.alloc (.cells #[.int .i64 a1, .int .i64 a2, .int .i64 b1, .int .i64 b2, .int .i64 n, .int .i64 d, .int .i64 0, .int .i64 1, .int .i64 c1, .int .i64 c2] t)) := by
  refine TabAt.new _ _ _ _ _ _ fun k hk => ?_
  match k with
  | 0 => exact ⟨rfl, rfl⟩
  | 1 => exact ⟨rfl, rfl⟩
  | 2 => exact ⟨rfl, rfl⟩
  | 3 => exact ⟨rfl, rfl⟩
  | 4 => exact ⟨rfl, rfl⟩
  | k + 5 => omega

theorem btw_i64 {a1 b1 n c : Int} (h1 : I64 a1) (h2 : I64 b1) (h3 : I64 n) (h4 : I64 c) (k : Nat) : I64 (btwP a1 b1 n c k) := by
  unfold btwP
  split <;> first | assumption | exact ⟨by decide, by decide⟩

theorem btw_i64' {a2 b2 d c : Int} (h1 : I64 a2) (h2 : I64 b2) (h3 : I64 d) (h4 : I64 c) (k : Nat) : I64 (btwQ a2 b2 d c k) := by
  unfold btwQ
  split <;> first | assumption | exact ⟨by decide, by decide⟩

/-- What a call whose first result is a ratio leaves: its box and its error. -/
def CutB (wb : World) (x y k : Int) (s1 s2 : Value) (wx : World) : Prop := ∃ N : Nat, s1 = .pointer (some ⟨N, 0, none⟩) ∧ s2 = .int .i64 k ∧ BoxAt N (.int .i64 x) (.int .i64 y) wx ∧ Since wb wx

theorem CutB.alloc {wb w' : World} {x y k : Int} (t : TypeId) (hB : Since wb w') : CutB wb x y k (.pointer (some ⟨w'.heap.size, 0, none⟩)) (.int .i64 k) (w'.alloc (.cells #[.int .i64 x, .int .i64 y] t)) :=
  ⟨_, rfl, rfl, BoxAt.made .., Since.alloc hB _⟩

theorem CutB.store {wb w' : World} {x y k : Int} {N : Nat} {a b : Value} (hB : Since wb w') (h : BoxAt N a b w') (hN : wb.heap.size ≤ N) : CutB wb x y k (.pointer (some ⟨N, 0, none⟩)) (.int .i64 k) ((w'.setCell ⟨N, 0, none⟩ (.int .i64 x)).setCell ⟨N, 1, none⟩ (.int .i64 y)) := by
  obtain ⟨c0, c1, f0, f1, hz⟩ := h
  have hs : Since wb ((w'.setCell ⟨N, 0, none⟩ (.int .i64 x)).setCell ⟨N, 1, none⟩ (.int .i64 y)) := (Below.setCell (Below.setCell hB (p := ⟨N, 0, none⟩) hN _) (p := ⟨N, 1, none⟩) hN _)
  refine ⟨N, rfl, rfl, ⟨?_, ?_, ?_, ?_, ?_⟩, hs⟩
  · exact (World.cell?_setCell_other _ ⟨N, 1, none⟩ ⟨N, 0, none⟩ _ (by simp)).trans (World.cell?_setCell_same _ _ _ c0)
  · exact World.cell?_setCell_same _ _ _ ((World.cell?_setCell_other _ ⟨N, 0, none⟩ ⟨N, 1, none⟩ _ (by simp)).trans c1)
  · rw [World.frozen?_setCell, World.frozen?_setCell]; exact f0
  · rw [World.frozen?_setCell, World.frozen?_setCell]; exact f1
  · exact Nat.lt_of_lt_of_le hz (((Below.refl N w').setCell (p := ⟨N, 0, none⟩) (Nat.le_refl _) _).setCell (p := ⟨N, 1, none⟩) (Nat.le_refl _) _).size

end Go.Proofs.Ytloddocibfbkpaa
