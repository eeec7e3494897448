/- Contracts of package span: the closures that say whether a depth has a number. -/
import Derived.Test.YtimbgjpjgbjnkaaSwmSwm2
import Derived.RegionTactic
namespace Go.Proofs.Ytimbgjpjgbjnkaa
open Go.RowKit Go.Shelf

theorem depth1 {w : World} {sv : Value} {a : Int} (he : Els .i64 w sv [a]) : ∃ b off cap, sv = .slice (some ⟨b, off, none⟩) 1 cap ∧ w.cell? ⟨b, off, none⟩ = some (.int .i64 a) := by
  rcases he with ⟨-, h⟩ | ⟨b, off, cap, hb, rfl, hl, hc⟩
  · cases h
  · exact ⟨b, off, cap, rfl, by simpa using hc 0 (by simp)⟩

theorem depth2 {w : World} {sv : Value} {a c : Int} (he : Els .i64 w sv [a, c]) : ∃ b off cap, sv = .slice (some ⟨b, off, none⟩) 2 cap ∧ w.cell? ⟨b, off, none⟩ = some (.int .i64 a) ∧ w.cell? ⟨b, off + 1, none⟩ = some (.int .i64 c) := by
  rcases he with ⟨-, h⟩ | ⟨b, off, cap, hb, rfl, hl, hc⟩
  · cases h
  · exact ⟨b, off, cap, rfl, by simpa using hc 0 (by simp), by simpa using hc 1 (by simp)⟩

theorem normal1_any {w : World} {sv : Value} {a : Int} (he : Els .i64 w sv [a]) :
    Calls Try.prog 46 #[sv] w fun e w' => e = .returned (.bool (decide (0 < a))) ∧ w = w' := by
  obtain ⟨b, off, cap, rfl, c0⟩ := depth1 he
  clear he
  go_enter Try.func46, Try.ntmps46
  go_wp2
  all_goals exact bodyPost_ret (by simp [results, Try.results46, go_sem]; rfl) rfl ⟨by first | rfl | (have e : decide (0 < a) = false := decide_eq_false (by omega); rw [e]; rfl) | (have e : decide (0 < a) = true := decide_eq_true (by omega); rw [e]; rfl), rfl⟩

theorem not1_any {w : World} {sv : Value} {a : Int} (he : Els .i64 w sv [a]) :
    Calls Try.prog 59 #[sv] w fun e w' => e = .returned (.bool (a == 0)) ∧ w = w' := by
  obtain ⟨b, off, cap, rfl, c0⟩ := depth1 he
  clear he
  go_enter Try.func59, Try.ntmps59
  go_wp2
  all_goals exact bodyPost_ret (by simp [results, Try.results59, go_sem]; rfl) rfl ⟨by first | rfl | (have e : decide (0 < a) = false := decide_eq_false (by omega); rw [e]; rfl) | (have e : decide (0 < a) = true := decide_eq_true (by omega); rw [e]; rfl), rfl⟩

theorem union1_any {w : World} {sv : Value} {a c : Int} (he : Els .i64 w sv [a, c]) :
    Calls Try.prog 60 #[sv] w fun e w' => e = .returned (.bool (decide (0 < a) || decide (0 < c))) ∧ w = w' := by
  obtain ⟨b, off, cap, rfl, c0, c1⟩ := depth2 he
  clear he
  go_enter Try.func60, Try.ntmps60
  go_wp2
  all_goals exact bodyPost_ret (by simp [results, Try.results60, go_sem]; rfl) rfl ⟨by first | rfl | (have e : decide (0 < a) = false := decide_eq_false (by omega); rw [e]; rfl) | (have e : decide (0 < a) = true := decide_eq_true (by omega); rw [e]; rfl), rfl⟩

theorem meet1_any {w : World} {sv : Value} {a c : Int} (he : Els .i64 w sv [a, c]) :
    Calls Try.prog 61 #[sv] w fun e w' => e = .returned (.bool (decide (0 < a) && decide (0 < c))) ∧ w = w' := by
  obtain ⟨b, off, cap, rfl, c0, c1⟩ := depth2 he
  clear he
  go_enter Try.func61, Try.ntmps61
  go_wp2
  all_goals exact bodyPost_ret (by simp [results, Try.results61, go_sem]; rfl) rfl ⟨by first | rfl | (have e : decide (0 < a) = false := decide_eq_false (by omega); rw [e]; rfl) | (have e : decide (0 < a) = true := decide_eq_true (by omega); rw [e]; rfl), rfl⟩

theorem within1_any {w : World} {sv : Value} {a c : Int} (he : Els .i64 w sv [a, c]) :
    Calls Try.prog 62 #[sv] w fun e w' => e = .returned (.bool (decide (0 < a) && c == 0)) ∧ w = w' := by
  obtain ⟨b, off, cap, rfl, c0, c1⟩ := depth2 he
  clear he
  go_enter Try.func62, Try.ntmps62
  go_wp2
  all_goals exact bodyPost_ret (by simp [results, Try.results62, go_sem]; rfl) rfl ⟨by first | rfl | (have e : decide (0 < a) = false := decide_eq_false (by omega); rw [e]; rfl) | (have e : decide (0 < a) = true := decide_eq_true (by omega); rw [e]; rfl), rfl⟩

end Go.Proofs.Ytimbgjpjgbjnkaa
