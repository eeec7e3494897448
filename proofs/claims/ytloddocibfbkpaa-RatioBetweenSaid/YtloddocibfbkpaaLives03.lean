/- The examples of the section hold. -/
import Derived.Test.YtloddocibfbkpaaPar2
import Derived.Test.YtloddocibfbkpaaRat10
import Derived.Test.YtloddocibfbkpaaLaw03a
namespace Go.Proofs.Ytloddocibfbkpaa
open Go.RowKit Go.Shelf

theorem simp_example : Qm.Simp 1 3 1 2 2 5 := ⟨by omega, by omega, by omega, fun p q h1 h2 h3 => by omega⟩

theorem btw_example {R : Int × Int × Int} (h : Qm.Btw 1 3 1 2 R) : R = (2, 5, 0) :=
  h.one (.inr (.inr ⟨by decide, by omega, .inr (.inl ⟨by omega, 2, 5, simp_example, by decide⟩)⟩))

set_option maxHeartbeats 2000000 in
set_option maxRecDepth 100000 in
theorem lives_any : Lives := by
  intro w
  have i64 : ∀ n : Int, -100 ≤ n → n ≤ 100 → I64 n := fun n h1 h2 => ⟨by omega, by omega⟩
  have k1 := fun w => radd_any 1 2 1 3 w (i64 1 (by omega) (by omega)) (i64 2 (by omega) (by omega)) (i64 1 (by omega) (by omega)) (i64 3 (by omega) (by omega))
  have k2 := fun w => rbtw_any 1 3 1 2 w (i64 1 (by omega) (by omega)) (i64 3 (by omega) (by omega)) (i64 1 (by omega) (by omega)) (i64 2 (by omega) (by omega))
  have k3 := fun w => rpart_any 100 2 3 w (i64 2 (by omega) (by omega)) (i64 3 (by omega) (by omega))
  have k4 := fun w => parse_any ⟨#[45, 49, 46, 50, 53]⟩ w (by decide)
  rw [show addR 1 2 1 3 = (5, 6, 0) by decide] at k1
  rw [show partR 100 2 3 = (66, 0) by decide] at k3
  rw [show parseP (ByteArray.mk #[45, 49, 46, 50, 53]).data.toList = (-5, 4, 0) by decide] at k4
  have K1 := Lib.hid k1
  have K2 := Lib.hid k2
  have K3 := Lib.hid k3
  have K4 := Lib.hid k4
  clear k1 k2 k3 k4 i64
  unfold rv rve at *
  go_enter Try.func19, Try.ntmps19
  go_wp2_with fail
  refine (K1.out _).mono ?_
  rintro e W1 ⟨rfl, hB1⟩
  go_wp2_with fail
  refine (K2.out _).mono ?_
  rintro e W2 ⟨R, hR, rfl, hB2⟩
  obtain rfl := btw_example hR
  clear hR
  have X1 := Lib.hid (BoxAt.new hB2)
  have H2 := Lib.hid ((hB1.alloc hB1.size _).trans (hB2.mono (Nat.le_trans hB1.size (by simp))))
  clear hB1 hB2
  unfold rve
  go_wp2_with fail
  refine (K3.out _).mono ?_
  rintro e W3 ⟨rfl, hB3⟩
  have hK := ((Below.refl _ W2).alloc (Nat.le_refl _) _).trans (hB3.mono (by simp))
  have X2 := Lib.hid (BoxAt.new hB3)
  replace X1 := Lib.hid (X1.out.keep hK)
  have H3 := Lib.hid (H2.out.trans (hK.mono H2.out.size))
  clear hB3 hK H2
  go_wp2_with fail
  refine (K4.out _).mono ?_
  rintro e W4 ⟨rfl, hB4⟩
  replace X1 := Lib.hid (X1.out.keep hB4)
  replace X2 := Lib.hid (X2.out.keep hB4)
  have H4 := Lib.hid (H3.out.trans (hB4.mono H3.out.size))
  clear hB4 H3
  obtain ⟨p0, p1, -, -, p2⟩ := X1.out
  obtain ⟨q0, q1, -, -, q2⟩ := X2.out
  go_wp2
  go_ret
  exact ⟨rfl, H4.out.alloc H4.out.size _⟩

end Go.Proofs.Ytloddocibfbkpaa
