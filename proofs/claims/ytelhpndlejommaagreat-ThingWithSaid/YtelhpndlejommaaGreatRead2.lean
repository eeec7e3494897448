/- What Int, Bool, Text, Raw, Ints, End of wire.Reader return, and Read. -/
import Derived.Test.YtelhpndlejommaaGreatRead
namespace Go.Proofs.YtelhpndlejommaaGreat
open Go.RowKit Go.Shelf

theorem rU_lt {l : List Int} (hb : Hm.Byt l) (e : Int) : (Hm.rU l e).1 < 18446744073709551616 := by
  rcases Hm.rdU_okay l 0 0 with h | ⟨_, h, _⟩
  · have h1 : Hm.rU l 0 = ((Hm.rdU 0 0 l).1, (Hm.rdU 0 0 l).2.1, 0) := by rw [Hm.rU, if_pos rfl, h]
    have := (Hm.rU_one hb h1).2
    exact this
  · show (Hm.rdU 0 0 l).1 < _
    rw [h]
    decide

/-- A contract of a reader's method. -/
def Rds (p d : Nat) (w : World) (v : Value) (l : List Int) (e : Int) (x : Ending) (w' : World) : Prop := x = .returned v ∧ Rd p d w' l e ∧ w.grownBy w' (some p)




end Go.Proofs.YtelhpndlejommaaGreat
