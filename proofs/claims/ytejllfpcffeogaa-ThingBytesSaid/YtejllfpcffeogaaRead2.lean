/- What Int, Bool, Text, Raw, Ints, End of wire.Reader return, and Read. -/
import Derived.Test.YtejllfpcffeogaaRead
namespace Go.Proofs.Ytejllfpcffeogaa
open Go.RowKit Go.Shelf

theorem rU_lt {l : List Int} (hb : Hm.Byt l) (e : Int) : (Hm.rU l e).1 < 18446744073709551616 := by
  rcases Hm.rdU_okay l 0 0 with h | ⟨_, h, _⟩
  · have h1 : Hm.rU l 0 = ((Hm.rdU 0 0 l).1, (Hm.rdU 0 0 l).2.1, 0) := by rw [Hm.rU, if_pos rfl, h]
    have := (Hm.rU_one hb h1).2
    exact this
  · show (Hm.rdU 0 0 l).1 < _
    rw [h]
    decide

/-- A contract of a reader's method. -/
def Rds (p d : Nat) (w : World) (v : Value) (l : List Int) (e : Int) (x : Ending) (w' : World) : Prop := x = .returned v ∧ Rd p d w' l e ∧ w.grownBy w' (some p)

set_option maxRecDepth 100000 in
set_option maxHeartbeats 1000000 in
theorem rint_any (p d : Nat) (l : List Int) (e : Int) (w : World) (h : Rd p d w l e) (hb : Hm.Byt l) (hl : l.length ≤ 100000000000) :
    Calls Try.prog 80 #[.pointer (some ⟨p, 0, none⟩)] w (Rds p d w (.int .i64 (Hm.unzig (Hm.rU l e).1)) (Hm.rU l e).2.1 (Hm.rU l e).2.2) := by
  have K := Lib.hid (ruint_any p d l e w h hb hl)
  have hlt := rU_lt hb e
  generalize (Hm.rU l e).1 = z at *
  generalize (Hm.rU l e).2.1 = l2 at *
  generalize (Hm.rU l e).2.2 = e2 at *
  have h1 := Lib.hid (and_one z hlt)
  have h2 := Lib.hid (unzig_spelt z hlt)
  have hlt' : (z : Int) ≤ 18446744073709551615 := by omega
  have hlt2 := Lib.hid hlt
  clear h hb hl hlt
  go_enter Try.func80, Try.ntmps80
  go_wp2_with fail
  (with_reducible refine K.out.mono ?_)
  rintro x w1 ⟨rfl, hR, hg⟩
  have HR := Lib.hid hR
  have HG := Lib.hid hg
  clear hR hg
  have h3 := h1.out
  go_wp2_with fail
  go_ret
  exact ⟨ret_int (by have h := h2.out; rw [Int.natCast_emod] at h; exact h), HR.out, HG.out⟩


set_option maxRecDepth 100000 in
set_option maxHeartbeats 1000000 in
theorem rlen_any (p d : Nat) (l : List Int) (e : Int) (w : World) (h : Rd p d w l e) (hb : Hm.Byt l) (hl : l.length ≤ 100000000000) :
    Calls Try.prog 55 #[.pointer (some ⟨p, 0, none⟩)] w (Rds p d w (.int .i64 (Hm.rLen l e).1) (Hm.rLen l e).2.1 (Hm.rLen l e).2.2) := by
  have K := Lib.hid (ruint_any p d l e w h hb hl)
  have hlt := rU_lt hb e
  have hle := Nat.le_trans (Hm.rU_left hb e).2 hl
  have hdef : Hm.rLen l e = if (Hm.rU l e).2.1.length < (Hm.rU l e).1 then (0, [], stk (Hm.rU l e).2.2 3) else ((Hm.rU l e).1, (Hm.rU l e).2.1, (Hm.rU l e).2.2) := rfl
  generalize Hm.rLen l e = q at *
  generalize (Hm.rU l e).1 = z at *
  generalize (Hm.rU l e).2.1 = l2 at *
  generalize (Hm.rU l e).2.2 = e2 at *
  have HD := Lib.hid hdef
  have HLT := Lib.hid hlt
  have HLE := Lib.hid hle
  clear h hb hl hdef hlt hle
  by_cases hc : l2.length < z
  · have hq : q = (0, [], stk e2 3) := by rw [HD.out, if_pos hc]
    subst hq
    have HC := Lib.hid hc
    clear hc
    go_enter Try.func55, Try.ntmps55
    go_wp2_with fail
    (with_reducible refine K.out.mono ?_)
    rintro x w1 ⟨rfl, hR, hg⟩
    obtain ⟨a, n, c, h0, h1, f0, f1, hn, hnc, hv⟩ := hR.open
    have HR := Lib.hid hR
    have HG := Lib.hid hg
    have hnz : n < z := by rw [hn.out]; exact HC.out
    have hn9 : n ≤ 100000000000 := by rw [hn.out]; exact HLE.out
    have hnz2 : decide (n < z) = true := by simpa using hnz
    clear hR hg
    go_wp2_with fail
    (with_reducible refine (rfail_any p d l2 e2 3 w1 HR.out).mono ?_)
    rintro x w2 ⟨rfl, hR2, hg2⟩
    have HR2 := Lib.hid hR2
    have HG2 := Lib.hid (grown_trans HG.out hg2)
    clear hR2 hg2
    go_wp2_with fail
    go_ret
    exact ⟨rfl, HR2.out, HG2.out⟩
  · have hq : q = (z, l2, e2) := by rw [HD.out, if_neg hc]
    subst hq
    have HC := Lib.hid hc
    clear hc
    go_enter Try.func55, Try.ntmps55
    go_wp2_with fail
    (with_reducible refine K.out.mono ?_)
    rintro x w1 ⟨rfl, hR, hg⟩
    obtain ⟨a, n, c, h0, h1, f0, f1, hn, hnc, hv⟩ := hR.open
    have HR := Lib.hid hR
    have HG := Lib.hid hg
    have hnz : z ≤ n := by rw [hn.out]; exact Nat.le_of_not_lt HC.out
    have hn9 : n ≤ 100000000000 := by rw [hn.out]; exact HLE.out
    have hnz2 : decide (n < z) = false := by simpa using hnz
    clear hR hg
    go_wp2_with fail
    go_ret
    exact ⟨rfl, HR.out, HG.out⟩


end Go.Proofs.Ytejllfpcffeogaa
