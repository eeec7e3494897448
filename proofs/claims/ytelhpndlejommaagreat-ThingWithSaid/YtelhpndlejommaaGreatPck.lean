/- Pick, over a readable slice. -/
import Derived.Test.YtelhpndlejommaaGreatSmall
namespace Go.Proofs.YtelhpndlejommaaGreat
open Go.RowKit Go.Shelf

/-- What Pick returns. -/
def pickI (zs : List Int) (i : Nat) (most : Int) : Int := if i < zs.length then aroundI (zs[i]?.getD 0) most else 0

theorem pickI_range (zs : List Int) (i : Nat) (most : Int) (h : 1 ≤ most) : 0 ≤ pickI zs i most ∧ pickI zs i most < most := by
  unfold pickI
  split
  · exact aroundI_range _ _ h
  · omega

/-- All numbers fit. -/
def Wfs (zs : List Int) : Prop := ∀ z ∈ zs, (Lit.int .i64 z).wf = true

set_option maxHeartbeats 1000000 in
theorem pick_any (sv : Value) (zs : List Int) (i : Nat) (most : Int) (w : World) (hl : Els .i64 w sv zs) (hw : Wfs zs) (h : 1 ≤ most) (hm : most ≤ 4611686018427387904) (hi : i ≤ 100000) :
    Calls Tryz.prog 64 #[sv, .int .i64 (i : Int), .int .i64 most] w fun e w' => e = .returned (.int .i64 (pickI zs i most)) ∧ w = w' := by
  obtain ⟨a, cap, rfl⟩ := hl.shape
  unfold pickI
  have h0 : decide ((i : Int) < 0) = false := decide_eq_false (by omega)
  by_cases hlt : i < zs.length
  · rw [if_pos hlt]
    obtain ⟨b, off, rfl, hcl⟩ := hl.at i hlt
    have hwz : (Lit.int .i64 (zs[i]?.getD 0)).wf = true := by rw [List.getElem?_eq_getElem hlt]; exact hw _ (List.getElem_mem hlt)
    have hge : decide ((i : Int) ≥ (zs.length : Int)) = false := decide_eq_false (by omega)
    generalize zs[i]?.getD 0 = z at *
    generalize hm' : zs.length = m at *
    have k1 := Lib.hid (around_any z most w h hm hwz)
    have hil : (i : Int) < m := by omega
    clear hl hw hwz hm'
    go_enter Tryz.func64, Tryz.ntmps64
    go_wp2_with fail
    refine (k1.out).mono ?_
    rintro e w' ⟨rfl, rfl⟩
    go_wp2
    go_ret
    exact ⟨rfl, rfl⟩
  · rw [if_neg hlt]
    have hge : decide ((i : Int) ≥ (zs.length : Int)) = true := decide_eq_true (by omega)
    generalize zs.length = m at *
    clear hl hw
    go_enter Tryz.func64, Tryz.ntmps64
    go_wp2
    go_ret
    exact ⟨rfl, rfl⟩

end Go.Proofs.YtelhpndlejommaaGreat
