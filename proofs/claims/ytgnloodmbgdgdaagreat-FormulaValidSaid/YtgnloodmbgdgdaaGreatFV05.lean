import Derived.Test.YtgnloodmbgdgdaaGreatFV04
namespace Go.Proofs.YtgnloodmbgdgdaaGreat
open Go.RowKit Go.Shelf
def firstNZ : List Int → Int | [] => 0 | x :: r => if x = 0 then firstNZ r else x
theorem firstNZ_take (zs : List Int) (k : Nat) (h : ∀ z ∈ zs.take k, z = 0) : firstNZ zs = firstNZ (zs.drop k) := by
 induction zs generalizing k with
 | nil => simp
 | cons x r ih =>
  cases k with
  | zero => rfl
  | succ k =>
   rw [List.drop_succ_cons, ← ih k (fun y hy => h y (by rw [List.take_succ_cons]; exact List.mem_cons_of_mem _ hy))]
   have := h x (by rw [List.take_succ_cons]; exact List.mem_cons_self ..)
   show (if x = 0 then firstNZ r else x) = _
   rw [if_pos this]
set_option maxHeartbeats 2000000 in
theorem or_any (a : Option Addr) (n c : Nat) (zs : List Int) (w : World) (h : Els .i64 w (.slice a n c) zs) (hl : zs.length ≤ 1000000) :
  Calls Tryz.prog 77 #[.slice a n c] w fun e w' => e = .returned (.int .i64 (firstNZ zs)) ∧ w = w' := by
 have hn := h.len
 have HE := Lib.hid h
 have HN := Lib.hid hn
 have hnl : n ≤ 1000000 := by omega
 clear h hn hl
 go_enter Tryz.func77, Tryz.ntmps77
 go_wp2
 go_loop [8] (fun x => ∃ k : Nat, k ≤ n ∧ x = .int .i64 k ∧ Hid (∀ z ∈ zs.take k, z = 0)) (fun x => n - (intOf x).toNat)
 case atStart => exact ⟨0, by omega, rfl, fun z hz => by simp at hz⟩
 case round =>
  obtain ⟨k, hk, rfl, hF⟩ := hrel
  by_cases hlt : k < n
  ·have hki : (k : Int) < n := by omega
   obtain ⟨b, off, rfl, hc⟩ := HE.out.at k hlt
   have hzk : zs[k]? = some (zs[k]?.getD 0) := by rw [List.getElem?_eq_getElem (by rw [← HN.out]; exact hlt)]; rfl
   have HZ := Lib.hid hzk
   generalize zs[k]?.getD 0 = z at *
   clear hzk
   by_cases h0 : z = 0
   ·have hF2 : Hid (∀ y ∈ zs.take (k + 1), y = 0) := fun y hy => by
     rw [List.take_add_one, HZ.out, List.mem_append] at hy
     rcases hy with hy | hy
     ·exact hF.out y hy
     ·simp at hy
      rw [hy]
      exact h0
    subst h0
    go_wp2
    go_round
    case rel => exact ⟨k + 1, by omega, by go_num, hF2⟩
    case measure => simp [intOf]; omega
   ·have hz : (z != 0) = true := by simpa using h0
    have hR : Hid (firstNZ zs = z) := Lib.hid (by
     rw [firstNZ_take zs k hF.out]
     obtain ⟨hkl, e⟩ := List.getElem?_eq_some_iff.1 HZ.out
     rw [List.drop_eq_getElem_cons hkl, e]
     show (if z = 0 then _ else z) = z
     rw [if_neg h0])
    clear h0
    go_wp2
    go_ret
    exact ⟨ret_int hR.out.symm, rfl⟩
  ·have hki : (n : Int) ≤ (k : Int) := by omega
   have hR : Hid (firstNZ zs = 0) := Lib.hid (by
    rw [firstNZ_take zs k hF.out, List.drop_of_length_le (by rw [← HN.out]; omega)]
    rfl)
   go_wp2
   go_ret
   exact ⟨ret_int hR.out.symm, rfl⟩
end Go.Proofs.YtgnloodmbgdgdaaGreat
