/- Contracts of package taxon: has, hasAll, Len, Is. -/
import Derived.Test.YtidnllddhhllcaaTb
namespace Go.Proofs.Ytidnllddhhllcaa
open Go.RowKit Go.Shelf

/-- Whether a number is a class. -/
def clsB (n : Nat) (c : Int) : Bool := decide (0 ≤ c ∧ c < n)

set_option maxHeartbeats 1000000 in
theorem thas_any (N n cp : Nat) (a : Option Addr) (c : Int) (w : World) (h : w.cell? ⟨N, 0, none⟩ = some (.slice a n cp)) :
    Calls Try.prog 42 #[.pointer (some ⟨N, 0, none⟩), .int .i64 c] w fun e w' => e = .returned (.bool (clsB n c)) ∧ w = w' := by
  by_cases h0 : 0 ≤ c
  · have e : clsB n c = decide (c < n) := by unfold clsB; simp [h0]
    rw [e]
    have h1 : decide (0 ≤ c) = true := decide_eq_true h0
    clear e
    go_enter Try.func42, Try.ntmps42
    go_wp2
    go_ret
    exact ⟨rfl, rfl⟩
  · have e : clsB n c = false := by unfold clsB; simp [h0]
    rw [e]
    have h1 : decide (0 ≤ c) = false := decide_eq_false h0
    clear e
    go_enter Try.func42, Try.ntmps42
    go_wp2
    go_ret
    exact ⟨rfl, rfl⟩

set_option maxHeartbeats 1000000 in
theorem thas1_any (M N n cp : Nat) (a : Option Addr) (c : Int) (w : World) (h : w.cell? ⟨N, 0, none⟩ = some (.slice a n cp)) (hM : w.cell? ⟨M, 0, none⟩ = some (.pointer (some ⟨N, 0, none⟩))) :
    Calls Try.prog 60 #[.int .i64 c, .pointer (some ⟨M, 0, none⟩)] w fun e w' => e = .returned (.bool (!clsB n c)) ∧ w = w' := by
  have k1 := thas_any N n cp a c w h
  generalize clsB n c = b at *
  have K1 := Lib.hid k1
  clear k1
  go_enter Try.func60, Try.ntmps60
  go_wp2_with fail
  refine (K1.out).mono ?_
  rintro e w' ⟨rfl, rfl⟩
  go_wp2
  go_ret
  exact ⟨rfl, rfl⟩

/-- What IndexFunc returns. -/
def IdxT (b : Bool) (w : World) (e : Ending) (w' : World) : Prop := ∃ v : Int, e = .returned (.int .i64 v) ∧ (0 ≤ v ↔ b = true) ∧ w = w'

set_option maxHeartbeats 4000000 in
theorem tindex_any (sv : Value) (zs : List Int) (M N n cp : Nat) (a : Option Addr) (w : World) (hl : Els .i64 w sv zs) (hlen : zs.length ≤ 100000) (h : w.cell? ⟨N, 0, none⟩ = some (.slice a n cp)) (hM : w.cell? ⟨M, 0, none⟩ = some (.pointer (some ⟨N, 0, none⟩))) :
    Calls Try.prog 67 #[sv, .func (.func 60) #[] #[.pointer (some ⟨M, 0, none⟩)]] w (IdxT (zs.any fun c => !clsB n c) w) := by
  obtain ⟨a1, cap, rfl⟩ := hl.shape
  have HE := Lib.hid hl
  have K1 := Lib.hid fun c => thas1_any M N n cp a c w h hM
  generalize hm : zs.length = m at *
  have HN := Lib.hid hm
  clear hl hm h hM
  go_enter Try.func67, Try.ntmps67
  go_wp2
  go_loopw [8] (fun x wr => ∃ k : Nat, k ≤ m ∧ x = .int .i64 k ∧ Hid (((zs.take k).any fun c => !clsB n c) = false) ∧ wr = w) (fun x _ => m - (intOf x).toNat)
  case atStart => exact ⟨0, by omega, rfl, rfl, rfl⟩
  case round =>
    obtain ⟨k, hk, rfl, hF, rfl⟩ := hrel
    by_cases hlt : k < m
    · have hki : (k : Int) < m := by omega
      obtain ⟨b, off, rfl, hcl⟩ := HE.out.at k hlt
      have hgk : zs[k]? = some (zs[k]?.getD 0) := by rw [List.getElem?_eq_getElem (by rw [HN.out]; exact hlt)]; rfl
      generalize zs[k]?.getD 0 = z at *
      have hany : ((zs.take (k + 1)).any fun c => !clsB n c) = !clsB n z := by
        rw [List.take_add_one, hgk, List.any_append, hF.out]
        simp
      have hmem : (!clsB n z) = true → (zs.any fun c => !clsB n c) = true := fun h => List.any_eq_true.2 ⟨z, List.mem_of_getElem? hgk, h⟩
      have HA := Lib.hid hany
      have HM := Lib.hid hmem
      have k1 := K1.out z
      clear hany hmem hgk
      generalize clsB n z = G at *
      have K1' := Lib.hid k1
      clear k1
      go_wp2_with fail
      refine (K1'.out).mono ?_
      rintro e w1 ⟨rfl, rfl⟩
      cases G
      case true =>
        go_wp2
        go_roundw
        case rel => exact ⟨k + 1, by omega, by go_num, HA, by first | rfl | trivial⟩
        case measure => simp [intOf]; omega
      case false =>
        go_wp2
        go_ret
        exact ⟨k, rfl, ⟨fun _ => HM.out rfl, fun _ => by omega⟩, rfl⟩
    · have hki : (m : Int) ≤ (k : Int) := by omega
      have hall : (zs.any fun c => !clsB n c) = false := by
        have := hF.out
        rwa [List.take_of_length_le (by rw [HN.out]; omega)] at this
      have HA := Lib.hid hall
      clear hall
      go_wp2
      go_ret
      exact ⟨-1, rfl, ⟨fun h => by omega, fun h => by rw [HA.out] at h; cases h⟩, rfl⟩

theorem tcontains_any (sv : Value) (zs : List Int) (M N n cp : Nat) (a : Option Addr) (w : World) (hl : Els .i64 w sv zs) (hlen : zs.length ≤ 100000) (h : w.cell? ⟨N, 0, none⟩ = some (.slice a n cp)) (hM : w.cell? ⟨M, 0, none⟩ = some (.pointer (some ⟨N, 0, none⟩))) :
    Calls Try.prog 59 #[sv, .func (.func 60) #[] #[.pointer (some ⟨M, 0, none⟩)]] w fun e w' => e = .returned (.bool (zs.any fun c => !clsB n c)) ∧ w = w' := by
  have k1 := Lib.hid (tindex_any sv zs M N n cp a w hl hlen h hM)
  clear hl h hM
  generalize (zs.any fun c => !clsB n c) = B at *
  go_enter Try.func59, Try.ntmps59
  go_wp2_with fail
  refine (k1.out).mono ?_
  rintro e w1 ⟨v, rfl, hv, rfl⟩
  have HV := Lib.hid (show decide (0 ≤ v) = B from by
    by_cases h : 0 ≤ v
    · rw [decide_eq_true h, hv.1 h]
    · rw [decide_eq_false h]
      exact (Bool.eq_false_iff.2 fun hh => h (hv.2 hh)).symm)
  clear hv
  go_wp2
  go_ret
  exact ⟨ret_bool HV.out, rfl⟩

/-- Whether all numbers of a list are classes. -/
def allB (n : Nat) (zs : List Int) : Bool := zs.all (clsB n)

theorem thasAll_any (sv : Value) (zs : List Int) (N n cp : Nat) (a : Option Addr) (w : World) (hl : Els .i64 w sv zs) (hlen : zs.length ≤ 100000) (h : w.cell? ⟨N, 0, none⟩ = some (.slice a n cp)) :
    Calls Try.prog 45 #[.pointer (some ⟨N, 0, none⟩), sv] w fun e w' => e = .returned (.bool (allB n zs)) ∧ Below w.heap.size w w' := by
  have hb := (Below.refl w.heap.size w).alloc (Nat.le_refl _) (.cells #[.pointer (some ⟨N, 0, none⟩)] 27)
  have k1 := tcontains_any sv zs w.heap.size N n cp a (w.alloc (.cells #[.pointer (some ⟨N, 0, none⟩)] 27)) (hl.below hb) hlen ((hb.cell (p := ⟨N, 0, none⟩) (block_there h)).trans h) (cell_new_l _ _ _).1
  have e : allB n zs = !(zs.any fun c => !clsB n c) := by
    unfold allB
    rw [List.not_any_eq_all_not]
    simp
  rw [e]
  generalize (zs.any fun c => !clsB n c) = B at *
  have K1 := Lib.hid k1
  have HB := Lib.hid hb
  clear k1 hb e h hl
  go_enter Try.func45, Try.ntmps45
  go_wp2_with fail
  refine (K1.out).mono ?_
  rintro e w1 ⟨rfl, rfl⟩
  go_wp2
  go_ret
  exact ⟨rfl, HB.out⟩

end Go.Proofs.Ytidnllddhhllcaa
