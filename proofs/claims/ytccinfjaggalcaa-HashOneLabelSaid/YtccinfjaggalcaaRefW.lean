/- The reference model's Words: what it returns; nothing that lay has turned. -/
import Derived.Test.YtccinfjaggalcaaRefA
namespace Go.Proofs.Ytccinfjaggalcaa
open Go.RowKit Go.Shelf

/-- Chunk k of the bytes. -/
def chunk (zs : List Int) (k : Nat) : List Int := (zs.drop (8 * k)).take 8
theorem chunk_length (zs : List Int) (k : Nat) : (chunk zs k).length = min 8 (zs.length - 8 * k) := by simp [chunk]
theorem chunk_byt {zs : List Int} (h : Hm.Byt zs) (k : Nat) : Hm.Byt (chunk zs k) := (h.drop _).take _
theorem chunk_at (zs : List Int) (k j : Nat) (h : j < 8) : (chunk zs k)[j]?.getD 0 = zs[8 * k + j]?.getD 0 := by
  rw [chunk, List.getElem?_take_of_lt h, List.getElem?_drop]

theorem leI_drop {g : List Int} (h : Hm.Byt g) (hl : g.length ≤ 8) (j : Nat) (hj : j < g.length) :
    IntKind.u64.wrap (IntKind.u64.wrap (256 * Hm.leI (g.drop (j + 1))) + IntKind.u64.wrap (g[j]?.getD 0)) = Hm.leI (g.drop j) := by
  have h0 := Hm.leI_range (h.drop j)
  have h1 := Hm.leI_range (h.drop (j + 1))
  have h2 := h.at j
  rw [List.length_drop] at h0 h1
  have e : Hm.leI (g.drop j) = g[j]?.getD 0 + 256 * Hm.leI (g.drop (j + 1)) := by
    rw [List.drop_eq_getElem_cons hj, List.getElem?_eq_getElem hj]
    rfl
  have h64 : (256 : Int) ^ (g.length - j) ≤ 18446744073709551616 := by
    have : ∀ n : Nat, n ≤ 8 → (256 : Int) ^ n ≤ 18446744073709551616 := by
      intro n hn
      have : n = 0 ∨ n = 1 ∨ n = 2 ∨ n = 3 ∨ n = 4 ∨ n = 5 ∨ n = 6 ∨ n = 7 ∨ n = 8 := by omega
      rcases this with rfl | rfl | rfl | rfl | rfl | rfl | rfl | rfl | rfl <;> decide
    exact this _ (by omega)
  rw [IntKind.wrap_u64, IntKind.wrap_u64, IntKind.wrap_u64, e]
  rw [e] at h0
  omega

/-- Where the inner loop of Words stands: j bytes of chunk k are left, the others are in the word. -/
def Back (zs : List Int) (k m : Nat) (x v : Value) : Prop := ∃ j : Nat, ∃ i : Int, j ≤ m ∧ i = 8 * (k : Int) + j - 1 ∧ x = .int .i64 i ∧ v = .int .u64 (Hm.leI ((chunk zs k).drop j))

theorem own_snoc {k : IntKind} {w : World} {B : Nat} {E : TypeId} {v : Value} {n : Nat} {f : Nat → Int}
    (h : w.ownsRow B E 1 v (n + 1) ((Hm.upto f n).map (Value.int k) ++ [Value.int k (f n)])) : w.ownsRow B E 1 v (n + 1) ((Hm.upto f (n + 1)).map (Value.int k)) := by
  rw [Hm.upto_succ, List.map_append]; exact h

theorem one_new (w : World) (v : Value) (t : TypeId) : ∀ j u, [v][j]? = some u → (w.alloc (.cells #[v] t)).cell? ((⟨w.heap.size, 0, none⟩ : Addr).add j) = some u := by
  intro j u hu
  match j with
  | 0 =>
    simp at hu
    subst hu
    simp [Addr.add]
  | j + 1 => simp at hu

set_option maxRecDepth 100000 in
set_option maxHeartbeats 2000000 in
theorem words_some (b off len cap : Nat) (zs : List Int) (w : World) (hb : b < w.heap.size) (hlen : zs.length = len) (hll : len ≤ 1000) (hz : Hm.Byt zs)
    (hc : ∀ j, j < zs.length → w.cell? ⟨b, off + j, none⟩ = some (.int .u8 (zs[j]?.getD 0))) :
    Calls Try.prog 23 #[.slice (some ⟨b, off, none⟩) len cap] w fun e w' => Makes .u64 25 (Hm.words zs) w e w' := by
  obtain ⟨i0, hi, hz0, hz1, hz2⟩ := info_parts Try.infoU64
  have HL := Lib.hid hlen
  have HC := Lib.hid hc
  have HI := Lib.hid hi
  have HZ := Lib.hid hz0
  have HZ1 := Lib.hid hz1
  have HZ2 := Lib.hid hz2
  have HY := Lib.hid hz
  clear hlen hc hi hz0 hz1 hz2 hz
  go_enter Try.func23, Try.ntmps23
  go_wp2
  go_loopw [3, 4] (fun v i wr => ∃ k : Nat, k ≤ (len + 7) / 8 ∧ i = .int .i64 (8 * (k : Int)) ∧ Hid (wr.ownsRow w.heap.size 25 1 v k ((Hm.upto (Hm.wordAt zs) k).map (Value.int .u64))) ∧ Hid (Below w.heap.size w wr)) (fun _ i _ => len + 8 - (intOf i).toNat)
  case atStart => exact ⟨0, Nat.zero_le _, rfl, World.ownsRow_nil _ _ _ _, Below.refl _ _⟩
  case round =>
    obtain ⟨k, hk, rfl, hown, hB⟩ := hrel
    obtain ⟨wo, rfl⟩ : ∃ wo : World, wo = wr := ⟨_, rfl⟩
    by_cases hlt : 8 * k < len
    · obtain ⟨m, hm⟩ : ∃ m, m = (chunk zs k).length := ⟨_, rfl⟩
      have hm2 := chunk_length zs k
      rw [← hm, HL.out] at hm2
      have hm8 : m ≤ 8 := by omega
      have hmp : 0 < m := by omega
      have hml : 8 * k + m ≤ len := by omega
      have hcase : 8 * k + 8 ≤ len ∧ m = 8 ∨ len < 8 * k + 8 ∧ 8 * k + m = len := by omega
      have HM := Lib.hid hm
      clear hm hm2
      have hx : ∀ j, j < m → wo.cell? ⟨b, off + (8 * k + j), none⟩ = some (.int .u8 ((chunk zs k)[j]?.getD 0)) := fun j hj => by
        rw [chunk_at zs k j (by omega)]
        exact (hB.out.cell (p := ⟨b, off + (8 * k + j), none⟩) hb).trans (HC.out (8 * k + j) (by rw [HL.out]; omega))
      have HX := Lib.hid hx
      have hw : ∀ j, j < m → IntKind.u64.wrap (IntKind.u64.wrap (256 * Hm.leI ((chunk zs k).drop (j + 1))) + IntKind.u64.wrap ((chunk zs k)[j]?.getD 0)) = Hm.leI ((chunk zs k).drop j) := fun j hj =>
        leI_drop (chunk_byt HY.out k) (by rw [← HM.out]; exact hm8) j (by rw [← HM.out]; exact hj)
      have HW := Lib.hid hw
      have hfin : Hm.leI ((chunk zs k).drop m) = 0 := by rw [List.drop_of_length_le (by rw [← HM.out]; exact Nat.le_refl _)]; rfl
      have HF := Lib.hid hfin
      clear hx hw hfin
      rcases hcase with ⟨h8, hme⟩ | ⟨h8, hme⟩
      all_goals
        have HE := Lib.hid hme
        clear hme
        go_wp2
        go_loop [5, 6] (fun v x => Back zs k m x v) (fun _ x => (intOf x + 1).toNat)
        case atStart => exact ⟨m, _, Nat.le_refl _, by have := HE.out; omega, rfl, by rw [HF.out]⟩
        case round =>
          obtain ⟨j, i, hj, hi, rfl, hv⟩ := hrel
          cases j with
          | zero =>
            have hi0 : i < 8 * (k : Int) := by omega
            have hv' : _ = Value.int .u64 (Hm.wordAt zs k) := hv
            subst hv'
            clear hi
            go_wp2_with (at_builtin; refine wpList_append_own _ rfl _ _ 40 rfl w.heap.size 25 i0 (.int .u64 0) 1 8 Try.underlying40 HI.out HZ.out HZ1.out HZ2.out rfl (by decide) _ k _ rfl (hown.out.alloc _) ⟨wo.heap.size, 0, none⟩ 1 1 [.int .u64 (Hm.wordAt zs k)] rfl rfl (one_new _ _ _) (by simp [Value.oneCell']) (by unfold maxLen; omega) (by omega) (by have := hB.out.size; simp; omega) ?_; intro v' w1 hown' hgrow _; have HO := Lib.hid hown'; have HG := Lib.hid hgrow; clear hown' hgrow)
            go_roundw
            case rel => exact ⟨k + 1, by omega, by go_num, own_snoc HO.out, (hB.out.alloc hB.out.size _).grown HG.out (by have := hB.out.size; simp; omega) (fun j hj => (hown.out.lt j hj).1)⟩
            case measure => simp [intOf]; omega
          | succ j =>
            obtain rfl : i = 8 * (k : Int) + j := by omega
            subst hv
            have hcx := HX.out j (by omega)
            have hwx := Lib.hid (HW.out j (by omega))
            clear hi
            generalize (chunk zs k)[j]?.getD 0 = z at *
            generalize hy : Hm.leI ((chunk zs k).drop (j + 1)) = y at *
            have HYY := Lib.hid hy
            clear hy
            go_wp2
            go_round
            case rel => exact ⟨j, _, by omega, rfl, rfl, by rw [hwx.out]⟩
            case measure => simp [intOf]; omega
    · have hge : len ≤ 8 * k := by omega
      have hke : k = (len + 7) / 8 := by omega
      have HK := Lib.hid hke
      clear hke
      go_wp2
      go_ret
      refine makes_of (k := .u64) (zs := Hm.words zs) ?_ hB.out
      unfold Own
      rw [Hm.words_length, Hm.words, HL.out, ← HK.out]
      exact hown.out

set_option maxHeartbeats 1000000 in
theorem words_zero (a : Option Addr) (cap : Nat) (w : World) :
    Calls Try.prog 23 #[.slice a 0 cap] w fun e w' => Makes .u64 25 (Hm.words []) w e w' := by
  go_enter Try.func23, Try.ntmps23
  go_wp2
  go_loop [3, 4] (fun v i => i = .int .i64 0 ∧ v = .slice none 0 0) (fun _ _ => 0)
  case atStart => exact ⟨rfl, rfl⟩
  case round =>
    obtain ⟨rfl, rfl⟩ := hrel
    go_wp2
    go_ret
    exact makes_of (World.ownsRow_nil _ _ _ _) (Below.refl _ _)

theorem words_any (sv : Value) (zs : List Int) (w : World) (hll : zs.length ≤ 1000) (hz : Hm.Byt zs) (h : Els .u8 w sv zs) :
    Calls Try.prog 23 #[sv] w fun e w' => Makes .u64 25 (Hm.words zs) w e w' := by
  rcases h with ⟨he, rfl⟩ | ⟨b, off, cap, hb, rfl, hl, hc⟩
  · obtain ⟨a, cap, rfl⟩ := he.shape
    exact words_zero a cap w
  · exact words_some b off zs.length cap zs w hb rfl hll hz hc

theorem Els.shape {k : IntKind} {w : World} {sv : Value} {zs : List Int} (h : Els k w sv zs) : ∃ a cap, sv = .slice a zs.length cap := by
  rcases h with ⟨he, rfl⟩ | ⟨b, off, cap, hb, rfl, hl, hc⟩
  · exact he.shape
  · exact ⟨_, _, rfl⟩
theorem Els.at {k : IntKind} {w : World} {a : Option Addr} {n cap : Nat} {zs : List Int} (h : Els k w (.slice a n cap) zs) (j : Nat) (hj : j < n) :
    ∃ b off, a = some ⟨b, off, none⟩ ∧ w.cell? ⟨b, off + j, none⟩ = some (.int k (zs[j]?.getD 0)) := by
  rcases h with ⟨he, rfl⟩ | ⟨b, off, cap, hb, he, hl, hc⟩
  · obtain ⟨a, cap, he⟩ := he.shape
    cases he
    omega
  · cases he
    exact ⟨b, off, rfl, hc j hj⟩
theorem Els.len {k : IntKind} {w : World} {a : Option Addr} {n cap : Nat} {zs : List Int} (h : Els k w (.slice a n cap) zs) : n = zs.length := by
  obtain ⟨a, c, he⟩ := h.shape
  cases he
  rfl

end Go.Proofs.Ytccinfjaggalcaa
