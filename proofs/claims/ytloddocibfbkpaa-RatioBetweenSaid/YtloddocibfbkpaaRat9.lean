/- Contracts of package ratio: simplest. -/
import Derived.Test.YtloddocibfbkpaaRat8
import Derived.Test.YtloddocibfbkpaaSimp
namespace Go.Proofs.Ytloddocibfbkpaa
open Go.RowKit Go.Shelf

/-- The simplest fraction comes back. -/
def SimpOut (a b c d : Int) (w : World) (e : Ending) (w' : World) : Prop := ∃ p q, Qm.Simp a b c d p q ∧ e = .returned (.tuple #[.int .i64 p, .int .i64 q]) ∧ Below w.heap.size w w'

set_option maxHeartbeats 1000000 in
set_option maxRecDepth 100000 in
theorem simplest_int (a b c d k : Int) (w : World) (hk : a / b = k) (ha : 0 ≤ a) (ha2 : a ≤ 1099511627776) (hb : 1 ≤ b) (hk0 : 0 ≤ k) (hk1 : k ≤ 1099511627776) (h1 : 0 ≤ (k + 1) * d) (h2 : (k + 1) * d ≤ 4611686018427387904) (hlt : (k + 1) * d < c) :
    Calls Try.prog 44 #[rv a b, rv c d] w fun e w' => e = .returned (.tuple #[.int .i64 (k + 1), .int .i64 1]) ∧ Below w.heap.size w w' := by
  have HB0 := Lib.hid (((Below.refl w.heap.size w).alloc (Nat.le_refl _) (Obj.cells #[.int .i64 a, .int .i64 b] 26)).alloc (by simp) (Obj.cells #[.int .i64 c, .int .i64 d] 26))
  unfold rv
  go_enter Try.func44, Try.ntmps44
  go_wp2
  go_ret2
  exact ⟨rfl, HB0.out⟩

set_option maxHeartbeats 1000000 in
set_option maxRecDepth 100000 in
theorem simplest_frac (a b c d k e f p q : Int) (w : World) (hk : a / b = k) (ha : 0 ≤ a) (ha2 : a ≤ 1099511627776) (hb : 1 ≤ b) (hk0 : 0 ≤ k) (hk1 : k ≤ 1099511627776) (h1 : 0 ≤ (k + 1) * d) (h2 : (k + 1) * d ≤ 4611686018427387904) (hge : c ≤ (k + 1) * d)
    (h3 : 0 ≤ k * d) (h4 : k * d ≤ 4611686018427387904) (h5 : 0 ≤ k * b) (h6 : k * b ≤ 4611686018427387904) (he : c - k * d = e) (hf : a - k * b = f) (he1 : 0 ≤ e) (he2 : e ≤ 1099511627776) (hf1 : 0 ≤ f) (hf2 : f ≤ 1099511627776)
    (hp : 0 ≤ k * p) (hp2 : k * p ≤ 4611686018427387904) (hq : 0 ≤ k * p + q) (hq2 : k * p + q ≤ 4611686018427387904)
    (K1 : Hid (∀ w, Calls Try.prog 44 #[rv d e, rv b f] w fun e w' => e = .returned (.tuple #[.int .i64 p, .int .i64 q]) ∧ Below w.heap.size w w')) :
    Calls Try.prog 44 #[rv a b, rv c d] w fun e w' => e = .returned (.tuple #[.int .i64 (k * p + q), .int .i64 p]) ∧ Below w.heap.size w w' := by
  have HB0 := Lib.hid (((Below.refl w.heap.size w).alloc (Nat.le_refl _) (Obj.cells #[.int .i64 a, .int .i64 b] 26)).alloc (by simp) (Obj.cells #[.int .i64 c, .int .i64 d] 26))
  unfold rv at *
  go_enter Try.func44, Try.ntmps44
  go_wp2_with fail
  refine (K1.out _).mono ?_
  rintro e w1 ⟨rfl, hB⟩
  have B1 := Lib.hid hB
  have HB1 := Lib.hid (HB0.out.trans (hB.mono HB0.out.size))
  clear hB
  go_wp2
  go_ret2
  exact ⟨rfl, HB1.out⟩

theorem mul_le_big {x y : Int} (h1 : 0 ≤ x) (h2 : x ≤ 1099511627777) (h3 : 0 ≤ y) (h4 : y ≤ 1048576) : 0 ≤ x * y ∧ x * y ≤ 4611686018427387904 := by
  refine ⟨Int.mul_nonneg h1 h3, ?_⟩
  have a1 : x * y ≤ x * 1048576 := Int.mul_le_mul_of_nonneg_left h4 h1
  omega

theorem simplest_any : ∀ (n : Nat) (a b c d : Int) (w : World), (b + d).toNat ≤ n → 0 ≤ a → a ≤ 1099511627776 → 1 ≤ b → b ≤ 1048576 → 0 ≤ c → c ≤ 1099511627776 → 0 ≤ d → d ≤ 1048576 → a * d < c * b →
    Calls Try.prog 44 #[rv a b, rv c d] w (SimpOut a b c d w) := by
  intro n
  induction n with
  | zero => intro a b c d w h; omega
  | succ n ih =>
    intro a b c d w hn ha ha2 hb hb2 hc hc2 hd hd2 hlt
    have k0 : 0 ≤ a / b := Int.ediv_nonneg ha (by omega)
    have k1 : a / b ≤ a := Int.ediv_le_self _ ha
    have m1 := mul_le_big (x := a / b + 1) (y := d) (by omega) (by omega) hd hd2
    by_cases h : (a / b + 1) * d < c
    · exact (simplest_int a b c d (a / b) w rfl ha ha2 hb k0 (by omega) m1.1 m1.2 h).mono fun e w' ⟨he, hw⟩ => ⟨_, _, Qm.simp_int ha hb hd h, he, hw⟩
    · obtain ⟨h1, _, _, h4, h5, h6, h7, h8⟩ := Qm.simp_step ha hb hd hlt h
      obtain ⟨p, q, hs⟩ := Qm.simp_exists _ d (c - a / b * d) b (a - a / b * b) (Nat.le_refl _) hd h6 h4 h8
      have K1 : Hid (∀ w, Calls Try.prog 44 #[rv d (c - a / b * d), rv b (a - a / b * b)] w fun e w' => e = .returned (.tuple #[.int .i64 p, .int .i64 q]) ∧ Below w.heap.size w w') := Lib.hid fun w => by
        refine (ih d (c - a / b * d) b (a - a / b * b) w (by omega) hd (by omega) h6 (by omega) (by omega) (by omega) h4 (by omega) h8).mono ?_
        rintro e w' ⟨p', q', hs', he, hw⟩
        rw [(hs.one hs').1, (hs.one hs').2]
        exact ⟨he, hw⟩
      have hS := Qm.simp_frac ha hb h1 hlt hs
      have hle := hS.le hb h1 hlt
      have hq1 := hs.1
      have hp1 := hS.1
      have m2 := mul_le_big (x := a / b) (y := d) (by omega) (by omega) hd hd2
      have m3 := mul_le_big (x := a / b) (y := b) (by omega) (by omega) (by omega) hb2
      have m4 : 0 ≤ a / b * p := Int.mul_nonneg k0 (by omega)
      exact (simplest_frac a b c d (a / b) (c - a / b * d) (a - a / b * b) p q w rfl ha ha2 hb k0 (by omega) m1.1 m1.2 (by omega) m2.1 m2.2 m3.1 m3.2 rfl rfl (by omega) (by omega) h4 (by omega) m4 (by omega) (by omega) (by omega) K1).mono fun e w' ⟨he, hw⟩ => ⟨_, _, hS, he, hw⟩

end Go.Proofs.Ytloddocibfbkpaa
