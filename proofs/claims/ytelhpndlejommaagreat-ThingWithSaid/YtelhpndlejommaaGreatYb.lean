/- Contracts of package thing and its reference: Size, Deep. -/
import Derived.Test.YtelhpndlejommaaGreatYa
import Derived.Test.YtelhpndlejommaaGreatBoxl
namespace Go.Proofs.YtelhpndlejommaaGreat
open Go.RowKit Go.Shelf

/-- A thing behind a new block. -/
theorem TAt.under {w : World} {t : Th} {a b c : Value} (h : TAt w.heap.size w t a b c) (o : Obj) : TAt (w.alloc o).heap.size (w.alloc o) t a b c := TAt.below ((Below.refl _ _).alloc (Nat.le_refl _) o) h

set_option maxHeartbeats 4000000 in
set_option maxRecDepth 100000 in
theorem tsize_any : ∀ (m : Nat) (t : Th), t.size ≤ m → m ≤ 1000000 → ∀ (a b c : Value) (w : World), TAt w.heap.size w t a b c →
    Calls Tryz.prog 11 #[.agg #[a, b, c]] w fun e w' => e = .returned (.int .i64 (t.size : Int)) ∧ Below w.heap.size w w' := by
  intro m
  induction m with
  | zero => intro t h; have := t.size_pos; omega
  | succ m ih =>
    intro t ht hm a b c w h
    obtain ⟨a1, c1, a2, c2, a3, c3, rfl, rfl, rfl, -, -, hP, -, -⟩ := h.shape
    have HB0 := Lib.hid ((Below.refl w.heap.size w).alloc (Nat.le_refl _) (.cells #[.slice a1 t.cs.length c1, .slice a2 t.vs.length c2, .slice a3 t.ps.length c3] 27))
    have KS := Lib.hid fun (u : Th) (hu : u.size ≤ m) (x y z : Value) W (hh : TAt W.heap.size W u x y z) => ih u hu (by omega) x y z W hh
    have hse := t.size_eq
    have HP := Lib.hid hP
    generalize t.ps = ps at *
    generalize t.size = ts at *
    generalize t.cs.length = n1 at *
    generalize t.vs.length = n2 at *
    have hsm : Th.sizes ps ≤ m := by omega
    have HSM := Lib.hid hsm
    have HSE := Lib.hid hse
    generalize hn : ps.length = n at *
    have HN := Lib.hid hn
    have hn6 : n ≤ 1000000 := by have := Th.sizes_len ps; omega
    clear h hP ih hn hse hsm
    go_enter Tryz.func11, Tryz.ntmps11
    go_wp2
    go_loopw [3, 9] (fun s x wr => ∃ k S : Nat, k ≤ n ∧ x = .int .i64 k ∧ s = .int .i64 (S : Int) ∧ Hid (S = 1 + Th.sizes (ps.take k)) ∧ Hid (Below w.heap.size w wr)) (fun _ x _ => n - (intOf x).toNat)
    case atStart => exact ⟨0, 1, by omega, rfl, rfl, Lib.hid (by simp [Th.sizes]), HB0⟩
    case round =>
      obtain ⟨k, S, hk, rfl, rfl, hS, hB⟩ := hrel
      by_cases hlt : k < n
      · have i1 : (k : Int) < n := by omega
        obtain ⟨g, u, rfl, hgB, hgs, hcap, hu, x, y, z, q0, q1, q2, hT⟩ := (HP.out.low hB.out).get hlt
        obtain ⟨xa, xc, ya, yc, za, zc, rfl, rfl, rfl, -⟩ := hT.shape
        have hsn := Th.sizes_snoc hu
        have hum := Th.sizes_mem (List.mem_of_getElem? hu)
        have hT0 := TAt.mono hB.out.size u hT
        have hus : u.size ≤ m := by have := HSM.out; omega
        have hS1 := hS.out
        have hst := Th.sizes_take ps k
        have kS := fun o => KS.out u hus _ _ _ (wr.alloc o) (hT0.under o)
        have HSN : Hid (S + u.size = 1 + Th.sizes (ps.take (k + 1))) := Lib.hid (by omega)
        have i2 : IntKind.i64.wrap ((S : Int) + (u.size : Int)) = (S : Int) + (u.size : Int) := IntWalk.i64_in _ (by have := HSM.out; omega)
        generalize u.size = us at *
        generalize u.cs.length = m1 at *
        generalize u.vs.length = m2 at *
        generalize u.ps.length = m3 at *
        have K := Lib.hid kS
        clear hT hT0 hS1 hst kS hum hsn hu hS
        go_wp2_with fail
        refine (K.out _).mono ?_
        rintro e w2 ⟨rfl, hr⟩
        have HB2 := Lib.hid (hB.out.trans ((below_new hr).mono hB.out.size))
        clear hr
        go_wp2
        go_roundw
        case rel => exact ⟨k + 1, S + us, by omega, by go_num, by go_num, HSN, HB2⟩
        case measure => simp [intOf]; omega
      · have hkn : k = n := by omega
        subst hkn
        have i1 : ¬ (k : Int) < k := by omega
        have hE : S = ts := by rw [hS.out, HSE.out, List.take_of_length_le (by rw [HN.out]; omega)]
        have HE := Lib.hid hE
        clear hE hS
        go_wp2
        go_ret
        exact ⟨ret_int (by rw [HE.out]), hB.out⟩

set_option maxHeartbeats 4000000 in
set_option maxRecDepth 100000 in
theorem tdeep_any : ∀ (m : Nat) (t : Th), t.size ≤ m → m ≤ 1000000 → ∀ (a b c : Value) (w : World), TAt w.heap.size w t a b c →
    Calls Tryz.prog 26 #[.agg #[a, b, c]] w fun e w' => e = .returned (.int .i64 (t.deep : Int)) ∧ Below w.heap.size w w' := by
  intro m
  induction m with
  | zero => intro t h; have := t.size_pos; omega
  | succ m ih =>
    intro t ht hm a b c w h
    obtain ⟨a1, c1, a2, c2, a3, c3, rfl, rfl, rfl, -, -, hP, -, -⟩ := h.shape
    have HB0 := Lib.hid ((Below.refl w.heap.size w).alloc (Nat.le_refl _) (.cells #[.slice a1 t.cs.length c1, .slice a2 t.vs.length c2, .slice a3 t.ps.length c3] 27))
    have KS := Lib.hid fun (u : Th) (hu : u.size ≤ m) (x y z : Value) W (hh : TAt W.heap.size W u x y z) => ih u hu (by omega) x y z W hh
    have hse := t.size_eq
    have hde := t.deep_eq
    have HP := Lib.hid hP
    generalize t.ps = ps at *
    generalize t.size = ts at *
    generalize t.deep = td at *
    generalize t.cs.length = n1 at *
    generalize t.vs.length = n2 at *
    have hsm : Th.sizes ps ≤ m := by omega
    have HSM := Lib.hid hsm
    have HDE := Lib.hid hde
    generalize hn : ps.length = n at *
    have HN := Lib.hid hn
    have hn6 : n ≤ 1000000 := by have := Th.sizes_len ps; omega
    clear h hP ih hn hse hsm hde
    go_enter Tryz.func26, Tryz.ntmps26
    go_wp2
    go_loopw [3, 9] (fun s x wr => ∃ k S : Nat, k ≤ n ∧ x = .int .i64 k ∧ s = .int .i64 (S : Int) ∧ S ≤ 1000000 ∧ Hid (S = Th.deeps (ps.take k)) ∧ Hid (Below w.heap.size w wr)) (fun _ x _ => n - (intOf x).toNat)
    case atStart => exact ⟨0, 0, by omega, rfl, rfl, by omega, Lib.hid (by simp [Th.deeps]), HB0⟩
    case round =>
      obtain ⟨k, S, hk, rfl, rfl, hS6, hS, hB⟩ := hrel
      by_cases hlt : k < n
      · have i1 : (k : Int) < n := by omega
        obtain ⟨g, u, rfl, hgB, hgs, hcap, hu, x, y, z, q0, q1, q2, hT⟩ := (HP.out.low hB.out).get hlt
        obtain ⟨xa, xc, ya, yc, za, zc, rfl, rfl, rfl, -⟩ := hT.shape
        have hsn := Th.deeps_snoc hu
        have hum := Th.sizes_mem (List.mem_of_getElem? hu)
        have hud := u.deep_size
        have hT0 := TAt.mono hB.out.size u hT
        have hus : u.size ≤ m := by have := HSM.out; omega
        have hS1 := hS.out
        have kS := fun o => KS.out u hus _ _ _ (wr.alloc o) (hT0.under o)
        have HSN : Hid (max S u.deep = Th.deeps (ps.take (k + 1))) := Lib.hid (by rw [hsn, hS1])
        have hu6 : u.deep ≤ 1000000 := by have := HSM.out; omega
        generalize u.deep = us at *
        generalize u.cs.length = m1 at *
        generalize u.vs.length = m2 at *
        generalize u.ps.length = m3 at *
        have K := Lib.hid kS
        clear hT hT0 hS1 kS hum hsn hu hS hud hus
        go_wp2_with fail
        refine (K.out _).mono ?_
        rintro e w2 ⟨rfl, hr⟩
        have HB2 := Lib.hid (hB.out.trans ((below_new hr).mono hB.out.size))
        clear hr
        by_cases hc : S ≤ us
        · have c1 : (S : Int) ≤ us := by omega
          have HSN2 : Hid (us = Th.deeps (ps.take (k + 1))) := Lib.hid (by rw [← HSN.out]; omega)
          clear HSN
          go_wp2
          go_roundw
          case rel => exact ⟨k + 1, us, by omega, by go_num, by go_num, hu6, HSN2, HB2⟩
          case measure => simp [intOf]; omega
        · have c1 : ¬ (S : Int) ≤ us := by omega
          have c2 : (us : Int) < S := by omega
          have HSN2 : Hid (S = Th.deeps (ps.take (k + 1))) := Lib.hid (by rw [← HSN.out]; omega)
          clear HSN
          go_wp2
          go_roundw
          case rel => exact ⟨k + 1, S, by omega, by go_num, by go_num, hS6, HSN2, HB2⟩
          case measure => simp [intOf]; omega
      · have hkn : k = n := by omega
        subst hkn
        have i1 : ¬ (k : Int) < k := by omega
        have hE : S + 1 = td := by rw [hS.out, HDE.out, List.take_of_length_le (by rw [HN.out]; omega)]
        have HE := Lib.hid hE
        have i2 : IntKind.i64.wrap ((S : Int) + 1) = (S : Int) + 1 := IntWalk.i64_in _ (by omega)
        clear hE hS
        go_wp2
        go_ret
        exact ⟨ret_int (by have := HE.out; omega), hB.out⟩

set_option maxHeartbeats 4000000 in
set_option maxRecDepth 100000 in
theorem rsize_any : ∀ (m : Nat) (t : Th), t.size ≤ m → m ≤ 1000000 → ∀ (a b c : Value) (w : World), TAt w.heap.size w t a b c →
    Calls Tryz.prog 12 #[.agg #[a, b, c]] w fun e w' => e = .returned (.int .i64 (t.size : Int)) ∧ Below w.heap.size w w' := by
  intro m
  induction m with
  | zero => intro t h; have := t.size_pos; omega
  | succ m ih =>
    intro t ht hm a b c w h
    obtain ⟨a1, c1, a2, c2, a3, c3, rfl, rfl, rfl, -, -, hP, -, -⟩ := h.shape
    have HB0 := Lib.hid ((Below.refl w.heap.size w).alloc (Nat.le_refl _) (.cells #[.slice a1 t.cs.length c1, .slice a2 t.vs.length c2, .slice a3 t.ps.length c3] 27))
    have XA := Lib.hid (BoxL.made w #[.slice a1 t.cs.length c1, .slice a2 t.vs.length c2, .slice a3 t.ps.length c3] 27)
    have KS := Lib.hid fun (u : Th) (hu : u.size ≤ m) (x y z : Value) W (hh : TAt W.heap.size W u x y z) => ih u hu (by omega) x y z W hh
    have hse := t.size_eq
    have HP := Lib.hid hP
    generalize t.ps = ps at *
    generalize t.size = ts at *
    generalize t.cs.length = n1 at *
    generalize t.vs.length = n2 at *
    have hsm : Th.sizes ps ≤ m := by omega
    have HSM := Lib.hid hsm
    have HSE := Lib.hid hse
    generalize hn : ps.length = n at *
    have HN := Lib.hid hn
    have hn6 : n ≤ 1000000 := by have := Th.sizes_len ps; omega
    clear h hP ih hn hse hsm
    go_enter Tryz.func12, Tryz.ntmps12
    go_wp2
    go_loopw [3, 4] (fun s x wr => ∃ k S : Nat, k ≤ n ∧ x = .int .i64 k ∧ s = .int .i64 (S : Int) ∧ Hid (S = 1 + Th.sizes (ps.take k)) ∧ Hid (BoxL w.heap.size [.slice a1 n1 c1, .slice a2 n2 c2, .slice a3 n c3] wr) ∧ Hid (Below w.heap.size w wr)) (fun _ x _ => n - (intOf x).toNat)
    case atStart => exact ⟨0, 1, by omega, rfl, rfl, Lib.hid (by simp [Th.sizes]), XA, HB0⟩
    case round =>
      obtain ⟨k, S, hk, rfl, rfl, hS, hX, hB⟩ := hrel
      clear XA
      obtain ⟨r0, r1, r2, -, -, -, r3⟩ := hX.out.open3
      by_cases hlt : k < n
      · have i1 : (k : Int) < n := by omega
        obtain ⟨g, u, rfl, hgB, hgs, hcap, hu, x, y, z, q0, q1, q2, hT⟩ := (HP.out.low hB.out).get hlt
        obtain ⟨xa, xc, ya, yc, za, zc, rfl, rfl, rfl, -⟩ := hT.shape
        have hsn := Th.sizes_snoc hu
        have hum := Th.sizes_mem (List.mem_of_getElem? hu)
        have hT0 := TAt.mono hB.out.size u hT
        have hus : u.size ≤ m := by have := HSM.out; omega
        have hS1 := hS.out
        have hst := Th.sizes_take ps k
        have kS := KS.out u hus _ _ _ wr hT0
        have HSN : Hid (S + u.size = 1 + Th.sizes (ps.take (k + 1))) := Lib.hid (by omega)
        have i2 : IntKind.i64.wrap ((S : Int) + (u.size : Int)) = (S : Int) + (u.size : Int) := IntWalk.i64_in _ (by have := HSM.out; omega)
        have i3 : IntKind.i64.wrap ((k : Int) + 1) = (k : Int) + 1 := IntWalk.i64_in _ (by have := HSM.out; have := Th.sizes_len ps; have := HN.out; omega)
        generalize u.size = us at *
        generalize u.cs.length = m1 at *
        generalize u.vs.length = m2 at *
        generalize u.ps.length = m3 at *
        have K := Lib.hid kS
        clear hT hT0 hS1 hst kS hum hsn hu hS
        go_wp2_with fail
        refine (K.out).mono ?_
        rintro e w2 ⟨rfl, hr⟩
        have HB2 := Lib.hid (hB.out.trans (hr.mono hB.out.size))
        have HX2 := Lib.hid (hX.out.keep hr)
        clear hr hX r0 r1 r2 r3
        go_wp2
        go_roundw
        case rel => exact ⟨k + 1, S + us, by omega, by go_num, by go_num, HSN, HX2, HB2⟩
        case measure => simp [intOf]; omega
      · have hkn : k = n := by omega
        subst hkn
        have i1 : ¬ (k : Int) < k := by omega
        have hE : S = ts := by rw [hS.out, HSE.out, List.take_of_length_le (by rw [HN.out]; omega)]
        have HE := Lib.hid hE
        clear hE hS
        go_wp2
        go_ret
        exact ⟨ret_int (by rw [HE.out]), hB.out⟩

set_option maxHeartbeats 4000000 in
set_option maxRecDepth 100000 in
theorem rdeep_any : ∀ (m : Nat) (t : Th), t.size ≤ m → m ≤ 1000000 → ∀ (a b c : Value) (w : World), TAt w.heap.size w t a b c →
    Calls Tryz.prog 43 #[.agg #[a, b, c]] w fun e w' => e = .returned (.int .i64 (t.deep : Int)) ∧ Below w.heap.size w w' := by
  intro m
  induction m with
  | zero => intro t h; have := t.size_pos; omega
  | succ m ih =>
    intro t ht hm a b c w h
    obtain ⟨a1, c1, a2, c2, a3, c3, rfl, rfl, rfl, -, -, hP, -, -⟩ := h.shape
    have HB0 := Lib.hid ((Below.refl w.heap.size w).alloc (Nat.le_refl _) (.cells #[.slice a1 t.cs.length c1, .slice a2 t.vs.length c2, .slice a3 t.ps.length c3] 27))
    have XA := Lib.hid (BoxL.made w #[.slice a1 t.cs.length c1, .slice a2 t.vs.length c2, .slice a3 t.ps.length c3] 27)
    have KS := Lib.hid fun (u : Th) (hu : u.size ≤ m) (x y z : Value) W (hh : TAt W.heap.size W u x y z) => ih u hu (by omega) x y z W hh
    have hse := t.size_eq
    have hde := t.deep_eq
    have HP := Lib.hid hP
    generalize t.ps = ps at *
    generalize t.size = ts at *
    generalize t.deep = td at *
    generalize t.cs.length = n1 at *
    generalize t.vs.length = n2 at *
    have hsm : Th.sizes ps ≤ m := by omega
    have HSM := Lib.hid hsm
    have HDE := Lib.hid hde
    generalize hn : ps.length = n at *
    have HN := Lib.hid hn
    have hn6 : n ≤ 1000000 := by have := Th.sizes_len ps; omega
    clear h hP ih hn hse hsm hde
    go_enter Tryz.func43, Tryz.ntmps43
    go_wp2
    go_loopw [3, 4] (fun s x wr => ∃ k S : Nat, k ≤ n ∧ x = .int .i64 k ∧ s = .int .i64 (S : Int) ∧ S ≤ 1000000 ∧ Hid (S = Th.deeps (ps.take k)) ∧ Hid (BoxL w.heap.size [.slice a1 n1 c1, .slice a2 n2 c2, .slice a3 n c3] wr) ∧ Hid (Below w.heap.size w wr)) (fun _ x _ => n - (intOf x).toNat)
    case atStart => exact ⟨0, 0, by omega, rfl, rfl, by omega, Lib.hid (by simp [Th.deeps]), XA, HB0⟩
    case round =>
      obtain ⟨k, S, hk, rfl, rfl, hS6, hS, hX, hB⟩ := hrel
      clear XA
      obtain ⟨r0, r1, r2, -, -, -, r3⟩ := hX.out.open3
      by_cases hlt : k < n
      · have i1 : (k : Int) < n := by omega
        obtain ⟨g, u, rfl, hgB, hgs, hcap, hu, x, y, z, q0, q1, q2, hT⟩ := (HP.out.low hB.out).get hlt
        obtain ⟨xa, xc, ya, yc, za, zc, rfl, rfl, rfl, -⟩ := hT.shape
        have hsn := Th.deeps_snoc hu
        have hum := Th.sizes_mem (List.mem_of_getElem? hu)
        have hud := u.deep_size
        have hT0 := TAt.mono hB.out.size u hT
        have hus : u.size ≤ m := by have := HSM.out; omega
        have hS1 := hS.out
        have kS := KS.out u hus _ _ _ wr hT0
        have HSN : Hid (max S u.deep = Th.deeps (ps.take (k + 1))) := Lib.hid (by rw [hsn, hS1])
        have hu6 : u.deep ≤ 1000000 := by have := HSM.out; omega
        have i3 : IntKind.i64.wrap ((k : Int) + 1) = (k : Int) + 1 := IntWalk.i64_in _ (by have := HSM.out; have := Th.sizes_len ps; have := HN.out; omega)
        generalize u.deep = us at *
        generalize u.cs.length = m1 at *
        generalize u.vs.length = m2 at *
        generalize u.ps.length = m3 at *
        have K := Lib.hid kS
        clear hT hT0 hS1 kS hum hsn hu hS hud hus
        go_wp2_with fail
        refine (K.out).mono ?_
        rintro e w2 ⟨rfl, hr⟩
        have HB2 := Lib.hid (hB.out.trans (hr.mono hB.out.size))
        have HX2 := Lib.hid (hX.out.keep hr)
        clear hr hX r0 r1 r2 r3
        by_cases hc : S ≤ us
        · have c1 : (S : Int) ≤ us := by omega
          have HSN2 : Hid (us = Th.deeps (ps.take (k + 1))) := Lib.hid (by rw [← HSN.out]; omega)
          clear HSN
          go_wp2
          go_roundw
          case rel => exact ⟨k + 1, us, by omega, by go_num, by go_num, hu6, HSN2, HX2, HB2⟩
          case measure => simp [intOf]; omega
        · have c1 : ¬ (S : Int) ≤ us := by omega
          have c2 : (us : Int) < S := by omega
          have HSN2 : Hid (S = Th.deeps (ps.take (k + 1))) := Lib.hid (by rw [← HSN.out]; omega)
          clear HSN
          go_wp2
          go_roundw
          case rel => exact ⟨k + 1, S, by omega, by go_num, by go_num, hS6, HSN2, HX2, HB2⟩
          case measure => simp [intOf]; omega
      · have hkn : k = n := by omega
        subst hkn
        have i1 : ¬ (k : Int) < k := by omega
        have hE : S + 1 = td := by rw [hS.out, HDE.out, List.take_of_length_le (by rw [HN.out]; omega)]
        have HE := Lib.hid hE
        have i2 : IntKind.i64.wrap ((S : Int) + 1) = (S : Int) + 1 := IntWalk.i64_in _ (by omega)
        clear hE hS
        go_wp2
        go_ret
        exact ⟨ret_int (by have := HE.out; omega), hB.out⟩

end Go.Proofs.YtelhpndlejommaaGreat
