/- Encode of package taxon and of the reference. -/
import Derived.Test.YtidnllddhhllcaaTu
import Derived.Test.YtidnllddhhllcaaRef02i
namespace Go.Proofs.Ytidnllddhhllcaa
open Go.RowKit Go.Shelf

/-- Rows that can be encoded. -/
def RowsFit (P : List (List Int)) : Prop := P.length ≤ 100 ∧ ∀ l ∈ P, l.length ≤ 1000 ∧ Nums l

theorem encRow_len {l : List Int} (h : l.length ≤ 1000) (hw : Nums l) : (encRow l).length ≤ 10010 := by
  unfold encRow
  have h1 := Hm.uv_len (n := l.length) (by omega)
  have h2 := encs_len l hw
  rw [List.length_append]
  omega

theorem rows_len (P : List (List Int)) (h : ∀ l ∈ P, l.length ≤ 1000 ∧ Nums l) : (P.map encRow).flatten.length ≤ P.length * 10010 := by
  induction P with
  | nil => simp
  | cons c P ih =>
    have h1 := h c (List.mem_cons_self ..)
    have h2 := encRow_len h1.1 h1.2
    have h3 := ih fun l hl => h l (List.mem_cons_of_mem _ hl)
    rw [List.map_cons, List.flatten_cons, List.length_append, List.length_cons, Nat.add_mul]
    omega

theorem rows_snoc {P : List (List Int)} {k : Nat} (hk : k < P.length) : ((P.take (k + 1)).map encRow).flatten = ((P.take k).map encRow).flatten ++ encRow (Tx.row P k) := by
  have e : P.take (k + 1) = P.take k ++ [Tx.row P k] := by
    rw [List.take_add_one, List.getElem?_eq_getElem hk]
    unfold Tx.row
    rw [List.getElem?_eq_getElem hk]
    rfl
  rw [e, List.map_append, List.flatten_append]
  simp

theorem rowsFit_row {P : List (List Int)} (h : RowsFit P) (k : Nat) : (Tx.row P k).length ≤ 1000 ∧ Nums (Tx.row P k) := by
  unfold Tx.row
  cases hc : P[k]? with
  | none => exact ⟨by simp, nums_nil⟩
  | some l => exact h.2 l (List.mem_of_getElem? hc)

theorem rows_take_len {P : List (List Int)} (h : RowsFit P) (k : Nat) : ((P.take k).map encRow).flatten.length ≤ 1001000 := by
  have h1 := rows_len (P.take k) fun l hl => h.2 l (List.mem_of_mem_take hl)
  have h2 : (P.take k).length ≤ 100 := by rw [List.length_take]; have := h.1; omega
  have := Nat.mul_le_mul_right 10010 h2
  omega

set_option maxHeartbeats 4000000 in
set_option maxRecDepth 100000 in
theorem tencode_any (N : Nat) (P : List (List Int)) (w : World) (h : TxAt N P w) (hf : RowsFit P) :
    Calls Try.prog 29 #[.pointer (some ⟨N, 0, none⟩)] w (Makes .u8 5 (encP P) w) := by
  obtain ⟨hg, pa, pc, A, ac, h0, h1, hA, hL, hR⟩ := h
  have hz : (Hm.uv (Hm.zig (P.length : Int))).length ≤ 10 := Hm.uv_len (Hm.zig_lt (by have := hf.1; omega))
  have k1 := fun (W : World) (T : TypeId) => wint_any w.heap.size (w.heap.size + 1) (P.length : Int) [] (w.alloc (.cells #[.slice none 0 0] T)) (by have := hf.1; omega) (by simp) (Wr.new w T)
  have k2 := fun (W : World) (a : Option Addr) (n c : Nat) (ys zs : List Int) (hzs : zs.length ≤ 2000000) (hs : ys.length ≤ 1000) (hw : Nums ys) (hE : Els .i64 W (.slice a n c) ys) (hW : Wr w.heap.size (w.heap.size + 1) W zs) (hlow : LowEls w.heap.size (.slice a n c)) => wints_any w.heap.size (w.heap.size + 1) a n c ys zs W (by omega) (by omega) hw hE hW hlow
  have k3 := fun (W : World) (zs : List Int) (hzs : zs.length ≤ 2000000) (hW : Wr w.heap.size (w.heap.size + 1) W zs) => wdone_any w.heap.size (w.heap.size + 1) zs W (by omega) hW
  have hrow := fun k => rowsFit_row hf k
  have hsn := fun k (hk : k < P.length) => rows_snoc (P := P) hk
  have htl := fun k => rows_take_len hf k
  have hfin : ∀ k, P.length ≤ k → Hm.uv (Hm.zig (P.length : Int)) ++ ((P.take k).map encRow).flatten = encP P := fun k hk => by rw [List.take_of_length_le hk]; rfl
  have hst : ((P.take 0).map encRow).flatten = [] := by simp
  generalize encP P = EP at *
  generalize hu : Hm.uv (Hm.zig (P.length : Int)) = U at *
  rw [List.nil_append] at k1
  have HL := Lib.hid hL
  have K1 := Lib.hid k1
  have K2 := Lib.hid k2
  have K3 := Lib.hid k3
  have HROW := Lib.hid hrow
  have HSN := Lib.hid hsn
  have HTL := Lib.hid htl
  have HFIN := Lib.hid hfin
  have HST := Lib.hid hst
  have hn : P.length ≤ 64 := hg.len
  generalize P.length = n at *
  have hNw := block_there h0
  clear hg h1 hA hL hR hf k1 k2 k3 hrow hsn htl hfin hst hu
  go_enter Try.func29, Try.ntmps29
  go_wp2_with fail
  refine (K1.out w _).mono ?_
  rintro e w1 ⟨rfl, hW1, hB1⟩
  have hB1' := below_new' hB1
  have HB1 := Lib.hid hB1'
  have HW1 := Lib.hid hW1
  have h01 := Since.cell hB1' h0
  clear hB1 hW1 hB1'
  go_wp2
  go_loopw [19] (fun i wr => ∃ k : Nat, k ≤ n ∧ i = .int .i64 k ∧ Hid (Wr w.heap.size (w.heap.size + 1) wr (U ++ ((P.take k).map encRow).flatten)) ∧ Hid (Below w.heap.size w wr)) (fun i _ => n - (intOf i).toNat)
  case atStart => exact ⟨0, Nat.zero_le _, rfl, Lib.hid (by rw [HST.out, List.append_nil]; exact HW1.out), HB1⟩
  case round =>
    obtain ⟨k, hk, rfl, hW, hB⟩ := hrel
    by_cases hlt : k < n
    · have hki : (k : Int) < n := by omega
      obtain ⟨b, aj, nj, cj, rfl, hrow, hER, hnj, -⟩ := LIn.at HL.out k hlt
      have hr := HROW.out k
      have hcr := Since.cell hB.out hrow
      have k4 := K2.out wr aj nj cj (Tx.row P k) (U ++ ((P.take k).map encRow).flatten) (by rw [List.length_append]; have := HTL.out k; omega) hr.1 hr.2 (hER.els.below hB.out) hW.out hER.els.lows
      have hs := HSN.out k hlt
      unfold encRow at k4 hs
      have HS := Lib.hid hs
      have K4 := Lib.hid k4
      clear k4 hs hr hER hnj hrow
      go_wp2_with fail
      refine (K4.out).mono ?_
      rintro e w2 ⟨rfl, hW2, hB2⟩
      have HW2 := Lib.hid hW2
      have HB2 := Lib.hid (Below.trans hB.out hB2)
      clear hW2 hB2
      go_wp2
      go_roundw
      case rel => exact ⟨k + 1, by omega, by go_num, Lib.hid (by show Wr _ _ _ (U ++ ((P.take (k + 1)).map encRow).flatten); unfold encRow; rw [HS.out, ← List.append_assoc]; exact HW2.out), HB2⟩
      case measure => simp [intOf]; omega
    · have hki : ¬ (k : Int) < n := by omega
      have k5 := K3.out wr _ (by rw [List.length_append]; have := HTL.out k; omega) hW.out
      rw [HFIN.out k (by omega)] at k5
      have K5 := Lib.hid k5
      clear k5
      go_wp2_with fail
      refine (K5.out).mono ?_
      rintro e w2 ⟨a2, n2, c2, rfl, HN2, O2, B2⟩
      go_wp2
      go_ret
      exact ⟨a2, n2, c2, rfl, HN2, Lib.hid (own_baseR O2.out hB.out.size), Lib.hid (Since.step hB.out B2.out)⟩

theorem tencode_nil (w : World) : Calls Try.prog 29 #[.pointer none] w fun e w' => e = .returned (.slice none 0 0) ∧ w = w' := by
  go_enter Try.func29, Try.ntmps29
  go_wp2
  go_ret
  exact ⟨rfl, rfl⟩

set_option maxHeartbeats 4000000 in
set_option maxRecDepth 100000 in
theorem rencode_any (pv : Value) (P : List (List Int)) (w : World) (hL : LE w pv P) (hf : RowsFit P) :
    Calls Try.prog 33 #[pv] w (Makes .u8 5 (encP P) w) := by
  obtain ⟨pa, pc, rfl⟩ := LIn.shape hL
  have hz : (Hm.uv (Hm.zig (P.length : Int))).length ≤ 10 := Hm.uv_len (Hm.zig_lt (by have := hf.1; omega))
  have k1 := sint_any (P.length : Int) w (by have := hf.1; omega)
  have hrow := fun k => rowsFit_row hf k
  have hsn := fun k (hk : k < P.length) => rows_snoc (P := P) hk
  have htl := fun k => rows_take_len hf k
  have hfin : ∀ k, P.length ≤ k → Hm.uv (Hm.zig (P.length : Int)) ++ ((P.take k).map encRow).flatten = encP P := fun k hk => by rw [List.take_of_length_le hk]; rfl
  have hst : ((P.take 0).map encRow).flatten = [] := by simp
  generalize encP P = EP at *
  generalize hu : Hm.uv (Hm.zig (P.length : Int)) = U at *
  have HL := Lib.hid hL
  have K1 := Lib.hid k1
  have HROW := Lib.hid hrow
  have HSN := Lib.hid hsn
  have HTL := Lib.hid htl
  have HFIN := Lib.hid hfin
  have HST := Lib.hid hst
  have HI := Lib.hid Try.infoU8
  have hn : P.length ≤ 100 := hf.1
  generalize P.length = n at *
  clear hL hf k1 hrow hsn htl hfin hst hu
  go_enter Try.func33, Try.ntmps33
  go_wp2_with fail
  refine (K1.out).mono ?_
  rintro e w1 ⟨a1, n1, c1, rfl, HN1, O1, B1⟩
  go_wp2
  go_loopw [3, 4] (fun v i wr => ∃ k : Nat, k ≤ n ∧ i = .int .i64 k ∧ ∃ ao no co, v = .slice ao no co ∧ Hid (Own .u8 5 w.heap.size wr (.slice ao no co) (U ++ ((P.take k).map encRow).flatten)) ∧ Hid (Below w.heap.size w wr)) (fun _ i _ => n - (intOf i).toNat)
  case atStart => exact ⟨0, Nat.zero_le _, rfl, a1, n1, c1, rfl, Lib.hid (by rw [HST.out, List.append_nil]; exact O1.out), B1⟩
  case round =>
    obtain ⟨k, hk, rfl, ao, no, co, rfl, hO, hB⟩ := hrel
    by_cases hlt : k < n
    · have hki : (k : Int) < n := by omega
      obtain ⟨b, aj, nj, cj, rfl, hrow, hER, hnj, -⟩ := LIn.at HL.out k hlt
      have hr := HROW.out k
      have hcr := Since.cell hB.out hrow
      have k4 := sints_any aj nj cj (Tx.row P k) wr (hER.els.below hB.out) hr.2 (by omega)
      have hel := encRow_len hr.1 hr.2
      have hs := HSN.out k hlt
      unfold encRow at hs hel
      have HS := Lib.hid hs
      have HEL := Lib.hid hel
      have K4 := Lib.hid k4
      clear k4 hs hr hel hER hnj hrow
      go_wp2_with fail
      refine (K4.out).mono ?_
      rintro e w2 ⟨a2, n2, c2, rfl, HN2, O2, B2⟩
      have HO2 := Lib.hid (hO.out.below B2.out)
      have HB2 := Lib.hid (Since.step hB.out B2.out)
      go_wp2_with (at_builtin; refine push_all rfl _ _ 48 rfl .u8 5 1 Try.underlying48 HI.out (by decide) w.heap.size (.slice ao no co) _ (.slice a2 n2 c2) _ rfl rfl HO2.out O2.out.els HB2.out.size (by rw [List.length_append]; have := HTL.out k; have := HEL.out; omega) ?_; intro a4 n4 c4 w4 hn4 hO4 hB4)
      go_roundw
      case rel => exact ⟨k + 1, by omega, by go_num, a4, n4, c4, rfl, Lib.hid (by show Own _ _ _ _ _ (U ++ ((P.take (k + 1)).map encRow).flatten); unfold encRow; rw [HS.out, ← List.append_assoc]; exact hO4.out), Lib.hid (Below.trans HB2.out hB4.out)⟩
      case measure => simp [intOf]; omega
    · have hki : ¬ (k : Int) < n := by omega
      have hO5 := hO.out
      rw [HFIN.out k (by omega)] at hO5
      have HO5 := Lib.hid hO5
      clear hO5 hO
      go_wp2
      go_ret
      exact makes_of HO5.out hB.out

end Go.Proofs.Ytidnllddhhllcaa
