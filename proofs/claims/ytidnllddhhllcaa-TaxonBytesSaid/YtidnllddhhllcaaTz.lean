/- Contracts of package taxon: New. -/
import Derived.Test.YtidnllddhhllcaaTy
namespace Go.Proofs.Ytidnllddhhllcaa
open Go.RowKit Go.Shelf

theorem Try.infoCls : (Try.prog.info? 68).map (fun i => (i.zero, i.size, i.bytes)) = some (some (.agg (bl fun _ => false).toArray), 64, 64) := by kernel_rfl

/-- The table that New makes. -/
theorem make_tab (n : Nat) (hn : n ≤ 64) : ∃ mk : World → World, ∀ W, (Instr.makeSlice 63 (.int .i64 (n : Int)) (.int .i64 (n : Int))).run Try.prog W = .ok (.slice (some ⟨W.heap.size, 0, none⟩) n n) (mk W) ∧
    W.heap.size < (mk W).heap.size ∧ Below W.heap.size W (mk W) ∧ ∀ c, c < n → ∀ d, d < 64 → Cel (mk W) W.heap.size (c * 64 + d) (.bool false) := by
  obtain ⟨i0, hi, hz0, hz1, hz2⟩ := info_parts Try.infoCls
  have h : ∀ W : World, ∃ w', (Instr.makeSlice 63 (.int .i64 (n : Int)) (.int .i64 (n : Int))).run Try.prog W = .ok (.slice (some ⟨W.heap.size, 0, none⟩) n n) w' ∧
      W.heap.size < w'.heap.size ∧ Below W.heap.size W w' ∧ ∀ c, c < n → ∀ d, d < 64 → Cel w' W.heap.size (c * 64 + d) (.bool false) := fun W => by
    obtain ⟨w', h1, h2, h3⟩ := run_make_full (P := Try.prog) (w := W) W.heap.size 63 68 i0 _ 64 Try.underlying63 hi hz0 hz1 .i64 .i64 n (by rw [hz2]; omega) (by unfold maxLen; omega) (Nat.le_refl _)
    refine ⟨w', h1, ?_, (Below.refl _ W).grown h3 (Nat.le_refl _) (fun k hk => by cases hk), fun c hc d hd => ⟨?_, h2.frozenAt _⟩⟩
    · rcases h2.2 with ⟨hv, _⟩ | ⟨g, cap, cur, hv, _, hg, _⟩
      · cases hv
      · cases hv; exact (Array.getElem?_eq_some_iff.1 hg).1
    · have hcn : (c + 1) * 64 ≤ n * 64 := Nat.mul_le_mul_right _ hc
      have hlt : c * 64 + d < n * 64 := by omega
      rw [h2.cellAt _ hlt]
      have hsz : (Value.agg (bl fun _ => false).toArray).cells.size = 64 := by simp [Value.cells, bl_len]
      simp only [madeCells, Array.getElem?_toList, Array.getElem?_map, Array.getElem?_range, hlt, hsz]
      have e : (c * 64 + d) % 64 = d := by omega
      have e2 : (Value.agg (bl fun _ => false).toArray).cells[d]? = some (.bool false) := by
        show (bl fun _ => false).toArray[d]? = _
        rw [List.getElem?_toArray]
        exact (bits_bl _).2 d hd
      simp [e, getElem!_def, e2]
  exact ⟨fun W => Classical.choose (h W), fun W => Classical.choose_spec (h W)⟩

/-- What New leaves. -/
def NewPost (P : List (List Int)) (w : World) (e : Ending) (w' : World) : Prop :=
  (Tx.newE P ≠ 0 ∧ e = .returned (.tuple #[.pointer none, .int .i64 (Tx.newE P)]) ∧ Hid (Below w.heap.size w w')) ∨
  (Tx.newE P = 0 ∧ ∃ N, e = .returned (.tuple #[.pointer (some ⟨N, 0, none⟩), .int .i64 0]) ∧ Hid (TxAt N P w') ∧ Hid (Below w.heap.size w w'))

/-- What the making of a taxonomy leaves. -/
def CutT (P : List (List Int)) (w : World) (v : Value) (W : World) : Prop := ∃ N A pa pc, v = .pointer (some ⟨N, 0, none⟩) ∧ w.heap.size ≤ A ∧ A < W.heap.size ∧ N ≠ A ∧ w.heap.size ≤ N ∧
  W.cell? ⟨N, 0, none⟩ = some (.slice pa P.length pc) ∧ W.cell? ⟨N, 1, none⟩ = some (.slice (some ⟨A, 0, none⟩) P.length P.length) ∧ LIn (fun b => b ≠ A) W (.slice pa P.length pc) P ∧
  (∀ c, c < P.length → ∀ d, d < 64 → Cel W A (c * 64 + d) (.bool false)) ∧ Below w.heap.size w W

theorem cutT_of {P : List (List Int)} {w W : World} {A pc : Nat} {pa : Option Addr} (T : TypeId) (hA : w.heap.size ≤ A) (hAW : A < W.heap.size) (hL : LIn (fun b => b ≠ A) W (.slice pa P.length pc) P)
    (hT : ∀ c, c < P.length → ∀ d, d < 64 → Cel W A (c * 64 + d) (.bool false)) (hB : Below w.heap.size w W) :
    CutT P w (.pointer (some ⟨W.heap.size, 0, none⟩)) (W.alloc (.cells #[.slice pa P.length pc, .slice (some ⟨A, 0, none⟩) P.length P.length] T)) := by
  have hB2 : Below W.heap.size W (W.alloc (.cells #[.slice pa P.length pc, .slice (some ⟨A, 0, none⟩) P.length P.length] T)) := (Below.refl _ W).alloc (Nat.le_refl _) _
  have hn := heap_new W (.cells #[.slice pa P.length pc, .slice (some ⟨A, 0, none⟩) P.length P.length] T)
  refine ⟨W.heap.size, A, pa, pc, rfl, hA, by simp; omega, by omega, by omega, ?_, ?_, hL.keep hB2.size fun b _ hb => hB2.block b hb, fun c hc d hd => (hT c hc d hd).below hB2, hB.alloc (by omega) _⟩
  · unfold World.cell?
    simp only [hn]
    rfl
  · unfold World.cell?
    simp only [hn]
    rfl

theorem cut_one {P : List (List Int)} {n : Nat} {wr w' W : World} {a2 : Option Addr} {c2 : Nat} {T : TypeId} (hn : P.length = n) (hS : Since wr wr.drew) (hm : w'.heap.size < W.heap.size ∧ Below w'.heap.size w' W ∧ ∀ c, c < n → ∀ d, d < 64 → Cel W w'.heap.size (c * 64 + d) (.bool false))
    (hL : LIn (wr.drew.heap.size ≤ ·) w' (.slice a2 P.length c2) P) (hB : Below wr.drew.heap.size wr.drew w') :
    CutT P wr (.pointer (some ⟨W.heap.size, 0, none⟩)) (W.alloc (.cells #[.slice a2 P.length c2, .slice (some ⟨w'.heap.size, 0, none⟩) n n] T)) := by
  subst hn
  exact cutT_of T (Since.step hS hB).size hm.1 ((hL.mono fun b hb _ => by omega).keep hm.2.1.size fun b _ hb => hm.2.1.block b hb) hm.2.2 (Since.step (Since.step hS hB) hm.2.1)

theorem cut_two {P : List (List Int)} {n : Nat} {wr w' W : World} {a2 : Option Addr} {c2 : Nat} {T : TypeId} (hn : P.length = n) (hS : Since wr W) (hm : wr.drew.heap.size < W.heap.size ∧ Below wr.drew.heap.size wr.drew W ∧ ∀ c, c < n → ∀ d, d < 64 → Cel W wr.drew.heap.size (c * 64 + d) (.bool false))
    (hL : LIn (W.heap.size ≤ ·) w' (.slice a2 P.length c2) P) (hB : Below W.heap.size W w') :
    CutT P wr (.pointer (some ⟨w'.heap.size, 0, none⟩)) (w'.alloc (.cells #[.slice a2 P.length c2, .slice (some ⟨wr.heap.size, 0, none⟩) n n] T)) := by
  subst hn
  have h1 : wr.drew.heap.size < W.heap.size := hm.1
  have h2 := hB.size
  exact cutT_of (A := wr.drew.heap.size) T (Nat.le_refl _) (by omega) (hL.mono fun b _ hb => by omega) (fun c hc d hd => (hm.2.2 c hc d hd).below hB) (Since.step hS hB)

theorem short_rows {P : List (List Int)} (h : ∀ l ∈ P, l.length ≤ 100000) (c : Nat) : (Tx.row P c).length ≤ 100000 := by
  unfold Tx.row
  cases hc : P[c]? with
  | none => simp
  | some l => exact h l (List.mem_of_getElem? hc)

set_option maxHeartbeats 8000000 in
set_option maxRecDepth 100000 in
theorem new_any (sv : Value) (P : List (List Int)) (w : World) (h : LE w sv P) (hP : P.length ≤ 100000) (hsh : ∀ l ∈ P, l.length ≤ 100000) :
    Calls Try.prog 12 #[sv] w (NewPost P w) := by
  obtain ⟨a, cap, rfl⟩ := LIn.shape h
  have HLE := Lib.hid h
  have HSH := Lib.hid (short_rows hsh)
  by_cases hbig : 64 < P.length
  · have he : Tx.newE P = 4 := by unfold Tx.newE; exact if_pos hbig
    have HE := Lib.hid he
    have hbi : decide ((P.length : Int) > 64) = true := decide_eq_true (by omega)
    clear h hsh he hP
    generalize hn : P.length = n at *
    clear hn
    go_enter Try.func12, Try.ntmps12
    go_wp2
    go_ret2
    exact .inl ⟨by rw [HE.out]; decide, by rw [HE.out]; rfl, Lib.hid (Below.refl _ _)⟩
  · have hbi : decide ((P.length : Int) > 64) = false := decide_eq_false (by omega)
    generalize hn : P.length = n at *
    have HN := Lib.hid hn
    clear h hsh hn hP
    have h64 : n ≤ 64 := by omega
    clear hbig
    go_enter Try.func12, Try.ntmps12
    go_wp2
    go_loopw [12] (fun i wr => ∃ k : Nat, k ≤ n ∧ i = .int .i64 k ∧ Hid ((P.take k).all (Tx.okB n (-1)) = true) ∧ wr = w) (fun i _ => n - (intOf i).toNat)
    case atStart => exact ⟨0, Nat.zero_le _, rfl, rfl, rfl⟩
    case round =>
      obtain ⟨k, hk, rfl, hok, rfl⟩ := hrel
      by_cases hlt : k < n
      · obtain ⟨b, aj, nj, cj, rfl, hrow, hER, hnj, -⟩ := LIn.at HLE.out k hlt
        have hle := HSH.out k
        have k1 := valid_any n _ _ wr hER.els hle
        have hsn : (P.take (k + 1)).all (Tx.okB n (-1)) = Tx.okB n (-1) (Tx.row P k) := by
          have hkP : k < P.length := by rw [HN.out]; exact hlt
          rw [List.take_add_one, List.all_append, hok.out, List.getElem?_eq_getElem hkP]
          unfold Tx.row
          rw [List.getElem?_eq_getElem hkP]
          simp
        have hfal : Tx.okB n (-1) (Tx.row P k) = false → Tx.newE P = 1 := fun hf => by
          have hkP : k < P.length := by rw [HN.out]; exact hlt
          have : Tx.okAll P.length P = false := by
            rw [HN.out]
            refine Bool.eq_false_iff.2 fun hh => ?_
            have := List.all_eq_true.1 hh P[k] (List.getElem_mem hkP)
            have e : Tx.row P k = P[k] := by unfold Tx.row; rw [List.getElem?_eq_getElem hkP]; rfl
            rw [e, this] at hf
            cases hf
          unfold Tx.newE
          rw [if_neg (by rw [HN.out]; omega), if_pos this]
        generalize Tx.okB n (-1) (Tx.row P k) = B at *
        have HSN := Lib.hid hsn
        have HFA := Lib.hid hfal
        have K1 := Lib.hid k1
        have hki : (k : Int) < n := by omega
        clear hER hnj hle hsn hfal k1
        go_wp2_with fail
        refine (K1.out).mono ?_
        rintro e w' ⟨rfl, rfl⟩
        cases B
        case false =>
          go_wp2
          go_ret2
          have h1 := HFA.out (by first | rfl | trivial)
          exact .inl ⟨by rw [h1]; decide, by rw [h1]; rfl, Lib.hid (Below.refl _ _)⟩
        case true =>
          go_wp2
          go_roundw
          case rel => exact ⟨k + 1, by omega, by go_num, HSN, by first | rfl | trivial⟩
          case measure => simp [intOf]; omega
      · have hkn : k = n := by omega
        have hki : (n : Int) ≤ (k : Int) := by omega
        have hall : Tx.okAll P.length P = true := by
          have := hok.out
          rw [hkn, ← HN.out, List.take_length] at this
          exact this
        have HALL := Lib.hid hall
        obtain ⟨mk, hmk⟩ := make_tab n h64
        have hmk1 := fun W => (hmk W).1
        have HMK := Lib.hid fun W => (hmk W).2
        have hcl := fun (W : World) (hB : Below wr.heap.size wr W) => cloneLists_any _ P W (LE.below hB HLE.out) (by rw [HN.out]; omega) HSH.out
        have HCL := Lib.hid hcl
        clear hkn hall hmk hcl
        go_upto_region 9 with (fail)
        go_cut [6] (fun s wx => CutT P wr s wx)
        case first =>
          have hSd : Since wr wr.drew := Below.drew (Below.refl _ _)
          have hSm := Lib.hid (Since.step hSd (HMK.out wr.drew).2.1)
          go_region_with (go_at_call 39; (first | refine (HCL.out _ hSd).mono ?_ | refine (HCL.out _ hSm.out).mono ?_); rintro e w' ⟨a2, c2, rfl, HL2, HB2⟩)
          all_goals (go_wp2_with fail; go_meet)
          · exact cut_one HN.out hSd (HMK.out w') HL2.out HB2.out
          · exact cut_two HN.out hSm.out (HMK.out wr.drew) HL2.out HB2.out
        case rest =>
          obtain ⟨N, A, pa, pc, rfl, hA, hAW, hNA, hN, h0, h1, hL, hT, hB⟩ := hcut
          have k1 := inherit_any P wr.heap.size N A pc P.length pa wc HALL.out (by rw [HN.out]; exact h64) HSH.out hB.size hA hAW hNA h0 h1 hL hT
          have K1 := Lib.hid k1
          have HL := Lib.hid hL
          have HBC := Lib.hid hB
          have HC0 := Lib.hid h0
          have HC1 := Lib.hid h1
          clear k1 hL hT hB h0 h1 hmk1
          go_wp2_with fail
          refine (K1.out).mono ?_
          rintro e w' ⟨b, rfl, hb1, hb2, hb3, hb4⟩
          have HB1 := Lib.hid hb1
          have HB2 := Lib.hid hb2
          have HB3 := Lib.hid hb3
          have HB4 := Lib.hid hb4
          clear hb1 hb2 hb3 hb4
          cases b
          case false =>
            go_wp2
            go_ret2
            have hc := HB4.out (by first | rfl | trivial)
            have he : Tx.newE P = 9 := by
              unfold Tx.newE
              rw [if_neg (by rw [HN.out]; omega), if_neg (by rw [HALL.out]; decide)]
              exact @if_pos _ (Classical.propDecidable _) hc _ _ _
            exact .inl ⟨by rw [he]; decide, by rw [he]; rfl, Lib.hid (HBC.out.trans HB1.out)⟩
          case true =>
            go_wp2
            go_ret2
            obtain ⟨hc, hr⟩ := HB3.out (by first | rfl | trivial)
            have hs := HB1.out.size
            have hk := HB2.out
            have hNb : N < wc.heap.size := block_there HC0.out
            exact .inr ⟨Tx.newE_ok.2 ⟨by rw [HN.out]; exact h64, HALL.out, hc⟩, N, rfl, Lib.hid ⟨⟨by rw [HN.out]; exact h64, HALL.out, hc⟩, pa, pc, A, P.length, (cell_of_block (hk N hNb hNA) 0).trans HC0.out, (cell_of_block (hk N hNb hNA) 1).trans HC1.out, by omega, (HL.out.keep hs fun b hb hbs => hk b hbs hb).le, hr⟩, Lib.hid (HBC.out.trans HB1.out)⟩

end Go.Proofs.Ytidnllddhhllcaa
