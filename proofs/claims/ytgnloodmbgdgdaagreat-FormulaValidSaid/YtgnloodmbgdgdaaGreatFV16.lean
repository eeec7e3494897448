import Derived.Test.YtgnloodmbgdgdaaGreatFV09
import Derived.Test.YtgnloodmbgdgdaaGreatFV11
namespace Go.Proofs.YtgnloodmbgdgdaaGreat
open Go.RowKit Go.Shelf
set_option maxHeartbeats 2000000 in
theorem txvalid_any (n : Nat) (sv : Value) (zs : List Int) (w : World) (h : Els .i64 w sv zs) (hl : zs.length ≤ 100000) :
  Calls Tryz.prog 95 #[sv, .int .i64 (n : Int)] w fun e w' => e = .returned (.bool (Tx.okB n (-1) zs)) ∧ w = w' := by
 obtain ⟨a, cap, rfl⟩ := h.shape
 have HE := Lib.hid h
 generalize hm : zs.length = m at *
 have HM := Lib.hid hm
 generalize hR : Tx.okB n (-1) zs = R at *
 have HR := Lib.hid hR
 clear h hm hR
 go_enter Tryz.func95, Tryz.ntmps95
 go_wp2
 go_loopw [5, 10] (fun v i wr => ∃ k : Nat, ∃ last : Int, k ≤ m ∧ i = .int .i64 k ∧ v = .int .i64 last ∧ Hid (R = Tx.okB n last (zs.drop k)) ∧ wr = w) (fun _ i _ => m - (intOf i).toNat)
 case atStart => exact ⟨0, -1, Nat.zero_le _, rfl, rfl, Lib.hid HR.out.symm, rfl⟩
 case round =>
  obtain ⟨k, last, hk, rfl, rfl, hok, rfl⟩ := hrel
  by_cases hlt : k < m
  ·obtain ⟨b, off, rfl, hcl⟩ := HE.out.at k hlt
   have hd : zs.drop k = zs[k]?.getD 0 :: zs.drop (k + 1) := by
    rw [List.drop_eq_getElem_cons (by rw [HM.out]; exact hlt), List.getElem?_eq_getElem (by rw [HM.out]; exact hlt)]; rfl
   have hok2 := hok.out
   rw [hd] at hok2
   unfold Tx.okB at hok2
   generalize zs[k]?.getD 0 = z at *
   have HO := Lib.hid hok2
   have hki : (k : Int) < m := by omega
   clear hd hok2 hok
   by_cases h1 : z ≤ last
   ·have h1' : decide (z ≤ last) = true := decide_eq_true h1
    go_wp2
    go_ret
    exact ⟨ret_bool (by have := HO.out; rw [if_pos (.inl (by have := of_decide_eq_true h1'; omega))] at this; exact this.symm), rfl⟩
   ·have h1' : decide (z ≤ last) = false := decide_eq_false h1
    have H1 := Lib.hid h1
    clear h1
    by_cases h2 : (n : Int) ≤ z
    ·have h2' : decide (z ≥ (n : Int)) = true := decide_eq_true h2
     have H2 := Lib.hid h2
     clear h2
     go_wp2
     go_ret
     exact ⟨ret_bool (by have := HO.out; rw [if_pos (.inr H2.out)] at this; exact this.symm), rfl⟩
    ·have h2' : decide (z ≥ (n : Int)) = false := decide_eq_false h2
     have H2 := Lib.hid h2
     clear h2
     go_wp2
     go_roundw
     case rel => exact ⟨k + 1, z, by omega, by go_num, rfl, Lib.hid (by have := HO.out; rw [if_neg (fun h => h.elim H1.out H2.out)] at this; exact this), by first | rfl | trivial⟩
     case measure => simp [intOf]; omega
  ·have hki : (m : Int) ≤ (k : Int) := by omega
   have hend : R = true := by
    have := hok.out
    rw [List.drop_eq_nil_of_le (by rw [HM.out]; omega)] at this
    rw [this]; rfl
   have HEn := Lib.hid hend
   clear hend
   go_wp2
   go_ret
   exact ⟨ret_bool HEn.out.symm, rfl⟩
theorem clone_nil (w : World) :
  Calls Tryz.prog 149 #[.slice none 0 0] w fun e w' => Makes .i64 3 [] w e w' := by
 have q22 : ∀ (w : World) (a : Option Addr) (n c n' c' : Nat), (binOp .eql 22 (.slice a n c) (.slice none n' c')).run Tryz.prog w = .ok (.bool a.isNone) w := fun w a n c n' c' => Lib.run_eql_slice_nil w _ _ a n c n' c' Tryz.underlying22
 go_enter Tryz.func149, Tryz.ntmps149
 go_wp2
 go_ret
 exact makes_of (World.ownsRow_nil _ _ _ _) (Below.refl _ _)
theorem clone_some (x : Addr) (n c : Nat) (zs : List Int) (w : World) (hz : zs.length ≤ 100000000000) (h : Els .i64 w (.slice (some x) n c) zs) :
  Calls Tryz.prog 149 #[.slice (some x) n c] w fun e w' => Makes .i64 3 zs w e w' := by
 have q22 : ∀ (w : World) (a : Option Addr) (n c n' c' : Nat), (binOp .eql 22 (.slice a n c) (.slice none n' c')).run Tryz.prog w = .ok (.bool a.isNone) w := fun w a n c n' c' => Lib.run_eql_slice_nil w _ _ a n c n' c' Tryz.underlying22
 have HI := Lib.hid Tryz.infoI64
 have HZ := Lib.hid hz
 have HE := Lib.hid h
 clear h hz
 go_enter Tryz.func149, Tryz.ntmps149
 go_wp2_with (at_builtin; go_loud (refine push_all rfl _ _ 22 rfl .i64 3 8 Tryz.underlying22 HI.out (by decide) w.heap.size _ [] _ zs rfl rfl (World.ownsRow_made w #[] 0 (Nat.le_refl _) (Nat.zero_le _) rfl) (HE.out.below ((Below.refl _ w).alloc (Nat.le_refl _) _)) (by simp) (by have := HZ.out; simp; omega) ?_); intro a2 n2 c2 w2 hn2 hO2 hB2)
 go_ret
 exact makes_of hO2.out (((Below.refl _ w).alloc (Nat.le_refl _) _).trans hB2.out)
theorem clone_any (sv : Value) (zs : List Int) (w : World) (hz : zs.length ≤ 100000000000) (h : Els .i64 w sv zs) :
  Calls Tryz.prog 149 #[sv] w fun e w' => Makes .i64 3 zs w e w' := by
 obtain ⟨a, c, rfl⟩ := h.shape
 cases a with
 | some x => exact clone_some x _ c zs w hz h
 | none =>
  rcases h with ⟨he, rfl⟩ | ⟨b, off, cap, hb, he, hl, hc⟩
  ·rcases he with he | ⟨x, cap, he⟩
   ·cases he
    exact clone_nil w
   ·cases he
  ·cases he
theorem Own.ein {E : TypeId} {B : Nat} {w : World} {sv : Value} {zs : List Int} (h : Own .i64 E B w sv zs) : EIn (B ≤ ·) w sv zs := by
 obtain ⟨_, ⟨rfl, hz⟩ | ⟨g, cap, cur, rfl, hB, hg, hcap, _, hsz, ht⟩⟩ := h
 ·exact .inl ⟨.inl rfl, List.eq_nil_of_length_eq_zero hz⟩
 ·refine .inr ⟨g, 0, cap, hB, (Array.getElem?_eq_some_iff.1 hg).1, rfl, hcap, ?_⟩
  intro j hj
  have e : cur[j]? = some (Value.int .i64 (zs[j]?.getD 0)) := by
   rw [← Array.getElem?_toList, ← List.getElem?_take_of_lt (show j < zs.length * 1 by omega), ht, List.getElem?_map, List.getElem?_eq_getElem hj]
   rfl
  rw [Nat.zero_add]
  unfold World.cell?
  simp only [hg]
  exact e
def LMake (P : List (List Int)) (w : World) (e : Ending) (w' : World) : Prop :=
 ∃ a c, e = .returned (.slice a P.length c) ∧ Hid (LIn (w.heap.size ≤ ·) w' (.slice a P.length c) P) ∧ Hid (Below w.heap.size w w')
def CL (P : List (List Int)) (G n k : Nat) (E : TypeId) (w W : World) : Prop :=
 Below w.heap.size w W ∧ ∃ vs : List Value, W.ownsRow w.heap.size E 1 (.slice (some ⟨G, 0, none⟩) n n) n vs ∧ vs.length = n ∧ ∀ j, j < k → ∃ v, vs[j]? = some v ∧ EIn (G < ·) W v (Tx.row P j)
theorem CL.cell {P : List (List Int)} {G n k : Nat} {E : TypeId} {w W : World} (h : CL P G n k E w W) {j : Nat} (hj : j < n) : ∃ v, W.cell? ⟨G, j, none⟩ = some v ∧ W.frozen? ⟨G, j, none⟩ = false := by
 obtain ⟨_, vs, hO, hl, _⟩ := h
 exact ⟨_, (hO.cellAt j (by omega)).trans (List.getElem?_eq_getElem (by omega)), hO.frozenAt j⟩
theorem CL.step {P : List (List Int)} {G n k : Nat} {E : TypeId} {w W W2 : World} (h : CL P G n k E w W) (hG : G = w.heap.size) (hB : Below W.heap.size W W2) {v : Value} (he : EIn (W.heap.size ≤ ·) W2 v (Tx.row P k)) (hk : k < n) (hGW : G < W.heap.size) : CL P G n (k + 1) E w (W2.setCell ⟨G, k, none⟩ v) := by
 obtain ⟨hb, vs, hO, hl, hat⟩ := h
 refine ⟨(hb.trans (hB.mono hb.size)).setCell (p := ⟨G, k, none⟩) (Nat.le_of_eq hG.symm) v, vs.set k v, ((owns_below hO hB).stored k v).1, by rw [List.length_set]; exact hl, fun j hj => ?_⟩
 have keepS : ∀ {u : Value} {zs : List Int}, EIn (G < ·) W2 u zs → EIn (G < ·) (W2.setCell ⟨G, k, none⟩ v) u zs := fun h => h.keep (by simp [World.setCell]) fun b hb _ => Below.heap_setCell _ _ _ _ (by show b ≠ G; omega)
 by_cases e : j = k
 ·subst e
  exact ⟨v, by rw [List.getElem?_set_self (by omega)], keepS (he.mono fun b _ hb => by omega)⟩
 ·obtain ⟨u, hu, hE⟩ := hat j (by omega)
  exact ⟨u, by rw [List.getElem?_set_ne (Ne.symm e)]; exact hu, keepS (hE.keep hB.size fun b _ hb => hB.block b hb)⟩
theorem CL.done {P : List (List Int)} {G : Nat} {E : TypeId} {w W : World} (h : CL P G P.length P.length E w W) (hG : G = w.heap.size) : LIn (w.heap.size ≤ ·) W (.slice (some ⟨G, 0, none⟩) P.length P.length) P := by
 obtain ⟨hb, vs, hO, hl, hat⟩ := h
 have hGW : G < W.heap.size := by
  rcases hO.2 with ⟨hv, _⟩ | ⟨g, cap, cur, hv, _, hg, _⟩
  ·cases hv
  ·cases hv; exact (Array.getElem?_eq_some_iff.1 hg).1
 refine .inr ⟨G, P.length, Nat.le_of_eq hG.symm, hGW, rfl, Nat.le_refl _, fun j l hj => ?_⟩
 have hjl := (List.getElem?_eq_some_iff.1 hj).1
 obtain ⟨v, hv, hE⟩ := hat j hjl
 refine ⟨v, (hO.cellAt j (by omega)).trans hv, ?_⟩
 have e : Tx.row P j = l := by unfold Tx.row; rw [hj]; rfl
 rw [← e]
 exact hE.mono fun b _ hb => by omega
theorem Tryz.infoSl : (Tryz.prog.info? 22).map (fun i => (i.zero, i.size, i.bytes)) = some (some (.slice none 0 0), 1, 24) := by kernel_rfl
set_option maxHeartbeats 4000000 in
set_option maxRecDepth 100000 in
theorem cloneLists_any (sv : Value) (P : List (List Int)) (w : World) (h : LE w sv P) (hP : P.length ≤ 100000) (hsh : ∀ c, (Tx.row P c).length ≤ 100000) :
  Calls Tryz.prog 96 #[sv] w (LMake P w) := by
 obtain ⟨a, cap, rfl⟩ := LIn.shape h
 obtain ⟨i0, hi, hz0, hz1, hz2⟩ := info_parts Tryz.infoSl
 have HI := Lib.hid hi
 have HZ := Lib.hid hz0
 have HZ1 := Lib.hid hz1
 have HZ2 := Lib.hid hz2
 have HLE := Lib.hid h
 have HSH := Lib.hid hsh
 generalize hn : P.length = n at *
 have HN := Lib.hid hn
 clear h hsh hn hi hz0 hz1 hz2
 go_enter Tryz.func96, Tryz.ntmps96
 go_wp2_with (at_make; go_loud (refine wpList_make_full _ rfl _ _ 34 rfl w.heap.size 22 i0 (.slice none 0 0) 1 Tryz.underlying34 HI.out HZ.out HZ1.out .i64 .i64 n n n rfl rfl rfl rfl (by rw [HZ2.out]; omega) (by unfold maxLen; omega) (Nat.le_refl _) ?_); intro w2 hown hgrow; have HO2 := Lib.hid hown; have HG2 := Lib.hid hgrow; clear hown hgrow)
 have HC0 : Hid (CL P w.heap.size n 0 22 w w2) := ⟨(Below.refl _ w).grown HG2.out (Nat.le_refl _) (fun k hk => by cases hk), _, HO2.out, by rw [Array.length_toList, size_madeCells, Nat.mul_one], fun j hj => by omega⟩
 go_loopw [10] (fun i wr => ∃ k : Nat, k ≤ n ∧ i = .int .i64 k ∧ Hid (CL P w.heap.size n k 22 w wr)) (fun i _ => n - (intOf i).toNat)
 case atStart => exact ⟨0, Nat.zero_le _, rfl, HC0⟩
 case round =>
  obtain ⟨k, hk, rfl, hC⟩ := hrel
  by_cases hlt : k < n
  ·obtain ⟨b, aj, nj, cj, rfl, hrow, hER, hnj, -⟩ := LIn.at (LE.below hC.out.1 HLE.out) k hlt
   have hels := hER.els
   have hle := HSH.out k
   have k1 := Lib.hid (clone_any _ _ wr (by omega) hels)
   have hki : (k : Int) < n := by omega
   clear hER hnj hels hle
   go_wp2_with fail
   refine (k1.out).mono ?_
   rintro e w3 ⟨a3, n3, c3, rfl, HN3, O3, B3⟩
   obtain ⟨v, hcv, hcf⟩ := hC.out.cell hlt
   have hGW := block_there hcv
   have hcv3 := (B3.out.cell (p := ⟨w.heap.size, k, none⟩) hGW).trans hcv
   have hcf3 := (B3.out.frozen (p := ⟨w.heap.size, k, none⟩) hGW).trans hcf
   have HST := Lib.hid (hC.out.step rfl B3.out O3.out.ein hlt hGW)
   clear hcv hcf hrow
   go_wp2
   go_roundw
   case rel => exact ⟨k + 1, by omega, by go_num, HST⟩
   case measure => simp [intOf]; omega
  ·have hkn : k = n := by omega
   have hki : (n : Int) ≤ (k : Int) := by omega
   have HKN := Lib.hid hkn
   clear hkn
   go_wp2
   go_ret
   have h1 := hC.out
   rw [HKN.out, ← HN.out] at h1
   refine ⟨some ⟨w.heap.size, 0, none⟩, P.length, by rw [HN.out]; rfl, Lib.hid (h1.done rfl), Lib.hid h1.1⟩
end Go.Proofs.YtgnloodmbgdgdaaGreat
namespace Go.Proofs.YtgnloodmbgdgdaaGreat
open Go.RowKit Go.Shelf
theorem Tryz.infoCls : (Tryz.prog.info? 126).map (fun i => (i.zero, i.size, i.bytes)) = some (some (.agg (bl fun _ => false).toArray), 64, 64) := by kernel_rfl
theorem make_tab (n : Nat) (hn : n ≤ 64) : ∃ mk : World → World, ∀ W, (Instr.makeSlice 127 (.int .i64 (n : Int)) (.int .i64 (n : Int))).run Tryz.prog W = .ok (.slice (some ⟨W.heap.size, 0, none⟩) n n) (mk W) ∧
  W.heap.size < (mk W).heap.size ∧ Below W.heap.size W (mk W) ∧ ∀ c, c < n → ∀ d, d < 64 → Cel (mk W) W.heap.size (c * 64 + d) (.bool false) := by
 obtain ⟨i0, hi, hz0, hz1, hz2⟩ := info_parts Tryz.infoCls
 have h : ∀ W : World, ∃ w', (Instr.makeSlice 127 (.int .i64 (n : Int)) (.int .i64 (n : Int))).run Tryz.prog W = .ok (.slice (some ⟨W.heap.size, 0, none⟩) n n) w' ∧
   W.heap.size < w'.heap.size ∧ Below W.heap.size W w' ∧ ∀ c, c < n → ∀ d, d < 64 → Cel w' W.heap.size (c * 64 + d) (.bool false) := fun W => by
  obtain ⟨w', h1, h2, h3⟩ := run_make_full (P := Tryz.prog) (w := W) W.heap.size 127 126 i0 _ 64 Tryz.underlying127 hi hz0 hz1 .i64 .i64 n (by rw [hz2]; omega) (by unfold maxLen; omega) (Nat.le_refl _)
  refine ⟨w', h1, ?_, (Below.refl _ W).grown h3 (Nat.le_refl _) (fun k hk => by cases hk), fun c hc d hd => ⟨?_, h2.frozenAt _⟩⟩
  ·rcases h2.2 with ⟨hv, _⟩ | ⟨g, cap, cur, hv, _, hg, _⟩
   ·cases hv
   ·cases hv; exact (Array.getElem?_eq_some_iff.1 hg).1
  ·have hcn : (c + 1) * 64 ≤ n * 64 := Nat.mul_le_mul_right _ hc
   have hlt : c * 64 + d < n * 64 := by omega
   rw [h2.cellAt _ hlt]
   have hsz : (Value.agg (bl fun _ => false).toArray).cells.size = 64 := by simp [Value.cells, bl_len]
   simp only [madeCells, Array.getElem?_toList, Array.getElem?_map, Array.getElem?_range, hlt, hsz]
   have e : (c * 64 + d) % 64 = d := by omega
   have e2 : (Value.agg (bl fun _ => false).toArray).cells[d]? = some (.bool false) := by
    show (bl fun _ => false).toArray[d]? = _
    rw [List.getElem?_toArray]
    exact (bits_bl _).2 d hd
   simp [e, getElem!_def, e2]
 exact ⟨fun W => Classical.choose (h W), fun W => Classical.choose_spec (h W)⟩
def NewPost (P : List (List Int)) (w : World) (e : Ending) (w' : World) : Prop :=
 (Tx.newE P ≠ 0 ∧ e = .returned (.tuple #[.pointer none, .int .i64 (Tx.newE P)]) ∧ Hid (Below w.heap.size w w')) ∨
 (Tx.newE P = 0 ∧ ∃ N, e = .returned (.tuple #[.pointer (some ⟨N, 0, none⟩), .int .i64 0]) ∧ Hid (TxAt N P w') ∧ Hid (Below w.heap.size w w'))
def CutT (P : List (List Int)) (w : World) (v : Value) (W : World) : Prop := ∃ N A pa pc, v = .pointer (some ⟨N, 0, none⟩) ∧ w.heap.size ≤ A ∧ A < W.heap.size ∧ N ≠ A ∧ w.heap.size ≤ N ∧
 W.cell? ⟨N, 0, none⟩ = some (.slice pa P.length pc) ∧ W.cell? ⟨N, 1, none⟩ = some (.slice (some ⟨A, 0, none⟩) P.length P.length) ∧ LIn (fun b => b ≠ A) W (.slice pa P.length pc) P ∧
 (∀ c, c < P.length → ∀ d, d < 64 → Cel W A (c * 64 + d) (.bool false)) ∧ Below w.heap.size w W
theorem cutT_of {P : List (List Int)} {w W : World} {A pc : Nat} {pa : Option Addr} (T : TypeId) (hA : w.heap.size ≤ A) (hAW : A < W.heap.size) (hL : LIn (fun b => b ≠ A) W (.slice pa P.length pc) P)
  (hT : ∀ c, c < P.length → ∀ d, d < 64 → Cel W A (c * 64 + d) (.bool false)) (hB : Below w.heap.size w W) :
  CutT P w (.pointer (some ⟨W.heap.size, 0, none⟩)) (W.alloc (.cells #[.slice pa P.length pc, .slice (some ⟨A, 0, none⟩) P.length P.length] T)) := by
 have hB2 : Below W.heap.size W (W.alloc (.cells #[.slice pa P.length pc, .slice (some ⟨A, 0, none⟩) P.length P.length] T)) := (Below.refl _ W).alloc (Nat.le_refl _) _
 have hn := heap_new W (.cells #[.slice pa P.length pc, .slice (some ⟨A, 0, none⟩) P.length P.length] T)
 refine ⟨W.heap.size, A, pa, pc, rfl, hA, by simp; omega, by omega, by omega, ?_, ?_, hL.keep hB2.size fun b _ hb => hB2.block b hb, fun c hc d hd => (hT c hc d hd).below hB2, hB.alloc (by omega) _⟩
 ·unfold World.cell?
  simp only [hn]
  rfl
 ·unfold World.cell?
  simp only [hn]
  rfl
theorem cut_one {P : List (List Int)} {n : Nat} {wr w' W : World} {a2 : Option Addr} {c2 : Nat} {T : TypeId} (hn : P.length = n) (hS : Since wr wr.drew) (hm : w'.heap.size < W.heap.size ∧ Below w'.heap.size w' W ∧ ∀ c, c < n → ∀ d, d < 64 → Cel W w'.heap.size (c * 64 + d) (.bool false))
  (hL : LIn (wr.drew.heap.size ≤ ·) w' (.slice a2 P.length c2) P) (hB : Below wr.drew.heap.size wr.drew w') :
  CutT P wr (.pointer (some ⟨W.heap.size, 0, none⟩)) (W.alloc (.cells #[.slice a2 P.length c2, .slice (some ⟨w'.heap.size, 0, none⟩) n n] T)) := by
 subst hn
 exact cutT_of T (Since.step hS hB).size hm.1 ((hL.mono fun b hb _ => by omega).keep hm.2.1.size fun b _ hb => hm.2.1.block b hb) hm.2.2 (Since.step (Since.step hS hB) hm.2.1)
theorem cut_two {P : List (List Int)} {n : Nat} {wr w' W : World} {a2 : Option Addr} {c2 : Nat} {T : TypeId} (hn : P.length = n) (hS : Since wr W) (hm : wr.drew.heap.size < W.heap.size ∧ Below wr.drew.heap.size wr.drew W ∧ ∀ c, c < n → ∀ d, d < 64 → Cel W wr.drew.heap.size (c * 64 + d) (.bool false))
  (hL : LIn (W.heap.size ≤ ·) w' (.slice a2 P.length c2) P) (hB : Below W.heap.size W w') :
  CutT P wr (.pointer (some ⟨w'.heap.size, 0, none⟩)) (w'.alloc (.cells #[.slice a2 P.length c2, .slice (some ⟨wr.heap.size, 0, none⟩) n n] T)) := by
 subst hn
 have h1 : wr.drew.heap.size < W.heap.size := hm.1
 have h2 := hB.size
 exact cutT_of (A := wr.drew.heap.size) T (Nat.le_refl _) (by omega) (hL.mono fun b _ hb => by omega) (fun c hc d hd => (hm.2.2 c hc d hd).below hB) (Since.step hS hB)
theorem short_rows {P : List (List Int)} (h : ∀ l ∈ P, l.length ≤ 100000) (c : Nat) : (Tx.row P c).length ≤ 100000 := by
 unfold Tx.row
 cases hc : P[c]? with
 | none => simp
 | some l => exact h l (List.mem_of_getElem? hc)
set_option maxHeartbeats 8000000 in
set_option maxRecDepth 100000 in
theorem txnew_any (sv : Value) (P : List (List Int)) (w : World) (h : LE w sv P) (hP : P.length ≤ 100000) (hsh : ∀ l ∈ P, l.length ≤ 100000) :
  Calls Tryz.prog 53 #[sv] w (NewPost P w) := by
 obtain ⟨a, cap, rfl⟩ := LIn.shape h
 have HLE := Lib.hid h
 have HSH := Lib.hid (short_rows hsh)
 by_cases hbig : 64 < P.length
 ·have he : Tx.newE P = 4 := by unfold Tx.newE; exact if_pos hbig
  have HE := Lib.hid he
  have hbi : decide ((P.length : Int) > 64) = true := decide_eq_true (by omega)
  clear h hsh he hP
  generalize hn : P.length = n at *
  clear hn
  go_enter Tryz.func53, Tryz.ntmps53
  go_wp2
  go_ret2
  exact .inl ⟨by rw [HE.out]; decide, by rw [HE.out]; rfl, Lib.hid (Below.refl _ _)⟩
 ·have hbi : decide ((P.length : Int) > 64) = false := decide_eq_false (by omega)
  generalize hn : P.length = n at *
  have HN := Lib.hid hn
  clear h hsh hn hP
  have h64 : n ≤ 64 := by omega
  clear hbig
  go_enter Tryz.func53, Tryz.ntmps53
  go_wp2
  go_loopw [12] (fun i wr => ∃ k : Nat, k ≤ n ∧ i = .int .i64 k ∧ Hid ((P.take k).all (Tx.okB n (-1)) = true) ∧ wr = w) (fun i _ => n - (intOf i).toNat)
  case atStart => exact ⟨0, Nat.zero_le _, rfl, rfl, rfl⟩
  case round =>
   obtain ⟨k, hk, rfl, hok, rfl⟩ := hrel
   by_cases hlt : k < n
   ·obtain ⟨b, aj, nj, cj, rfl, hrow, hER, hnj, -⟩ := LIn.at HLE.out k hlt
    have hle := HSH.out k
    have k1 := txvalid_any n _ _ wr hER.els hle
    have hsn : (P.take (k + 1)).all (Tx.okB n (-1)) = Tx.okB n (-1) (Tx.row P k) := by
     have hkP : k < P.length := by rw [HN.out]; exact hlt
     rw [List.take_add_one, List.all_append, hok.out, List.getElem?_eq_getElem hkP]
     unfold Tx.row
     rw [List.getElem?_eq_getElem hkP]
     simp
    have hfal : Tx.okB n (-1) (Tx.row P k) = false → Tx.newE P = 1 := fun hf => by
     have hkP : k < P.length := by rw [HN.out]; exact hlt
     have : Tx.okAll P.length P = false := by
      rw [HN.out]
      refine Bool.eq_false_iff.2 fun hh => ?_
      have := List.all_eq_true.1 hh P[k] (List.getElem_mem hkP)
      have e : Tx.row P k = P[k] := by unfold Tx.row; rw [List.getElem?_eq_getElem hkP]; rfl
      rw [e, this] at hf
      cases hf
     unfold Tx.newE
     rw [if_neg (by rw [HN.out]; omega), if_pos this]
    generalize Tx.okB n (-1) (Tx.row P k) = B at *
    have HSN := Lib.hid hsn
    have HFA := Lib.hid hfal
    have K1 := Lib.hid k1
    have hki : (k : Int) < n := by omega
    clear hER hnj hle hsn hfal k1
    go_wp2_with fail
    refine (K1.out).mono ?_
    rintro e w' ⟨rfl, rfl⟩
    cases B
    case false =>
     go_wp2
     go_ret2
     have h1 := HFA.out (by first | rfl | trivial)
     exact .inl ⟨by rw [h1]; decide, by rw [h1]; rfl, Lib.hid (Below.refl _ _)⟩
    case true =>
     go_wp2
     go_roundw
     case rel => exact ⟨k + 1, by omega, by go_num, HSN, by first | rfl | trivial⟩
     case measure => simp [intOf]; omega
   ·have hkn : k = n := by omega
    have hki : (n : Int) ≤ (k : Int) := by omega
    have hall : Tx.okAll P.length P = true := by
     have := hok.out
     rw [hkn, ← HN.out, List.take_length] at this
     exact this
    have HALL := Lib.hid hall
    obtain ⟨mk, hmk⟩ := make_tab n h64
    have hmk1 := fun W => (hmk W).1
    have HMK := Lib.hid fun W => (hmk W).2
    have hcl := fun (W : World) (hB : Below wr.heap.size wr W) => cloneLists_any _ P W (LE.below hB HLE.out) (by rw [HN.out]; omega) HSH.out
    have HCL := Lib.hid hcl
    clear hkn hall hmk hcl
    go_upto_region 9 with (fail)
    go_cut [6] (fun s wx => CutT P wr s wx)
    case first =>
     have hSd : Since wr wr.drew := Below.drew (Below.refl _ _)
     have hSm := Lib.hid (Since.step hSd (HMK.out wr.drew).2.1)
     go_region_with (go_at_call 96; (first | refine (HCL.out _ hSd).mono ?_ | refine (HCL.out _ hSm.out).mono ?_); rintro e w' ⟨a2, c2, rfl, HL2, HB2⟩)
     all_goals (go_wp2_with fail; go_meet)
     ·exact cut_one HN.out hSd (HMK.out w') HL2.out HB2.out
     ·exact cut_two HN.out hSm.out (HMK.out wr.drew) HL2.out HB2.out
    case rest =>
     obtain ⟨N, A, pa, pc, rfl, hA, hAW, hNA, hN, h0, h1, hL, hT, hB⟩ := hcut
     have k1 := inherit_any P wr.heap.size N A pc P.length pa wc HALL.out (by rw [HN.out]; exact h64) HSH.out hB.size hA hAW hNA h0 h1 hL hT
     have K1 := Lib.hid k1
     have HL := Lib.hid hL
     have HBC := Lib.hid hB
     have HC0 := Lib.hid h0
     have HC1 := Lib.hid h1
     clear k1 hL hT hB h0 h1 hmk1
     go_wp2_with fail
     refine (K1.out).mono ?_
     rintro e w' ⟨b, rfl, hb1, hb2, hb3, hb4⟩
     have HB1 := Lib.hid hb1
     have HB2 := Lib.hid hb2
     have HB3 := Lib.hid hb3
     have HB4 := Lib.hid hb4
     clear hb1 hb2 hb3 hb4
     cases b
     case false =>
      go_wp2
      go_ret2
      have hc := HB4.out (by first | rfl | trivial)
      have he : Tx.newE P = 9 := by
       unfold Tx.newE
       rw [if_neg (by rw [HN.out]; omega), if_neg (by rw [HALL.out]; decide)]
       exact @if_pos _ (Classical.propDecidable _) hc _ _ _
      exact .inl ⟨by rw [he]; decide, by rw [he]; rfl, Lib.hid (HBC.out.trans HB1.out)⟩
     case true =>
      go_wp2
      go_ret2
      obtain ⟨hc, hr⟩ := HB3.out (by first | rfl | trivial)
      have hs := HB1.out.size
      have hk := HB2.out
      have hNb : N < wc.heap.size := block_there HC0.out
      exact .inr ⟨Tx.newE_ok.2 ⟨by rw [HN.out]; exact h64, HALL.out, hc⟩, N, rfl, Lib.hid ⟨⟨by rw [HN.out]; exact h64, HALL.out, hc⟩, pa, pc, A, P.length, (cell_of_block (hk N hNb hNA) 0).trans HC0.out, (cell_of_block (hk N hNb hNA) 1).trans HC1.out, by omega, (HL.out.keep hs fun b hb hbs => hk b hbs hb).le, hr⟩, Lib.hid (HBC.out.trans HB1.out)⟩
end Go.Proofs.YtgnloodmbgdgdaaGreat
