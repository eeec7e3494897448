import Derived.Test.YtgnloodmbgdgdaaGreatFB06
import Derived.Test.YtgnloodmbgdgdaaGreatFB08
import Derived.Test.YtgnloodmbgdgdaaGreatFB03
import Derived.Test.YtgnloodmbgdgdaaGreatFB01
namespace Go.Proofs.YtgnloodmbgdgdaaGreat
open Go.RowKit Go.Shelf
set_option maxHeartbeats 2000000 in
theorem txvalid_any (n : Nat) (sv : Value) (zs : List Int) (w : World) (h : Els .i64 w sv zs) (hl : zs.length ≤ 100000) :
  Calls Tryz.prog 95 #[sv, .int .i64 (n : Int)] w fun e w' => e = .returned (.bool (Tx.okB n (-1) zs)) ∧ w = w' := by
 obtain ⟨a, cap, rfl⟩ := h.shape
 have HE := Lib.hid h
 generalize hm : zs.length = m at *
 have HM := Lib.hid hm
 generalize hR : Tx.okB n (-1) zs = R at *
 have HR := Lib.hid hR
 clear h hm hR
 go_enter Tryz.func95, Tryz.ntmps95
 go_wp2
 go_loopw [5, 10] (fun v i wr => ∃ k : Nat, ∃ last : Int, k ≤ m ∧ i = .int .i64 k ∧ v = .int .i64 last ∧ Hid (R = Tx.okB n last (zs.drop k)) ∧ wr = w) (fun _ i _ => m - (intOf i).toNat)
 case atStart => exact ⟨0, -1, Nat.zero_le _, rfl, rfl, Lib.hid HR.out.symm, rfl⟩
 case round =>
  obtain ⟨k, last, hk, rfl, rfl, hok, rfl⟩ := hrel
  by_cases hlt : k < m
  ·obtain ⟨b, off, rfl, hcl⟩ := HE.out.at k hlt
   have hd : zs.drop k = zs[k]?.getD 0 :: zs.drop (k + 1) := by
    rw [List.drop_eq_getElem_cons (by rw [HM.out]; exact hlt), List.getElem?_eq_getElem (by rw [HM.out]; exact hlt)]; rfl
   have hok2 := hok.out
   rw [hd] at hok2
   unfold Tx.okB at hok2
   generalize zs[k]?.getD 0 = z at *
   have HO := Lib.hid hok2
   have hki : (k : Int) < m := by omega
   clear hd hok2 hok
   by_cases h1 : z ≤ last
   ·have h1' : decide (z ≤ last) = true := decide_eq_true h1
    go_wp2
    go_ret
    exact ⟨ret_bool (by have := HO.out; rw [if_pos (.inl (by have := of_decide_eq_true h1'; omega))] at this; exact this.symm), rfl⟩
   ·have h1' : decide (z ≤ last) = false := decide_eq_false h1
    have H1 := Lib.hid h1
    clear h1
    by_cases h2 : (n : Int) ≤ z
    ·have h2' : decide (z ≥ (n : Int)) = true := decide_eq_true h2
     have H2 := Lib.hid h2
     clear h2
     go_wp2
     go_ret
     exact ⟨ret_bool (by have := HO.out; rw [if_pos (.inr H2.out)] at this; exact this.symm), rfl⟩
    ·have h2' : decide (z ≥ (n : Int)) = false := decide_eq_false h2
     have H2 := Lib.hid h2
     clear h2
     go_wp2
     go_roundw
     case rel => exact ⟨k + 1, z, by omega, by go_num, rfl, Lib.hid (by have := HO.out; rw [if_neg (fun h => h.elim H1.out H2.out)] at this; exact this), by first | rfl | trivial⟩
     case measure => simp [intOf]; omega
  ·have hki : (m : Int) ≤ (k : Int) := by omega
   have hend : R = true := by
    have := hok.out
    rw [List.drop_eq_nil_of_le (by rw [HM.out]; omega)] at this
    rw [this]; rfl
   have HEn := Lib.hid hend
   clear hend
   go_wp2
   go_ret
   exact ⟨ret_bool HEn.out.symm, rfl⟩
theorem clone_nil (w : World) :
  Calls Tryz.prog 149 #[.slice none 0 0] w fun e w' => Makes .i64 3 [] w e w' := by
 have q22 : ∀ (w : World) (a : Option Addr) (n c n' c' : Nat), (binOp .eql 22 (.slice a n c) (.slice none n' c')).run Tryz.prog w = .ok (.bool a.isNone) w := fun w a n c n' c' => Lib.run_eql_slice_nil w _ _ a n c n' c' Tryz.underlying22
 go_enter Tryz.func149, Tryz.ntmps149
 go_wp2
 go_ret
 exact makes_of (World.ownsRow_nil _ _ _ _) (Below.refl _ _)
theorem clone_some (x : Addr) (n c : Nat) (zs : List Int) (w : World) (hz : zs.length ≤ 100000000000) (h : Els .i64 w (.slice (some x) n c) zs) :
  Calls Tryz.prog 149 #[.slice (some x) n c] w fun e w' => Makes .i64 3 zs w e w' := by
 have q22 : ∀ (w : World) (a : Option Addr) (n c n' c' : Nat), (binOp .eql 22 (.slice a n c) (.slice none n' c')).run Tryz.prog w = .ok (.bool a.isNone) w := fun w a n c n' c' => Lib.run_eql_slice_nil w _ _ a n c n' c' Tryz.underlying22
 have HI := Lib.hid Tryz.infoI64
 have HZ := Lib.hid hz
 have HE := Lib.hid h
 clear h hz
 go_enter Tryz.func149, Tryz.ntmps149
 go_wp2_with (at_builtin; go_loud (refine push_all rfl _ _ 22 rfl .i64 3 8 Tryz.underlying22 HI.out (by decide) w.heap.size _ [] _ zs rfl rfl (World.ownsRow_made w #[] 0 (Nat.le_refl _) (Nat.zero_le _) rfl) (HE.out.below ((Below.refl _ w).alloc (Nat.le_refl _) _)) (by simp) (by have := HZ.out; simp; omega) ?_); intro a2 n2 c2 w2 hn2 hO2 hB2)
 go_ret
 exact makes_of hO2.out (((Below.refl _ w).alloc (Nat.le_refl _) _).trans hB2.out)
theorem clone_any (sv : Value) (zs : List Int) (w : World) (hz : zs.length ≤ 100000000000) (h : Els .i64 w sv zs) :
  Calls Tryz.prog 149 #[sv] w fun e w' => Makes .i64 3 zs w e w' := by
 obtain ⟨a, c, rfl⟩ := h.shape
 cases a with
 | some x => exact clone_some x _ c zs w hz h
 | none =>
  rcases h with ⟨he, rfl⟩ | ⟨b, off, cap, hb, he, hl, hc⟩
  ·rcases he with he | ⟨x, cap, he⟩
   ·cases he
    exact clone_nil w
   ·cases he
  ·cases he
theorem Own.ein {E : TypeId} {B : Nat} {w : World} {sv : Value} {zs : List Int} (h : Own .i64 E B w sv zs) : EIn (B ≤ ·) w sv zs := by
 obtain ⟨_, ⟨rfl, hz⟩ | ⟨g, cap, cur, rfl, hB, hg, hcap, _, hsz, ht⟩⟩ := h
 ·exact .inl ⟨.inl rfl, List.eq_nil_of_length_eq_zero hz⟩
 ·refine .inr ⟨g, 0, cap, hB, (Array.getElem?_eq_some_iff.1 hg).1, rfl, hcap, ?_⟩
  intro j hj
  have e : cur[j]? = some (Value.int .i64 (zs[j]?.getD 0)) := by
   rw [← Array.getElem?_toList, ← List.getElem?_take_of_lt (show j < zs.length * 1 by omega), ht, List.getElem?_map, List.getElem?_eq_getElem hj]
   rfl
  rw [Nat.zero_add]
  unfold World.cell?
  simp only [hg]
  exact e
def LMake (P : List (List Int)) (w : World) (e : Ending) (w' : World) : Prop :=
 ∃ a c, e = .returned (.slice a P.length c) ∧ Hid (LIn (w.heap.size ≤ ·) w' (.slice a P.length c) P) ∧ Hid (Below w.heap.size w w')
def CL (P : List (List Int)) (G n k : Nat) (E : TypeId) (w W : World) : Prop :=
 Below w.heap.size w W ∧ ∃ vs : List Value, W.ownsRow w.heap.size E 1 (.slice (some ⟨G, 0, none⟩) n n) n vs ∧ vs.length = n ∧ ∀ j, j < k → ∃ v, vs[j]? = some v ∧ EIn (G < ·) W v (Tx.row P j)
theorem CL.cell {P : List (List Int)} {G n k : Nat} {E : TypeId} {w W : World} (h : CL P G n k E w W) {j : Nat} (hj : j < n) : ∃ v, W.cell? ⟨G, j, none⟩ = some v ∧ W.frozen? ⟨G, j, none⟩ = false := by
 obtain ⟨_, vs, hO, hl, _⟩ := h
 exact ⟨_, (hO.cellAt j (by omega)).trans (List.getElem?_eq_getElem (by omega)), hO.frozenAt j⟩
theorem CL.step {P : List (List Int)} {G n k : Nat} {E : TypeId} {w W W2 : World} (h : CL P G n k E w W) (hG : G = w.heap.size) (hB : Below W.heap.size W W2) {v : Value} (he : EIn (W.heap.size ≤ ·) W2 v (Tx.row P k)) (hk : k < n) (hGW : G < W.heap.size) : CL P G n (k + 1) E w (W2.setCell ⟨G, k, none⟩ v) := by
 obtain ⟨hb, vs, hO, hl, hat⟩ := h
 refine ⟨(hb.trans (hB.mono hb.size)).setCell (p := ⟨G, k, none⟩) (Nat.le_of_eq hG.symm) v, vs.set k v, ((owns_below hO hB).stored k v).1, by rw [List.length_set]; exact hl, fun j hj => ?_⟩
 have keepS : ∀ {u : Value} {zs : List Int}, EIn (G < ·) W2 u zs → EIn (G < ·) (W2.setCell ⟨G, k, none⟩ v) u zs := fun h => h.keep (by simp [World.setCell]) fun b hb _ => Below.heap_setCell _ _ _ _ (by show b ≠ G; omega)
 by_cases e : j = k
 ·subst e
  exact ⟨v, by rw [List.getElem?_set_self (by omega)], keepS (he.mono fun b _ hb => by omega)⟩
 ·obtain ⟨u, hu, hE⟩ := hat j (by omega)
  exact ⟨u, by rw [List.getElem?_set_ne (Ne.symm e)]; exact hu, keepS (hE.keep hB.size fun b _ hb => hB.block b hb)⟩
theorem CL.done {P : List (List Int)} {G : Nat} {E : TypeId} {w W : World} (h : CL P G P.length P.length E w W) (hG : G = w.heap.size) : LIn (w.heap.size ≤ ·) W (.slice (some ⟨G, 0, none⟩) P.length P.length) P := by
 obtain ⟨hb, vs, hO, hl, hat⟩ := h
 have hGW : G < W.heap.size := by
  rcases hO.2 with ⟨hv, _⟩ | ⟨g, cap, cur, hv, _, hg, _⟩
  ·cases hv
  ·cases hv; exact (Array.getElem?_eq_some_iff.1 hg).1
 refine .inr ⟨G, P.length, Nat.le_of_eq hG.symm, hGW, rfl, Nat.le_refl _, fun j l hj => ?_⟩
 have hjl := (List.getElem?_eq_some_iff.1 hj).1
 obtain ⟨v, hv, hE⟩ := hat j hjl
 refine ⟨v, (hO.cellAt j (by omega)).trans hv, ?_⟩
 have e : Tx.row P j = l := by unfold Tx.row; rw [hj]; rfl
 rw [← e]
 exact hE.mono fun b _ hb => by omega
theorem Tryz.infoSl : (Tryz.prog.info? 22).map (fun i => (i.zero, i.size, i.bytes)) = some (some (.slice none 0 0), 1, 24) := by kernel_rfl
set_option maxHeartbeats 4000000 in
set_option maxRecDepth 100000 in
theorem cloneLists_any (sv : Value) (P : List (List Int)) (w : World) (h : LE w sv P) (hP : P.length ≤ 100000) (hsh : ∀ c, (Tx.row P c).length ≤ 100000) :
  Calls Tryz.prog 96 #[sv] w (LMake P w) := by
 obtain ⟨a, cap, rfl⟩ := LIn.shape h
 obtain ⟨i0, hi, hz0, hz1, hz2⟩ := info_parts Tryz.infoSl
 have HI := Lib.hid hi
 have HZ := Lib.hid hz0
 have HZ1 := Lib.hid hz1
 have HZ2 := Lib.hid hz2
 have HLE := Lib.hid h
 have HSH := Lib.hid hsh
 generalize hn : P.length = n at *
 have HN := Lib.hid hn
 clear h hsh hn hi hz0 hz1 hz2
 go_enter Tryz.func96, Tryz.ntmps96
 go_wp2_with (at_make; go_loud (refine wpList_make_full _ rfl _ _ 34 rfl w.heap.size 22 i0 (.slice none 0 0) 1 Tryz.underlying34 HI.out HZ.out HZ1.out .i64 .i64 n n n rfl rfl rfl rfl (by rw [HZ2.out]; omega) (by unfold maxLen; omega) (Nat.le_refl _) ?_); intro w2 hown hgrow; have HO2 := Lib.hid hown; have HG2 := Lib.hid hgrow; clear hown hgrow)
 have HC0 : Hid (CL P w.heap.size n 0 22 w w2) := ⟨(Below.refl _ w).grown HG2.out (Nat.le_refl _) (fun k hk => by cases hk), _, HO2.out, by rw [Array.length_toList, size_madeCells, Nat.mul_one], fun j hj => by omega⟩
 go_loopw [10] (fun i wr => ∃ k : Nat, k ≤ n ∧ i = .int .i64 k ∧ Hid (CL P w.heap.size n k 22 w wr)) (fun i _ => n - (intOf i).toNat)
 case atStart => exact ⟨0, Nat.zero_le _, rfl, HC0⟩
 case round =>
  obtain ⟨k, hk, rfl, hC⟩ := hrel
  by_cases hlt : k < n
  ·obtain ⟨b, aj, nj, cj, rfl, hrow, hER, hnj, -⟩ := LIn.at (LE.below hC.out.1 HLE.out) k hlt
   have hels := hER.els
   have hle := HSH.out k
   have k1 := Lib.hid (clone_any _ _ wr (by omega) hels)
   have hki : (k : Int) < n := by omega
   clear hER hnj hels hle
   go_wp2_with fail
   refine (k1.out).mono ?_
   rintro e w3 ⟨a3, n3, c3, rfl, HN3, O3, B3⟩
   obtain ⟨v, hcv, hcf⟩ := hC.out.cell hlt
   have hGW := block_there hcv
   have hcv3 := (B3.out.cell (p := ⟨w.heap.size, k, none⟩) hGW).trans hcv
   have hcf3 := (B3.out.frozen (p := ⟨w.heap.size, k, none⟩) hGW).trans hcf
   have HST := Lib.hid (hC.out.step rfl B3.out O3.out.ein hlt hGW)
   clear hcv hcf hrow
   go_wp2
   go_roundw
   case rel => exact ⟨k + 1, by omega, by go_num, HST⟩
   case measure => simp [intOf]; omega
  ·have hkn : k = n := by omega
   have hki : (n : Int) ≤ (k : Int) := by omega
   have HKN := Lib.hid hkn
   clear hkn
   go_wp2
   go_ret
   have h1 := hC.out
   rw [HKN.out, ← HN.out] at h1
   refine ⟨some ⟨w.heap.size, 0, none⟩, P.length, by rw [HN.out]; rfl, Lib.hid (h1.done rfl), Lib.hid h1.1⟩
end Go.Proofs.YtgnloodmbgdgdaaGreat
namespace Go.Proofs.YtgnloodmbgdgdaaGreat
open Go.RowKit Go.Shelf
theorem Tryz.infoCls : (Tryz.prog.info? 126).map (fun i => (i.zero, i.size, i.bytes)) = some (some (.agg (bl fun _ => false).toArray), 64, 64) := by kernel_rfl
theorem make_tab (n : Nat) (hn : n ≤ 64) : ∃ mk : World → World, ∀ W, (Instr.makeSlice 127 (.int .i64 (n : Int)) (.int .i64 (n : Int))).run Tryz.prog W = .ok (.slice (some ⟨W.heap.size, 0, none⟩) n n) (mk W) ∧
  W.heap.size < (mk W).heap.size ∧ Below W.heap.size W (mk W) ∧ ∀ c, c < n → ∀ d, d < 64 → Cel (mk W) W.heap.size (c * 64 + d) (.bool false) := by
 obtain ⟨i0, hi, hz0, hz1, hz2⟩ := info_parts Tryz.infoCls
 have h : ∀ W : World, ∃ w', (Instr.makeSlice 127 (.int .i64 (n : Int)) (.int .i64 (n : Int))).run Tryz.prog W = .ok (.slice (some ⟨W.heap.size, 0, none⟩) n n) w' ∧
   W.heap.size < w'.heap.size ∧ Below W.heap.size W w' ∧ ∀ c, c < n → ∀ d, d < 64 → Cel w' W.heap.size (c * 64 + d) (.bool false) := fun W => by
  obtain ⟨w', h1, h2, h3⟩ := run_make_full (P := Tryz.prog) (w := W) W.heap.size 127 126 i0 _ 64 Tryz.underlying127 hi hz0 hz1 .i64 .i64 n (by rw [hz2]; omega) (by unfold maxLen; omega) (Nat.le_refl _)
  refine ⟨w', h1, ?_, (Below.refl _ W).grown h3 (Nat.le_refl _) (fun k hk => by cases hk), fun c hc d hd => ⟨?_, h2.frozenAt _⟩⟩
  ·rcases h2.2 with ⟨hv, _⟩ | ⟨g, cap, cur, hv, _, hg, _⟩
   ·cases hv
   ·cases hv; exact (Array.getElem?_eq_some_iff.1 hg).1
  ·have hcn : (c + 1) * 64 ≤ n * 64 := Nat.mul_le_mul_right _ hc
   have hlt : c * 64 + d < n * 64 := by omega
   rw [h2.cellAt _ hlt]
   have hsz : (Value.agg (bl fun _ => false).toArray).cells.size = 64 := by simp [Value.cells, bl_len]
   simp only [madeCells, Array.getElem?_toList, Array.getElem?_map, Array.getElem?_range, hlt, hsz]
   have e : (c * 64 + d) % 64 = d := by omega
   have e2 : (Value.agg (bl fun _ => false).toArray).cells[d]? = some (.bool false) := by
    show (bl fun _ => false).toArray[d]? = _
    rw [List.getElem?_toArray]
    exact (bits_bl _).2 d hd
   simp [e, getElem!_def, e2]
 exact ⟨fun W => Classical.choose (h W), fun W => Classical.choose_spec (h W)⟩
def NewPost (P : List (List Int)) (w : World) (e : Ending) (w' : World) : Prop :=
 (Tx.newE P ≠ 0 ∧ e = .returned (.tuple #[.pointer none, .int .i64 (Tx.newE P)]) ∧ Hid (Below w.heap.size w w')) ∨
 (Tx.newE P = 0 ∧ ∃ N, e = .returned (.tuple #[.pointer (some ⟨N, 0, none⟩), .int .i64 0]) ∧ Hid (TxAt N P w') ∧ Hid (Below w.heap.size w w'))
def CutT (P : List (List Int)) (w : World) (v : Value) (W : World) : Prop := ∃ N A pa pc, v = .pointer (some ⟨N, 0, none⟩) ∧ w.heap.size ≤ A ∧ A < W.heap.size ∧ N ≠ A ∧ w.heap.size ≤ N ∧
 W.cell? ⟨N, 0, none⟩ = some (.slice pa P.length pc) ∧ W.cell? ⟨N, 1, none⟩ = some (.slice (some ⟨A, 0, none⟩) P.length P.length) ∧ LIn (fun b => b ≠ A) W (.slice pa P.length pc) P ∧
 (∀ c, c < P.length → ∀ d, d < 64 → Cel W A (c * 64 + d) (.bool false)) ∧ Below w.heap.size w W
theorem cutT_of {P : List (List Int)} {w W : World} {A pc : Nat} {pa : Option Addr} (T : TypeId) (hA : w.heap.size ≤ A) (hAW : A < W.heap.size) (hL : LIn (fun b => b ≠ A) W (.slice pa P.length pc) P)
  (hT : ∀ c, c < P.length → ∀ d, d < 64 → Cel W A (c * 64 + d) (.bool false)) (hB : Below w.heap.size w W) :
  CutT P w (.pointer (some ⟨W.heap.size, 0, none⟩)) (W.alloc (.cells #[.slice pa P.length pc, .slice (some ⟨A, 0, none⟩) P.length P.length] T)) := by
 have hB2 : Below W.heap.size W (W.alloc (.cells #[.slice pa P.length pc, .slice (some ⟨A, 0, none⟩) P.length P.length] T)) := (Below.refl _ W).alloc (Nat.le_refl _) _
 have hn := heap_new W (.cells #[.slice pa P.length pc, .slice (some ⟨A, 0, none⟩) P.length P.length] T)
 refine ⟨W.heap.size, A, pa, pc, rfl, hA, by simp; omega, by omega, by omega, ?_, ?_, hL.keep hB2.size fun b _ hb => hB2.block b hb, fun c hc d hd => (hT c hc d hd).below hB2, hB.alloc (by omega) _⟩
 ·unfold World.cell?
  simp only [hn]
  rfl
 ·unfold World.cell?
  simp only [hn]
  rfl
theorem cut_one {P : List (List Int)} {n : Nat} {wr w' W : World} {a2 : Option Addr} {c2 : Nat} {T : TypeId} (hn : P.length = n) (hS : Since wr wr.drew) (hm : w'.heap.size < W.heap.size ∧ Below w'.heap.size w' W ∧ ∀ c, c < n → ∀ d, d < 64 → Cel W w'.heap.size (c * 64 + d) (.bool false))
  (hL : LIn (wr.drew.heap.size ≤ ·) w' (.slice a2 P.length c2) P) (hB : Below wr.drew.heap.size wr.drew w') :
  CutT P wr (.pointer (some ⟨W.heap.size, 0, none⟩)) (W.alloc (.cells #[.slice a2 P.length c2, .slice (some ⟨w'.heap.size, 0, none⟩) n n] T)) := by
 subst hn
 exact cutT_of T (Since.step hS hB).size hm.1 ((hL.mono fun b hb _ => by omega).keep hm.2.1.size fun b _ hb => hm.2.1.block b hb) hm.2.2 (Since.step (Since.step hS hB) hm.2.1)
theorem cut_two {P : List (List Int)} {n : Nat} {wr w' W : World} {a2 : Option Addr} {c2 : Nat} {T : TypeId} (hn : P.length = n) (hS : Since wr W) (hm : wr.drew.heap.size < W.heap.size ∧ Below wr.drew.heap.size wr.drew W ∧ ∀ c, c < n → ∀ d, d < 64 → Cel W wr.drew.heap.size (c * 64 + d) (.bool false))
  (hL : LIn (W.heap.size ≤ ·) w' (.slice a2 P.length c2) P) (hB : Below W.heap.size W w') :
  CutT P wr (.pointer (some ⟨w'.heap.size, 0, none⟩)) (w'.alloc (.cells #[.slice a2 P.length c2, .slice (some ⟨wr.heap.size, 0, none⟩) n n] T)) := by
 subst hn
 have h1 : wr.drew.heap.size < W.heap.size := hm.1
 have h2 := hB.size
 exact cutT_of (A := wr.drew.heap.size) T (Nat.le_refl _) (by omega) (hL.mono fun b _ hb => by omega) (fun c hc d hd => (hm.2.2 c hc d hd).below hB) (Since.step hS hB)
theorem short_rows {P : List (List Int)} (h : ∀ l ∈ P, l.length ≤ 100000) (c : Nat) : (Tx.row P c).length ≤ 100000 := by
 unfold Tx.row
 cases hc : P[c]? with
 | none => simp
 | some l => exact h l (List.mem_of_getElem? hc)
set_option maxHeartbeats 8000000 in
set_option maxRecDepth 100000 in
theorem txnew_any (sv : Value) (P : List (List Int)) (w : World) (h : LE w sv P) (hP : P.length ≤ 100000) (hsh : ∀ l ∈ P, l.length ≤ 100000) :
  Calls Tryz.prog 53 #[sv] w (NewPost P w) := by
 obtain ⟨a, cap, rfl⟩ := LIn.shape h
 have HLE := Lib.hid h
 have HSH := Lib.hid (short_rows hsh)
 by_cases hbig : 64 < P.length
 ·have he : Tx.newE P = 4 := by unfold Tx.newE; exact if_pos hbig
  have HE := Lib.hid he
  have hbi : decide ((P.length : Int) > 64) = true := decide_eq_true (by omega)
  clear h hsh he hP
  generalize hn : P.length = n at *
  clear hn
  go_enter Tryz.func53, Tryz.ntmps53
  go_wp2
  go_ret2
  exact .inl ⟨by rw [HE.out]; decide, by rw [HE.out]; rfl, Lib.hid (Below.refl _ _)⟩
 ·have hbi : decide ((P.length : Int) > 64) = false := decide_eq_false (by omega)
  generalize hn : P.length = n at *
  have HN := Lib.hid hn
  clear h hsh hn hP
  have h64 : n ≤ 64 := by omega
  clear hbig
  go_enter Tryz.func53, Tryz.ntmps53
  go_wp2
  go_loopw [12] (fun i wr => ∃ k : Nat, k ≤ n ∧ i = .int .i64 k ∧ Hid ((P.take k).all (Tx.okB n (-1)) = true) ∧ wr = w) (fun i _ => n - (intOf i).toNat)
  case atStart => exact ⟨0, Nat.zero_le _, rfl, rfl, rfl⟩
  case round =>
   obtain ⟨k, hk, rfl, hok, rfl⟩ := hrel
   by_cases hlt : k < n
   ·obtain ⟨b, aj, nj, cj, rfl, hrow, hER, hnj, -⟩ := LIn.at HLE.out k hlt
    have hle := HSH.out k
    have k1 := txvalid_any n _ _ wr hER.els hle
    have hsn : (P.take (k + 1)).all (Tx.okB n (-1)) = Tx.okB n (-1) (Tx.row P k) := by
     have hkP : k < P.length := by rw [HN.out]; exact hlt
     rw [List.take_add_one, List.all_append, hok.out, List.getElem?_eq_getElem hkP]
     unfold Tx.row
     rw [List.getElem?_eq_getElem hkP]
     simp
    have hfal : Tx.okB n (-1) (Tx.row P k) = false → Tx.newE P = 1 := fun hf => by
     have hkP : k < P.length := by rw [HN.out]; exact hlt
     have : Tx.okAll P.length P = false := by
      rw [HN.out]
      refine Bool.eq_false_iff.2 fun hh => ?_
      have := List.all_eq_true.1 hh P[k] (List.getElem_mem hkP)
      have e : Tx.row P k = P[k] := by unfold Tx.row; rw [List.getElem?_eq_getElem hkP]; rfl
      rw [e, this] at hf
      cases hf
     unfold Tx.newE
     rw [if_neg (by rw [HN.out]; omega), if_pos this]
    generalize Tx.okB n (-1) (Tx.row P k) = B at *
    have HSN := Lib.hid hsn
    have HFA := Lib.hid hfal
    have K1 := Lib.hid k1
    have hki : (k : Int) < n := by omega
    clear hER hnj hle hsn hfal k1
    go_wp2_with fail
    refine (K1.out).mono ?_
    rintro e w' ⟨rfl, rfl⟩
    cases B
    case false =>
     go_wp2
     go_ret2
     have h1 := HFA.out (by first | rfl | trivial)
     exact .inl ⟨by rw [h1]; decide, by rw [h1]; rfl, Lib.hid (Below.refl _ _)⟩
    case true =>
     go_wp2
     go_roundw
     case rel => exact ⟨k + 1, by omega, by go_num, HSN, by first | rfl | trivial⟩
     case measure => simp [intOf]; omega
   ·have hkn : k = n := by omega
    have hki : (n : Int) ≤ (k : Int) := by omega
    have hall : Tx.okAll P.length P = true := by
     have := hok.out
     rw [hkn, ← HN.out, List.take_length] at this
     exact this
    have HALL := Lib.hid hall
    obtain ⟨mk, hmk⟩ := make_tab n h64
    have hmk1 := fun W => (hmk W).1
    have HMK := Lib.hid fun W => (hmk W).2
    have hcl := fun (W : World) (hB : Below wr.heap.size wr W) => cloneLists_any _ P W (LE.below hB HLE.out) (by rw [HN.out]; omega) HSH.out
    have HCL := Lib.hid hcl
    clear hkn hall hmk hcl
    go_upto_region 9 with (fail)
    go_cut [6] (fun s wx => CutT P wr s wx)
    case first =>
     have hSd : Since wr wr.drew := Below.drew (Below.refl _ _)
     have hSm := Lib.hid (Since.step hSd (HMK.out wr.drew).2.1)
     go_region_with (go_at_call 96; (first | refine (HCL.out _ hSd).mono ?_ | refine (HCL.out _ hSm.out).mono ?_); rintro e w' ⟨a2, c2, rfl, HL2, HB2⟩)
     all_goals (go_wp2_with fail; go_meet)
     ·exact cut_one HN.out hSd (HMK.out w') HL2.out HB2.out
     ·exact cut_two HN.out hSm.out (HMK.out wr.drew) HL2.out HB2.out
    case rest =>
     obtain ⟨N, A, pa, pc, rfl, hA, hAW, hNA, hN, h0, h1, hL, hT, hB⟩ := hcut
     have k1 := inherit_any P wr.heap.size N A pc P.length pa wc HALL.out (by rw [HN.out]; exact h64) HSH.out hB.size hA hAW hNA h0 h1 hL hT
     have K1 := Lib.hid k1
     have HL := Lib.hid hL
     have HBC := Lib.hid hB
     have HC0 := Lib.hid h0
     have HC1 := Lib.hid h1
     clear k1 hL hT hB h0 h1 hmk1
     go_wp2_with fail
     refine (K1.out).mono ?_
     rintro e w' ⟨b, rfl, hb1, hb2, hb3, hb4⟩
     have HB1 := Lib.hid hb1
     have HB2 := Lib.hid hb2
     have HB3 := Lib.hid hb3
     have HB4 := Lib.hid hb4
     clear hb1 hb2 hb3 hb4
     cases b
     case false =>
      go_wp2
      go_ret2
      have hc := HB4.out (by first | rfl | trivial)
      have he : Tx.newE P = 9 := by
       unfold Tx.newE
       rw [if_neg (by rw [HN.out]; omega), if_neg (by rw [HALL.out]; decide)]
       exact @if_pos _ (Classical.propDecidable _) hc _ _ _
      exact .inl ⟨by rw [he]; decide, by rw [he]; rfl, Lib.hid (HBC.out.trans HB1.out)⟩
     case true =>
      go_wp2
      go_ret2
      obtain ⟨hc, hr⟩ := HB3.out (by first | rfl | trivial)
      have hs := HB1.out.size
      have hk := HB2.out
      have hNb : N < wc.heap.size := block_there HC0.out
      exact .inr ⟨Tx.newE_ok.2 ⟨by rw [HN.out]; exact h64, HALL.out, hc⟩, N, rfl, Lib.hid ⟨⟨by rw [HN.out]; exact h64, HALL.out, hc⟩, pa, pc, A, P.length, (cell_of_block (hk N hNb hNA) 0).trans HC0.out, (cell_of_block (hk N hNb hNA) 1).trans HC1.out, by omega, (HL.out.keep hs fun b hb hbs => hk b hbs hb).le, hr⟩, Lib.hid (HBC.out.trans HB1.out)⟩
end Go.Proofs.YtgnloodmbgdgdaaGreat
namespace Go.Proofs.YtgnloodmbgdgdaaGreat
open Go.RowKit Go.Shelf
def LOwn (B : Nat) (w : World) (v : Value) (P : List (List Int)) : Prop :=
 ∃ vs : List Value, w.ownsRow B 22 1 v P.length vs ∧ vs.length = P.length ∧ ∀ (j : Nat) (l : List Int), P[j]? = some l → ∃ x, vs[j]? = some x ∧ EIn (fun b => B ≤ b ∧ v.ownBlock ≠ some b) w x l
theorem LOwn.nil (B : Nat) (w : World) : LOwn B w (.slice none 0 0) [] := ⟨[], World.ownsRow_nil _ _ _ _, rfl, fun j l h => by simp at h⟩
theorem LOwn.below {B : Nat} {w w' : World} {v : Value} {P : List (List Int)} (h : LOwn B w v P) (hB : Below w.heap.size w w') : LOwn B w' v P := by
 obtain ⟨vs, h1, h2, h3⟩ := h
 refine ⟨vs, owns_below h1 hB, h2, fun j l hl => ?_⟩
 obtain ⟨x, hx, hE⟩ := h3 j l hl
 exact ⟨x, hx, hE.keep hB.size fun b _ hb => hB.block b hb⟩
theorem LOwn.base {B B' : Nat} {w : World} {v : Value} {P : List (List Int)} (h : LOwn B w v P) (hB : B' ≤ B) : LOwn B' w v P := by
 obtain ⟨vs, ⟨h1, h2⟩, h3, h4⟩ := h
 refine ⟨vs, ⟨h1, ?_⟩, h3, fun j l hl => ?_⟩
 ·rcases h2 with h2 | ⟨g, cap, cur, hv, hg, r⟩
  ·exact .inl h2
  ·exact .inr ⟨g, cap, cur, hv, Nat.le_trans hB hg, r⟩
 ·obtain ⟨x, hx, hE⟩ := h4 j l hl
  exact ⟨x, hx, hE.mono fun b _ hb => ⟨Nat.le_trans hB hb.1, hb.2⟩⟩
theorem LOwn.lin {B : Nat} {w : World} {v : Value} {P : List (List Int)} (h : LOwn B w v P) : LIn (B ≤ ·) w v P := by
 obtain ⟨vs, hO, h2, h3⟩ := h
 rcases hO.2 with ⟨hv, hn⟩ | ⟨g, cap, cur, hv, hg, hh, hcap, _, hsz, htk⟩
 ·exact .inl ⟨.inl hv, List.eq_nil_of_length_eq_zero hn⟩
 ·subst hv
  refine .inr ⟨g, cap, hg, (Array.getElem?_eq_some_iff.1 hh).1, rfl, hcap, fun j l hl => ?_⟩
  obtain ⟨x, hx, hE⟩ := h3 j l hl
  have hj := (List.getElem?_eq_some_iff.1 hl).1
  exact ⟨x, (hO.cellAt j (by omega)).trans hx, hE.mono fun b _ hb => hb.1⟩
theorem LOwn.slice {B : Nat} {w : World} {v : Value} {P : List (List Int)} (h : LOwn B w v P) : ∃ a n c, v = .slice a n c ∧ Hid (n = P.length) ∧ Hid (LOwn B w (.slice a n c) P) := by
 obtain ⟨a, c, rfl⟩ := h.lin.shape
 exact ⟨a, _, c, rfl, rfl, h⟩
theorem EIn.one {S : Nat → Prop} {w : World} {x : Value} {l : List Int} (h : EIn S w x l) : x.oneCell' = true := by
 obtain ⟨a, c, rfl⟩ := h.els.shape
 rfl
theorem push_list {ops : Array Oper} {rest : List Oper} {o : Oper} {act : Act} {Q : Exit → Act → World → Prop} {w : World} (hgd : o.guard = none) (s x : Operand)
  (ho : o.op = .call { callee := .builtin .append, args := #[s, x], argTypes := #[34, 34] }) (B : Nat) (v : Value) (P : List (List Int)) (l : List Int) (xv : Value) (T : TypeId)
  (hs : act.eval s = v) (g0 : Nat) (hg0 : w.heap.size = g0) (hx : act.eval x = .slice (some ⟨g0, 0, none⟩) 1 1) (hown : LOwn B w v P) (hB : B ≤ w.heap.size) (hl : P.length + 1 ≤ 1000000)
  (he : EIn (fun b => B ≤ b ∧ v.ownBlock ≠ some b) w xv l)
  (h : ∀ a n c w', Hid (n = P.length + 1) → Hid (LOwn B w' (.slice a n c) (P ++ [l])) → Hid (Below B w w') → wpList Tryz.prog ops Q rest (act.put o.dst (.slice a n c)) w') :
  wpList Tryz.prog ops Q (o :: rest) act (w.alloc (.cells #[xv] T)) := by
 subst hg0
 obtain ⟨i0, hi, hz0, hz1, hz2⟩ := info_parts Tryz.infoSl
 have hBA : Below w.heap.size w (w.alloc (.cells #[xv] T)) := (Below.refl _ w).alloc (Nat.le_refl _) _
 obtain ⟨vs, hO0, hvl, hat⟩ := hown
 have hO := owns_below hO0 hBA
 refine wpList_append_own_at _ hgd s x 34 ho B 22 i0 _ 1 24 Tryz.underlying34 hi hz0 hz1 hz2 rfl (by decide) v P.length vs hs hO ⟨w.heap.size, 0, none⟩ 1 1 [xv] hx rfl ?_ ?_ (by unfold maxLen; omega) (by omega) (by simp; omega) ?_
 ·exact one_new w xv T
 ·intro u hu
  simp at hu
  subst hu
  exact he.one
 ·intro v' w1 hO' hG _ hatb
  have hbl : Below B w w1 := (((Below.refl B w).alloc hB _).grown hG (by simp; omega) fun j hj => (World.ownsRow.lt hO j hj).1)
  have keep : ∀ {y : Value} {zs : List Int}, EIn (fun b => B ≤ b ∧ v.ownBlock ≠ some b) w y zs → EIn (fun b => B ≤ b ∧ v'.ownBlock ≠ some b) w1 y zs := fun {y zs} h => by
   have h1 : EIn (fun b => (B ≤ b ∧ v.ownBlock ≠ some b) ∧ b < w.heap.size) w y zs := h.mono fun b hb hS => ⟨hS, hb⟩
   have h2 : EIn (fun b => (B ≤ b ∧ v.ownBlock ≠ some b) ∧ b < w.heap.size) (w.alloc (.cells #[xv] T)) y zs := h1.keep hBA.size fun b _ hb => hBA.block b hb
   refine (h2.keep hG.size fun b hS hb => hG.block b hb (fun e => hS.1.2 e.symm)).mono fun b _ hS => ⟨hS.1.1, fun e => ?_⟩
   rcases hatb with h | h
   ·exact hS.1.2 (by rw [← h]; exact e)
   ·rw [h] at e
    simp at e
    have := hS.2
    omega
  have hV : LOwn B w1 v' (P ++ [l]) := by
   refine ⟨vs ++ [xv], by rw [List.length_append]; exact hO', by rw [List.length_append, List.length_append, hvl]; rfl, fun j l' hl' => ?_⟩
   by_cases hj : j < P.length
   ·rw [List.getElem?_append_left hj] at hl'
    obtain ⟨y, hy, hE⟩ := hat j l' hl'
    exact ⟨y, by rw [List.getElem?_append_left (by omega)]; exact hy, keep hE⟩
   ·have hjl := (List.getElem?_eq_some_iff.1 hl').1
    rw [List.length_append] at hjl
    simp at hjl
    have e : j = P.length := by omega
    subst e
    rw [List.getElem?_append_right (Nat.le_refl _)] at hl'
    simp at hl'
    subst hl'
    refine ⟨xv, by rw [List.getElem?_append_right (by omega), hvl]; simp, keep he⟩
  obtain ⟨a, n, c, rfl, hn, hO⟩ := hV.slice
  refine h a n c w1 ?_ hO hbl
  have := hn.out
  rw [List.length_append] at this
  exact this
structure GenP (most : Nat) (P : List (List Int)) : Prop where
 good : Tx.Good P
 pos : 0 < P.length
 le : P.length ≤ most
 short : ∀ l ∈ P, l.length ≤ most
end Go.Proofs.YtgnloodmbgdgdaaGreat
namespace Go.Proofs.YtgnloodmbgdgdaaGreat
open Go.RowKit Go.Shelf
structure RowC (n : Nat) (back : Bool) (k c : Nat) (zl : List Int) : Prop where
 ok : Tx.okB n (-1) zl = true
 len : zl.length ≤ c
 mem : ∀ x ∈ zl, x < (c : Int) ∧ ∀ d : Nat, x = (d : Int) → befB back d k = true
theorem RowC.nil (n : Nat) (back : Bool) (k : Nat) : RowC n back k 0 [] := ⟨rfl, Nat.le_refl _, fun x h => by cases h⟩
theorem RowC.skip {n : Nat} {back : Bool} {k c : Nat} {zl : List Int} (h : RowC n back k c zl) : RowC n back k (c + 1) zl := ⟨h.ok, Nat.le_succ_of_le h.len, fun x hx => ⟨by have := (h.mem x hx).1; omega, (h.mem x hx).2⟩⟩
theorem RowC.push {n : Nat} {back : Bool} {k c : Nat} {zl : List Int} (h : RowC n back k c zl) (hc : c < n) (hb : befB back c k = true) : RowC n back k (c + 1) (zl ++ [(c : Int)]) where
  ok := okB_snoc zl (-1) c h.ok (fun y hy => (h.mem y hy).1) (by omega) (by omega)
  len := by rw [List.length_append]; exact Nat.succ_le_succ h.len
  mem := fun x hx => by
    rcases List.mem_append.1 hx with hx | hx
    · exact ⟨by have := (h.mem x hx).1; omega, (h.mem x hx).2⟩
    · simp at hx
      subst hx
      exact ⟨by omega, fun d hd => by have : c = d := by omega
                                      rw [← this]; exact hb⟩
theorem own_apart {B : Nat} {E : TypeId} {w wo W : World} {v x : Value} {P : List (List Int)} {zs : List Int} (h : LOwn B wo v P) (hx : Own .i64 E wo.heap.size W x zs) (hB : Below w.heap.size w wo) (hw : B = w.heap.size := by rfl) : EIn (fun b => B ≤ b ∧ v.ownBlock ≠ some b) W x zs := by
 obtain ⟨vs, hO, _, _⟩ := h
 refine hx.ein.mono fun b _ hb => ⟨by have := hB.size; omega, fun e => ?_⟩
 have := (World.ownsRow.lt hO b e).2
 omega
def GenPost (most : Nat) (w : World) (e : Ending) (w' : World) : Prop :=
 ∃ P a n c, e = .returned (.slice a n c) ∧ GenP most P ∧ Hid (n = P.length) ∧ Hid (LOwn w.heap.size w' (.slice a n c) P) ∧ Hid (Below w.heap.size w w')
set_option maxHeartbeats 8000000 in
set_option maxRecDepth 100000 in
theorem parents_any (sv : Value) (zs : List Int) (most : Nat) (w : World) (hl : Els .i64 w sv zs) (hw : Wfs zs) (h1 : 1 ≤ most) (hm : most ≤ 60) :
  Calls Tryz.prog 55 #[sv, .int .i64 (most : Int)] w (GenPost most w) := by
 obtain ⟨a, cap, rfl⟩ := hl.shape
 have k0 := pick_any _ zs 0 (most : Int) w hl hw (by omega) (by omega) (by omega)
 have k1 := pick_any _ zs 1 2 w hl hw (by omega) (by omega) (by omega)
 have k2 := fun (W : World) (hB : Below w.heap.size w W) (i : Nat) (hi : i ≤ 1000) => pick_any _ zs i 1048576 W (hl.below hB) hw (by omega) (by omega) (by omega)
 have hr0 := pickI_range zs 0 (most : Int) (by omega)
 have hr2 := fun i => pickI_range zs i 1048576 (by omega)
 have K2 := Lib.hid k2
 have HR2 := Lib.hid hr2
 generalize pickI zs 0 (most : Int) = n0 at *
 generalize pickI zs 1 2 = b0 at *
 generalize zs.length = m at *
 obtain ⟨q, rfl⟩ := Int.eq_ofNat_of_zero_le hr0.1
 have hq : q < most := by omega
 have K0 := Lib.hid k0
 have K1 := Lib.hid k1
 clear k0 k1 k2 hr2 hl hw hr0
 go_enter Tryz.func55, Tryz.ntmps55
 go_wp2_with fail
 refine (K0.out).mono ?_
 rintro e w' ⟨rfl, rfl⟩
 go_wp2_with fail
 refine (K1.out).mono ?_
 rintro e w' ⟨rfl, rfl⟩
 go_wp2
 generalize hback : (b0 == 1) = back at *
 clear hback K0 K1
 go_loopw [7, 8] (fun v i wr => ∃ k : Nat, k ≤ q + 1 ∧ i = .int .i64 k ∧ ∃ ao no co P, v = .slice ao no co ∧ Hid (no = P.length) ∧ Hid (P.length = k) ∧ Hid (RowsOK (q + 1) back P) ∧ Hid (LOwn w.heap.size wr (.slice ao no co) P) ∧ Hid (Below w.heap.size w wr)) (fun _ i _ => (q + 1) - (intOf i).toNat)
 case atStart => exact ⟨0, Nat.zero_le _, rfl, none, 0, 0, [], rfl, rfl, rfl, Lib.hid fun i l h => by simp at h, Lib.hid (LOwn.nil _ _), Lib.hid (Below.refl _ _)⟩
 case round =>
  obtain ⟨k, hk, rfl, ao, no, co, P, rfl, hno, hPk, hR, hO, hB⟩ := hrel
  by_cases hlt : k < q + 1
  ·have k3 := K2.out wr hB.out (2 + k) (by omega)
   rw [Int.natCast_add] at k3
   obtain ⟨hr1, hr2⟩ := HR2.out (2 + k)
   generalize pickI zs (2 + k) 1048576 = kk at *
   have K3 := Lib.hid k3
   have hki : (k : Int) < 1 + q := by omega
   clear k3
   go_wp2_with fail
   refine (K3.out).mono ?_
   rintro e w' ⟨rfl, rfl⟩
   go_wp2
   rename World => wo
   have HI0 := Lib.hid Tryz.infoI64
   clear K3 hr1 hr2 HR2
   go_loopw [10, 11] (fun v i wr => ∃ c : Nat, c ≤ q + 1 ∧ i = .int .i64 c ∧ ∃ ap np cp zl, v = .slice ap np cp ∧ Hid (np = zl.length) ∧ Hid (RowC (q + 1) back k c zl) ∧ Hid (Own .i64 3 wo.heap.size wr (.slice ap np cp) zl) ∧ Hid (Below wo.heap.size wo wr)) (fun _ i _ => (q + 1) - (intOf i).toNat)
   case atStart => exact ⟨0, Nat.zero_le _, rfl, none, 0, 0, [], rfl, rfl, Lib.hid (RowC.nil _ _ _), Lib.hid (World.ownsRow_nil _ _ _ _), Lib.hid (Below.refl _ _)⟩
   case round =>
    obtain ⟨c, hc, rfl, ap, np, cp, zl, rfl, hnp, hRC, hOp, hBp⟩ := hrel
    by_cases hlt2 : c < q + 1
    ·have hci : (c : Int) < 1 + q := by omega
     by_cases hbf : befB back c k = true
     ·have HBF := Lib.hid hbf
      unfold befB at hbf
      cases back
      case false =>
       simp only [Bool.false_eq_true, if_false] at hbf
       go_wp2_with (at_builtin; refine push_own rfl _ _ 22 rfl .i64 3 8 Tryz.underlying22 HI0.out (by decide) wo.heap.size (.slice ap np cp) zl _ _ rfl rfl hOp.out hBp.out.size (by have := hRC.out.len; omega) ?_; intro a2 n2 c2 w2 hn2 hO2 hB2)
       ·go_roundw
        case rel => exact ⟨c + 1, by omega, by go_num, a2, n2, c2, zl ++ [(c : Int)], rfl, Lib.hid (by rw [List.length_append]; exact hn2.out), Lib.hid (hRC.out.push hlt2 HBF.out), hO2, Lib.hid (hBp.out.trans hB2.out)⟩
        case measure => simp [intOf]; omega
       ·go_roundw
        case rel => exact ⟨c + 1, by omega, by go_num, ap, np, cp, zl, rfl, hnp, Lib.hid hRC.out.skip, hOp, hBp⟩
        case measure => simp [intOf]; omega
      case true =>
       simp only [if_true] at hbf
       have hbf2 : decide (c > k) = true := hbf
       clear hbf
       go_wp2_with (at_builtin; refine push_own rfl _ _ 22 rfl .i64 3 8 Tryz.underlying22 HI0.out (by decide) wo.heap.size (.slice ap np cp) zl _ _ rfl rfl hOp.out hBp.out.size (by have := hRC.out.len; omega) ?_; intro a2 n2 c2 w2 hn2 hO2 hB2)
       ·go_roundw
        case rel => exact ⟨c + 1, by omega, by go_num, a2, n2, c2, zl ++ [(c : Int)], rfl, Lib.hid (by rw [List.length_append]; exact hn2.out), Lib.hid (hRC.out.push hlt2 HBF.out), hO2, Lib.hid (hBp.out.trans hB2.out)⟩
        case measure => simp [intOf]; omega
       ·go_roundw
        case rel => exact ⟨c + 1, by omega, by go_num, ap, np, cp, zl, rfl, hnp, Lib.hid hRC.out.skip, hOp, hBp⟩
        case measure => simp [intOf]; omega
     ·have hbf' : befB back c k = false := by simpa using hbf
      clear hbf
      unfold befB at hbf'
      cases back
      case false =>
       simp only [Bool.false_eq_true, if_false] at hbf'
       go_wp2_with (at_builtin; refine push_own rfl _ _ 22 rfl .i64 3 8 Tryz.underlying22 HI0.out (by decide) wo.heap.size (.slice ap np cp) zl _ _ rfl rfl hOp.out hBp.out.size (by have := hRC.out.len; omega) ?_; intro a2 n2 c2 w2 hn2 hO2 hB2)
       ·go_roundw
        case rel => exact ⟨c + 1, by omega, by go_num, ap, np, cp, zl, rfl, hnp, Lib.hid hRC.out.skip, hOp, hBp⟩
        case measure => simp [intOf]; omega
      case true =>
       simp only [if_true] at hbf'
       have hbf2 : decide (c > k) = false := hbf'
       clear hbf'
       go_wp2_with (at_builtin; refine push_own rfl _ _ 22 rfl .i64 3 8 Tryz.underlying22 HI0.out (by decide) wo.heap.size (.slice ap np cp) zl _ _ rfl rfl hOp.out hBp.out.size (by have := hRC.out.len; omega) ?_; intro a2 n2 c2 w2 hn2 hO2 hB2)
       ·go_roundw
        case rel => exact ⟨c + 1, by omega, by go_num, ap, np, cp, zl, rfl, hnp, Lib.hid hRC.out.skip, hOp, hBp⟩
        case measure => simp [intOf]; omega
    ·have hci : ¬ (c : Int) < 1 + q := by omega
     have hcq : c = q + 1 := by omega
     subst hcq
     have hEp : EIn (fun b => w.heap.size ≤ b ∧ (Value.slice ao no co).ownBlock ≠ some b) wr (.slice ap np cp) zl := own_apart hO.out hOp.out hB.out
     have HEp := Lib.hid hEp
     have HO2 := Lib.hid (hO.out.below hBp.out)
     have HB2 := Lib.hid (Since.step hB.out hBp.out)
     clear hEp
     go_wp2_with (at_builtin; refine push_list rfl _ _ rfl w.heap.size (.slice ao no co) P zl _ _ rfl _ rfl rfl HO2.out HB2.out.size (by have := hPk.out; omega) HEp.out ?_; intro a3 n3 c3 w3 hn3 hO3 hB3)
     go_roundw
     case rel => exact ⟨k + 1, by omega, by go_num, a3, n3, c3, P ++ [zl], rfl, Lib.hid (by rw [List.length_append]; exact hn3.out), Lib.hid (by rw [List.length_append, hPk.out]; rfl), Lib.hid (hR.out.snoc hRC.out.ok hRC.out.len (by rw [hPk.out]; exact fun x hx => (hRC.out.mem x hx).2)), hO3, Lib.hid (HB2.out.trans hB3.out)⟩
     case measure => simp [intOf]; omega
  ·have hki : ¬ (k : Int) < 1 + q := by omega
   have hkq : k = q + 1 := by omega
   have HKQ := Lib.hid hkq
   clear hkq
   go_wp2
   go_ret
   have h2 := hR.out
   have h3 : P.length = q + 1 := hPk.out.trans HKQ.out
   exact ⟨P, ao, no, co, rfl, ⟨rows_good h2 h3 (by omega), by omega, by omega, fun l hl => by
    obtain ⟨i, hi⟩ := List.getElem?_of_mem hl
    have := (h2 i l hi).2.1
    omega⟩, hno, hO, hB⟩
end Go.Proofs.YtgnloodmbgdgdaaGreat
