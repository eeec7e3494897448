/- The reference model's Sum, Bytes and Pair: what they return; nothing that lay has turned. -/
import Derived.Test.YtccinfjaggalcaaRefW
namespace Go.Proofs.Ytccinfjaggalcaa
open Go.RowKit Go.Shelf

theorem fold_step0 (zs : List Int) (a : Int) (k : Nat) (h : k < zs.length) : (zs.take (k + 1)).foldl Hm.mixI a = Hm.mixI ((zs.take k).foldl Hm.mixI a) (zs[k]?.getD 0) := by
  rw [List.take_succ_eq_append_getElem h, List.foldl_append, List.getElem?_eq_getElem h]
  rfl

/-- The bytes of a string, in a new row. -/
theorem bytes_world0 (w : World) (s : ByteArray) (cap : Nat) (T : TypeId) (fz : Nat × Nat) (hcap : s.size ≤ cap) (W : World)
    (hW : W = (w.alloc (.cells (bytesRow s cap) T fz)).drew) : Els .u8 W (.slice (some ⟨w.heap.size, 0, none⟩) s.size cap) (Hm.bs s) ∧ Below w.heap.size w W := by
  subst hW
  have hB : Below w.heap.size w (w.alloc (.cells (bytesRow s cap) T fz)).drew := ((Below.refl _ w).alloc (Nat.le_refl _) _).drew
  refine ⟨?_, hB⟩
  have h := elems_bytesRow s cap w.heap.size hcap (w.alloc (.cells (bytesRow s cap) T fz)).drew T fz (heap_new w _)
  rcases h with ⟨he, hz⟩ | ⟨off, c, he, hl, hc⟩
  · exact .inl ⟨he, hz⟩
  · exact .inr ⟨w.heap.size, off, c, by show _ < (w.alloc _).heap.size; simp, he, hl, hc⟩

set_option maxRecDepth 100000 in
set_option maxHeartbeats 2000000 in
theorem refsum_any (s : ByteArray) (a : Option Addr) (n cap : Nat) (ws : List Int) (w : World) (hs : s.size ≤ 1000) (hn : n ≤ 1000) (h : Els .i64 w (.slice a n cap) ws) :
    Calls Try.prog 14 #[.string s, .slice a n cap] w fun e w' => e = .returned (.int .u64 (Hm.sumI (Hm.bs s) ws)) ∧ Below w.heap.size w w' := by
  have kc := fun (w : World) => run_bytes_of_string (P := Try.prog) w 9 30 5 s Try.underlying9 Try.underlying30 Try.underlying5
  have hlen := h.len
  have HLEN := Lib.hid hlen
  have HE := Lib.hid h
  clear hlen h
  go_enter Try.func14, Try.ntmps14
  go_wp2_with fail
  have hcap := grownCap_ge w s.size 0 5
  generalize grownCap w s.size 0 5 = cb at *
  generalize hW0 : World.drew (w.alloc (Obj.cells (bytesRow s cb) 5 ((bytesRow s cb).size, (bytesRow s cb).size + 1))) = w0
  obtain ⟨hE0, hB0⟩ := bytes_world0 w s cb _ _ hcap w0 hW0.symm
  have HB0 := Lib.hid hB0
  clear hW0 hcap kc hB0
  refine (words_any _ (Hm.bs s) _ (by rw [Hm.bs_length]; exact hs) (Hm.bs_byt s) hE0).mono ?_
  rintro e w1 ⟨a1, n1, c1, rfl, HN1, O1, hB⟩
  have B1 := Lib.hid hB.out
  have HB1 := Lib.hid (HB0.out.trans (hB.out.mono HB0.out.size))
  have HE1 := Lib.hid O1.out.els
  clear hB
  have hnw := HN1.out
  rw [Hm.words_length, Hm.bs_length] at hnw
  have hn1 : n1 ≤ 1000 := by omega
  clear hE0 hnw
  have HEA := Lib.hid (HE.out.below HB1.out)
  go_wp2_with fail
  go_loop [5, 7] (fun v i => ∃ k : Nat, k ≤ n1 ∧ i = .int .i64 k ∧ v = .int .u64 (((Hm.words (Hm.bs s)).take k).foldl Hm.mixI 0)) (fun _ i => n1 - (intOf i).toNat)
  case atStart => exact ⟨0, Nat.zero_le _, rfl, rfl⟩
  case round =>
    obtain ⟨k, hk, rfl, rfl⟩ := hrel
    by_cases hlt : k < n1
    · obtain ⟨b, off, rfl, hcx⟩ := HE1.out.at k hlt
      have hst := Lib.hid (fold_step0 (Hm.words (Hm.bs s)) 0 k (by rw [← HN1.out]; exact hlt))
      go_wp2_with fail
      refine (refmix_any _ _ _).mono ?_
      rintro e w' ⟨rfl, rfl⟩
      go_wp2_with fail
      go_round
      case rel => exact ⟨k + 1, by omega, by go_num, by rw [hst.out]⟩
      case measure => simp [intOf]; omega
    · have hge : n1 ≤ k := by omega
      have hfw : Hid (((Hm.words (Hm.bs s)).take k).foldl Hm.mixI 0 = (Hm.words (Hm.bs s)).foldl Hm.mixI 0) := by
        show _ = _
        rw [List.take_of_length_le (by rw [← HN1.out]; exact hge)]
      generalize ((Hm.words (Hm.bs s)).take k).foldl Hm.mixI 0 = h0 at *
      go_wp2_with fail
      refine (refmix_any _ _ _).mono ?_
      rintro e w' ⟨rfl, rfl⟩
      go_wp2_with fail
      refine (refmix_any _ _ _).mono ?_
      rintro e w' ⟨rfl, rfl⟩
      go_wp2_with fail
      have hg0 : Hid (Hm.mixI (Hm.mixI h0 s.size) n = Hm.beginI (Hm.bs s) ws.length) := by
        show _ = _
        rw [hfw.out, Hm.beginI, Hm.bs_length, HLEN.out]
      generalize Hm.mixI (Hm.mixI h0 s.size) n = g0 at *
      go_loop [5, 8] (fun v i => ∃ k : Nat, k ≤ n ∧ i = .int .i64 k ∧ v = .int .u64 ((ws.take k).foldl Hm.mixI g0)) (fun _ i => n - (intOf i).toNat)
      case atStart => exact ⟨0, Nat.zero_le _, rfl, rfl⟩
      case round =>
        obtain ⟨k2, hk2, rfl, rfl⟩ := hrel
        by_cases hlt2 : k2 < n
        · obtain ⟨b, off, rfl, hcx⟩ := HEA.out.at k2 hlt2
          have hst := Lib.hid (fold_step ws g0 k2 (by rw [← HLEN.out]; exact hlt2))
          go_wp2_with fail
          refine (refmix_any _ _ _).mono ?_
          rintro e w' ⟨rfl, rfl⟩
          go_wp2_with fail
          go_round
          case rel => exact ⟨k2 + 1, by omega, by go_num, by rw [hst.out]⟩
          case measure => simp [intOf]; omega
        · have hge2 : n ≤ k2 := by omega
          go_wp2_with fail
          refine (refmix_any _ _ _).mono ?_
          rintro e w' ⟨rfl, rfl⟩
          go_wp2_with fail
          go_ret
          exact ⟨ret_int (by rw [List.take_of_length_le (by rw [← HLEN.out]; exact hge2), hg0.out, Hm.sumI]), HB1.out⟩

theorem own_push {k : IntKind} {w : World} {B : Nat} {E : TypeId} {v : Value} {n : Nat} {f : Nat → Int} {z : Int}
    (h : w.ownsRow B E 1 v (n + 1) ((Hm.upto f n).map (Value.int k) ++ [Value.int k z])) : Own k E B w v (Hm.upto f n ++ [z]) := by
  unfold Own
  rw [List.length_append, Hm.upto_length, List.map_append]
  exact h

theorem refsum_els (s : ByteArray) (sv : Value) (ws : List Int) (w : World) (hs : s.size ≤ 1000) (hn : ws.length ≤ 1000) (h : Els .i64 w sv ws) :
    Calls Try.prog 14 #[.string s, sv] w fun e w' => e = .returned (.int .u64 (Hm.sumI (Hm.bs s) ws)) ∧ Below w.heap.size w w' := by
  obtain ⟨a, cap, rfl⟩ := h.shape
  exact refsum_any s a _ cap ws w hs hn h

set_option maxRecDepth 100000 in
set_option maxHeartbeats 2000000 in
theorem refbytes_any (s : ByteArray) (a : Option Addr) (n cap : Nat) (cs : List Int) (w : World) (hs : s.size ≤ 1000) (hn : n ≤ 900) (hz : Hm.Byt cs) (h : Els .u8 w (.slice a n cap) cs) :
    Calls Try.prog 18 #[.string s, .slice a n cap] w fun e w' => e = .returned (.int .u64 (Hm.bytesI (Hm.bs s) cs)) ∧ Below w.heap.size w w' := by
  obtain ⟨i0, hi, hz0, hz1, hz2⟩ := info_parts Try.infoI64
  have HI := Lib.hid hi
  have HZ := Lib.hid hz0
  have HZ1 := Lib.hid hz1
  have HZ2 := Lib.hid hz2
  have hlen := h.len
  have HLEN := Lib.hid hlen
  have hcl : cs.length ≤ 900 := by omega
  have HE := Lib.hid h
  have HB0 := Lib.hid (Below.refl w.heap.size w)
  clear hlen h hi hz0 hz1 hz2
  go_enter Try.func18, Try.ntmps18
  go_wp2_with fail
  refine (words_any _ cs _ (by omega) hz HE.out).mono ?_
  rintro e w1 ⟨a1, n1, c1, rfl, HN1, O1, hB⟩
  have B1 := Lib.hid hB.out
  have HB1 := Lib.hid (HB0.out.trans (hB.out.mono HB0.out.size))
  have HE1 := Lib.hid O1.out.els
  clear hB
  have hnw := HN1.out
  rw [Hm.words_length] at hnw
  have hn1 : n1 ≤ 150 := by omega
  clear hnw
  go_wp2_with fail
  go_loopw [6, 7] (fun v i wr => ∃ k : Nat, k ≤ n1 ∧ i = .int .i64 k ∧ Hid (wr.ownsRow w1.heap.size 3 1 v k ((Hm.upto (fun j => IntKind.i64.wrap ((Hm.words cs)[j]?.getD 0)) k).map (Value.int .i64))) ∧ Hid (Below w1.heap.size w1 wr)) (fun _ i _ => n1 - (intOf i).toNat)
  case atStart => exact ⟨0, Nat.zero_le _, rfl, World.ownsRow_nil _ _ _ _, Below.refl _ _⟩
  case round =>
    obtain ⟨k, hk, rfl, hown, hB⟩ := hrel
    by_cases hlt : k < n1
    · obtain ⟨b, off, rfl, hcx⟩ := (HE1.out.below hB.out).at k hlt
      have hw64 := IntWalk.i64_left ((Hm.words cs)[k]?.getD 0)
      have HW64 := Lib.hid hw64
      clear hw64
      go_wp2_with (at_builtin; refine wpList_append_own _ rfl _ _ 22 rfl w1.heap.size 3 i0 (.int .i64 0) 1 8 Try.underlying22 HI.out HZ.out HZ1.out HZ2.out rfl (by decide) _ k _ rfl (hown.out.alloc _) ⟨wr.heap.size, 0, none⟩ 1 1 [.int .i64 (wrap64 ((Hm.words cs)[k]?.getD 0))] rfl rfl (one_new _ _ _) (by simp [Value.oneCell']) (by unfold maxLen; omega) (by omega) (by have := hB.out.size; simp; omega) ?_; intro v' w2 hown' hgrow _; have HO := Lib.hid hown'; have HG := Lib.hid hgrow; clear hown' hgrow)
      go_roundw
      case rel => exact ⟨k + 1, by omega, by go_num, own_snoc (by rw [HW64.out]; exact HO.out), (hB.out.alloc hB.out.size _).grown HG.out (by have := hB.out.size; simp; omega) (fun j hj => (hown.out.lt j hj).1)⟩
      case measure => simp [intOf]; omega
    · have hge : n1 ≤ k := by omega
      have hke : k = n1 := by omega
      have HK := Lib.hid hke
      clear hke
      go_wp2_with (at_builtin; refine wpList_append_own _ rfl _ _ 22 rfl w1.heap.size 3 i0 (.int .i64 0) 1 8 Try.underlying22 HI.out HZ.out HZ1.out HZ2.out rfl (by decide) _ k _ rfl (hown.out.alloc _) ⟨wr.heap.size, 0, none⟩ 1 1 [.int .i64 n] rfl rfl (one_new _ _ _) (by simp [Value.oneCell']) (by unfold maxLen; omega) (by omega) (by have := hB.out.size; simp; omega) ?_; intro v' w2 hown' hgrow _; have HO := Lib.hid hown'; have HG := Lib.hid hgrow; clear hown' hgrow)
      have HB2 := Lib.hid (HB1.out.trans (((hB.out.alloc hB.out.size _).grown HG.out (by have := hB.out.size; simp; omega) (fun j hj => (hown.out.lt j hj).1)).mono HB1.out.size))
      have HO2 := Lib.hid (own_push HO.out)
      refine (refsum_els _ _ _ _ hs (by rw [List.length_append, Hm.upto_length]; simp; omega) HO2.out.els).mono ?_
      rintro e w3 ⟨rfl, hB3⟩
      have HB3 := Lib.hid (HB2.out.trans (hB3.mono HB2.out.size))
      clear hB3
      go_wp2_with fail
      go_ret
      exact ⟨ret_int (by rw [HK.out, HN1.out, HLEN.out, Hm.bytesI_eq64]), HB3.out⟩

theorem refbytes_els (s : ByteArray) (sv : Value) (cs : List Int) (w : World) (hs : s.size ≤ 1000) (hn : cs.length ≤ 900) (hz : Hm.Byt cs) (h : Els .u8 w sv cs) :
    Calls Try.prog 18 #[.string s, sv] w fun e w' => e = .returned (.int .u64 (Hm.bytesI (Hm.bs s) cs)) ∧ Below w.heap.size w w' := by
  obtain ⟨a, cap, rfl⟩ := h.shape
  exact refbytes_any s a _ cap cs w hs hn hz h

theorem refsum_lit (s : ByteArray) (T : TypeId) (ws : List Int) (w : World) (hs : s.size ≤ 1000) (hl : ws.length ≤ 1000) :
    Calls Try.prog 14 #[.string s, .slice (some ⟨w.heap.size, 0, none⟩) ws.length ws.length] (w.alloc (.cells (ws.map (Value.int .i64)).toArray T)) fun e W' => e = .returned (.int .u64 (Hm.sumI (Hm.bs s) ws)) ∧ Below w.heap.size w W' :=
  (refsum_els s _ ws _ hs hl (Els.new _ w T ws)).mono fun _ _ h => ⟨h.1, below_new h.2⟩

set_option maxHeartbeats 1000000 in
theorem refpair_any (x y : Int) (w : World) :
    Calls Try.prog 20 #[.int .u64 x, .int .u64 y] w fun e W' => e = .returned (.int .u64 (Hm.pairI x y)) ∧ Below w.heap.size w W' := by
  have HB0 := Lib.hid (Below.refl w.heap.size w)
  go_enter Try.func20, Try.ntmps20
  go_wp2_with fail
  refine (refsum_lit _ _ [wrap64 x, wrap64 y] w (by decide) (by simp)).mono ?_
  rintro e w1 ⟨rfl, hB⟩
  have B1 := Lib.hid hB
  have HB1 := Lib.hid (HB0.out.trans (hB.mono HB0.out.size))
  clear hB
  go_wp2_with fail
  go_ret
  exact ⟨ret_int (Hm.sumI_wrap2 _ x y), HB1.out⟩

end Go.Proofs.Ytccinfjaggalcaa
