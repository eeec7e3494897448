/- hash.Sum, hash.Bytes: what they return; nothing that lay has turned. -/
import Derived.Test.YtccinfjaggalcaaBegin
namespace Go.Proofs.Ytccinfjaggalcaa
open Go.RowKit Go.Shelf

attribute [local go_sem] Oper.semAt_some

theorem fold_step (zs : List Int) (a : Int) (k : Nat) (h : k < zs.length) : (zs.take (k + 1)).foldl Hm.mixI a = Hm.mixI ((zs.take k).foldl Hm.mixI a) (IntKind.u64.wrap (zs[k]?.getD 0)) := by
  rw [List.take_succ_eq_append_getElem h, List.foldl_append, List.getElem?_eq_getElem h, Hm.mixI_wrap_word]
  rfl

set_option maxHeartbeats 1000000 in
theorem sum_some (s : ByteArray) (b off len cap : Nat) (ws : List Int) (w : World) (hb : b < w.heap.size) (hs : s.size ≤ 140737488351232) (hlen : ws.length = len) (hl : len ≤ 140737488351232)
    (hc : ∀ j, j < len → w.cell? ⟨b, off + j, none⟩ = some (.int .i64 (ws[j]?.getD 0))) :
    Calls Try.prog 13 #[.string s, .slice (some ⟨b, off, none⟩) len cap] w fun e W' => e = .returned (.int .u64 (Hm.sumI (Hm.bs s) ws)) ∧ Below w.heap.size w W' := by
  have HL := Lib.hid hlen
  clear hlen
  go_enter Try.func13, Try.ntmps13
  go_wp2_with fail
  refine (begin_any _ _ _ hs).mono ?_
  rintro e w1 ⟨rfl, hB⟩
  have hc1 : ∀ j, j < len → w1.cell? ⟨b, off + j, none⟩ = some (.int .i64 (ws[j]?.getD 0)) := fun j hj => (hB.cell (p := ⟨b, off + j, none⟩) hb).trans (hc j hj)
  have HC := Lib.hid hc1
  have HB := Lib.hid hB
  clear hc hc1 hB
  go_wp2_with fail
  go_loop [5, 14] (fun v i => ∃ k : Nat, k ≤ len ∧ i = .int .i64 k ∧ v = .int .u64 ((ws.take k).foldl Hm.mixI (Hm.beginI (Hm.bs s) len))) (fun _ i => len - (intOf i).toNat)
  case atStart => exact ⟨0, Nat.zero_le _, rfl, rfl⟩
  case round =>
    obtain ⟨k, hk, rfl, rfl⟩ := hrel
    by_cases hlt : k < len
    · have hcx := HC.out k hlt
      have hst := Lib.hid (fold_step ws (Hm.beginI (Hm.bs s) len) k (by rw [HL.out]; omega))
      go_wp2_with fail
      refine (mix_any _ _ _).mono ?_
      rintro e w2 ⟨rfl, rfl⟩
      go_wp2_with fail
      go_round
      case rel => exact ⟨k + 1, by omega, by go_num, by rw [hst.out]⟩
      case measure => simp [intOf]; omega
    · have hge : len ≤ k := by omega
      go_wp2_with fail
      refine (mix_any _ _ _).mono ?_
      rintro e w2 ⟨rfl, rfl⟩
      go_wp2_with fail
      go_ret
      exact ⟨ret_int (by rw [List.take_of_length_le (by rw [HL.out]; omega), Hm.sumI, HL.out]), HB.out⟩

set_option maxHeartbeats 1000000 in
theorem sum_nil (s : ByteArray) (a : Option Addr) (cap : Nat) (w : World) (hs : s.size ≤ 140737488351232) :
    Calls Try.prog 13 #[.string s, .slice a 0 cap] w fun e W' => e = .returned (.int .u64 (Hm.sumI (Hm.bs s) [])) ∧ Below w.heap.size w W' := by
  go_enter Try.func13, Try.ntmps13
  go_wp2_with fail
  refine (begin_any _ _ _ hs).mono ?_
  rintro e w1 ⟨rfl, hB⟩
  have HB := Lib.hid hB
  clear hB
  go_wp2_with fail
  go_loop [5, 14] (fun v i => i = .int .i64 0 ∧ v = .int .u64 (Hm.beginI (Hm.bs s) 0)) (fun _ _ => 0)
  case atStart => exact ⟨rfl, rfl⟩
  case round =>
    obtain ⟨rfl, rfl⟩ := hrel
    go_wp2_with fail
    refine (mix_any _ _ _).mono ?_
    rintro e w2 ⟨rfl, rfl⟩
    go_wp2_with fail
    go_ret
    exact ⟨ret_int (by rw [Hm.sumI]; rfl), HB.out⟩

theorem sum_any (s : ByteArray) (sv : Value) (b : Nat) (ws : List Int) (w : World) (hb : b < w.heap.size) (hs : s.size ≤ 140737488351232) (hl : ws.length ≤ 140737488351232) (hI : Elems .i64 b w sv ws) :
    Calls Try.prog 13 #[.string s, sv] w fun e W' => e = .returned (.int .u64 (Hm.sumI (Hm.bs s) ws)) ∧ Below w.heap.size w W' := by
  rcases hI with ⟨he, rfl⟩ | ⟨off, cap, rfl, hcap, hc⟩
  · obtain ⟨a, cap, rfl⟩ := he.shape
    exact sum_nil s a cap w hs
  · exact sum_some s b off ws.length cap ws w hb hs rfl hl hc


/-- What lies where the loop of Bytes begins. -/
theorem bytes_world (w : World) (v sv : Value) (T1 T3 : TypeId) (cs : List Int) (hI : (Emp sv ∧ cs = []) ∨ ∃ b, b < w.heap.size ∧ Elems .u8 b w sv cs) (W : World)
    (hW : W = (w.alloc (.cells #[v] T1)).alloc (.cells #[sv] T3)) :
    ∃ b, W.heap.size = w.heap.size + 2 ∧ W.cell? ⟨w.heap.size, 0, none⟩ = some v ∧ W.frozen? ⟨w.heap.size, 0, none⟩ = false ∧
      W.cell? ⟨w.heap.size + 1, 0, none⟩ = some sv ∧ b < W.heap.size ∧ b ≠ w.heap.size ∧ Elems .u8 b W sv cs ∧ Below w.heap.size w W := by
  subst hW
  have h1 := cell_new_l w v T1
  have h3 := cell_new_l (w.alloc (.cells #[v] T1)) sv T3
  rw [World.size_alloc] at h3
  have hB : Below w.heap.size w ((w.alloc (.cells #[v] T1)).alloc (.cells #[sv] T3)) := ((Below.refl _ w).alloc (Nat.le_refl _) _).alloc (by simp) _
  rcases hI with ⟨he, rfl⟩ | ⟨b, hb, hI⟩
  · exact ⟨w.heap.size + 1, by simp, cell_alloc_l _ h1.1, frozen_alloc_l _ h1.1 h1.2, h3.1, by simp, by omega, .inl ⟨he, rfl⟩, hB⟩
  · exact ⟨b, by simp, cell_alloc_l _ h1.1, frozen_alloc_l _ h1.1 h1.2, h3.1, by simp; omega, by omega, hI.keep (hB.block b hb), hB⟩

set_option maxRecDepth 100000 in
set_option maxHeartbeats 2000000 in
theorem bytes_in (n : Nat) (hn : 5 ≤ n) (s : ByteArray) (a : Option Addr) (len cap : Nat) (cs : List Int) (w : World) (hs : s.size ≤ 140737488351232) (hl : cs.length ≤ 140737488351232) (hlen : cs.length = len) (hz : Hm.Byt cs)
    (hI : (Emp (.slice a len cap) ∧ cs = []) ∨ ∃ b, b < w.heap.size ∧ Elems .u8 b w (.slice a len cap) cs) :
    CallsIn Fence.wide n Try.prog 17 #[.string s, .slice a len cap] w fun e W' => e = .returned (.int .u64 (Hm.bytesI (Hm.bs s) cs)) ∧ Below w.heap.size w W' := by
  have h1 : 1 ≤ n := by omega
  have hll : len ≤ 140737488351232 := by omega
  have HL := Lib.hid hlen
  clear hlen
  refine callsIn_of_wp_marks Try.func17 rfl (wide_fn _) ?_ rfl
  simp only [Try.ntmps17, List.size_toArray, List.length_cons, List.length_nil, Nat.reduceAdd, Nat.reduceSub, Array.replicate_succ, Array.replicate_zero, List.push_toArray, List.append_toArray, List.nil_append, List.cons_append]
  gi_wp2_with fail
  refine ⟨trivial, ?_⟩
  refine (begin_in (n - 1) (by omega) s _ w hs).mono ?_
  rintro e w1 ⟨rfl, hB1⟩
  have hI1 : (Emp (.slice a len cap) ∧ cs = []) ∨ ∃ b, b < w1.heap.size ∧ Elems .u8 b w1 (.slice a len cap) cs :=
    hI.imp id fun ⟨b, hb, h⟩ => ⟨b, Nat.lt_of_lt_of_le hb hB1.size, h.keep (hB1.block b hb)⟩
  have HI1 := Lib.hid hI1
  clear hI hI1
  gi_wp2_with fail
  refine ⟨trivial, ?_⟩
  refine (callsIn_wide.2 (wordsOf_any _ _ _ _)).mono ?_
  rintro e w' ⟨rfl, hw'⟩
  obtain ⟨b, hsz, hc0, hf0, hc2, hb1, hbn, hel, hB0⟩ := bytes_world w1 _ _ _ _ cs HI1.out w' hw'
  clear hw' HI1
  have hB := hB1.trans (hB0.mono hB1.size)
  have hle := hB1.size
  gi_wp2_with fail
  refine wpIn_rangeFunc_ownF rfl h1 (gf := 29) (lb := #[.pointer (some ⟨w1.heap.size + 1, 0, none⟩)]) rfl (wide_fn _) (enters_of Try.func29 (by kernel_rfl) rfl)
    (words_stops (n - 1) (by omega) (w1.heap.size + 1) b _ cs hz hl w' (by omega) (by omega) hc2 hel) Keeps2.trans (fun W l o o' hl _ _ _ => keeps2_putObj (by omega) (by omega)) (Below.refl _ _) (fun _ => rfl)
    (fun pre W => (W.cell? ⟨w1.heap.size, 0, none⟩ = some (.int .u64 (pre.foldl Hm.mixI (Hm.beginI (Hm.bs s) (((len : Int) + 7) / 8 + 1)))) ∧ W.frozen? ⟨w1.heap.size, 0, none⟩ = false) ∧ Below w.heap.size w W)
    (fun _ _ _ => False)
    (OwnFrom.and (Own.from (fun s A B row hs hg hr => ⟨cell_kept hs.1 hg hr, (frozen_kept hs.1 hg hr).trans hs.2⟩) _) (ownFrom_below (Nat.le_refl _) (by omega)))
    (fun _ _ _ _ _ hs _ _ => hs)
    ⟨⟨hc0, hf0⟩, hB⟩
    (fun x => { tmps := #[.string s, .slice a len cap, undef, undef, .int .u64 0, .int .i64 (((len : Int) + 7) / 8), .pointer (some ⟨w1.heap.size, 0, none⟩), .int .u64 x, .slice a len cap, .int .i64 len, .int .i64 ((len : Int) + 7), .int .i64 (((len : Int) + 7) / 8), .string s, .int .i64 (((len : Int) + 7) / 8), .int .i64 (((len : Int) + 7) / 8 + 1), .int .u64 (Hm.beginI (Hm.bs s) (((len : Int) + 7) / 8 + 1)), .slice a len cap, .func (.func 29) #[] #[.pointer (some ⟨w1.heap.size + 1, 0, none⟩)], .int .u64 x, undef, undef, undef, undef, undef, undef, undef, undef, undef, undef], defers := [] }) ?assign ?body ?done ?stop
  case assign =>
    intro l x W K hK
    gi_wp2
    exact hK
  case body =>
    rintro l pre x W ⟨⟨hc, hf⟩, hB⟩ _
    gi_wp2_with fail
    refine ⟨trivial, fun _ => by omega, ?_⟩
    refine (CallsIn.inRound l (callsIn_wide.2 (mix_any _ _ _))).mono ?_
    rintro e w'' ⟨rfl, rfl⟩
    gi_wp2
    exact ⟨KeepsOthers.setCell _ _ _, keeps2_setCell (by omega) (by omega), ⟨by rw [List.foldl_append]; exact World.cell?_setCell_same' _ _ _ (by rw [hc]; rfl), by rw [World.frozen?_setCell]; exact hf⟩, hB.setCell (p := ⟨w1.heap.size, 0, none⟩) hle _⟩
  case done =>
    rintro D ys W hD rfl ⟨⟨hc, hf⟩, hB⟩ hK
    have hK' := fun v => (KeepsOthers.setCell W ⟨w1.heap.size, 0, none⟩ v).same D _ hK rfl
    have hc' := fun v => World.cell?_setCell_same' W ⟨w1.heap.size, 0, none⟩ v (by rw [hc]; rfl)
    gi_wp2_with fail
    refine ⟨trivial, ?_⟩
    refine (callsIn_wide.2 (mix_any _ _ _)).mono ?_
    rintro e w'' ⟨rfl, rfl⟩
    gi_wp2_with fail
    refine ⟨trivial, ?_⟩
    refine (callsIn_wide.2 (mix_any _ _ _)).mono ?_
    rintro e w'' ⟨rfl, rfl⟩
    gi_wp2_with fail
    refine ⟨by simp, .inl ⟨_, _, rfl, run_takeDeferred (hK' _), ?_⟩⟩
    refine ⟨_, results_tmp rfl _ _ _, ?_, ?_⟩
    · exact ret_int (by rw [Hm.bytesI, HL.out])
    · exact (hB.setCell (p := ⟨w1.heap.size, 0, none⟩) hle _).trans (belowK_b (w := w) (Nat.le_refl _) _ D _ _ (by omega) (hK' _) rfl rfl)
  case stop =>
    rintro D c pre W _ _ h _
    exact h.elim

theorem bytes_any (s : ByteArray) (sv : Value) (b : Nat) (cs : List Int) (w : World) (hs : s.size ≤ 140737488351232) (hl : cs.length ≤ 140737488351232) (hz : Hm.Byt cs) (hI : (Emp sv ∧ cs = []) ∨ (b < w.heap.size ∧ Elems .u8 b w sv cs)) :
    Calls Try.prog 17 #[.string s, sv] w fun e W' => e = .returned (.int .u64 (Hm.bytesI (Hm.bs s) cs)) ∧ Below w.heap.size w W' := by
  have fin : ∀ a l c, sv = .slice a l c → cs.length = l → Calls Try.prog 17 #[.string s, sv] w fun e W' => e = .returned (.int .u64 (Hm.bytesI (Hm.bs s) cs)) ∧ Below w.heap.size w W' := by
    rintro a l c rfl hl2
    exact callsIn_wide.1 (bytes_in 5 (by omega) s a l c cs w hs hl hl2 hz (hI.imp id fun h => ⟨b, h⟩))
  rcases hI with ⟨he, rfl⟩ | ⟨hb, ⟨he, rfl⟩ | ⟨off, cap, rfl, hcap, hc⟩⟩
  · obtain ⟨a, cap, rfl⟩ := he.shape
    exact fin _ _ _ rfl rfl
  · obtain ⟨a, cap, rfl⟩ := he.shape
    exact fin _ _ _ rfl rfl
  · exact fin _ _ _ rfl rfl

theorem bytes_nil (s : ByteArray) (sv : Value) (he : Emp sv) (w : World) (hs : s.size ≤ 140737488351232) :
    Calls Try.prog 17 #[.string s, sv] w fun e W' => e = .returned (.int .u64 (Hm.bytesI (Hm.bs s) [])) ∧ Below w.heap.size w W' :=
  bytes_any s sv 0 [] w hs (by simp) (fun z hz => by simp at hz) (.inl ⟨he, rfl⟩)

end Go.Proofs.Ytccinfjaggalcaa
