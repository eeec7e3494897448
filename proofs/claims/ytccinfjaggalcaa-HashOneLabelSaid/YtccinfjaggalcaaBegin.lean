/- hash.begin: what it returns; nothing that lay has turned. -/
import Derived.Laws.IdiomStrings
import Derived.Test.YtccinfjaggalcaaWords
namespace Go.Proofs.Ytccinfjaggalcaa
open Go.RowKit Go.Shelf

attribute [local go_sem] Oper.semAt_some

/-- A string's bytes in a new row. -/
theorem elems_bytesRow (s : ByteArray) (cap b : Nat) (hcap : s.size ≤ cap) (W : World) (T : TypeId) (fz : Nat × Nat) (h : W.heap[b]? = some (.cells (bytesRow s cap) T fz)) :
    Elems .u8 b W (.slice (some ⟨b, 0, none⟩) s.size cap) (Hm.bs s) := by
  refine .inr ⟨0, cap, by rw [Hm.bs_length], by rw [Hm.bs_length]; exact hcap, ?_⟩
  intro j hj
  rw [Hm.bs_length] at hj
  have h2 := bytesRow_at s cap j hj
  have e : (Hm.bs s)[j]?.getD 0 = (s.data[j].toNat : Int) := by
    have : j < s.data.toList.length := by rw [Array.length_toList]; exact hj
    rw [Hm.bs, List.getElem?_map, List.getElem?_eq_getElem this]
    simp
  rw [e, ← h2]
  unfold World.cell?
  simp [h]

theorem heap_new (w : World) (o : Obj) : (w.alloc o).heap[w.heap.size]? = some o := World.alloc_heap_new w o
theorem heap_old {w : World} {k : Nat} {o : Obj} (o' : Obj) (h : w.heap[k]? = some o) : (w.alloc o').heap[k]? = some o := by
  rw [Below.heap_alloc _ _ _ (Array.getElem?_eq_some_iff.1 h).1]; exact h

theorem cell_of_box_l {W : World} {B : Nat} {v : Value} {t : TypeId} (h : W.heap[B]? = some (.cells #[v] t (0, 0))) : W.cell? ⟨B, 0, none⟩ = some v ∧ W.frozen? ⟨B, 0, none⟩ = false := by
  constructor <;> simp [World.cell?, World.frozen?, h]
theorem cell_new_l (W : World) (v : Value) (t : TypeId) : (W.alloc (.cells #[v] t)).cell? ⟨W.heap.size, 0, none⟩ = some v ∧ (W.alloc (.cells #[v] t)).frozen? ⟨W.heap.size, 0, none⟩ = false :=
  cell_of_box_l (World.alloc_heap_new W _)
theorem cell_alloc_l {W : World} {a : Addr} {v : Value} (o : Obj) (h : W.cell? a = some v) : (W.alloc o).cell? a = some v := cell_kept h (World.grownBy_alloc W o none) (fun r e => by cases e)
theorem frozen_alloc_l {W : World} {a : Addr} {v : Value} (o : Obj) (h : W.cell? a = some v) (hf : W.frozen? a = false) : (W.alloc o).frozen? a = false := (frozen_kept h (World.grownBy_alloc W o none) (fun r e => by cases e)).trans hf

/-- What lies where begin's loop begins. -/
theorem begin_world (w : World) (s : ByteArray) (v : Value) (cap : Nat) (T1 T2 T3 : TypeId) (fz : Nat × Nat) (hcap : s.size ≤ cap) (W : World)
    (hW : W = (((w.alloc (.cells #[v] T1)).alloc (.cells (bytesRow s cap) T2 fz)).drew).alloc (.cells #[.slice (some ⟨w.heap.size + 1, 0, none⟩) s.size cap] T3)) :
    W.heap.size = w.heap.size + 3 ∧ W.cell? ⟨w.heap.size, 0, none⟩ = some v ∧ W.frozen? ⟨w.heap.size, 0, none⟩ = false ∧
      W.cell? ⟨w.heap.size + 2, 0, none⟩ = some (.slice (some ⟨w.heap.size + 1, 0, none⟩) s.size cap) ∧
      Elems .u8 (w.heap.size + 1) W (.slice (some ⟨w.heap.size + 1, 0, none⟩) s.size cap) (Hm.bs s) ∧ Below w.heap.size w W := by
  subst hW
  have h1 := cell_new_l w v T1
  have e2 : ((w.alloc (.cells #[v] T1)).alloc (.cells (bytesRow s cap) T2 fz)).heap[w.heap.size + 1]? = some (.cells (bytesRow s cap) T2 fz) := by
    have := heap_new (w.alloc (.cells #[v] T1)) (.cells (bytesRow s cap) T2 fz)
    rwa [World.size_alloc] at this
  have h3 := cell_new_l ((w.alloc (.cells #[v] T1)).alloc (.cells (bytesRow s cap) T2 fz)).drew (.slice (some ⟨w.heap.size + 1, 0, none⟩) s.size cap) T3
  have hz : ((w.alloc (.cells #[v] T1)).alloc (.cells (bytesRow s cap) T2 fz)).drew.heap.size = w.heap.size + 2 := by
    show ((w.alloc (.cells #[v] T1)).alloc (.cells (bytesRow s cap) T2 fz)).heap.size = _
    rw [World.size_alloc, World.size_alloc]
  have hB : Below w.heap.size w ((w.alloc (.cells #[v] T1)).alloc (.cells (bytesRow s cap) T2 fz)).drew := (((Below.refl _ w).alloc (Nat.le_refl _) _).alloc (by simp) _).drew
  rw [hz] at h3
  refine ⟨by rw [World.size_alloc, hz], ?_, ?_, h3.1, ?_, hB.alloc (by rw [hz]; omega) _⟩
  · exact cell_alloc_l _ (cell_alloc_l (W := w.alloc (.cells #[v] T1)) _ h1.1)
  · exact frozen_alloc_l _ (cell_alloc_l (W := w.alloc (.cells #[v] T1)) _ h1.1) (frozen_alloc_l (W := w.alloc (.cells #[v] T1)) _ h1.1 h1.2)
  · exact elems_bytesRow s cap _ hcap _ T2 fz (heap_old _ e2)

theorem keeps2_putObj {b c l : Nat} {W : World} {o : Obj} (hb : b ≠ l) (hc : c ≠ l) : Keeps2 b c W (W.putObj l o) := by
  have h : ∀ k, k ≠ l → (W.putObj l o).heap[k]? = W.heap[k]? := fun k hk => by
    simp only [World.putObj]
    rw [Array.getElem?_setIfInBounds_ne (by omega)]
  exact ⟨h b hb, h c hc⟩
theorem keeps2_setCell {b c l o : Nat} {W : World} {v : Value} (hb : b ≠ l) (hc : c ≠ l) : Keeps2 b c W (W.setCell ⟨l, o, none⟩ v) :=
  ⟨Below.heap_setCell _ _ _ _ hb, Below.heap_setCell _ _ _ _ hc⟩

set_option maxRecDepth 100000 in
set_option maxHeartbeats 2000000 in
theorem begin_in (n : Nat) (hn : 4 ≤ n) (s : ByteArray) (c : Int) (w : World) (hs : s.size ≤ 140737488351232) :
    CallsIn Fence.wide n Try.prog 25 #[.string s, .int .i64 c] w fun e W' => e = .returned (.int .u64 (Hm.beginI (Hm.bs s) c)) ∧ Below w.heap.size w W' := by
  have h1 : 1 ≤ n := by omega
  have kc := fun (w : World) => run_bytes_of_string (P := Try.prog) w 9 30 5 s Try.underlying9 Try.underlying30 Try.underlying5
  refine callsIn_of_wp_marks Try.func25 rfl (wide_fn _) ?_ rfl
  simp only [Try.ntmps25, List.size_toArray, List.length_cons, List.length_nil, Nat.reduceAdd, Nat.reduceSub, Array.replicate_succ, Array.replicate_zero, List.push_toArray, List.append_toArray, List.nil_append, List.cons_append]
  gi_wp2_with fail
  refine ⟨trivial, ?_⟩
  refine (callsIn_wide.2 (wordsOf_any _ _ _ _)).mono ?_
  rintro e w' ⟨rfl, hw'⟩
  have hcap := grownCap_ge (w.alloc (Obj.cells #[Value.int IntKind.u64 0] 25)) s.size 0 5
  generalize grownCap (w.alloc (Obj.cells #[Value.int IntKind.u64 0] 25)) s.size 0 5 = cap at *
  obtain ⟨hsz, hc0, hf0, hc2, hel, hB0⟩ := begin_world w s _ cap _ _ _ _ hcap w' hw'
  clear hw' kc
  gi_wp2_with fail
  refine wpIn_rangeFunc_ownF rfl h1 (gf := 29) (lb := #[.pointer (some ⟨w.heap.size + 1 + 1, 0, none⟩)]) rfl (wide_fn _) (enters_of Try.func29 (by kernel_rfl) rfl)
    (words_stops (n - 1) (by omega) (w.heap.size + 1 + 1) (w.heap.size + 1) _ (Hm.bs s) (Hm.bs_byt s) (by rw [Hm.bs_length]; exact hs) w' (by omega) (by omega) hc2 hel) Keeps2.trans (fun W l o o' hl _ _ _ => keeps2_putObj (by omega) (by omega)) (Below.refl _ _) (fun _ => rfl)
    (fun pre W => (W.cell? ⟨w.heap.size, 0, none⟩ = some (.int .u64 (pre.foldl Hm.mixI 0)) ∧ W.frozen? ⟨w.heap.size, 0, none⟩ = false) ∧ Below w.heap.size w W)
    (fun _ _ _ => False)
    (OwnFrom.and (Own.from (fun s A B row hs hg hr => ⟨cell_kept hs.1 hg hr, (frozen_kept hs.1 hg hr).trans hs.2⟩) _) (ownFrom_below (Nat.le_refl _) (by omega)))
    (fun _ _ _ _ _ hs _ _ => hs)
    ⟨⟨hc0, hf0⟩, hB0⟩
    (fun x => { tmps := #[.string s, .int .i64 c, undef, undef, .int .u64 0, .pointer (some ⟨w.heap.size, 0, none⟩), .int .u64 x, .string s, .slice (some ⟨w.heap.size + 1, 0, none⟩) s.size cap, .func (.func 29) #[] #[.pointer (some ⟨w.heap.size + 1 + 1, 0, none⟩)], .int .u64 x, undef, undef, undef, undef, undef, undef, undef, undef, undef, undef, undef, undef], defers := [] }) ?assign ?body ?done ?stop
  case assign =>
    intro l x W K hK
    gi_wp2
    exact hK
  case body =>
    rintro l pre x W ⟨⟨hc, hf⟩, hB⟩ _
    gi_wp2_with fail
    refine ⟨trivial, fun _ => by omega, ?_⟩
    refine (CallsIn.inRound l (callsIn_wide.2 (mix_any _ _ _))).mono ?_
    rintro e w'' ⟨rfl, rfl⟩
    gi_wp2
    exact ⟨KeepsOthers.setCell _ _ _, keeps2_setCell (by omega) (by omega), ⟨by rw [List.foldl_append]; exact World.cell?_setCell_same' _ _ _ (by rw [hc]; rfl), by rw [World.frozen?_setCell]; exact hf⟩, hB.setCell (p := ⟨w.heap.size, 0, none⟩) (Nat.le_refl _) _⟩
  case done =>
    rintro D ys W hD rfl ⟨⟨hc, hf⟩, hB⟩ hK
    have hK' := fun v => (KeepsOthers.setCell W ⟨w.heap.size, 0, none⟩ v).same D _ hK rfl
    have hc' := fun v => World.cell?_setCell_same' W ⟨w.heap.size, 0, none⟩ v (by rw [hc]; rfl)
    gi_wp2_with fail
    refine ⟨trivial, ?_⟩
    refine (callsIn_wide.2 (mix_any _ _ _)).mono ?_
    rintro e w'' ⟨rfl, rfl⟩
    gi_wp2_with fail
    refine ⟨trivial, ?_⟩
    refine (callsIn_wide.2 (mix_any _ _ _)).mono ?_
    rintro e w'' ⟨rfl, rfl⟩
    gi_wp2_with fail
    refine ⟨by simp, .inl ⟨_, _, rfl, run_takeDeferred (hK' _), ?_⟩⟩
    refine ⟨_, results_tmp rfl _ _ _, ?_, ?_⟩
    · exact ret_int (by rw [Hm.mixI_wrap_word, Hm.beginI, Hm.bs_length])
    · exact (hB.setCell (p := ⟨w.heap.size, 0, none⟩) (by simp) _).trans (belowK_b (w := w) (Nat.le_refl _) _ D _ _ (by omega) (hK' _) rfl rfl)
  case stop =>
    rintro D c pre W _ _ h _
    exact h.elim

theorem begin_any (s : ByteArray) (c : Int) (w : World) (hs : s.size ≤ 140737488351232) :
    Calls Try.prog 25 #[.string s, .int .i64 c] w fun e W' => e = .returned (.int .u64 (Hm.beginI (Hm.bs s) c)) ∧ Below w.heap.size w W' :=
  callsIn_wide.1 (begin_in 4 (by omega) s c w hs)

end Go.Proofs.Ytccinfjaggalcaa
