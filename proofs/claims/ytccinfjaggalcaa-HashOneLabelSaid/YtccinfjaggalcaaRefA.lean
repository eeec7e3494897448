/- The reference model's small functions: what they return; nothing that lay has turned. -/
import Derived.WalkSmall
import Derived.OwnWalk
import Derived.Laws.AppendOwnNone
import Derived.Deep.QuietTactic
import Derived.BigQuiet
import Derived.Test.YtccinfjaggalcaaPair
namespace Go.Proofs.Ytccinfjaggalcaa
open Go.RowKit Go.Shelf

/-- A slice that can be read: it has no elements, or it leads to a row of numbers of kind k in a block that is there. -/
def Els (k : IntKind) (w : World) (sv : Value) (zs : List Int) : Prop :=
  (Emp sv ∧ zs = []) ∨ ∃ b off cap, b < w.heap.size ∧ sv = .slice (some ⟨b, off, none⟩) zs.length cap ∧ zs.length ≤ cap ∧ ∀ j, j < zs.length → w.cell? ⟨b, off + j, none⟩ = some (.int k (zs[j]?.getD 0))
theorem Els.below {k : IntKind} {w W : World} (h : Below w.heap.size w W) {sv : Value} {zs : List Int} : Els k w sv zs → Els k W sv zs
  | .inl e => .inl e
  | .inr ⟨b, off, cap, hb, e, hl, hc⟩ => .inr ⟨b, off, cap, Nat.lt_of_lt_of_le hb h.size, e, hl, fun j hj => (h.cell (p := ⟨b, off + j, none⟩) hb).trans (hc j hj)⟩
theorem Els.new (k : IntKind) (w : World) (T : TypeId) (zs : List Int) : Els k (w.alloc (.cells (zs.map (Value.int k)).toArray T)) (.slice (some ⟨w.heap.size, 0, none⟩) zs.length zs.length) zs := by
  rcases elems_new k w T zs with ⟨h, hz⟩ | ⟨off, cap, h, hl, hc⟩
  · exact .inl ⟨h, hz⟩
  · exact .inr ⟨w.heap.size, off, cap, by simp, h, hl, hc⟩

theorem sum_els (s : ByteArray) (sv : Value) (ws : List Int) (w : World) (hs : s.size ≤ 140737488351232) (hl : ws.length ≤ 140737488351232) (hI : Els .i64 w sv ws) :
    Calls Try.prog 13 #[.string s, sv] w fun e W' => e = .returned (.int .u64 (Hm.sumI (Hm.bs s) ws)) ∧ Below w.heap.size w W' := by
  rcases hI with ⟨he, rfl⟩ | ⟨b, off, cap, hb, rfl, hcap, hc⟩
  · obtain ⟨a, cap, rfl⟩ := he.shape
    exact sum_nil s a cap w hs
  · exact sum_some s b off ws.length cap ws w hb hs rfl hl hc

theorem bytes_els (s : ByteArray) (sv : Value) (cs : List Int) (w : World) (hs : s.size ≤ 140737488351232) (hl : cs.length ≤ 140737488351232) (hz : Hm.Byt cs) (hI : Els .u8 w sv cs) :
    Calls Try.prog 17 #[.string s, sv] w fun e W' => e = .returned (.int .u64 (Hm.bytesI (Hm.bs s) cs)) ∧ Below w.heap.size w W' := by
  rcases hI with ⟨he, rfl⟩ | ⟨b, off, cap, hb, rfl, hcap, hc⟩
  · exact bytes_nil s _ he w hs
  · exact bytes_any s _ b cs w hs hl hz (.inr ⟨hb, .inr ⟨off, cap, rfl, hcap, hc⟩⟩)

/-- A new slice, the call's own, that holds zs. -/
def Own (k : IntKind) (E : TypeId) (B : Nat) (w : World) (sv : Value) (zs : List Int) : Prop := w.ownsRow B E 1 sv zs.length (zs.map (Value.int k))
theorem Own.els {k : IntKind} {E : TypeId} {B : Nat} {w : World} {sv : Value} {zs : List Int} (h : Own k E B w sv zs) : Els k w sv zs := by
  obtain ⟨_, ⟨rfl, hz⟩ | ⟨g, cap, cur, rfl, _, hg, hcap, _, hsz, ht⟩⟩ := h
  · exact .inl ⟨.inl rfl, List.eq_nil_of_length_eq_zero hz⟩
  · refine .inr ⟨g, 0, cap, (Array.getElem?_eq_some_iff.1 hg).1, rfl, hcap, ?_⟩
    intro j hj
    have e : cur[j]? = some (Value.int k (zs[j]?.getD 0)) := by
      rw [← Array.getElem?_toList, ← List.getElem?_take_of_lt (show j < zs.length * 1 by omega), ht, List.getElem?_map, List.getElem?_eq_getElem hj]
      rfl
    rw [Nat.zero_add]
    unfold World.cell?
    simp only [hg]
    exact e
theorem Own.shape {k : IntKind} {E : TypeId} {B : Nat} {w : World} {sv : Value} {zs : List Int} (h : Own k E B w sv zs) : ∃ a cap, sv = .slice a zs.length cap := by
  obtain ⟨_, ⟨rfl, hz⟩ | ⟨g, cap, cur, rfl, _⟩⟩ := h
  · exact ⟨none, 0, by rw [hz]⟩
  · exact ⟨_, _, rfl⟩

/-- What a call that makes such a slice leaves. -/
def Makes (k : IntKind) (E : TypeId) (zs : List Int) (w : World) (e : Ending) (w' : World) : Prop :=
  ∃ a n cap, e = .returned (.slice a n cap) ∧ Hid (n = zs.length) ∧ Hid (Own k E w.heap.size w' (.slice a n cap) zs) ∧ Hid (Below w.heap.size w w')
theorem makes_of {k : IntKind} {E : TypeId} {zs : List Int} {w w' : World} {v : Value} (h : Own k E w.heap.size w' v zs) (hB : Below w.heap.size w w') : Makes k E zs w (.returned v) w' := by
  obtain ⟨a, cap, rfl⟩ := h.shape
  exact ⟨a, _, cap, rfl, rfl, h, hB⟩

theorem tdiv_u64 (x : Int) : IntKind.u64.wrap ((IntKind.u64.wrap x).tdiv 4294967296) = IntKind.u64.wrap x / 4294967296 := by
  have h : 0 ≤ IntKind.u64.wrap x ∧ IntKind.u64.wrap x ≤ 18446744073709551615 := by rw [IntKind.wrap_u64]; omega
  exact IntWalk.u64_quo _ _ ⟨h.1, h.2, by decide⟩

set_option maxHeartbeats 400000 in
theorem refmix_any (s v : Int) (w : World) :
    Calls Try.prog 27 #[.int .u64 s, .int .u64 v] w fun e w' => e = .returned (.int .u64 (Hm.mixI s v)) ∧ w = w' := by
  go_enter Try.func27, Try.ntmps27
  go_wp2
  go_ret
  exact ⟨ret_int (by rw [tdiv_u64]; rfl), rfl⟩

theorem ret_string {a b : ByteArray} (h : a = b) : Ending.returned (.string a) = .returned (.string b) := by rw [h]

theorem extract_all (s : ByteArray) (n : Nat) (h : s.size ≤ n) : s = s.extract 0 n := by
  apply ByteArray.ext
  rw [ByteArray.data_extract]
  apply Array.ext
  · simp; omega
  · intro i h1 h2; simp

theorem extract_size (s : ByteArray) (n : Nat) : (s.extract 0 n).size ≤ n := by
  rw [ByteArray.size_extract]; omega

set_option maxHeartbeats 400000 in
theorem short_any (s : ByteArray) (n : Nat) (w : World) (hn : n ≤ 1000) :
    Calls Try.prog 11 #[.string s, .int .i64 n] w fun e w' => e = .returned (.string (s.extract 0 n)) ∧ w = w' := by
  by_cases h : n < s.size
  · go_enter Try.func11, Try.ntmps11
    go_wp2
    go_ret
    exact ⟨rfl, rfl⟩
  · go_enter Try.func11, Try.ntmps11
    go_wp2
    go_ret
    exact ⟨ret_string (extract_all s n (by omega)), rfl⟩

/-- What Around returns. -/
def aroundI (a n : Int) : Int := if a < 0 then (-(a + 1)) % n else a % n
theorem aroundI_range (a n : Int) (h : 1 ≤ n) : 0 ≤ aroundI a n ∧ aroundI a n < n := by
  unfold aroundI
  split
  · exact ⟨Int.emod_nonneg _ (by omega), Int.emod_lt_of_pos _ (by omega)⟩
  · exact ⟨Int.emod_nonneg _ (by omega), Int.emod_lt_of_pos _ (by omega)⟩

set_option maxHeartbeats 400000 in
theorem around_any (a n : Int) (w : World) (h : 1 ≤ n) (hn : n ≤ 100000) (ha : (Lit.int .i64 a).wf = true) :
    Calls Try.prog 21 #[.int .i64 a, .int .i64 n] w fun e w' => e = .returned (.int .i64 (aroundI a n)) ∧ w = w' := by
  have hb : -9223372036854775808 ≤ a ∧ a ≤ 9223372036854775807 := by
    simpa [Lit.wf, IntKind.min, IntKind.max, IntKind.signed, IntKind.bits] using ha
  obtain ⟨hb1, hb2⟩ := hb
  clear ha
  by_cases h0 : a < 0
  · have e : Hid (aroundI a n = (-(a + 1)) % n) := by unfold aroundI; exact if_pos h0
    go_enter Try.func21, Try.ntmps21
    go_wp2
    go_ret
    exact ⟨ret_int (by rw [e.out, ← Int.neg_tmod, Int.tmod_eq_emod_of_nonneg (by omega)]), rfl⟩
  · have e : Hid (aroundI a n = a % n) := by unfold aroundI; exact if_neg h0
    go_enter Try.func21, Try.ntmps21
    go_wp2
    go_ret
    exact ⟨ret_int (by rw [e.out]), rfl⟩

theorem Try.infoI64 : (Try.prog.info? 3).map (fun i => (i.zero, i.size, i.bytes)) = some (some (.int .i64 0), 1, 8) := by kernel_rfl
theorem Try.infoU8 : (Try.prog.info? 5).map (fun i => (i.zero, i.size, i.bytes)) = some (some (.int .u8 0), 1, 1) := by kernel_rfl
theorem Try.infoU64 : (Try.prog.info? 25).map (fun i => (i.zero, i.size, i.bytes)) = some (some (.int .u64 0), 1, 8) := by kernel_rfl

theorem news_at {k : IntKind} {w : World} {b off m : Nat} {zs : List Int} (hm : m ≤ zs.length) (hc : ∀ j, j < zs.length → w.cell? ⟨b, off + j, none⟩ = some (.int k (zs[j]?.getD 0))) :
    ∀ j u, ((zs.take m).map (Value.int k))[j]? = some u → w.cell? ((⟨b, off, none⟩ : Addr).add j) = some u := by
  intro j u hu
  rw [List.getElem?_map] at hu
  obtain ⟨z, hz, rfl⟩ := Option.map_eq_some_iff.1 hu
  have hj := (List.getElem?_eq_some_iff.1 hz).1
  rw [List.length_take] at hj
  have h2 := hc j (by omega)
  rw [List.getElem?_take_of_lt (by omega)] at hz
  rw [hz] at h2
  have e : (⟨b, off, none⟩ : Addr).add j = ⟨b, off + j, none⟩ := by
    by_cases h : j = 0 <;> simp [Addr.add, h]
  rw [e]
  exact h2

set_option maxHeartbeats 1000000 in
theorem ints_some (b off len cap n : Nat) (zs : List Int) (w : World) (hlen : zs.length = len) (hcl : len ≤ cap) (hl : cap ≤ maxLen) (hn : n ≤ 1000) (hc : ∀ j, j < zs.length → w.cell? ⟨b, off + j, none⟩ = some (.int .i64 (zs[j]?.getD 0))) :
    Calls Try.prog 12 #[.slice (some ⟨b, off, none⟩) len cap, .int .i64 n] w fun e w' => Makes .i64 3 (zs.take n) w e w' := by
  unfold maxLen at hl
  obtain ⟨i0, hi, hz0, hz1, hz2⟩ := info_parts Try.infoI64
  have hnw := fun m (hm : m ≤ len) => news_at (m := m) (by omega) hc
  have h1c := fun m => ints_oneCell .i64 (zs.take m)
  have hll := fun m (hm : m ≤ len) => show ((zs.take m).map (Value.int .i64)).length = m * 1 by rw [List.length_map, List.length_take]; omega
  have HL := Lib.hid hlen
  have HN := Lib.hid hnw
  have H1 := Lib.hid h1c
  have H2 := Lib.hid hll
  have HI := Lib.hid hi
  have HZ := Lib.hid hz0
  have HZ1 := Lib.hid hz1
  have HZ2 := Lib.hid hz2
  clear hlen hc hnw h1c hll hi hz0 hz1 hz2
  by_cases h : n < len
  · go_enter Try.func12, Try.ntmps12
    go_wp2_with (at_builtin; go_loud (refine wpList_append_own _ rfl _ _ 22 rfl w.heap.size 3 i0 (.int .i64 0) 1 8 Try.underlying22 HI.out HZ.out HZ1.out HZ2.out rfl (by decide) _ 0 [] rfl (World.ownsRow_nil _ _ _ _) ⟨b, off, none⟩ n cap ((zs.take n).map (Value.int .i64)) rfl (H2.out n (by omega)) (HN.out n (by omega)) (H1.out n) (by unfold maxLen; omega) (by omega) (Nat.le_refl _) ?_); intro v' w1 hown' hgrow _; have HO := Lib.hid hown'; have HG := Lib.hid hgrow; clear hown' hgrow)
    go_ret
    refine makes_of (k := .i64) (zs := zs.take n) ?_ ((Below.refl _ _).grown HG.out (Nat.le_refl _) (fun k hk => by cases hk))
    have := HO.out
    unfold Own
    rw [List.length_take, Nat.min_eq_left (by have := HL.out; omega)]
    simpa using this
  · have hge : len ≤ n := by omega
    go_enter Try.func12, Try.ntmps12
    go_wp2_with (at_builtin; refine wpList_append_own _ rfl _ _ 22 rfl w.heap.size 3 i0 (.int .i64 0) 1 8 Try.underlying22 HI.out HZ.out HZ1.out HZ2.out rfl (by decide) _ 0 [] rfl (World.ownsRow_nil _ _ _ _) ⟨b, off, none⟩ len cap ((zs.take len).map (Value.int .i64)) rfl (H2.out len (by omega)) (HN.out len (by omega)) (H1.out len) (by unfold maxLen; omega) (by omega) (Nat.le_refl _) ?_; intro v' w1 hown' hgrow _; have HO := Lib.hid hown'; have HG := Lib.hid hgrow; clear hown' hgrow)
    go_ret
    refine makes_of (k := .i64) (zs := zs.take n) ?_ ((Below.refl _ _).grown HG.out (Nat.le_refl _) (fun k hk => by cases hk))
    have := HO.out
    have e := HL.out
    unfold Own
    rw [List.take_of_length_le (by omega)] at this ⊢
    rw [e]
    simpa using this

set_option maxHeartbeats 1000000 in
theorem ints_nil (n : Nat) (w : World) (hn : n ≤ 1000) :
    Calls Try.prog 12 #[.slice none 0 0, .int .i64 n] w fun e w' => Makes .i64 3 [] w e w' := by
  go_enter Try.func12, Try.ntmps12
  go_wp2
  go_ret
  exact makes_of (World.ownsRow_nil _ _ _ _) (Below.refl _ _)

set_option maxHeartbeats 1000000 in
theorem ints_zero (x : Addr) (cap n : Nat) (w : World) (hn : n ≤ 1000) :
    Calls Try.prog 12 #[.slice (some x) 0 cap, .int .i64 n] w fun e w' => Makes .i64 3 [] w e w' := by
  obtain ⟨i0, hi, hz0, hz1, hz2⟩ := info_parts Try.infoI64
  have HI := Lib.hid hi
  have HZ := Lib.hid hz0
  have HZ1 := Lib.hid hz1
  have HZ2 := Lib.hid hz2
  clear hi hz0 hz1 hz2
  go_enter Try.func12, Try.ntmps12
  go_wp2_with (at_builtin; refine wpList_append_own _ rfl _ _ 22 rfl w.heap.size 3 i0 (.int .i64 0) 1 8 Try.underlying22 HI.out HZ.out HZ1.out HZ2.out rfl (by decide) _ 0 [] rfl (World.ownsRow_nil _ _ _ _) x 0 cap [] rfl rfl (by simp) (by simp) (by unfold maxLen; omega) (by omega) (Nat.le_refl _) ?_; intro v' w1 hown' hgrow _; have HO := Lib.hid hown'; have HG := Lib.hid hgrow; clear hown' hgrow)
  go_ret
  exact makes_of (k := .i64) (zs := []) HO.out ((Below.refl _ _).grown HG.out (Nat.le_refl _) (fun k hk => by cases hk))

theorem ints_any (n : Nat) (sv : Value) (zs : List Int) (w : World) (hn : n ≤ 1000) (hI : Els .i64 w sv zs) (hcap : ∀ a l c, sv = .slice a l c → c ≤ maxLen) :
    Calls Try.prog 12 #[sv, .int .i64 n] w fun e w' => Makes .i64 3 (zs.take n) w e w' := by
  rcases hI with ⟨rfl | ⟨x, cap, rfl⟩, rfl⟩ | ⟨b, off, cap, hb, rfl, hl, hc⟩
  · exact (ints_nil n w hn).mono fun e w' h => by simpa using h
  · exact (ints_zero x cap n w hn).mono fun e w' h => by simpa using h
  · exact ints_some b off zs.length cap n zs w rfl hl (hcap _ _ _ rfl) hn hc

set_option maxHeartbeats 1000000 in
theorem few_some (b off len cap n : Nat) (zs : List Int) (w : World) (hlen : zs.length = len) (hcl : len ≤ cap) (hl : cap ≤ maxLen) (hn : n ≤ 1000) (hc : ∀ j, j < zs.length → w.cell? ⟨b, off + j, none⟩ = some (.int .u8 (zs[j]?.getD 0))) :
    Calls Try.prog 16 #[.slice (some ⟨b, off, none⟩) len cap, .int .i64 n] w fun e w' => Makes .u8 5 (zs.take n) w e w' := by
  unfold maxLen at hl
  obtain ⟨i0, hi, hz0, hz1, hz2⟩ := info_parts Try.infoU8
  have hnw := fun m (hm : m ≤ len) => news_at (m := m) (by omega) hc
  have h1c := fun m => ints_oneCell .u8 (zs.take m)
  have hll := fun m (hm : m ≤ len) => show ((zs.take m).map (Value.int .u8)).length = m * 1 by rw [List.length_map, List.length_take]; omega
  have HL := Lib.hid hlen
  have HN := Lib.hid hnw
  have H1 := Lib.hid h1c
  have H2 := Lib.hid hll
  have HI := Lib.hid hi
  have HZ := Lib.hid hz0
  have HZ1 := Lib.hid hz1
  have HZ2 := Lib.hid hz2
  clear hlen hc hnw h1c hll hi hz0 hz1 hz2
  by_cases h : n < len
  · go_enter Try.func16, Try.ntmps16
    go_wp2_with (at_builtin; go_loud (refine wpList_append_own _ rfl _ _ 30 rfl w.heap.size 5 i0 (.int .u8 0) 1 1 Try.underlying30 HI.out HZ.out HZ1.out HZ2.out rfl (by decide) _ 0 [] rfl (World.ownsRow_nil _ _ _ _) ⟨b, off, none⟩ n cap ((zs.take n).map (Value.int .u8)) rfl (H2.out n (by omega)) (HN.out n (by omega)) (H1.out n) (by unfold maxLen; omega) (by omega) (Nat.le_refl _) ?_); intro v' w1 hown' hgrow _; have HO := Lib.hid hown'; have HG := Lib.hid hgrow; clear hown' hgrow)
    go_ret
    refine makes_of (k := .u8) (zs := zs.take n) ?_ ((Below.refl _ _).grown HG.out (Nat.le_refl _) (fun k hk => by cases hk))
    have := HO.out
    unfold Own
    rw [List.length_take, Nat.min_eq_left (by have := HL.out; omega)]
    simpa using this
  · have hge : len ≤ n := by omega
    go_enter Try.func16, Try.ntmps16
    go_wp2_with (at_builtin; refine wpList_append_own _ rfl _ _ 30 rfl w.heap.size 5 i0 (.int .u8 0) 1 1 Try.underlying30 HI.out HZ.out HZ1.out HZ2.out rfl (by decide) _ 0 [] rfl (World.ownsRow_nil _ _ _ _) ⟨b, off, none⟩ len cap ((zs.take len).map (Value.int .u8)) rfl (H2.out len (by omega)) (HN.out len (by omega)) (H1.out len) (by unfold maxLen; omega) (by omega) (Nat.le_refl _) ?_; intro v' w1 hown' hgrow _; have HO := Lib.hid hown'; have HG := Lib.hid hgrow; clear hown' hgrow)
    go_ret
    refine makes_of (k := .u8) (zs := zs.take n) ?_ ((Below.refl _ _).grown HG.out (Nat.le_refl _) (fun k hk => by cases hk))
    have := HO.out
    have e := HL.out
    unfold Own
    rw [List.take_of_length_le (by omega)] at this ⊢
    rw [e]
    simpa using this

set_option maxHeartbeats 1000000 in
theorem few_nil (n : Nat) (w : World) (hn : n ≤ 1000) :
    Calls Try.prog 16 #[.slice none 0 0, .int .i64 n] w fun e w' => Makes .u8 5 [] w e w' := by
  go_enter Try.func16, Try.ntmps16
  go_wp2
  go_ret
  exact makes_of (World.ownsRow_nil _ _ _ _) (Below.refl _ _)

set_option maxHeartbeats 1000000 in
theorem few_zero (x : Addr) (cap n : Nat) (w : World) (hn : n ≤ 1000) :
    Calls Try.prog 16 #[.slice (some x) 0 cap, .int .i64 n] w fun e w' => Makes .u8 5 [] w e w' := by
  obtain ⟨i0, hi, hz0, hz1, hz2⟩ := info_parts Try.infoU8
  have HI := Lib.hid hi
  have HZ := Lib.hid hz0
  have HZ1 := Lib.hid hz1
  have HZ2 := Lib.hid hz2
  clear hi hz0 hz1 hz2
  go_enter Try.func16, Try.ntmps16
  go_wp2_with (at_builtin; refine wpList_append_own _ rfl _ _ 30 rfl w.heap.size 5 i0 (.int .u8 0) 1 1 Try.underlying30 HI.out HZ.out HZ1.out HZ2.out rfl (by decide) _ 0 [] rfl (World.ownsRow_nil _ _ _ _) x 0 cap [] rfl rfl (by simp) (by simp) (by unfold maxLen; omega) (by omega) (Nat.le_refl _) ?_; intro v' w1 hown' hgrow _; have HO := Lib.hid hown'; have HG := Lib.hid hgrow; clear hown' hgrow)
  go_ret
  exact makes_of (k := .u8) (zs := []) HO.out ((Below.refl _ _).grown HG.out (Nat.le_refl _) (fun k hk => by cases hk))

theorem few_any (n : Nat) (sv : Value) (zs : List Int) (w : World) (hn : n ≤ 1000) (hI : Els .u8 w sv zs) (hcap : ∀ a l c, sv = .slice a l c → c ≤ maxLen) :
    Calls Try.prog 16 #[sv, .int .i64 n] w fun e w' => Makes .u8 5 (zs.take n) w e w' := by
  rcases hI with ⟨rfl | ⟨x, cap, rfl⟩, rfl⟩ | ⟨b, off, cap, hb, rfl, hl, hc⟩
  · exact (few_nil n w hn).mono fun e w' h => by simpa using h
  · exact (few_zero x cap n w hn).mono fun e w' h => by simpa using h
  · exact few_some b off zs.length cap n zs w rfl hl (hcap _ _ _ rfl) hn hc

end Go.Proofs.Ytccinfjaggalcaa
