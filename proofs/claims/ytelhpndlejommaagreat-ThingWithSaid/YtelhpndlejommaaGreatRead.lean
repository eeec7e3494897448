/- What the methods of wire.Reader return, and what they do to the reader's box; a list written by wire.Writer. -/
import Derived.Test.YtelhpndlejommaaGreatWire
namespace Go.Proofs.YtelhpndlejommaaGreat
open Go.RowKit Go.Shelf

/-- The encoding of a list's elements. -/
def encs (l : List Int) : List Int := (l.map fun n => Hm.uv (Hm.zig n)).flatten

theorem encs_snoc (l : List Int) (n : Int) : encs (l ++ [n]) = encs l ++ Hm.uv (Hm.zig n) := by simp [encs]

theorem encs_len (l : List Int) (h : ∀ z ∈ l, (Lit.int .i64 z).wf = true) : (encs l).length ≤ 10 * l.length := by
  induction l with
  | nil => simp [encs]
  | cons c l ih =>
    have h1 := Hm.uv_len (Hm.zig_lt (i64_of_wf (h c (List.mem_cons_self ..))))
    have h2 := ih fun z hz => h z (List.mem_cons_of_mem _ hz)
    simp only [encs, List.map_cons, List.flatten_cons, List.length_append, List.length_cons] at h2 ⊢
    omega

theorem wf_at {l : List Int} (h : ∀ z ∈ l, (Lit.int .i64 z).wf = true) (k : Nat) : -9223372036854775808 ≤ l[k]?.getD 0 ∧ l[k]?.getD 0 ≤ 9223372036854775807 := by
  by_cases hk : k < l.length
  · rw [List.getElem?_eq_getElem hk]; exact i64_of_wf (h _ (List.getElem_mem hk))
  · rw [List.getElem?_eq_none (by omega)]; simp

theorem take_snoc' (l : List Int) (k : Nat) (h : k < l.length) : l.take (k + 1) = l.take k ++ [l[k]?.getD 0] := by
  rw [List.take_succ_eq_append_getElem h, List.getElem?_eq_getElem h]
  rfl

set_option maxRecDepth 100000 in
set_option maxHeartbeats 1000000 in
theorem wints_any (p B : Nat) (a : Option Addr) (n c : Nat) (ys zs : List Int) (w : World) (hz : zs.length ≤ 80000000000) (hs : ys.length ≤ 100000) (hwf : ∀ z ∈ ys, (Lit.int .i64 z).wf = true) (hE : Els .i64 w (.slice a n c) ys) (h : Wr p B w zs) (hlow : LowEls p (.slice a n c)) :
    Calls Tryz.prog 72 #[.pointer (some ⟨p, 0, none⟩), .slice a n c] w fun e w' => e = .returned (.tuple #[]) ∧ Wr p B w' (zs ++ (Hm.uv ys.length ++ encs ys)) ∧ Below p w w' := by
  have hln0 := hE.len
  subst hln0
  have HZ := Lib.hid hz
  have HL := Lib.hid (Hm.uv_len (n := ys.length) (by omega))
  have HH := Lib.hid h
  have HE := Lib.hid hE
  have HWF := Lib.hid hwf
  have HLO := Lib.hid hlow
  have K := Lib.hid (wuint_any p B ys.length zs w (by omega) (by omega) h)
  clear h hz hE hlow hwf
  obtain ⟨m, hm⟩ : ∃ m, m = ys.length := ⟨_, rfl⟩
  rw [← hm] at hs K ⊢
  have HM := Lib.hid hm
  clear hm
  go_enter Tryz.func72, Tryz.ntmps72
  go_wp2_with fail
  (with_reducible refine K.out.mono ?_)
  rintro e w1 ⟨rfl, hW1, hB1⟩
  have HW := Lib.hid hW1
  have HB := Lib.hid hB1
  clear hW1 hB1
  go_wp2_with fail
  go_loopw [13] (fun v wr => ∃ k : Nat, k ≤ m ∧ v = .int .i64 k ∧ Hid (Wr p B wr (zs ++ (Hm.uv m ++ encs (ys.take k)))) ∧ Hid (Below p w wr)) (fun v _ => m - (intOf v).toNat)
  case atStart => exact ⟨0, Nat.zero_le _, rfl, by show Wr _ _ _ _; simpa [encs] using HW.out, HB.out⟩
  case round =>
    obtain ⟨k, hk, rfl, hW, hB⟩ := hrel
    by_cases hlt : k < m
    · have hE2 := HE.out.low HLO.out hB.out
      rw [← HM.out] at hE2
      obtain ⟨b, off, rfl, hcx⟩ := hE2.at k hlt
      have hx := wf_at HWF.out k
      have hst := Lib.hid (take_snoc' ys k (by rw [← HM.out]; exact hlt))
      have hlen : (zs ++ (Hm.uv m ++ encs (ys.take k))).length ≤ 90000000000 := by
        have h1 := HZ.out
        have h2 := HL.out
        have h3 := encs_len (ys.take k) fun z hz => HWF.out z (List.mem_of_mem_take hz)
        have h4 : (ys.take k).length ≤ m := by rw [List.length_take]; have := HM.out; omega
        rw [← HM.out] at h2
        rw [List.length_append, List.length_append]
        omega
      have K2 := Lib.hid (wint_any p B (ys[k]?.getD 0) _ wr hx hlen hW.out)
      clear hE2 hlen hx
      go_wp2_with fail
      (with_reducible refine K2.out.mono ?_)
      rintro e w2 ⟨rfl, hW2, hB2⟩
      have HW2 := Lib.hid hW2
      have HB2 := Lib.hid (hB.out.trans hB2)
      clear hW2 hB2
      go_wp2_with fail
      go_roundw
      case rel => exact ⟨k + 1, by omega, by go_num, by show Wr _ _ _ _; rw [hst.out, encs_snoc]; simpa only [List.append_assoc] using HW2.out, HB2.out⟩
      case measure => simp [intOf]; omega
    · have hge : k = m := by omega
      subst hge
      go_wp2_with fail
      go_end0
      refine ⟨rfl, ?_, hB.out⟩
      have := hW.out
      rwa [HM.out, List.take_length, ← HM.out] at this


theorem grown_trans {p : Nat} {a b c : World} (h : a.grownBy b (some p)) (k : b.grownBy c (some p)) : a.grownBy c (some p) :=
  ⟨k.os.trans h.os, k.tape.trans h.tape, k.output.trans h.output, Nat.le_trans h.size k.size, fun i hi hr => (k.block i (Nat.lt_of_lt_of_le hi h.size) hr).trans (h.block i hi hr)⟩

theorem grown_refl (p : Nat) (w : World) : w.grownBy w (some p) := ⟨rfl, rfl, rfl, Nat.le_refl _, fun _ _ _ => rfl⟩

theorem grown_set (p o : Nat) (w : World) (v : Value) : w.grownBy (w.setCell ⟨p, o, none⟩ v) (some p) :=
  ⟨rfl, rfl, rfl, by simp [World.setCell], fun k _ hr => Below.heap_setCell w _ v k (fun h => hr (by rw [h]))⟩

theorem grown_below {p : Nat} {a b : World} (h : Below a.heap.size a b) : a.grownBy b (some p) := ⟨h.os, h.tape, h.output, h.size, fun k hk _ => h.block k hk⟩

/-- Block p is a box of a slice and an error: the slice holds the bytes l, in block d, or none. -/
def Rd (p d : Nat) (w : World) (l : List Int) (e : Int) : Prop :=
  ∃ v T, w.heap[p]? = some (.cells #[v, .int .i64 e] T (0, 0)) ∧ ((Emp v ∧ l = []) ∨ (p ≠ d ∧ d < w.heap.size ∧ Elems .u8 d w v l))

theorem Rd.lt {p d : Nat} {w : World} {l : List Int} {e : Int} (h : Rd p d w l e) : p < w.heap.size := by
  obtain ⟨v, T, hb, _⟩ := h
  exact (Array.getElem?_eq_some_iff.1 hb).1

/-- What the walk wants of it. -/
theorem Rd.open {p d : Nat} {w : World} {l : List Int} {e : Int} (h : Rd p d w l e) :
    ∃ a n c, w.cell? ⟨p, 0, none⟩ = some (.slice a n c) ∧ w.cell? ⟨p, 1, none⟩ = some (.int .i64 e) ∧ w.frozen? ⟨p, 0, none⟩ = false ∧ w.frozen? ⟨p, 1, none⟩ = false ∧ Hid (n = l.length) ∧ n ≤ c ∧
      Hid ((Emp (.slice a n c) ∧ l = []) ∨ (p ≠ d ∧ d < w.heap.size ∧ Elems .u8 d w (.slice a n c) l)) := by
  obtain ⟨v, T, hb, hv⟩ := h
  have hs : ∃ a n c, v = .slice a n c ∧ n = l.length ∧ n ≤ c := by
    rcases hv with ⟨rfl | ⟨x, cap, rfl⟩, rfl⟩ | ⟨_, _, ⟨he, rfl⟩ | ⟨off, cap, rfl, hl, _⟩⟩
    · exact ⟨_, _, _, rfl, rfl, Nat.le_refl _⟩
    · exact ⟨_, _, _, rfl, rfl, Nat.zero_le _⟩
    · obtain ⟨a, c, rfl⟩ := he.shape
      exact ⟨_, _, _, rfl, rfl, Nat.zero_le _⟩
    · exact ⟨_, _, _, rfl, rfl, hl⟩
  obtain ⟨a, n, c, rfl, hn, hc⟩ := hs
  exact ⟨a, n, c, by simp [World.cell?, hb], by simp [World.cell?, hb], by simp [World.frozen?, hb], by simp [World.frozen?, hb], hn, hc, hv⟩

/-- The first error sticks. -/
def stk (e e1 : Int) : Int := if e = 0 then e1 else e

/-- A step that leaves the box and the bytes as they were. -/
theorem Rd.keep {p d : Nat} {w w' : World} {l : List Int} {e : Int} (h : Rd p d w l e) (hs : w.heap.size ≤ w'.heap.size) (hp : w'.heap[p]? = w.heap[p]?) (hd : d < w.heap.size → w'.heap[d]? = w.heap[d]?) : Rd p d w' l e := by
  obtain ⟨v, T, hb, hv⟩ := h
  refine ⟨v, T, hp.trans hb, ?_⟩
  rcases hv with hv | ⟨hne, hlt, hE⟩
  · exact .inl hv
  · exact .inr ⟨hne, by omega, hE.keep (hd hlt)⟩

theorem Rd.below {p d : Nat} {w w' : World} {l : List Int} {e : Int} (h : Rd p d w l e) (hB : Below w.heap.size w w') : Rd p d w' l e :=
  h.keep hB.size (hB.block p h.lt) fun hd => hB.block d hd

theorem two_set0 {w : World} {p : Nat} {v u x : Value} {T : TypeId} (h : w.heap[p]? = some (.cells #[v, x] T (0, 0))) : (w.setCell ⟨p, 0, none⟩ u).heap[p]? = some (.cells #[u, x] T (0, 0)) := by
  simp [World.setCell, Array.getElem?_modify, h]

theorem two_set1 {w : World} {p : Nat} {v u x : Value} {T : TypeId} (h : w.heap[p]? = some (.cells #[v, x] T (0, 0))) : (w.setCell ⟨p, 1, none⟩ u).heap[p]? = some (.cells #[v, u] T (0, 0)) := by
  simp [World.setCell, Array.getElem?_modify, h]

/-- What is left is set. -/
theorem Rd.left {p d : Nat} {w : World} {l l' : List Int} {e : Int} {v : Value} (h : Rd p d w l e) (hv : (Emp v ∧ l' = []) ∨ (p ≠ d ∧ d < w.heap.size ∧ Elems .u8 d w v l')) : Rd p d (w.setCell ⟨p, 0, none⟩ v) l' e := by
  obtain ⟨u, T, hb, _⟩ := h
  refine ⟨v, T, two_set0 hb, ?_⟩
  rcases hv with hv | ⟨hne, hlt, hE⟩
  · exact .inl hv
  · exact .inr ⟨hne, by simpa [World.setCell] using hlt, hE.keep (Below.heap_setCell w _ v d (Ne.symm hne))⟩

/-- The error is set. -/
theorem Rd.err {p d : Nat} {w : World} {l : List Int} {e e' : Int} (h : Rd p d w l e) : Rd p d (w.setCell ⟨p, 1, none⟩ (.int .i64 e')) l e' := by
  obtain ⟨u, T, hb, hv⟩ := h
  refine ⟨u, T, two_set1 hb, ?_⟩
  rcases hv with hv | ⟨hne, hlt, hE⟩
  · exact .inl hv
  · exact .inr ⟨hne, by simpa [World.setCell] using hlt, hE.keep (Below.heap_setCell w _ _ d (Ne.symm hne))⟩


/-- What take leaves: a slice of the first n bytes, and the reader behind them. -/
def Took (p d : Nat) (w : World) (t l : List Int) (e : Int) (x : Ending) (w' : World) : Prop :=
  ∃ a n c, x = .returned (.slice a n c) ∧ Hid (n = t.length) ∧ Hid ((Emp (.slice a n c) ∧ t = []) ∨ (p ≠ d ∧ d < w'.heap.size ∧ Elems .u8 d w' (.slice a n c) t)) ∧ Hid (Rd p d w' l e) ∧ Hid (w.grownBy w' (some p))

theorem took_mk {p d k n c : Nat} {a : Option Addr} {l : List Int} {e : Int} {w : World} {sv : Value} (h : Rd p d w l e) (hv : (Emp (.slice a n c) ∧ l = []) ∨ (p ≠ d ∧ d < w.heap.size ∧ Elems .u8 d w (.slice a n c) l))
    (hk : k ≤ l.length) (hn : n = l.length) (hs : (Emp sv ∧ k = l.length) ∨ ∃ x, a = some x ∧ sv = .slice (some (x.add k)) (n - k) (c - k)) :
    Took p d w (l.take k) (l.drop k) e (.returned (.slice a k c)) (w.setCell ⟨p, 0, none⟩ sv) := by
  have hL : (Emp sv ∧ l.drop k = []) ∨ (p ≠ d ∧ d < w.heap.size ∧ Elems .u8 d w sv (l.drop k)) := by
    rcases hs with ⟨he, rfl⟩ | ⟨x, rfl, rfl⟩
    · exact .inl ⟨he, by simp⟩
    · have hempty : l = [] → Emp (.slice (some (x.add k)) (n - k) (c - k)) ∧ l.drop k = [] := by
        rintro rfl
        simp at hn
        subst hn
        exact ⟨.inr ⟨_, _, by rw [Nat.zero_sub]⟩, by simp⟩
      rcases hv with ⟨_, h0⟩ | ⟨h1, h2, ⟨_, h0⟩ | ⟨off, cap, he, hl, hc⟩⟩
      · exact .inl (hempty h0)
      · exact .inl (hempty h0)
      · cases he
        refine .inr ⟨h1, h2, .inr ⟨off + k, c - k, ?_, by rw [List.length_drop]; omega, ?_⟩⟩
        · rw [List.length_drop]
          by_cases h0 : k = 0 <;> simp [Addr.add, h0]
        · intro j hj
          rw [List.length_drop] at hj
          have := hc (k + j) (by omega)
          rw [← Nat.add_assoc] at this
          rw [this, List.getElem?_drop]
  have hT : (Emp (.slice a k c) ∧ l.take k = []) ∨ (p ≠ d ∧ d < w.heap.size ∧ Elems .u8 d w (.slice a k c) (l.take k)) := by
    have hempty : l = [] → Emp (.slice a n c) → Emp (.slice a k c) ∧ l.take k = [] := by
      rintro rfl he
      simp at hk hn
      subst hk
      subst hn
      exact ⟨he, by simp⟩
    rcases hv with ⟨he, h0⟩ | ⟨h1, h2, ⟨he, h0⟩ | ⟨off, cap, he, hl, hc⟩⟩
    · exact .inl (hempty h0 he)
    · exact .inl (hempty h0 he)
    · cases he
      have e : (l.take k).length = k := by rw [List.length_take]; omega
      refine .inr ⟨h1, h2, .inr ⟨off, c, by rw [e], by omega, ?_⟩⟩
      intro j hj
      rw [e] at hj
      rw [hc j (by omega), List.getElem?_take_of_lt hj]
  refine ⟨a, k, c, rfl, (by show _ = _; rw [List.length_take]; omega), ?_, h.left hL, grown_set _ _ _ _⟩
  rcases hT with hT | ⟨h1, h2, hE⟩
  · exact .inl hT
  · exact .inr ⟨h1, by simpa [World.setCell] using h2, hE.keep (Below.heap_setCell w _ _ d (Ne.symm h1))⟩



theorem took_one {p d : Nat} {b : Int} {l : List Int} {e : Int} {w w' : World} {x : Ending} (h : Took p d w ((b :: l).take 1) ((b :: l).drop 1) e x w') :
    ∃ off c, x = .returned (.slice (some ⟨d, off, none⟩) 1 c) ∧ w'.cell? ⟨d, off, none⟩ = some (.int .u8 b) ∧ Hid (Rd p d w' l e) ∧ Hid (w.grownBy w' (some p)) := by
  obtain ⟨a, n, c, rfl, hn, hv, hR, hg⟩ := h
  rcases hv.out with ⟨_, h0⟩ | ⟨_, _, ⟨_, h0⟩ | ⟨off, cap, he, hl, hc⟩⟩
  · simp at h0
  · simp at h0
  · cases he
    exact ⟨off, c, rfl, hc 0 (by simp), hR, hg⟩


theorem rd_byt {c : Int} {t : List Int} (h : Hm.Byt (c :: t)) : 0 ≤ c ∧ c < 256 ∧ Hm.Byt t := ⟨(h c (List.mem_cons_self ..)).1, (h c (List.mem_cons_self ..)).2, fun z hz => h z (List.mem_cons_of_mem _ hz)⟩

theorem rU_last {l t : List Int} {k acc : Nat} {c : Int} (e : Int) (h : Hm.rdU 0 0 l = Hm.rdU k acc (c :: t)) (hn : ¬ ((k = 9 ∧ 1 < c) ∨ (0 < k ∧ c = 0))) (hc : c < 128) : Hm.rU l e = (acc + 128 ^ k * c.toNat, t, e) := by
  rw [Hm.rU, h, Hm.rdU_last hn hc]
  by_cases he : e = 0
  · rw [if_pos he, he]
  · rw [if_neg he]

theorem rU_bad {l t : List Int} {k acc : Nat} {c : Int} (e : Int) (h : Hm.rdU 0 0 l = Hm.rdU k acc (c :: t)) (hn : (k = 9 ∧ 1 < c) ∨ (0 < k ∧ c = 0)) : Hm.rU l e = (0, [], stk e 2) := by
  rw [Hm.rU, h, Hm.rdU_bad hn]
  rfl

/-- A group as the reader adds it. -/
theorem or_spelt {k acc : Nat} {c : Int} (hc0 : 0 ≤ c) (ha : acc < 128 ^ k) (h : acc + 128 ^ k * (c.toNat % 128) < 18446744073709551616) : bits .or .u64 (acc : Int) (IntKind.u64.wrap (c % 128 * 2 ^ (7 * k))) = ((acc + 128 ^ k * (c.toNat % 128) : Nat) : Int) := by
  have e1 : c % 128 * 2 ^ (7 * k) = ((128 ^ k * (c.toNat % 128) : Nat) : Int) := by
    have e2 : c % 128 = ((c.toNat % 128 : Nat) : Int) := by omega
    rw [e2, Int.natCast_mul, Int.natCast_pow, Int.mul_comm, show (2 : Int) ^ (7 * k) = ((128 : Nat) : Int) ^ k by rw [Int.pow_mul]; rfl]
  have e3 : IntKind.u64.wrap (c % 128 * 2 ^ (7 * k)) = ((128 ^ k * (c.toNat % 128) : Nat) : Int) := by
    rw [e1, IntKind.wrap_u64]
    omega
  rw [e3, bits_or_u64_nat _ _ (by omega) (by omega), Nat.or_comm]
  have e4 : (128 : Nat) ^ k = 2 ^ (7 * k) := by rw [Nat.pow_mul]
  rw [nat_join (7 * k) _ _ (by rw [e4]; exact Nat.mul_mod_right _ _) (by rw [← e4]; exact ha), Nat.add_comm]

theorem group_fits {k acc : Nat} {c : Int} (hk : k ≤ 9) (h9 : k = 9 → c ≤ 1) (ha : acc < 128 ^ k) : acc + 128 ^ k * (c.toNat % 128) < 18446744073709551616 := by
  by_cases h : k = 9
  · subst h
    have := h9 rfl
    have e : (128 : Nat) ^ 9 = 9223372036854775808 := by decide
    rw [e] at ha ⊢
    omega
  · have h1 := Hm.group_le (i := k) (g := c.toNat % 128) (by omega) (by omega)
    have h2 := Hm.pow128_le (i := k) (by omega)
    omega

theorem group_next {k acc : Nat} {c : Int} (ha : acc < 128 ^ k) : acc + 128 ^ k * (c.toNat % 128) < 128 ^ (k + 1) := by
  rw [Nat.pow_succ]
  have : 128 ^ k * (c.toNat % 128) ≤ 128 ^ k * 127 := Nat.mul_le_mul_left _ (by omega)
  omega


end Go.Proofs.YtelhpndlejommaaGreat
