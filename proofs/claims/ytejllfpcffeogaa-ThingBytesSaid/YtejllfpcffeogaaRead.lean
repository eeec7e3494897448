/- What the methods of wire.Reader return, and what they do to the reader's box; a list written by wire.Writer. -/
import Derived.Test.YtejllfpcffeogaaWire
namespace Go.Proofs.Ytejllfpcffeogaa
open Go.RowKit Go.Shelf

/-- The encoding of a list's elements. -/
def encs (l : List Int) : List Int := (l.map fun n => Hm.uv (Hm.zig n)).flatten

theorem encs_snoc (l : List Int) (n : Int) : encs (l ++ [n]) = encs l ++ Hm.uv (Hm.zig n) := by simp [encs]

theorem encs_len (l : List Int) (h : ∀ z ∈ l, (Lit.int .i64 z).wf = true) : (encs l).length ≤ 10 * l.length := by
  induction l with
  | nil => simp [encs]
  | cons c l ih =>
    have h1 := Hm.uv_len (Hm.zig_lt (i64_of_wf (h c (List.mem_cons_self ..))))
    have h2 := ih fun z hz => h z (List.mem_cons_of_mem _ hz)
    simp only [encs, List.map_cons, List.flatten_cons, List.length_append, List.length_cons] at h2 ⊢
    omega

theorem wf_at {l : List Int} (h : ∀ z ∈ l, (Lit.int .i64 z).wf = true) (k : Nat) : -9223372036854775808 ≤ l[k]?.getD 0 ∧ l[k]?.getD 0 ≤ 9223372036854775807 := by
  by_cases hk : k < l.length
  · rw [List.getElem?_eq_getElem hk]; exact i64_of_wf (h _ (List.getElem_mem hk))
  · rw [List.getElem?_eq_none (by omega)]; simp

theorem take_snoc' (l : List Int) (k : Nat) (h : k < l.length) : l.take (k + 1) = l.take k ++ [l[k]?.getD 0] := by
  rw [List.take_succ_eq_append_getElem h, List.getElem?_eq_getElem h]
  rfl

set_option maxRecDepth 100000 in
set_option maxHeartbeats 1000000 in
theorem wints_any (p B : Nat) (a : Option Addr) (n c : Nat) (ys zs : List Int) (w : World) (hz : zs.length ≤ 80000000000) (hs : ys.length ≤ 100000) (hwf : ∀ z ∈ ys, (Lit.int .i64 z).wf = true) (hE : Els .i64 w (.slice a n c) ys) (h : Wr p B w zs) (hlow : LowEls p (.slice a n c)) :
    Calls Try.prog 73 #[.pointer (some ⟨p, 0, none⟩), .slice a n c] w fun e w' => e = .returned (.tuple #[]) ∧ Wr p B w' (zs ++ (Hm.uv ys.length ++ encs ys)) ∧ Below p w w' := by
  have hln0 := hE.len
  subst hln0
  have HZ := Lib.hid hz
  have HL := Lib.hid (Hm.uv_len (n := ys.length) (by omega))
  have HH := Lib.hid h
  have HE := Lib.hid hE
  have HWF := Lib.hid hwf
  have HLO := Lib.hid hlow
  have K := Lib.hid (wuint_any p B ys.length zs w (by omega) (by omega) h)
  clear h hz hE hlow hwf
  obtain ⟨m, hm⟩ : ∃ m, m = ys.length := ⟨_, rfl⟩
  rw [← hm] at hs K ⊢
  have HM := Lib.hid hm
  clear hm
  go_enter Try.func73, Try.ntmps73
  go_wp2_with fail
  (with_reducible refine K.out.mono ?_)
  rintro e w1 ⟨rfl, hW1, hB1⟩
  have HW := Lib.hid hW1
  have HB := Lib.hid hB1
  clear hW1 hB1
  go_wp2_with fail
  go_loopw [13] (fun v wr => ∃ k : Nat, k ≤ m ∧ v = .int .i64 k ∧ Hid (Wr p B wr (zs ++ (Hm.uv m ++ encs (ys.take k)))) ∧ Hid (Below p w wr)) (fun v _ => m - (intOf v).toNat)
  case atStart => exact ⟨0, Nat.zero_le _, rfl, by show Wr _ _ _ _; simpa [encs] using HW.out, HB.out⟩
  case round =>
    obtain ⟨k, hk, rfl, hW, hB⟩ := hrel
    by_cases hlt : k < m
    · have hE2 := HE.out.low HLO.out hB.out
      rw [← HM.out] at hE2
      obtain ⟨b, off, rfl, hcx⟩ := hE2.at k hlt
      have hx := wf_at HWF.out k
      have hst := Lib.hid (take_snoc' ys k (by rw [← HM.out]; exact hlt))
      have hlen : (zs ++ (Hm.uv m ++ encs (ys.take k))).length ≤ 90000000000 := by
        have h1 := HZ.out
        have h2 := HL.out
        have h3 := encs_len (ys.take k) fun z hz => HWF.out z (List.mem_of_mem_take hz)
        have h4 : (ys.take k).length ≤ m := by rw [List.length_take]; have := HM.out; omega
        rw [← HM.out] at h2
        rw [List.length_append, List.length_append]
        omega
      have K2 := Lib.hid (wint_any p B (ys[k]?.getD 0) _ wr hx hlen hW.out)
      clear hE2 hlen hx
      go_wp2_with fail
      (with_reducible refine K2.out.mono ?_)
      rintro e w2 ⟨rfl, hW2, hB2⟩
      have HW2 := Lib.hid hW2
      have HB2 := Lib.hid (hB.out.trans hB2)
      clear hW2 hB2
      go_wp2_with fail
      go_roundw
      case rel => exact ⟨k + 1, by omega, by go_num, by show Wr _ _ _ _; rw [hst.out, encs_snoc]; simpa only [List.append_assoc] using HW2.out, HB2.out⟩
      case measure => simp [intOf]; omega
    · have hge : k = m := by omega
      subst hge
      go_wp2_with fail
      go_end0
      refine ⟨rfl, ?_, hB.out⟩
      have := hW.out
      rwa [HM.out, List.take_length, ← HM.out] at this


theorem grown_trans {p : Nat} {a b c : World} (h : a.grownBy b (some p)) (k : b.grownBy c (some p)) : a.grownBy c (some p) :=
  ⟨k.os.trans h.os, k.tape.trans h.tape, k.output.trans h.output, Nat.le_trans h.size k.size, fun i hi hr => (k.block i (Nat.lt_of_lt_of_le hi h.size) hr).trans (h.block i hi hr)⟩

theorem grown_refl (p : Nat) (w : World) : w.grownBy w (some p) := ⟨rfl, rfl, rfl, Nat.le_refl _, fun _ _ _ => rfl⟩

theorem grown_set (p o : Nat) (w : World) (v : Value) : w.grownBy (w.setCell ⟨p, o, none⟩ v) (some p) :=
  ⟨rfl, rfl, rfl, by simp [World.setCell], fun k _ hr => Below.heap_setCell w _ v k (fun h => hr (by rw [h]))⟩

theorem grown_below {p : Nat} {a b : World} (h : Below a.heap.size a b) : a.grownBy b (some p) := ⟨h.os, h.tape, h.output, h.size, fun k hk _ => h.block k hk⟩

/-- Block p is a box of a slice and an error: the slice holds the bytes l, in block d, or none. -/
def Rd (p d : Nat) (w : World) (l : List Int) (e : Int) : Prop :=
  ∃ v T, w.heap[p]? = some (.cells #[v, .int .i64 e] T (0, 0)) ∧ ((Emp v ∧ l = []) ∨ (p ≠ d ∧ d < w.heap.size ∧ Elems .u8 d w v l))

theorem Rd.lt {p d : Nat} {w : World} {l : List Int} {e : Int} (h : Rd p d w l e) : p < w.heap.size := by
  obtain ⟨v, T, hb, _⟩ := h
  exact (Array.getElem?_eq_some_iff.1 hb).1

/-- What the walk wants of it. -/
theorem Rd.open {p d : Nat} {w : World} {l : List Int} {e : Int} (h : Rd p d w l e) :
    ∃ a n c, w.cell? ⟨p, 0, none⟩ = some (.slice a n c) ∧ w.cell? ⟨p, 1, none⟩ = some (.int .i64 e) ∧ w.frozen? ⟨p, 0, none⟩ = false ∧ w.frozen? ⟨p, 1, none⟩ = false ∧ Hid (n = l.length) ∧ n ≤ c ∧
      Hid ((Emp (.slice a n c) ∧ l = []) ∨ (p ≠ d ∧ d < w.heap.size ∧ Elems .u8 d w (.slice a n c) l)) := by
  obtain ⟨v, T, hb, hv⟩ := h
  have hs : ∃ a n c, v = .slice a n c ∧ n = l.length ∧ n ≤ c := by
    rcases hv with ⟨rfl | ⟨x, cap, rfl⟩, rfl⟩ | ⟨_, _, ⟨he, rfl⟩ | ⟨off, cap, rfl, hl, _⟩⟩
    · exact ⟨_, _, _, rfl, rfl, Nat.le_refl _⟩
    · exact ⟨_, _, _, rfl, rfl, Nat.zero_le _⟩
    · obtain ⟨a, c, rfl⟩ := he.shape
      exact ⟨_, _, _, rfl, rfl, Nat.zero_le _⟩
    · exact ⟨_, _, _, rfl, rfl, hl⟩
  obtain ⟨a, n, c, rfl, hn, hc⟩ := hs
  exact ⟨a, n, c, by simp [World.cell?, hb], by simp [World.cell?, hb], by simp [World.frozen?, hb], by simp [World.frozen?, hb], hn, hc, hv⟩

/-- The first error sticks. -/
def stk (e e1 : Int) : Int := if e = 0 then e1 else e

/-- A step that leaves the box and the bytes as they were. -/
theorem Rd.keep {p d : Nat} {w w' : World} {l : List Int} {e : Int} (h : Rd p d w l e) (hs : w.heap.size ≤ w'.heap.size) (hp : w'.heap[p]? = w.heap[p]?) (hd : d < w.heap.size → w'.heap[d]? = w.heap[d]?) : Rd p d w' l e := by
  obtain ⟨v, T, hb, hv⟩ := h
  refine ⟨v, T, hp.trans hb, ?_⟩
  rcases hv with hv | ⟨hne, hlt, hE⟩
  · exact .inl hv
  · exact .inr ⟨hne, by omega, hE.keep (hd hlt)⟩

theorem Rd.below {p d : Nat} {w w' : World} {l : List Int} {e : Int} (h : Rd p d w l e) (hB : Below w.heap.size w w') : Rd p d w' l e :=
  h.keep hB.size (hB.block p h.lt) fun hd => hB.block d hd

theorem two_set0 {w : World} {p : Nat} {v u x : Value} {T : TypeId} (h : w.heap[p]? = some (.cells #[v, x] T (0, 0))) : (w.setCell ⟨p, 0, none⟩ u).heap[p]? = some (.cells #[u, x] T (0, 0)) := by
  simp [World.setCell, Array.getElem?_modify, h]

theorem two_set1 {w : World} {p : Nat} {v u x : Value} {T : TypeId} (h : w.heap[p]? = some (.cells #[v, x] T (0, 0))) : (w.setCell ⟨p, 1, none⟩ u).heap[p]? = some (.cells #[v, u] T (0, 0)) := by
  simp [World.setCell, Array.getElem?_modify, h]

/-- What is left is set. -/
theorem Rd.left {p d : Nat} {w : World} {l l' : List Int} {e : Int} {v : Value} (h : Rd p d w l e) (hv : (Emp v ∧ l' = []) ∨ (p ≠ d ∧ d < w.heap.size ∧ Elems .u8 d w v l')) : Rd p d (w.setCell ⟨p, 0, none⟩ v) l' e := by
  obtain ⟨u, T, hb, _⟩ := h
  refine ⟨v, T, two_set0 hb, ?_⟩
  rcases hv with hv | ⟨hne, hlt, hE⟩
  · exact .inl hv
  · exact .inr ⟨hne, by simpa [World.setCell] using hlt, hE.keep (Below.heap_setCell w _ v d (Ne.symm hne))⟩

/-- The error is set. -/
theorem Rd.err {p d : Nat} {w : World} {l : List Int} {e e' : Int} (h : Rd p d w l e) : Rd p d (w.setCell ⟨p, 1, none⟩ (.int .i64 e')) l e' := by
  obtain ⟨u, T, hb, hv⟩ := h
  refine ⟨u, T, two_set1 hb, ?_⟩
  rcases hv with hv | ⟨hne, hlt, hE⟩
  · exact .inl hv
  · exact .inr ⟨hne, by simpa [World.setCell] using hlt, hE.keep (Below.heap_setCell w _ _ d (Ne.symm hne))⟩

set_option maxRecDepth 100000 in
set_option maxHeartbeats 1000000 in
theorem rfail_any (p d : Nat) (l : List Int) (e e1 : Int) (w : World) (h : Rd p d w l e) :
    Calls Try.prog 78 #[.pointer (some ⟨p, 0, none⟩), .int .i64 e1] w fun x w' => x = .returned (.tuple #[]) ∧ Rd p d w' [] (stk e e1) ∧ w.grownBy w' (some p) := by
  obtain ⟨a, n, c, h0, h1, f0, f1, hn, hnc, hv⟩ := h.open
  have HH := Lib.hid h
  clear h
  by_cases he : e = 0
  · subst he
    go_enter Try.func78, Try.ntmps78
    go_wp2
    go_end0
    exact ⟨rfl, (HH.out.err (e' := stk 0 e1)).left (.inl ⟨.inl rfl, rfl⟩), grown_trans (grown_set _ _ _ _) (grown_set _ _ _ _)⟩
  · have he1 : (e == 0) = false := by simpa using he
    have HE := Lib.hid he
    clear he
    go_enter Try.func78, Try.ntmps78
    go_wp2
    go_end0
    refine ⟨rfl, ?_, grown_set _ _ _ _⟩
    rw [stk, if_neg HE.out]
    exact HH.out.left (.inl ⟨.inl rfl, rfl⟩)

/-- What take leaves: a slice of the first n bytes, and the reader behind them. -/
def Took (p d : Nat) (w : World) (t l : List Int) (e : Int) (x : Ending) (w' : World) : Prop :=
  ∃ a n c, x = .returned (.slice a n c) ∧ Hid (n = t.length) ∧ Hid ((Emp (.slice a n c) ∧ t = []) ∨ (p ≠ d ∧ d < w'.heap.size ∧ Elems .u8 d w' (.slice a n c) t)) ∧ Hid (Rd p d w' l e) ∧ Hid (w.grownBy w' (some p))

theorem took_mk {p d k n c : Nat} {a : Option Addr} {l : List Int} {e : Int} {w : World} {sv : Value} (h : Rd p d w l e) (hv : (Emp (.slice a n c) ∧ l = []) ∨ (p ≠ d ∧ d < w.heap.size ∧ Elems .u8 d w (.slice a n c) l))
    (hk : k ≤ l.length) (hn : n = l.length) (hs : (Emp sv ∧ k = l.length) ∨ ∃ x, a = some x ∧ sv = .slice (some (x.add k)) (n - k) (c - k)) :
    Took p d w (l.take k) (l.drop k) e (.returned (.slice a k c)) (w.setCell ⟨p, 0, none⟩ sv) := by
  have hL : (Emp sv ∧ l.drop k = []) ∨ (p ≠ d ∧ d < w.heap.size ∧ Elems .u8 d w sv (l.drop k)) := by
    rcases hs with ⟨he, rfl⟩ | ⟨x, rfl, rfl⟩
    · exact .inl ⟨he, by simp⟩
    · have hempty : l = [] → Emp (.slice (some (x.add k)) (n - k) (c - k)) ∧ l.drop k = [] := by
        rintro rfl
        simp at hn
        subst hn
        exact ⟨.inr ⟨_, _, by rw [Nat.zero_sub]⟩, by simp⟩
      rcases hv with ⟨_, h0⟩ | ⟨h1, h2, ⟨_, h0⟩ | ⟨off, cap, he, hl, hc⟩⟩
      · exact .inl (hempty h0)
      · exact .inl (hempty h0)
      · cases he
        refine .inr ⟨h1, h2, .inr ⟨off + k, c - k, ?_, by rw [List.length_drop]; omega, ?_⟩⟩
        · rw [List.length_drop]
          by_cases h0 : k = 0 <;> simp [Addr.add, h0]
        · intro j hj
          rw [List.length_drop] at hj
          have := hc (k + j) (by omega)
          rw [← Nat.add_assoc] at this
          rw [this, List.getElem?_drop]
  have hT : (Emp (.slice a k c) ∧ l.take k = []) ∨ (p ≠ d ∧ d < w.heap.size ∧ Elems .u8 d w (.slice a k c) (l.take k)) := by
    have hempty : l = [] → Emp (.slice a n c) → Emp (.slice a k c) ∧ l.take k = [] := by
      rintro rfl he
      simp at hk hn
      subst hk
      subst hn
      exact ⟨he, by simp⟩
    rcases hv with ⟨he, h0⟩ | ⟨h1, h2, ⟨he, h0⟩ | ⟨off, cap, he, hl, hc⟩⟩
    · exact .inl (hempty h0 he)
    · exact .inl (hempty h0 he)
    · cases he
      have e : (l.take k).length = k := by rw [List.length_take]; omega
      refine .inr ⟨h1, h2, .inr ⟨off, c, by rw [e], by omega, ?_⟩⟩
      intro j hj
      rw [e] at hj
      rw [hc j (by omega), List.getElem?_take_of_lt hj]
  refine ⟨a, k, c, rfl, (by show _ = _; rw [List.length_take]; omega), ?_, h.left hL, grown_set _ _ _ _⟩
  rcases hT with hT | ⟨h1, h2, hE⟩
  · exact .inl hT
  · exact .inr ⟨h1, by simpa [World.setCell] using h2, hE.keep (Below.heap_setCell w _ _ d (Ne.symm h1))⟩

set_option maxRecDepth 100000 in
set_option maxHeartbeats 1000000 in
theorem rtake_any (p d k : Nat) (l : List Int) (e : Int) (w : World) (h : Rd p d w l e) (hk : k ≤ l.length) (hl : l.length ≤ 100000000000) :
    Calls Try.prog 54 #[.pointer (some ⟨p, 0, none⟩), .int .i64 k] w (Took p d w (l.take k) (l.drop k) e) := by
  obtain ⟨a, n, c, h0, h1, f0, f1, hn, hnc, hv⟩ := h.open
  have HH := Lib.hid h
  have hkn : k ≤ n := by rw [hn.out]; exact hk
  have HK := Lib.hid hk
  have hn2 : n ≤ 100000000000 := by rw [hn.out]; exact hl
  clear h hk hl
  cases a with
  | none =>
    have hz : n = 0 ∧ c = 0 := by
      rcases hv.out with ⟨he, _⟩ | ⟨_, _, ⟨he, _⟩ | ⟨off, cap, he, _⟩⟩
      · rcases he with he | ⟨x, cap, he⟩ <;> cases he
        exact ⟨rfl, rfl⟩
      · rcases he with he | ⟨x, cap, he⟩ <;> cases he
        exact ⟨rfl, rfl⟩
      · cases he
    obtain ⟨rfl, rfl⟩ := hz
    obtain rfl : k = 0 := by omega
    go_enter Try.func54, Try.ntmps54
    go_wp2
    go_ret
    exact took_mk HH.out hv.out HK.out hn.out (.inl ⟨.inl rfl, hn.out⟩)
  | some x =>
    by_cases hkc : k = c
    · obtain rfl : n = k := by omega
      subst hkc
      go_enter Try.func54, Try.ntmps54
      go_wp2
      go_ret
      exact took_mk HH.out hv.out HK.out hn.out (.inl ⟨.inr ⟨x, 0, by simp⟩, hn.out⟩)
    · have hkc2 : k < c := by omega
      clear hkc
      go_enter Try.func54, Try.ntmps54
      go_wp2
      go_ret
      exact took_mk HH.out hv.out HK.out hn.out (.inr ⟨x, rfl, rfl⟩)

set_option maxRecDepth 100000 in
set_option maxHeartbeats 1000000 in
theorem rnext_nil (p d : Nat) (e : Int) (w : World) (h : Rd p d w [] e) :
    Calls Try.prog 87 #[.pointer (some ⟨p, 0, none⟩)] w fun x w' => x = .returned (.tuple #[.int .u8 0, .bool false]) ∧ Rd p d w' [] (stk e 3) ∧ w.grownBy w' (some p) := by
  obtain ⟨a, n, c, h0, h1, f0, f1, hn, hnc, hv⟩ := h.open
  have K := Lib.hid (rfail_any p d [] e 3 w h)
  obtain rfl : n = 0 := by rw [hn.out]; rfl
  clear h
  go_enter Try.func87, Try.ntmps87
  go_wp2_with fail
  (with_reducible refine K.out.mono ?_)
  rintro x w1 ⟨rfl, hR, hg⟩
  have HR := Lib.hid hR
  have HG := Lib.hid hg
  clear hR hg
  go_wp2_with fail
  go_ret2
  exact ⟨rfl, HR.out, HG.out⟩

theorem took_one {p d : Nat} {b : Int} {l : List Int} {e : Int} {w w' : World} {x : Ending} (h : Took p d w ((b :: l).take 1) ((b :: l).drop 1) e x w') :
    ∃ off c, x = .returned (.slice (some ⟨d, off, none⟩) 1 c) ∧ w'.cell? ⟨d, off, none⟩ = some (.int .u8 b) ∧ Hid (Rd p d w' l e) ∧ Hid (w.grownBy w' (some p)) := by
  obtain ⟨a, n, c, rfl, hn, hv, hR, hg⟩ := h
  rcases hv.out with ⟨_, h0⟩ | ⟨_, _, ⟨_, h0⟩ | ⟨off, cap, he, hl, hc⟩⟩
  · simp at h0
  · simp at h0
  · cases he
    exact ⟨off, c, rfl, hc 0 (by simp), hR, hg⟩

set_option maxRecDepth 100000 in
set_option maxHeartbeats 1000000 in
theorem rnext_cons (p d : Nat) (b : Int) (l : List Int) (e : Int) (w : World) (h : Rd p d w (b :: l) e) (hl : (b :: l).length ≤ 100000000000) :
    Calls Try.prog 87 #[.pointer (some ⟨p, 0, none⟩)] w fun x w' => x = .returned (.tuple #[.int .u8 b, .bool true]) ∧ Rd p d w' l e ∧ w.grownBy w' (some p) := by
  obtain ⟨a, n, c, h0, h1, f0, f1, hn, hnc, hv⟩ := h.open
  have K := Lib.hid (rtake_any p d 1 (b :: l) e w h (by simp) hl)
  have hn1 : 0 < n := by rw [hn.out]; simp
  clear h hl
  have hnz : ((n : Int) == 0) = false := by rw [beq_eq_false_iff_ne]; omega
  go_enter Try.func87, Try.ntmps87
  go_wp2_with fail
  refine K.out.mono ?_
  intro x w1 ht
  obtain ⟨off, c1, rfl, hc1, HR, HG⟩ := took_one ht
  clear ht
  go_wp2_with fail
  go_ret2
  exact ⟨rfl, HR.out, HG.out⟩

theorem rd_byt {c : Int} {t : List Int} (h : Hm.Byt (c :: t)) : 0 ≤ c ∧ c < 256 ∧ Hm.Byt t := ⟨(h c (List.mem_cons_self ..)).1, (h c (List.mem_cons_self ..)).2, fun z hz => h z (List.mem_cons_of_mem _ hz)⟩

theorem rU_last {l t : List Int} {k acc : Nat} {c : Int} (e : Int) (h : Hm.rdU 0 0 l = Hm.rdU k acc (c :: t)) (hn : ¬ ((k = 9 ∧ 1 < c) ∨ (0 < k ∧ c = 0))) (hc : c < 128) : Hm.rU l e = (acc + 128 ^ k * c.toNat, t, e) := by
  rw [Hm.rU, h, Hm.rdU_last hn hc]
  by_cases he : e = 0
  · rw [if_pos he, he]
  · rw [if_neg he]

theorem rU_bad {l t : List Int} {k acc : Nat} {c : Int} (e : Int) (h : Hm.rdU 0 0 l = Hm.rdU k acc (c :: t)) (hn : (k = 9 ∧ 1 < c) ∨ (0 < k ∧ c = 0)) : Hm.rU l e = (0, [], stk e 2) := by
  rw [Hm.rU, h, Hm.rdU_bad hn]
  rfl

/-- A group as the reader adds it. -/
theorem or_spelt {k acc : Nat} {c : Int} (hc0 : 0 ≤ c) (ha : acc < 128 ^ k) (h : acc + 128 ^ k * (c.toNat % 128) < 18446744073709551616) : bits .or .u64 (acc : Int) (IntKind.u64.wrap (c % 128 * 2 ^ (7 * k))) = ((acc + 128 ^ k * (c.toNat % 128) : Nat) : Int) := by
  have e1 : c % 128 * 2 ^ (7 * k) = ((128 ^ k * (c.toNat % 128) : Nat) : Int) := by
    have e2 : c % 128 = ((c.toNat % 128 : Nat) : Int) := by omega
    rw [e2, Int.natCast_mul, Int.natCast_pow, Int.mul_comm, show (2 : Int) ^ (7 * k) = ((128 : Nat) : Int) ^ k by rw [Int.pow_mul]; rfl]
  have e3 : IntKind.u64.wrap (c % 128 * 2 ^ (7 * k)) = ((128 ^ k * (c.toNat % 128) : Nat) : Int) := by
    rw [e1, IntKind.wrap_u64]
    omega
  rw [e3, bits_or_u64_nat _ _ (by omega) (by omega), Nat.or_comm]
  have e4 : (128 : Nat) ^ k = 2 ^ (7 * k) := by rw [Nat.pow_mul]
  rw [nat_join (7 * k) _ _ (by rw [e4]; exact Nat.mul_mod_right _ _) (by rw [← e4]; exact ha), Nat.add_comm]

theorem group_fits {k acc : Nat} {c : Int} (hk : k ≤ 9) (h9 : k = 9 → c ≤ 1) (ha : acc < 128 ^ k) : acc + 128 ^ k * (c.toNat % 128) < 18446744073709551616 := by
  by_cases h : k = 9
  · subst h
    have := h9 rfl
    have e : (128 : Nat) ^ 9 = 9223372036854775808 := by decide
    rw [e] at ha ⊢
    omega
  · have h1 := Hm.group_le (i := k) (g := c.toNat % 128) (by omega) (by omega)
    have h2 := Hm.pow128_le (i := k) (by omega)
    omega

theorem group_next {k acc : Nat} {c : Int} (ha : acc < 128 ^ k) : acc + 128 ^ k * (c.toNat % 128) < 128 ^ (k + 1) := by
  rw [Nat.pow_succ]
  have : 128 ^ k * (c.toNat % 128) ≤ 128 ^ k * 127 := Nat.mul_le_mul_left _ (by omega)
  omega

set_option maxRecDepth 100000 in
set_option maxHeartbeats 2000000 in
theorem ruint_any (p d : Nat) (l : List Int) (e : Int) (w : World) (h : Rd p d w l e) (hb : Hm.Byt l) (hl : l.length ≤ 100000000000) :
    Calls Try.prog 77 #[.pointer (some ⟨p, 0, none⟩)] w fun x w' => x = .returned (.int .u64 (Hm.rU l e).1) ∧ Rd p d w' (Hm.rU l e).2.1 (Hm.rU l e).2.2 ∧ w.grownBy w' (some p) := by
  have HH := Lib.hid h
  have HBY := Lib.hid hb
  have HLL := Lib.hid hl
  clear h hb hl
  go_enter Try.func77, Try.ntmps77
  go_wp2_with fail
  go_loopw [3, 4] (fun v i wr => ∃ k acc : Nat, ∃ t : List Int, k ≤ 9 ∧ i = .int .i64 k ∧ v = .int .u64 acc ∧ Hid (acc < 128 ^ k ∧ Hm.Byt t ∧ t.length ≤ 100000000000 ∧ Hm.rdU 0 0 l = Hm.rdU k acc t) ∧ Hid (Rd p d wr t e) ∧ Hid (w.grownBy wr (some p))) (fun _ i _ => 10 - (intOf i).toNat)
  case atStart => exact ⟨0, 0, l, by omega, rfl, rfl, ⟨by decide, HBY.out, HLL.out, rfl⟩, HH.out, grown_refl _ _⟩
  case round =>
    obtain ⟨k, acc, t, hk, rfl, rfl, hD, hR, hG⟩ := hrel
    cases t with
    | nil =>
      have K := Lib.hid (rnext_nil p d e wr hR.out)
      go_wp2_with fail
      (with_reducible refine K.out.mono ?_)
      rintro x w1 ⟨rfl, hR1, hg1⟩
      have HR1 := Lib.hid hR1
      have HG1 := Lib.hid (grown_trans hG.out hg1)
      clear hR1 hg1
      go_wp2_with fail
      go_ret
      have e1 := hD.out.2.2.2
      refine ⟨ret_int ?_, ?_, HG1.out⟩
      · rw [Hm.rU, e1, Hm.rdU_nil]; rfl
      · rw [Hm.rU, e1, Hm.rdU_nil]; exact HR1.out
    | cons c t =>
      obtain ⟨hc0, hc1, hbt⟩ := rd_byt hD.out.2.1
      have HBT := Lib.hid hbt
      have K := Lib.hid (rnext_cons p d c t e wr hR.out hD.out.2.2.1)
      clear hbt
      go_wp2_with fail
      (with_reducible refine K.out.mono ?_)
      rintro x w1 ⟨rfl, hR1, hg1⟩
      have HR1 := Lib.hid hR1
      have HG1 := Lib.hid (grown_trans hG.out hg1)
      clear hR1 hg1
      by_cases k9 : k = 9
      · have t9 : ((k : Int) == 9) = true := by rw [beq_iff_eq]; omega
        have tk0 : 0 < (k : Int) := by omega
        have K9 := Lib.hid k9
        clear k9
        by_cases c1 : 1 < c
        · have ok := c1
          go_wp2_with fail
          (with_reducible refine (rfail_any p d t e 2 w1 HR1.out).mono ?_)
          rintro x w2 ⟨rfl, hR2, hg2⟩
          have HR2 := Lib.hid hR2
          have HG2 := Lib.hid (grown_trans HG1.out hg2)
          clear hR2 hg2
          go_wp2_with fail
          go_ret
          rw [rU_bad e hD.out.2.2.2 (.inl ⟨K9.out, c1⟩)]
          exact ⟨rfl, HR2.out, HG2.out⟩
        · have c1' : c ≤ 1 := by omega
          clear c1
          by_cases c0 : c = 0
          · subst c0
            go_wp2_with fail
            (with_reducible refine (rfail_any p d t e 2 w1 HR1.out).mono ?_)
            rintro x w2 ⟨rfl, hR2, hg2⟩
            have HR2 := Lib.hid hR2
            have HG2 := Lib.hid (grown_trans HG1.out hg2)
            clear hR2 hg2
            go_wp2_with fail
            go_ret
            rw [rU_bad e hD.out.2.2.2 (.inr ⟨by omega, rfl⟩)]
            exact ⟨rfl, HR2.out, HG2.out⟩
          · have tc0 : (c == 0) = false := by rw [beq_eq_false_iff_ne]; exact c0
            have c128 : c < 128 := by omega
            have hor := Lib.hid (or_spelt (c := c) (acc := acc) (k := k) hc0 hD.out.1 (group_fits hk (by omega) hD.out.1))
            have hr := Lib.hid (rU_last e hD.out.2.2.2 (by omega) c128)
            go_wp2_with fail
            go_ret
            rw [hr.out]
            refine ⟨ret_int ?_, HR1.out, HG1.out⟩
            first | rw [hor.out] | skip
            rw [show c.toNat % 128 = c.toNat by omega]
      · have hk8 : k ≤ 8 := by omega
        have t9 : ((k : Int) == 9) = false := by rw [beq_eq_false_iff_ne]; omega
        by_cases k0 : k = 0
        · subst k0
          have ha0 : acc = 0 := by have := hD.out.1; simpa using this
          subst ha0
          by_cases c128 : c < 128
          · have hr := Lib.hid (rU_last e hD.out.2.2.2 (by omega) c128)
            have hor := Lib.hid (or_spelt (c := c) (acc := 0) (k := 0) hc0 (by decide) (group_fits (by decide) (by omega) (by decide)))
            go_wp2_with fail
            go_ret
            rw [hr.out]
            refine ⟨ret_int ?_, HR1.out, HG1.out⟩
            have h := hor.out
            rw [Nat.mul_zero, Int.pow_zero, Int.mul_one, IntKind.wrap_u64] at h
            rw [show c % 128 % 18446744073709551616 = c % 128 by omega] at h
            refine h.trans ?_
            congr 2
            omega
          · have hor := Lib.hid (or_spelt (c := c) (acc := 0) (k := 0) hc0 (by decide) (group_fits (by decide) (by omega) (by decide)))
            have hm := Lib.hid (Hm.rdU_more (i := 0) (acc := 0) (c := c) (l := t) (by omega) (by omega))
            go_wp2_with fail
            go_roundw
            case rel =>
              refine ⟨1, 0 + 128 ^ 0 * (c.toNat % 128), t, by omega, rfl, ?_, ⟨group_next (by decide), HBT.out, by have := hD.out.2.2.1; rw [List.length_cons] at this; omega, hD.out.2.2.2.trans hm.out⟩, HR1.out, HG1.out⟩
              have h := hor.out
              rw [Nat.mul_zero, Int.pow_zero, Int.mul_one, IntKind.wrap_u64] at h
              rw [show c % 128 % 18446744073709551616 = c % 128 by omega] at h
              exact congrArg _ h
            case measure => simp [intOf]
        · have tk0 : 0 < (k : Int) := by omega
          by_cases c0 : c = 0
          · subst c0
            go_wp2_with fail
            (with_reducible refine (rfail_any p d t e 2 w1 HR1.out).mono ?_)
            rintro x w2 ⟨rfl, hR2, hg2⟩
            have HR2 := Lib.hid hR2
            have HG2 := Lib.hid (grown_trans HG1.out hg2)
            clear hR2 hg2
            go_wp2_with fail
            go_ret
            rw [rU_bad e hD.out.2.2.2 (.inr ⟨by omega, rfl⟩)]
            exact ⟨rfl, HR2.out, HG2.out⟩
          · have tc0 : (c == 0) = false := by rw [beq_eq_false_iff_ne]; exact c0
            by_cases c128 : c < 128
            · have ok := c128
              have hor := Lib.hid (or_spelt (c := c) (acc := acc) (k := k) hc0 hD.out.1 (group_fits hk (by omega) hD.out.1))
              have hr := Lib.hid (rU_last e hD.out.2.2.2 (by omega) c128)
              go_wp2_with fail
              go_ret
              rw [hr.out]
              refine ⟨ret_int ?_, HR1.out, HG1.out⟩
              first | rw [hor.out] | skip
              rw [show c.toNat % 128 = c.toNat by omega]
            · have hor := Lib.hid (or_spelt (c := c) (acc := acc) (k := k) hc0 hD.out.1 (group_fits hk (by omega) hD.out.1))
              have hm := Lib.hid (Hm.rdU_more (i := k) (acc := acc) (c := c) (l := t) (by omega) (by omega))
              clear k9 k0 c0
              go_wp2_with fail
              go_roundw
              case rel => exact ⟨k + 1, acc + 128 ^ k * (c.toNat % 128), t, by omega, by go_num, congrArg _ hor.out, ⟨group_next hD.out.1, HBT.out, by have := hD.out.2.2.1; rw [List.length_cons] at this; omega, hD.out.2.2.2.trans hm.out⟩, HR1.out, HG1.out⟩
              case measure => simp [intOf]; omega

end Go.Proofs.Ytejllfpcffeogaa
