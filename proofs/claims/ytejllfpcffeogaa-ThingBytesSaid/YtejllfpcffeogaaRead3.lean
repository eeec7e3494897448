/- What Text, Raw, Ints, End of wire.Reader return, and Read. -/
import Derived.Test.YtejllfpcffeogaaRead2
namespace Go.Proofs.Ytejllfpcffeogaa
open Go.RowKit Go.Shelf



theorem rLen_le {l : List Int} (hb : Hm.Byt l) (e : Int) : (Hm.rLen l e).1 ≤ (Hm.rLen l e).2.1.length ∧ (Hm.rLen l e).2.1.length ≤ l.length ∧ Hm.Byt (Hm.rLen l e).2.1 := by
  have h := Hm.rU_left hb e
  unfold Hm.rLen
  split
  · exact ⟨Nat.le_refl _, by simp, Hm.byt_nil⟩
  · exact ⟨by omega, h.2, h.1⟩

/-- The slice of Took can be read. -/
theorem took_els {p d : Nat} {w : World} {sv : Value} {t : List Int} (h : (Emp sv ∧ t = []) ∨ (p ≠ d ∧ d < w.heap.size ∧ Elems .u8 d w sv t)) : Els .u8 w sv t := by
  rcases h with h | ⟨_, hd, h | ⟨off, cap, rfl, hl, hc⟩⟩
  · exact .inl h
  · exact .inl h
  · exact .inr ⟨d, off, cap, hd, rfl, hl, hc⟩


/-- What a call that makes a slice of the reader's values leaves. -/
def MakesR (k : IntKind) (E : TypeId) (p d : Nat) (zs l : List Int) (e : Int) (w : World) (x : Ending) (w' : World) : Prop :=
  ∃ a n cap, x = .returned (.slice a n cap) ∧ Hid (n = zs.length) ∧ Hid (Own k E w.heap.size w' (.slice a n cap) zs) ∧ Hid (Rd p d w' l e) ∧ Hid (w.grownBy w' (some p))

theorem own_baseR {k : IntKind} {E : TypeId} {B B' : Nat} {w : World} {sv : Value} {zs : List Int} (h : Own k E B w sv zs) (hB : B' ≤ B) : Own k E B' w sv zs := by
  obtain ⟨hx, hv | ⟨g, cap, cur, hv, hg, hr⟩⟩ := h
  · exact ⟨hx, .inl hv⟩
  · exact ⟨hx, .inr ⟨g, cap, cur, hv, by omega, hr⟩⟩

theorem makesR_of {k : IntKind} {E : TypeId} {p d : Nat} {zs l : List Int} {e : Int} {w w' : World} {v : Value} (h : Own k E w.heap.size w' v zs) (hR : Rd p d w' l e) (hB : w.grownBy w' (some p)) : MakesR k E p d zs l e w (.returned v) w' := by
  obtain ⟨a, cap, rfl⟩ := h.shape
  exact ⟨a, _, cap, rfl, rfl, h, hR, hB⟩

set_option maxRecDepth 100000 in
set_option maxHeartbeats 1000000 in
theorem rraw_any (p d : Nat) (l : List Int) (e : Int) (w : World) (h : Rd p d w l e) (hb : Hm.Byt l) (hl : l.length ≤ 100000000000) :
    Calls Try.prog 27 #[.pointer (some ⟨p, 0, none⟩)] w (MakesR .u8 5 p d (Hm.rRaw l e).1 (Hm.rRaw l e).2.1 (Hm.rRaw l e).2.2 w) := by
  have K := Lib.hid (rlen_any p d l e w h hb hl)
  obtain ⟨h1, h2, h3⟩ := rLen_le hb e
  have hdef : Hm.rRaw l e = ((Hm.rLen l e).2.1.take (Hm.rLen l e).1, (Hm.rLen l e).2.1.drop (Hm.rLen l e).1, (Hm.rLen l e).2.2) := rfl
  rw [hdef]
  generalize (Hm.rLen l e).1 = z at *
  generalize (Hm.rLen l e).2.1 = l2 at *
  generalize (Hm.rLen l e).2.2 = e2 at *
  have H1 := Lib.hid h1
  have H2 := Lib.hid (Nat.le_trans h2 hl)
  have hz9 : z ≤ 100000000000 := by omega
  clear h hb hl hdef h1 h2 h3
  go_enter Try.func27, Try.ntmps27
  go_wp2_with fail
  (with_reducible refine K.out.mono ?_)
  rintro x w1 ⟨rfl, hR, hg⟩
  have HR := Lib.hid hR
  have HG := Lib.hid hg
  clear hR hg
  go_wp2_with fail
  (with_reducible refine (rtake_any p d z l2 e2 w1 HR.out H1.out H2.out).mono ?_)
  rintro x w2 ⟨a, n, c, rfl, hn, hv, hR2, hg2⟩
  have HG2 := Lib.hid (grown_trans HG.out hg2.out)
  have HTL := Lib.hid (show (l2.take z).length ≤ 100000000000 by rw [List.length_take]; omega)
  go_wp2_with fail
  (with_reducible refine (wclone_any _ (l2.take z) _ HTL.out (took_els hv.out)).mono ?_)
  rintro x w3 ⟨a3, n3, c3, rfl, hn3, hO3, hB3⟩
  have HO := Lib.hid (own_baseR hO3.out HG2.out.size)
  have HR3 := Lib.hid (hR2.out.below hB3.out)
  have HG3 := Lib.hid (grown_trans HG2.out (grown_below hB3.out))
  go_wp2_with fail
  go_ret
  exact ⟨_, _, _, rfl, hn3, HO.out, HR3.out, HG3.out⟩

theorem own_cells {k : IntKind} {E : TypeId} {B g n c : Nat} {w : World} {zs : List Int} (h : Own k E B w (.slice (some ⟨g, 0, none⟩) n c) zs) (hn : n = zs.length) (j : Nat) (hj : j < n) :
    w.cell? ⟨g, j, none⟩ = some (.int k (zs[j]?.getD 0)) ∧ w.frozen? ⟨g, j, none⟩ = false := by
  obtain ⟨g2, he, _, _, h1, h2⟩ := h.open hn (by omega)
  cases he
  exact ⟨h1 j hj, h2 j⟩

theorem grown_later {p g o : Nat} {a b : World} {v : Value} (h : a.grownBy b (some p)) (hg : a.heap.size ≤ g) : a.grownBy (b.setCell ⟨g, o, none⟩ v) (some p) :=
  ⟨h.os, h.tape, h.output, by simpa [World.setCell] using h.size, fun k hk hr => (Below.heap_setCell _ _ _ _ (by show k ≠ g; omega)).trans (h.block k hk hr)⟩

theorem set_mid (xs : List Int) (k z : Nat) (v : Int) (hx : xs.length = k) (hk : k < z) : (xs ++ List.replicate (z - k) 0).set k v = (xs ++ [v]) ++ List.replicate (z - (k + 1)) 0 := by
  subst hx
  have e : z - xs.length = (z - (xs.length + 1)) + 1 := by omega
  rw [e, List.replicate_succ, List.set_append_right _ _ (Nat.le_refl _), Nat.sub_self, List.set_cons_zero, List.append_assoc]
  rfl

theorem zeros_list (n : Nat) : (madeCells #[.int .i64 0] (n * 1)).toList = (List.replicate n 0).map (Value.int .i64) := by
  apply List.ext_getElem
  · simp [madeCells]
  · intro i h1 h2
    simp [madeCells, Nat.mod_one]

/-- Behind a make of n numbers. -/
theorem own_made {B n : Nat} {w : World} {g : Nat} {E : TypeId} (h : w.ownsRow B E 1 (.slice (some ⟨g, 0, none⟩) n n) n (madeCells #[.int .i64 0] (n * 1)).toList) : Own .i64 E B w (.slice (some ⟨g, 0, none⟩) n n) (List.replicate n 0) := by
  unfold Own
  rw [List.length_replicate, ← zeros_list]
  exact h

set_option maxRecDepth 100000 in
set_option maxHeartbeats 1000000 in
theorem rlist_any (p d : Nat) (l : List Int) (e : Int) (w : World) (h : Rd p d w l e) (hd : d < w.heap.size) (hb : Hm.Byt l) (hl : l.length ≤ 100000000000) :
    Calls Try.prog 88 #[.pointer (some ⟨p, 0, none⟩), .func (.func 80) #[.pointer (some ⟨p, 0, none⟩)] #[]] w (MakesR .i64 3 p d (Hm.rInts l e).1 (Hm.rInts l e).2.1 (Hm.rInts l e).2.2 w) := by
  obtain ⟨i0, hi, hz0, hz1, hz2⟩ := info_parts Try.infoI64
  have K := Lib.hid (rlen_any p d l e w h hb hl)
  obtain ⟨h1, h2, h3⟩ := rLen_le hb e
  have hdef : Hm.rInts l e = Hm.rIs (Hm.rLen l e).1 (Hm.rLen l e).2.1 (Hm.rLen l e).2.2 [] := rfl
  have hplt := Lib.hid h.lt
  have HDD := Lib.hid hd
  clear hd
  generalize Hm.rInts l e = q at *
  generalize (Hm.rLen l e).1 = z at *
  generalize (Hm.rLen l e).2.1 = l2 at *
  generalize (Hm.rLen l e).2.2 = e2 at *
  have HI := Lib.hid hi
  have HZ := Lib.hid hz0
  have HZ1 := Lib.hid hz1
  have HZ2 := Lib.hid hz2
  have HD := Lib.hid hdef
  have H1 := Lib.hid h1
  have H2 := Lib.hid (Nat.le_trans h2 hl)
  have H3 := Lib.hid h3
  have hz9 : z ≤ 100000000000 := by omega
  clear h hb hl hdef h1 h2 h3 hi hz0 hz1 hz2
  go_enter Try.func88, Try.ntmps88
  go_wp2_with fail
  (with_reducible refine K.out.mono ?_)
  rintro x w1 ⟨rfl, hR, hg⟩
  have HR := Lib.hid hR
  have HG := Lib.hid hg
  clear hR hg
  go_wp2_with (at_make; go_loud (refine wpList_make_full _ rfl _ _ 22 rfl w1.heap.size 3 i0 (.int .i64 0) 1 Try.underlying22 HI.out HZ.out HZ1.out .i64 .i64 z z z rfl rfl rfl rfl (by rw [HZ2.out]; omega) (by unfold maxLen; omega) (Nat.le_refl _) ?_); intro w2 hown hgrow; have HO2 := Lib.hid hown; have HG2 := Lib.hid hgrow; clear hown hgrow)
  have HO3 := Lib.hid (own_made HO2.out)
  have HR3 := Lib.hid (HR.out.keep HG2.out.size (HG2.out.block p HR.out.lt (by simp)) fun hd => HG2.out.block d hd (by simp))
  have HG3 := Lib.hid (grown_trans HG.out (⟨HG2.out.os, HG2.out.tape, HG2.out.output, HG2.out.size, fun k hk _ => HG2.out.block k hk (by simp)⟩ : w1.grownBy w2 (some p)))
  have hpg : p < w1.heap.size := Nat.lt_of_lt_of_le hplt.out HG.out.size
  go_loopw [12] (fun v wr => ∃ k : Nat, ∃ xs lk : List Int, ∃ ek : Int, k ≤ z ∧ v = .int .i64 k ∧ Hid (xs.length = k) ∧ Hid (Own .i64 3 w1.heap.size wr (.slice (some ⟨w1.heap.size, 0, none⟩) z z) (xs ++ List.replicate (z - k) 0)) ∧ Hid (Rd p d wr lk ek) ∧ Hid (w.grownBy wr (some p)) ∧ Hid (Hm.Byt lk ∧ lk.length ≤ 100000000000 ∧ q = Hm.rIs (z - k) lk ek xs)) (fun v _ => z - (intOf v).toNat)
  case atStart => exact ⟨0, [], l2, e2, Nat.zero_le _, rfl, rfl, HO3.out, HR3.out, HG3.out, ⟨H3.out, H2.out, HD.out⟩⟩
  case round =>
    obtain ⟨k, xs, lk, ek, hk, rfl, hx, hO, hR, hG, hD⟩ := hrel
    by_cases hlt : k < z
    · have K2 := Lib.hid (rint_any p d lk ek wr hR.out hD.out.1 hD.out.2.1)
      have hlen : z = (xs ++ List.replicate (z - k) 0).length := by rw [List.length_append, List.length_replicate, hx.out]; omega
      have HLEN := Lib.hid hlen
      clear hlen
      have hl3 := Hm.rU_left hD.out.1 ek
      have hst : q = if (Hm.rU lk ek).2.2 = 0 then Hm.rIs (z - (k + 1)) (Hm.rU lk ek).2.1 (Hm.rU lk ek).2.2 (xs ++ [Hm.unzig (Hm.rU lk ek).1]) else ([], (Hm.rU lk ek).2.1, (Hm.rU lk ek).2.2) := by
        rw [hD.out.2.2, show z - k = (z - (k + 1)) + 1 by omega, Hm.rIs]
      generalize Hm.unzig (Hm.rU lk ek).1 = v at *
      generalize (Hm.rU lk ek).2.1 = l3 at *
      generalize (Hm.rU lk ek).2.2 = e3 at *
      have HST := Lib.hid hst
      have HL3 := Lib.hid (And.intro hl3.1 (Nat.le_trans hl3.2 hD.out.2.1))
      clear hst hl3
      go_wp2_with fail
      (with_reducible refine K2.out.mono ?_)
      rintro x w3 ⟨rfl, hR3, hg3⟩
      have HR4 := Lib.hid hR3
      have HO4 := Lib.hid (World.ownsRow.kept hO.out hg3 (.inr (by simp [Value.ownBlock]; omega)))
      have HG4 := Lib.hid (grown_trans hG.out hg3)
      clear hR3 hg3
      obtain ⟨hck, hfk⟩ := own_cells HO4.out HLEN.out k hlt
      obtain ⟨a4, n4, c4, hc0, hc1, hf0, hf1, _, _, _⟩ := HR4.out.open
      clear hc0 hf0 hf1
      have HO5 := Lib.hid (Own.set HO4.out HLEN.out k v)
      have HR5 := Lib.hid (HR4.out.keep (w' := w3.setCell ⟨w1.heap.size, k, none⟩ (.int .i64 v)) (by simp [World.setCell]) (Below.heap_setCell _ _ _ _ (by show p ≠ w1.heap.size; omega)) (fun hd => Below.heap_setCell _ _ _ _ (by have h1 := HDD.out; have h2 := HG.out.size; show d ≠ w1.heap.size; omega)))
      have HG5 := Lib.hid (grown_later HG4.out (o := k) (v := .int .i64 v) HG.out.size)
      by_cases he3 : e3 = 0
      · subst he3
        go_wp2_with fail
        go_roundw
        case rel => exact ⟨k + 1, xs ++ [v], l3, 0, by omega, by go_num, (by show _ = _; rw [List.length_append, hx.out]; rfl), (by have := HO5.out; rwa [set_mid xs k z v hx.out hlt] at this), HR5.out, HG5.out, ⟨HL3.out.1, HL3.out.2, HST.out.trans (by first | exact if_pos rfl | exact if_pos trivial)⟩⟩
        case measure => simp [intOf]; omega
      · have te : (e3 == 0) = false := by rw [beq_eq_false_iff_ne]; exact he3
        have te2 : (e3 != 0) = true := by rw [bne_iff_ne]; exact he3
        have HQ := Lib.hid (HST.out.trans (if_neg he3))
        clear he3
        go_wp2_with fail
        go_ret
        rw [HQ.out]
        exact makesR_of (World.ownsRow_nil _ _ _ _) HR5.out HG5.out
    · obtain rfl : k = z := by omega
      have HQ : Hid (q = (xs, lk, ek)) := by show _ = _; rw [hD.out.2.2, Nat.sub_self, Hm.rIs]
      have HO6 := hO.out
      rw [Nat.sub_self, List.replicate_zero, List.append_nil] at HO6
      have HO7 := Lib.hid HO6
      clear HO6
      go_wp2_with fail
      go_ret
      rw [HQ.out]
      exact makesR_of (own_baseR HO7.out HG.out.size) hR.out hG.out

set_option maxRecDepth 100000 in
set_option maxHeartbeats 1000000 in
theorem rints_any (p d : Nat) (l : List Int) (e : Int) (w : World) (h : Rd p d w l e) (hd : d < w.heap.size) (hb : Hm.Byt l) (hl : l.length ≤ 100000000000) :
    Calls Try.prog 79 #[.pointer (some ⟨p, 0, none⟩)] w (MakesR .i64 3 p d (Hm.rInts l e).1 (Hm.rInts l e).2.1 (Hm.rInts l e).2.2 w) := by
  have K := Lib.hid (rlist_any p d l e w h hd hb hl)
  clear h hd hb hl
  go_enter Try.func79, Try.ntmps79
  go_wp2_with fail
  (with_reducible refine K.out.mono ?_)
  rintro x w1 ⟨a, n, c, rfl, hn, hO, hR, hG⟩
  go_wp2_with fail
  go_ret
  exact ⟨_, _, _, rfl, hn, hO, hR, hG⟩


set_option maxRecDepth 100000 in
set_option maxHeartbeats 1000000 in
theorem rend_any (p d : Nat) (l : List Int) (e : Int) (w : World) (h : Rd p d w l e) (hl : l.length ≤ 100000000000) :
    Calls Try.prog 57 #[.pointer (some ⟨p, 0, none⟩)] w fun x w' => x = .returned (.int .i64 (Hm.rEnd l e)) ∧ w = w' := by
  obtain ⟨a, n, c, h0, h1, f0, f1, hn, hnc, hv⟩ := h.open
  have hn2 : n ≤ 100000000000 := by rw [hn.out]; exact hl
  clear h hv hl f0 f1
  by_cases he : e = 0
  · by_cases hn0 : 0 < n
    · have hr : Hid (Hm.rEnd l e = 2) := by
        show _ = _
        rw [Hm.rEnd, if_pos ⟨he, by rw [← hn.out]; exact hn0⟩]
      subst he
      have hn1 : 0 < (n : Int) := by omega
      go_enter Try.func57, Try.ntmps57
      go_wp2_with fail
      go_ret
      exact ⟨ret_int hr.out.symm, rfl⟩
    · obtain rfl : n = 0 := by omega
      have hr : Hid (Hm.rEnd l e = 0) := by
        show _ = _
        rw [Hm.rEnd, if_neg (by rw [← hn.out]; omega), he]
      subst he
      clear hn0
      go_enter Try.func57, Try.ntmps57
      go_wp2_with fail
      go_ret
      exact ⟨ret_int hr.out.symm, rfl⟩
  · have hr : Hid (Hm.rEnd l e = e) := by
      show _ = _
      rw [Hm.rEnd, if_neg (fun h => he h.1)]
    have te : (e == 0) = false := by rw [beq_eq_false_iff_ne]; exact he
    clear he
    go_enter Try.func57, Try.ntmps57
    go_wp2_with fail
    go_ret
    exact ⟨ret_int hr.out.symm, rfl⟩

/-- What Read leaves: a reader of a copy. -/
def Reads (zs : List Int) (w : World) (x : Ending) (w' : World) : Prop :=
  ∃ p d, x = .returned (.pointer (some ⟨p, 0, none⟩)) ∧ w.heap.size ≤ p ∧ w.heap.size ≤ d ∧ d < w'.heap.size ∧ Hid (Rd p d w' zs 0) ∧ Hid (Below w.heap.size w w')

theorem reads_mk {E T : TypeId} {w w1 : World} {a : Option Addr} {n c : Nat} {zs : List Int} (hO : Own .u8 E w.heap.size w1 (.slice a n c) zs) (hB : Below w.heap.size w w1) :
    Reads zs w (.returned (.pointer (some ⟨w1.heap.size, 0, none⟩))) (w1.alloc (.cells #[.slice a n c, .int .i64 0] T)) := by
  have hs := hB.size
  have hB2 : Below w.heap.size w (w1.alloc (.cells #[.slice a n c, .int .i64 0] T)) := hB.alloc hs _
  have hnew := World.alloc_heap_new w1 (.cells #[.slice a n c, .int .i64 0] T)
  by_cases h0 : Emp (.slice a n c) ∧ zs = []
  · exact ⟨w1.heap.size, w1.heap.size, rfl, hs, hs, by simp, ⟨_, T, hnew, .inl h0⟩, hB2⟩
  · have hO' := hO
    obtain ⟨hx, ⟨hv, hn⟩ | ⟨g, cap, cur, hv, hg, hc, hcap, _⟩⟩ := hO
    · exact absurd ⟨.inl hv, List.eq_nil_of_length_eq_zero hn⟩ h0
    · cases hv
      have hlt : g < w1.heap.size := (Array.getElem?_eq_some_iff.1 hc).1
      refine ⟨w1.heap.size, g, rfl, hs, hg, by simp; omega, ⟨_, T, hnew, .inr ⟨by omega, by simp; omega, .inr ⟨0, _, rfl, hcap, ?_⟩⟩⟩, hB2⟩
      intro j hj
      rw [Nat.zero_add]
      exact cell_alloc_l _ (own_cells hO' rfl j hj).1

set_option maxRecDepth 100000 in
set_option maxHeartbeats 1000000 in
theorem rread_any (sv : Value) (zs : List Int) (w : World) (hz : zs.length ≤ 100000000000) (h : Els .u8 w sv zs) :
    Calls Try.prog 25 #[sv] w (Reads zs w) := by
  obtain ⟨a0, c0, rfl⟩ := h.shape
  have K := Lib.hid (wclone_any _ zs w hz h)
  clear h hz
  go_enter Try.func25, Try.ntmps25
  go_wp2_with fail
  (with_reducible refine K.out.mono ?_)
  rintro x w1 ⟨a, n, c, rfl, hn, hO, hB⟩
  go_wp2_with fail
  go_ret
  exact reads_mk hO.out hB.out

end Go.Proofs.Ytejllfpcffeogaa
