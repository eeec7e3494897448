/- Raw, Ints and Read of the reference reader. -/
import Derived.Test.YtgipfbmomhlcjaaRef02s
namespace Go.Proofs.Ytgipfbmomhlcjaa
open Go.RowKit Go.Shelf

/-- What Raw leaves: a slice of the reader's own bytes. -/
def TRaw (p d : Nat) (w : World) (t l : List Int) (e : Int) (x : Ending) (w' : World) : Prop :=
  ∃ a n c, x = .returned (.slice a n c) ∧ Hid (Els .u8 w' (.slice a n c) t) ∧ Hid (∀ N, N ≠ d → Off N (.slice a n c)) ∧ Hid (Tw p d w' l e) ∧ Hid (w.grownBy w' (some p))

theorem off_d {p d N : Nat} {w : World} {sv : Value} {t : List Int} (h : (Emp sv ∧ t = []) ∨ (p ≠ d ∧ d < w.heap.size ∧ Elems .u8 d w sv t)) (hN : N ≠ d) : Off N sv := by
  rcases h with ⟨h, _⟩ | ⟨_, _, ⟨h, _⟩ | ⟨off, cap, h, _⟩⟩
  · exact .inl h
  · exact .inl h
  · exact .inr ⟨d, off, _, cap, Ne.symm hN, h⟩

set_option maxRecDepth 100000 in
set_option maxHeartbeats 2000000 in
theorem traw_any (p d : Nat) (l : List Int) (e : Int) (w : World) (h : Tw p d w l e) (ho : Hm.Okay l e) (hb : Hm.Byt l) :
    Calls Try.prog 52 #[.pointer (some ⟨p, 0, none⟩)] w (TRaw p d w (Hm.rRaw l e).1 (Hm.rRaw l e).2.1 (Hm.rRaw l e).2.2) := by
  have K := Lib.hid (tlen_any p d l e w h ho hb)
  obtain ⟨h1, h2, h3⟩ := rLen_le hb e
  have hok := rLen_okay e ho
  have hdef : Hm.rRaw l e = ((Hm.rLen l e).2.1.take (Hm.rLen l e).1, (Hm.rLen l e).2.1.drop (Hm.rLen l e).1, (Hm.rLen l e).2.2) := rfl
  rw [hdef]
  generalize (Hm.rLen l e).1 = z at *
  generalize (Hm.rLen l e).2.1 = l3 at *
  generalize (Hm.rLen l e).2.2 = e3 at *
  have H1 := Lib.hid h1
  have HOK := Lib.hid hok
  clear h ho hb hdef h1 h2 h3 hok
  go_enter Try.func52, Try.ntmps52
  go_wp2_with fail
  (with_reducible refine K.out.mono ?_)
  rintro x w1 ⟨rfl, ⟨l2, hR, hl2, hb2, hll2⟩, hg⟩
  obtain ⟨a, n, c, h0, h1, f0, f1, hn, hnc, hv⟩ := hR.open
  have HR := Lib.hid hR
  have HG := Lib.hid hg
  have HBY := Lib.hid hb2
  have HLL := Lib.hid hll2
  have hn9 : n ≤ 1000 := by rw [hn.out]; exact hll2
  by_cases he : e3 = 0
  · subst he
    obtain rfl := hl2 rfl
    have hkn : z ≤ n := by rw [hn.out]; exact H1.out
    have hby1 := Lib.hid (HBY.out.drop z)
    have hle1 := Lib.hid (show (l2.drop z).length ≤ 1000 by rw [List.length_drop]; have := HLL.out; omega)
    clear hl2 hR hg hb2 hll2
    cases a with
    | none =>
      have hz : n = 0 ∧ c = 0 := by
        rcases hv.out with ⟨he, _⟩ | ⟨_, _, ⟨he, _⟩ | ⟨off, cap, he, _⟩⟩
        · rcases he with he | ⟨x, cap, he⟩ <;> cases he
          exact ⟨rfl, rfl⟩
        · rcases he with he | ⟨x, cap, he⟩ <;> cases he
          exact ⟨rfl, rfl⟩
        · cases he
      obtain ⟨rfl, rfl⟩ := hz
      obtain rfl : z = 0 := by omega
      go_wp2_with fail
      go_ret
      obtain ⟨a', n', c', hx, _, hT, hR2, hG⟩ := took_mk (k := 0) (sv := .slice none 0 0) HR.out hv.out H1.out hn.out (.inl ⟨.inl rfl, hn.out⟩)
      cases hx
      exact ⟨_, _, _, rfl, took_els hT.out, fun N hN => off_d hT.out hN, tw_of hR2.out hby1.out hle1.out, grown_trans HG.out hG.out⟩
    | some x =>
      by_cases hkc : z = c
      · obtain rfl : n = z := by omega
        subst hkc
        go_wp2_with fail
        go_ret
        obtain ⟨a', n', c', hx, _, hT, hR2, hG⟩ := took_mk (k := n) (sv := .slice (some x) 0 0) HR.out hv.out H1.out hn.out (.inl ⟨.inr ⟨x, 0, rfl⟩, hn.out⟩)
        cases hx
        exact ⟨_, _, _, rfl, took_els hT.out, fun N hN => off_d hT.out hN, tw_of hR2.out hby1.out hle1.out, grown_trans HG.out hG.out⟩
      · have hkc2 : z < c := by omega
        clear hkc
        go_wp2_with fail
        go_ret
        obtain ⟨a', n', c', hx, _, hT, hR2, hG⟩ := took_mk (k := z) (sv := .slice (some (x.add z)) (n - z) (c - z)) HR.out hv.out H1.out hn.out (.inr ⟨_, rfl, rfl⟩)
        cases hx
        exact ⟨_, _, _, rfl, took_els hT.out, fun N hN => off_d hT.out hN, tw_of hR2.out hby1.out hle1.out, grown_trans HG.out hG.out⟩
  · have hz0 : z = 0 ∧ l3 = [] := by
      rcases HOK.out with h | h
      · exact absurd h he
      · exact ⟨h.2.1, h.2.2⟩
    obtain ⟨rfl, rfl⟩ := hz0
    have te : (e3 == 0) = false := by rw [beq_eq_false_iff_ne]; exact he
    have te2 : (e3 != 0) = true := by rw [bne_iff_ne]; exact he
    have HE := Lib.hid he
    clear hl2 hR hg hb2 hll2 he
    go_wp2_with fail
    go_ret
    exact ⟨_, _, _, rfl, emp_els _ _, fun N _ => .inl (.inl rfl), tw_err HR.out HE.out HBY.out HLL.out, HG.out⟩

theorem grown_past {p : Nat} {a b c : World} (h : a.grownBy b (some p)) (hB : Below a.heap.size b c) : a.grownBy c (some p) :=
  ⟨hB.os.trans h.os, hB.tape.trans h.tape, hB.output.trans h.output, Nat.le_trans h.size hB.size, fun k hk hr => (hB.block k hk).trans (h.block k hk hr)⟩

/-- What Ints leaves. -/
def TInts (p d : Nat) (w : World) (t l : List Int) (e : Int) (x : Ending) (w' : World) : Prop :=
  ∃ a n c, x = .returned (.slice a n c) ∧ Hid (Own .i64 3 w.heap.size w' (.slice a n c) t) ∧ Hid (Tw p d w' l e) ∧ Hid (w.grownBy w' (some p))

theorem tints_of {p d : Nat} {w w' : World} {t l : List Int} {e : Int} {v : Value} (h : Own .i64 3 w.heap.size w' v t) (hT : Tw p d w' l e) (hG : w.grownBy w' (some p)) : TInts p d w t l e (.returned v) w' := by
  obtain ⟨a, c, rfl⟩ := h.shape
  exact ⟨_, _, _, rfl, h, hT, hG⟩

set_option maxRecDepth 100000 in
set_option maxHeartbeats 2000000 in
theorem tints_any (p d : Nat) (l : List Int) (e : Int) (w : World) (h : Tw p d w l e) (hd : d < w.heap.size) (ho : Hm.Okay l e) (hb : Hm.Byt l) (hl : l.length ≤ 1000) :
    Calls Try.prog 53 #[.pointer (some ⟨p, 0, none⟩)] w (TInts p d w (Hm.rInts l e).1 (Hm.rInts l e).2.1 (Hm.rInts l e).2.2) := by
  have HI := Lib.hid Try.infoI64
  have K := Lib.hid (tlen_any p d l e w h ho hb)
  obtain ⟨h1, h2, h3⟩ := rLen_le hb e
  have hok := rLen_okay e ho
  have hplt := Lib.hid h.lt
  have HDD := Lib.hid hd
  have hdef : Hm.rInts l e = Hm.rIs (Hm.rLen l e).1 (Hm.rLen l e).2.1 (Hm.rLen l e).2.2 [] := rfl
  generalize Hm.rInts l e = q at *
  generalize (Hm.rLen l e).1 = z at *
  generalize (Hm.rLen l e).2.1 = l3 at *
  generalize (Hm.rLen l e).2.2 = e3 at *
  have S0 : Hid (Hm.Okay l3 e3 ∧ Hm.Byt l3 ∧ ((e3 = 0 ∧ q = Hm.rIs z l3 0 []) ∨ (e3 ≠ 0 ∧ q = ([], l3, e3)))) := by
    refine ⟨?_, h3, ?_⟩
    · rcases hok with h | h
      · exact .inl h
      · exact .inr ⟨h.1, h.2.2⟩
    · rcases hok with h | h
      · subst h
        exact .inl ⟨rfl, hdef⟩
      · obtain ⟨h4, rfl, rfl⟩ := h
        exact .inr ⟨h4, hdef⟩
  have hz9 : z ≤ 1000 := by omega
  clear h hd ho hb hl h1 h2 h3 hok hdef
  go_enter Try.func53, Try.ntmps53
  go_wp2_with fail
  (with_reducible refine K.out.mono ?_)
  rintro x w1 ⟨rfl, hT1, hg1⟩
  have HT1 := Lib.hid hT1
  have HG1 := Lib.hid hg1
  have hpg : p < w.heap.size := hplt.out
  clear hT1 hg1
  go_wp2_with fail
  go_loopw [4, 5] (fun v i wr => ∃ k : Nat, ∃ acc l1 : List Int, ∃ e1 : Int, ∃ ao no co, k ≤ z ∧ i = .int .i64 k ∧ v = .slice ao no co ∧ Hid (acc.length = k) ∧ Hid (Own .i64 3 w.heap.size wr (.slice ao no co) acc) ∧ Hid (Tw p d wr l1 e1) ∧ Hid (w.grownBy wr (some p)) ∧ Hid (Hm.Okay l1 e1 ∧ Hm.Byt l1 ∧ ((e1 = 0 ∧ q = Hm.rIs (z - k) l1 0 acc) ∨ (e1 ≠ 0 ∧ q = ([], l1, e1))))) (fun _ i _ => z - (intOf i).toNat)
  case atStart => exact ⟨0, [], l3, e3, none, 0, 0, Nat.zero_le _, rfl, rfl, rfl, World.ownsRow_nil _ _ _ _, HT1.out, HG1.out, S0.out⟩
  case round =>
    obtain ⟨k, acc, l1, e1, ao, no, co, hk, rfl, rfl, hac, hO, hT, hG, hD⟩ := hrel
    have hs : w.heap.size ≤ wr.heap.size := hG.out.size
    obtain ⟨l2, hR, hl2, hb2, hll2⟩ := hT.out
    obtain ⟨a, n, c, h0, h1, f0, f1, hn, hnc, hv⟩ := hR.open
    clear h0 f0 f1 hn hnc hv hR hl2 hb2 hll2
    by_cases he : e1 = 0
    · subst he
      have hq0 : q = Hm.rIs (z - k) l1 0 acc := by
        rcases hD.out.2.2 with h | h
        · exact h.2
        · exact absurd rfl h.1
      have HQ0 := Lib.hid hq0
      clear hq0
      by_cases hlt : k < z
      · have K2 := Lib.hid (tint_any p d l1 0 wr hT.out hD.out.1 hD.out.2.1)
        have hok2 := Hm.rU_okay hD.out.1
        have hby2 := (Hm.rU_left hD.out.2.1 0).1
        have hst : q = if (Hm.rU l1 0).2.2 = 0 then Hm.rIs (z - (k + 1)) (Hm.rU l1 0).2.1 (Hm.rU l1 0).2.2 (acc ++ [Hm.unzig (Hm.rU l1 0).1]) else ([], (Hm.rU l1 0).2.1, (Hm.rU l1 0).2.2) := by
          rw [HQ0.out, show z - k = (z - (k + 1)) + 1 by omega, Hm.rIs]
        generalize Hm.unzig (Hm.rU l1 0).1 = v at *
        generalize (Hm.rU l1 0).2.1 = l1' at *
        generalize (Hm.rU l1 0).2.2 = e1' at *
        have HST : Hid (Hm.Okay l1' e1' ∧ Hm.Byt l1' ∧ ((e1' = 0 ∧ q = Hm.rIs (z - (k + 1)) l1' 0 (acc ++ [v])) ∨ (e1' ≠ 0 ∧ q = ([], l1', e1')))) := by
          refine ⟨?_, hby2, ?_⟩
          · rcases hok2 with h | h
            · exact .inl h
            · exact .inr ⟨h.1, h.2.2⟩
          · by_cases h : e1' = 0
            · subst h
              exact .inl ⟨rfl, by rw [hst, if_pos rfl]⟩
            · exact .inr ⟨h, by rw [hst, if_neg h]⟩
        clear hok2 hby2 hst
        go_wp2_with fail
        (with_reducible refine K2.out.mono ?_)
        rintro x w2 ⟨rfl, hT2, hg2⟩
        have HT2 := Lib.hid hT2
        have hs2 : wr.heap.size ≤ w2.heap.size := hg2.size
        have hO2 : Hid (Own .i64 3 w.heap.size w2 (.slice ao no co) acc) := World.ownsRow.kept hO.out hg2 (by
          by_cases hvn : (Value.slice ao no co).ownBlock = none
          · exact .inl hvn
          · obtain ⟨g, hg⟩ := Option.ne_none_iff_exists'.1 hvn
            have := (hO.out.lt g hg)
            refine .inr ?_
            rw [hg]
            simp
            omega)
        have HG2 := Lib.hid (grown_trans hG.out hg2)
        clear hT2 hg2 h1
        go_wp2_with (at_builtin; refine push_own rfl _ _ 22 rfl .i64 3 8 Try.underlying22 HI.out (by decide) w.heap.size (.slice ao no co) acc _ _ rfl rfl hO2.out (by omega) (by have := hac.out; omega) ?_; intro a4 n4 c4 w4 hn4 hO4 hB4)
        go_roundw
        case rel => exact ⟨k + 1, acc ++ [v], l1', e1', a4, n4, c4, by omega, by go_num, rfl, (by show _ = _; rw [List.length_append, hac.out]; rfl), hO4.out, HT2.out.keep hB4.out.size (hB4.out.block p hpg) (fun _ => hB4.out.block d HDD.out), grown_past HG2.out hB4.out, HST.out⟩
        case measure => simp [intOf]; omega
      · obtain rfl : k = z := by omega
        have hq1 : Hid (q = (acc, l1, 0)) := by show _ = _; rw [HQ0.out, Nat.sub_self, Hm.rIs]
        clear hlt
        go_wp2_with fail
        go_ret
        rw [hq1.out]
        exact tints_of hO.out hT.out hG.out
    · have hq0 : Hid (q = ([], l1, e1)) := by
        rcases hD.out.2.2 with h | h
        · exact absurd h.1 he
        · exact h.2
      have te : (e1 == 0) = false := by rw [beq_eq_false_iff_ne]; exact he
      have te2 : (e1 != 0) = true := by rw [bne_iff_ne]; exact he
      clear he
      by_cases hlt : k < z
      · go_wp2_with fail
        go_ret
        rw [hq0.out]
        exact tints_of (World.ownsRow_nil _ _ _ _) hT.out hG.out
      · obtain rfl : k = z := by omega
        clear hlt
        go_wp2_with fail
        go_ret
        rw [hq0.out]
        exact tints_of (World.ownsRow_nil _ _ _ _) hT.out hG.out

/-- What Read of the reference reader leaves. -/
def TGot (p d : Nat) (w : World) (x : V) (l : List Int) (e : Int) (r : Ending) (w' : World) : Prop :=
  ∃ bv lv, r = .returned (.agg #[.int .i64 x.kind, .int .u64 x.u, .int .i64 x.n, bv, lv]) ∧ Hid (Els .u8 w' bv x.b) ∧ Hid (Els .i64 w' lv x.l) ∧ Hid (Tw p d w' l e) ∧ Hid (w.grownBy w' (some p))

theorem Els.six2 {k : IntKind} {N : Nat} {w W : World} {sv : Value} {zs : List Int} (h : Els k w sv zs) (h1 : Off N sv) (h2 : Off (N + 1) sv) (hs : Six N w W) : Els k W sv zs := by
  rcases h with ⟨he, hz⟩ | ⟨b, off, cap, hb, rfl, hle, hc⟩
  · exact .inl ⟨he, hz⟩
  · have hz : zs.length = 0 ∨ b ≠ N ∧ b ≠ N + 1 := by
      rcases h1 with (he | ⟨x, c2, he⟩) | ⟨b2, o2, n2, c2, hn1, he⟩
      · cases he
      · simp only [Value.slice.injEq] at he
        omega
      · cases he
        rcases h2 with (he | ⟨x, c3, he⟩) | ⟨b3, o3, n3, c3, hn2, he⟩
        · cases he
        · simp only [Value.slice.injEq] at he
          omega
        · cases he
          exact .inr ⟨hn1, hn2⟩
    refine .inr ⟨b, off, cap, by rw [hs.2.2.2.1]; exact hb, rfl, hle, fun j hj => ?_⟩
    rcases hz with hz | ⟨hn1, hn2⟩
    · omega
    · exact (cell_of_block (hs.2.2.2.2 b hn1 hn2) _).trans (hc j hj)

theorem tgot_close {p d k : Nat} {w w1 W : World} {x : V} {l : List Int} {e : Int} {bv lv : Value} (hp : p < w.heap.size) (hd : d < w.heap.size) (hT : Tw p d w1 l e) (hG : (two k w).grownBy w1 (some p))
    (hbE : Els .u8 w1 bv x.b) (hlE : Els .i64 w1 lv x.l) (hb1 : Off w.heap.size bv) (hb2 : Off (w.heap.size + 1) bv) (hl1 : Off w.heap.size lv) (hl2 : Off (w.heap.size + 1) lv) (hs : Six w.heap.size w1 W) :
    TGot p d w x l e (.returned (.agg #[.int .i64 x.kind, .int .u64 x.u, .int .i64 x.n, bv, lv])) W := by
  have hz := two_size k w
  have hB := two_below k w
  refine ⟨bv, lv, rfl, hbE.six2 hb1 hb2 hs, hlE.six2 hl1 hl2 hs, ?_, ?_⟩
  · exact hT.keep (by rw [hs.2.2.2.1]; exact Nat.le_refl _) (hs.2.2.2.2 p (by omega) (by omega)) fun _ => hs.2.2.2.2 d (by omega) (by omega)
  · refine ⟨hs.1.trans (hG.os.trans hB.os), hs.2.1.trans (hG.tape.trans hB.tape), hs.2.2.1.trans (hG.output.trans hB.output), ?_, ?_⟩
    · rw [hs.2.2.2.1]
      exact Nat.le_trans hB.size hG.size
    · intro i hi hr
      exact (hs.2.2.2.2 i (by omega) (by omega)).trans ((hG.block i (by omega) hr).trans (hB.block i hi))

theorem emp_off (N : Nat) : Off N (.slice none 0 0) := .inl (.inl rfl)

set_option maxRecDepth 100000 in
set_option maxHeartbeats 4000000 in
theorem tread0 (p d : Nat) (l : List Int) (e : Int) (w : World) (h : Tw p d w l e) (hd : d < w.heap.size) (ho : Hm.Okay l e) (_hb : Hm.Byt l) (_hl : l.length ≤ 1000) :
    Calls Try.prog 23 #[.pointer (some ⟨p, 0, none⟩), .int .i64 0] w (TGot p d w (rdV 0 l e).1 (rdV 0 l e).2.1 (rdV 0 l e).2.2) := by
  have hp := h.lt
  rw [rdV0]
  have K := Lib.hid (tuint_any p d l e (two 0 w) (h.below (two_below 0 w)) ho)
  clear h ho _hb _hl
  go_enter Try.func23, Try.ntmps23
  go_wp2_with fail
  refine K.out.mono ?_
  rintro x w1 ⟨rfl, hR, hG⟩
  obtain ⟨b1, b2⟩ := two_blocks hp hG
  obtain ⟨c10, c11, c12, c13, c14, f1⟩ := five_cells b1
  obtain ⟨c20, c21, c22, c23, c24, f2⟩ := five_cells b2
  have HR := Lib.hid hR
  have HG := Lib.hid hG
  clear hR hG b1 b2
  go_wp2_with fail
  exact bodyPost_ret (v := .agg #[.int .i64 0, .int .u64 (Hm.rU l e).1, .int .i64 0, .slice none 0 0, .slice none 0 0]) (by simp [results, Try.results23, go_sem, c10, c11, c12, c13, c14]) rfl
    (tgot_close (x := ⟨0, (Hm.rU l e).1, 0, [], []⟩) hp hd HR.out HG.out (emp_els _ _) (emp_els _ _) (emp_off _) (emp_off _) (emp_off _) (emp_off _) (six0 (six0 (six0 (six0 (six0 (six1 (six_refl _ _))))))))

set_option maxRecDepth 100000 in
set_option maxHeartbeats 4000000 in
theorem tread1 (p d : Nat) (l : List Int) (e : Int) (w : World) (h : Tw p d w l e) (hd : d < w.heap.size) (ho : Hm.Okay l e) (hb : Hm.Byt l) (_hl : l.length ≤ 1000) :
    Calls Try.prog 23 #[.pointer (some ⟨p, 0, none⟩), .int .i64 1] w (TGot p d w (rdV 1 l e).1 (rdV 1 l e).2.1 (rdV 1 l e).2.2) := by
  have hp := h.lt
  rw [rdV1]
  have K := Lib.hid (tint_any p d l e (two 1 w) (h.below (two_below 1 w)) ho hb)
  clear h ho hb _hl
  go_enter Try.func23, Try.ntmps23
  go_wp2_with fail
  refine K.out.mono ?_
  rintro x w1 ⟨rfl, hR, hG⟩
  obtain ⟨b1, b2⟩ := two_blocks hp hG
  obtain ⟨c10, c11, c12, c13, c14, f1⟩ := five_cells b1
  obtain ⟨c20, c21, c22, c23, c24, f2⟩ := five_cells b2
  have HR := Lib.hid hR
  have HG := Lib.hid hG
  clear hR hG b1 b2
  go_wp2_with fail
  exact bodyPost_ret (v := .agg #[.int .i64 1, .int .u64 0, .int .i64 (Hm.unzig (Hm.rU l e).1), .slice none 0 0, .slice none 0 0]) (by simp [results, Try.results23, go_sem, c10, c11, c12, c13, c14]) rfl
    (tgot_close (x := ⟨1, 0, Hm.unzig (Hm.rU l e).1, [], []⟩) hp hd HR.out HG.out (emp_els _ _) (emp_els _ _) (emp_off _) (emp_off _) (emp_off _) (emp_off _) (six0 (six0 (six0 (six0 (six0 (six1 (six_refl _ _))))))))

set_option maxRecDepth 100000 in
set_option maxHeartbeats 4000000 in
theorem tread2 (p d : Nat) (l : List Int) (e : Int) (w : World) (h : Tw p d w l e) (hd : d < w.heap.size) (ho : Hm.Okay l e) (_hb : Hm.Byt l) (_hl : l.length ≤ 1000) :
    Calls Try.prog 23 #[.pointer (some ⟨p, 0, none⟩), .int .i64 2] w (TGot p d w (rdV 2 l e).1 (rdV 2 l e).2.1 (rdV 2 l e).2.2) := by
  have hp := h.lt
  rw [rdV2]
  have K := Lib.hid (tbool_any p d l e (two 2 w) (h.below (two_below 2 w)) ho)
  generalize (Hm.rB l e).2 = q at *
  generalize (Hm.rB l e).1 = v at *
  clear h ho _hb _hl
  cases v
  · go_enter Try.func23, Try.ntmps23
    go_wp2_with fail
    refine K.out.mono ?_
    rintro x w1 ⟨rfl, hR, hG⟩
    obtain ⟨b1, b2⟩ := two_blocks hp hG
    obtain ⟨c10, c11, c12, c13, c14, f1⟩ := five_cells b1
    obtain ⟨c20, c21, c22, c23, c24, f2⟩ := five_cells b2
    have HR := Lib.hid hR
    have HG := Lib.hid hG
    clear hR hG b1 b2
    go_wp2_with fail
    exact bodyPost_ret (v := .agg #[.int .i64 2, .int .u64 0, .int .i64 0, .slice none 0 0, .slice none 0 0]) (by simp [results, Try.results23, go_sem, c10, c11, c12, c13, c14]) rfl
      (tgot_close (x := ⟨2, 0, 0, [], []⟩) hp hd HR.out HG.out (emp_els _ _) (emp_els _ _) (emp_off _) (emp_off _) (emp_off _) (emp_off _) (six0 (six0 (six0 (six0 (six0 (six_refl _ _)))))))
  · go_enter Try.func23, Try.ntmps23
    go_wp2_with fail
    refine K.out.mono ?_
    rintro x w1 ⟨rfl, hR, hG⟩
    obtain ⟨b1, b2⟩ := two_blocks hp hG
    obtain ⟨c10, c11, c12, c13, c14, f1⟩ := five_cells b1
    obtain ⟨c20, c21, c22, c23, c24, f2⟩ := five_cells b2
    have HR := Lib.hid hR
    have HG := Lib.hid hG
    clear hR hG b1 b2
    go_wp2_with fail
    exact bodyPost_ret (v := .agg #[.int .i64 2, .int .u64 0, .int .i64 1, .slice none 0 0, .slice none 0 0]) (by simp [results, Try.results23, go_sem, c10, c11, c12, c13, c14]) rfl
      (tgot_close (x := ⟨2, 0, 1, [], []⟩) hp hd HR.out HG.out (emp_els _ _) (emp_els _ _) (emp_off _) (emp_off _) (emp_off _) (emp_off _) (six0 (six0 (six0 (six0 (six0 (six1 (six_refl _ _))))))))

set_option maxRecDepth 100000 in
set_option maxHeartbeats 4000000 in
theorem tread3 (p d : Nat) (l : List Int) (e : Int) (w : World) (h : Tw p d w l e) (hd : d < w.heap.size) (ho : Hm.Okay l e) (hb : Hm.Byt l) (_hl : l.length ≤ 1000) :
    Calls Try.prog 23 #[.pointer (some ⟨p, 0, none⟩), .int .i64 3] w (TGot p d w (rdV 3 l e).1 (rdV 3 l e).2.1 (rdV 3 l e).2.2) := by
  have hp := h.lt
  rw [rdV3]
  have K := Lib.hid (traw_any p d l e (two 3 w) (h.below (two_below 3 w)) ho hb)
  generalize (Hm.rRaw l e).2 = q at *
  generalize (Hm.rRaw l e).1 = v at *
  clear h ho hb _hl
  go_enter Try.func23, Try.ntmps23
  go_wp2_with fail
  refine K.out.mono ?_
  rintro x w1 ⟨a, n, c, rfl, hE, hOff, hR, hG⟩
  have hG := hG.out
  obtain ⟨b1, b2⟩ := two_blocks hp hG
  obtain ⟨c10, c11, c12, c13, c14, f1⟩ := five_cells b1
  obtain ⟨c20, c21, c22, c23, c24, f2⟩ := five_cells b2
  have HG := Lib.hid hG
  clear hG b1 b2
  go_wp2_with fail
  exact bodyPost_ret (v := .agg #[.int .i64 3, .int .u64 0, .int .i64 0, .slice a n c, .slice none 0 0]) (by simp [results, Try.results23, go_sem, c10, c11, c12, c13, c14]) rfl
    (tgot_close (x := ⟨3, 0, 0, v, []⟩) hp hd hR.out HG.out hE.out (emp_els _ _) (hOff.out _ (by omega)) (hOff.out _ (by omega)) (emp_off _) (emp_off _) (six0 (six0 (six0 (six0 (six0 (six1 (six_refl _ _))))))))

set_option maxRecDepth 100000 in
set_option maxHeartbeats 4000000 in
theorem tread4 (p d : Nat) (l : List Int) (e : Int) (w : World) (h : Tw p d w l e) (hd : d < w.heap.size) (ho : Hm.Okay l e) (hb : Hm.Byt l) (_hl : l.length ≤ 1000) :
    Calls Try.prog 23 #[.pointer (some ⟨p, 0, none⟩), .int .i64 4] w (TGot p d w (rdV 4 l e).1 (rdV 4 l e).2.1 (rdV 4 l e).2.2) := by
  have hp := h.lt
  rw [rdV4]
  have K := Lib.hid (traw_any p d l e (two 4 w) (h.below (two_below 4 w)) ho hb)
  generalize (Hm.rRaw l e).2 = q at *
  generalize (Hm.rRaw l e).1 = v at *
  clear h ho hb _hl
  go_enter Try.func23, Try.ntmps23
  go_wp2_with fail
  refine K.out.mono ?_
  rintro x w1 ⟨a, n, c, rfl, hE, hOff, hR, hG⟩
  have hG := hG.out
  obtain ⟨b1, b2⟩ := two_blocks hp hG
  obtain ⟨c10, c11, c12, c13, c14, f1⟩ := five_cells b1
  obtain ⟨c20, c21, c22, c23, c24, f2⟩ := five_cells b2
  have HG := Lib.hid hG
  clear hG b1 b2
  go_wp2_with fail
  exact bodyPost_ret (v := .agg #[.int .i64 4, .int .u64 0, .int .i64 0, .slice a n c, .slice none 0 0]) (by simp [results, Try.results23, go_sem, c10, c11, c12, c13, c14]) rfl
    (tgot_close (x := ⟨4, 0, 0, v, []⟩) hp hd hR.out HG.out hE.out (emp_els _ _) (hOff.out _ (by omega)) (hOff.out _ (by omega)) (emp_off _) (emp_off _) (six0 (six0 (six0 (six0 (six0 (six1 (six_refl _ _))))))))

set_option maxRecDepth 100000 in
set_option maxHeartbeats 4000000 in
theorem tread5 (p d : Nat) (l : List Int) (e : Int) (w : World) (h : Tw p d w l e) (hd : d < w.heap.size) (ho : Hm.Okay l e) (hb : Hm.Byt l) (hl : l.length ≤ 1000) :
    Calls Try.prog 23 #[.pointer (some ⟨p, 0, none⟩), .int .i64 5] w (TGot p d w (rdV 5 l e).1 (rdV 5 l e).2.1 (rdV 5 l e).2.2) := by
  have hp := h.lt
  rw [rdV5]
  have K := Lib.hid (tints_any p d l e (two 5 w) (h.below (two_below 5 w)) (by rw [two_size]; omega) ho hb hl)
  generalize (Hm.rInts l e).2 = q at *
  generalize (Hm.rInts l e).1 = v at *
  clear h ho hb hl
  go_enter Try.func23, Try.ntmps23
  go_wp2_with fail
  refine K.out.mono ?_
  rintro x w1 ⟨a, n, c, rfl, hO, hR, hG⟩
  have hG := hG.out
  obtain ⟨b1, b2⟩ := two_blocks hp hG
  obtain ⟨c10, c11, c12, c13, c14, f1⟩ := five_cells b1
  obtain ⟨c20, c21, c22, c23, c24, f2⟩ := five_cells b2
  have HG := Lib.hid hG
  clear hG b1 b2
  go_wp2_with fail
  have hfar := own_far hO.out
  rw [two_size] at hfar
  exact bodyPost_ret (v := .agg #[.int .i64 5, .int .u64 0, .int .i64 0, .slice none 0 0, .slice a n c]) (by simp [results, Try.results23, go_sem, c10, c11, c12, c13, c14]) rfl
    (tgot_close (x := ⟨5, 0, 0, [], v⟩) hp hd hR.out HG.out (emp_els _ _) hO.out.els (emp_off _) (emp_off _) (hfar.off (by omega)) (hfar.off (by omega)) (six0 (six0 (six0 (six0 (six0 (six1 (six_refl _ _))))))))

theorem tread_any (p d k : Nat) (l : List Int) (e : Int) (w : World) (h : Tw p d w l e) (hd : d < w.heap.size) (hk : k ≤ 5) (ho : Hm.Okay l e) (hb : Hm.Byt l) (hl : l.length ≤ 1000) :
    Calls Try.prog 23 #[.pointer (some ⟨p, 0, none⟩), .int .i64 k] w (TGot p d w (rdV k l e).1 (rdV k l e).2.1 (rdV k l e).2.2) := by
  match k, hk with
  | 0, _ => exact tread0 p d l e w h hd ho hb hl
  | 1, _ => exact tread1 p d l e w h hd ho hb hl
  | 2, _ => exact tread2 p d l e w h hd ho hb hl
  | 3, _ => exact tread3 p d l e w h hd ho hb hl
  | 4, _ => exact tread4 p d l e w h hd ho hb hl
  | 5, _ => exact tread5 p d l e w h hd ho hb hl

end Go.Proofs.Ytgipfbmomhlcjaa
