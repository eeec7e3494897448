/- Contracts of package span: sweep. -/
import Derived.Test.YtimbgjpjgbjnkaaSp7
import Derived.Test.YtimbgjpjgbjnkaaSp8
import Derived.BigQuiet
import Derived.BigRegion
import Derived.Deep.QuietTactic
import Derived.Deep.RegionHeld3
import Derived.Test.YtimbgjpjgbjnkaaGa
import Derived.Laws.MakeOwn
namespace Go.Proofs.Ytimbgjpjgbjnkaa
open Go.RowKit Go.Shelf

/-- What the sweep has in memory: its depths, its box of a cut, its set. -/
structure SwW (B gd NF m : Nat) (Ed Es : TypeId) (wr : World) (ds : List Int) (F : Cut) (sv : Value) (L : List Iv) : Prop where
  dep : Own .i64 Ed B wr (.slice (some ⟨gd, 0, none⟩) m m) ds
  box : BoxL NF [.int .i64 F.n, .int .i64 F.d, .bool F.a] wr
  set : ROwn RIv Es (NF + 1) wr sv L
  gn : gd < NF
  bg : B ≤ gd

theorem SwW.step {B gd NF m : Nat} {Ed Es : TypeId} {wr w' : World} {ds : List Int} {F : Cut} {sv : Value} {L : List Iv} (h : SwW B gd NF m Ed Es wr ds F sv L) (hB : Below wr.heap.size wr w') : SwW B gd NF m Ed Es w' ds F sv L :=
  ⟨h.dep.below hB, h.box.keep hB, h.set.below hB, h.gn, h.bg⟩

theorem owns_other {w : World} {B b o : Nat} {E : TypeId} {sz n : Nat} {v u : Value} {xs : List Value} (h : w.ownsRow B E sz v n xs) (hb : ∀ g, v.ownBlock = some g → g ≠ b) : (w.setCell ⟨b, o, none⟩ u).ownsRow B E sz v n xs := by
  obtain ⟨hx, hv | ⟨g, cap, cur, hv, hg, hc, hr⟩⟩ := h
  · exact ⟨hx, .inl hv⟩
  · refine ⟨hx, .inr ⟨g, cap, cur, hv, hg, ?_, hr⟩⟩
    rw [Below.heap_setCell _ _ _ _ (hb g (by rw [hv]; rfl))]
    exact hc

theorem SwW.store {B gd NF m : Nat} {Ed Es : TypeId} {wr : World} {ds : List Int} {F : Cut} {sv : Value} {L : List Iv} (h : SwW B gd NF m Ed Es wr ds F sv L) (hm : m = ds.length) (j : Nat) (v : Int) : SwW B gd NF m Ed Es (wr.setCell ⟨gd, j, none⟩ (.int .i64 v)) (ds.set j v) F sv L := by
  refine ⟨h.dep.set hm j v, h.box.other (by have := h.gn; omega), ?_, h.gn, h.bg⟩
  exact owns_other h.set fun g hg => by have := (World.ownsRow.lt h.set g hg).1; have := h.gn; omega

theorem SwW.from {B gd NF m : Nat} {Ed Es : TypeId} {wr : World} {ds : List Int} {F G : Cut} {sv : Value} {L : List Iv} (h : SwW B gd NF m Ed Es wr ds F sv L) : SwW B gd NF m Ed Es (((wr.setCell ⟨NF, 0, none⟩ (.int .i64 G.n)).setCell ⟨NF, 1, none⟩ (.int .i64 G.d)).setCell ⟨NF, 2, none⟩ (.bool G.a)) ds G sv L := by
  have hg := h.gn
  have hd : ∀ g, (Value.slice (some ⟨gd, 0, none⟩) m m).ownBlock = some g → g ≠ NF := fun g e => by cases e; show gd ≠ NF; omega
  have hs : ∀ g, sv.ownBlock = some g → g ≠ NF := fun g e => by have := (World.ownsRow.lt h.set g e).1; omega
  exact ⟨owns_other (owns_other (owns_other h.dep hd) hd) hd, h.box.store3, owns_other (owns_other (owns_other h.set hs) hs) hs, h.gn, h.bg⟩

theorem SwW.push {B gd NF m : Nat} {Ed Es : TypeId} {wr w' : World} {ds : List Int} {F : Cut} {sv sv' : Value} {L L' : List Iv} (h : SwW B gd NF m Ed Es wr ds F sv L) (hB : Below (NF + 1) wr w') (hs : ROwn RIv Es (NF + 1) w' sv' L') : SwW B gd NF m Ed Es w' ds F sv' L' := by
  have hg := h.gn
  refine ⟨?_, ⟨Nat.lt_of_lt_of_le h.box.1 hB.size, fun i v hv => ⟨(hB.cell (p := ⟨NF, i, none⟩) (Nat.lt_succ_self _)).trans (h.box.2 i v hv).1, (hB.frozen (p := ⟨NF, i, none⟩) (Nat.lt_succ_self _)).trans (h.box.2 i v hv).2⟩⟩, hs, h.gn, h.bg⟩
  obtain ⟨hx, ⟨hv, h0⟩ | ⟨g, cap, cur, hv, hg', hc, hr⟩⟩ := h.dep
  · cases hv
  · cases hv
    exact ⟨hx, .inr ⟨_, _, cur, rfl, hg', (hB.block _ (by omega)).trans hc, hr⟩⟩

/-- An end's cells in a box. -/
theorem en_at {w : World} {b n c : Nat} {xs : List En} {j : Nat} {x : En} (h : REls REn w (.slice (some ⟨b, 0, none⟩) n c) xs) (hx : xs[j]? = some x) :
    w.cell? ⟨b, j * 5, none⟩ = some (.int .i64 x.c.n) ∧ w.cell? ⟨b, j * 5 + 1, none⟩ = some (.int .i64 x.c.d) ∧ w.cell? ⟨b, j * 5 + 2, none⟩ = some (.bool x.c.a) ∧ w.cell? ⟨b, j * 5 + 3, none⟩ = some (.int .i64 x.i) ∧ w.cell? ⟨b, j * 5 + 4, none⟩ = some (.int .i64 x.h) ∧ b < w.heap.size := by
  have hn := h.len
  have hj : j < n := by rw [hn]; exact (List.getElem?_eq_some_iff.1 hx).1
  obtain ⟨b', e, hb, hc, hat⟩ := h.get hj
  cases e
  have g := fun i v hv => hat j x hx i v hv
  exact ⟨g 0 _ rfl, g 1 _ rfl, g 2 _ rfl, g 3 _ rfl, g 4 _ rfl, hb⟩

theorem depths_len (m : Nat) (ys : List En) (k : Nat) : (depthsAt m ys k).length = m := by simp [depthsAt]

theorem depths_at (m : Nat) (ys : List En) (k j : Nat) (hj : j < m) : (depthsAt m ys k)[j]?.getD 0 = psum (j : Int) (ys.take k) := by
  simp [depthsAt, hj]

/-- A step of the depths. -/
theorem depths_step {m : Nat} {ys : List En} {k j : Nat} {e : En} (he : ys[k]? = some e) (hi : e.i = (j : Int)) : (depthsAt m ys k).set j (psum (j : Int) (ys.take k) + e.h) = depthsAt m ys (k + 1) := by
  apply List.ext_getElem
  · simp [depthsAt]
  · intro i h1 h2
    have hi' : i < m := by simpa [depthsAt] using h2
    rw [List.getElem_set]
    simp only [depthsAt, List.getElem_map, List.getElem_range]
    rw [psum_snoc (i : Int) he, hi]
    by_cases h : j = i
    · subst h
      simp
    · rw [if_neg h, if_neg (by omega)]
      omega

theorem psum_bd {l : Int} {es : List En} (h : ∀ e ∈ es, -1 ≤ e.h ∧ e.h ≤ 1) : -(es.length : Int) ≤ psum l es ∧ psum l es ≤ es.length := by
  induction es with
  | nil => simp [psum]
  | cons e es ih =>
    obtain ⟨h1, h2⟩ := ih fun x hx => h x (List.mem_cons_of_mem _ hx)
    obtain ⟨h3, h4⟩ := h e (List.mem_cons_self ..)
    have : psum l (e :: es) = (if e.i = l then e.h else 0) + psum l es := by simp [psum]
    rw [this, List.length_cons]
    split <;> omega

/-- What sweep leaves. -/
def SweepOut (S : Int → Prop) (Es : TypeId) (w : World) (e : Ending) (w' : World) : Prop := ∃ L, Fit L ∧ (∀ κ, inL L κ ↔ S κ) ∧ RMakes RIv Es L w e w'

theorem Try.infoIv : (Try.prog.info? 27).map (fun i => (i.zero, i.size, i.bytes)) = some (some (.agg #[.int .i64 0, .int .i64 0, .int .i64 0, .int .i64 0, .bool false, .bool false, .bool false, .bool false]), 8, 40) := by kernel_rfl

theorem Try.infoI3 : (Try.prog.info? 3).map (fun i => (i.zero, i.size, i.bytes)) = some (some (.int .i64 0), 1, 8) := by kernel_rfl

theorem BoxL.open5 {N : Nat} {a b c d e : Value} {W : World} (h : BoxL N [a, b, c, d, e] W) : W.cell? ⟨N, 0, none⟩ = some a ∧ W.cell? ⟨N, 1, none⟩ = some b ∧ W.cell? ⟨N, 2, none⟩ = some c ∧ W.cell? ⟨N, 3, none⟩ = some d ∧ W.cell? ⟨N, 4, none⟩ = some e ∧ N < W.heap.size :=
  ⟨(h.2 0 a rfl).1, (h.2 1 b rfl).1, (h.2 2 c rfl).1, (h.2 3 d rfl).1, (h.2 4 e rfl).1, h.1⟩

theorem cut_four (a b : Int) (c : Bool) (a' b' : Int) (c' : Bool) : (a = a' ∧ b = b' ∧ c = c') ∨ ((a == a') = false ∧ (⟨a, b, c⟩ : Cut) ≠ ⟨a', b', c'⟩) ∨ (a = a' ∧ (b == b') = false ∧ (⟨a, b, c⟩ : Cut) ≠ ⟨a', b', c'⟩) ∨ (a = a' ∧ b = b' ∧ (c == c') = false ∧ (⟨a, b, c⟩ : Cut) ≠ ⟨a', b', c'⟩) := by
  by_cases h1 : a = a'
  · by_cases h2 : b = b'
    · by_cases h3 : c = c'
      · exact .inl ⟨h1, h2, h3⟩
      · exact .inr (.inr (.inr ⟨h1, h2, by simpa using h3, fun h => h3 (by cases h; rfl)⟩))
    · exact .inr (.inr (.inl ⟨h1, by simpa using h2, fun h => h2 (by cases h; rfl)⟩))
  · exact .inr (.inl ⟨by simpa using h1, fun h => h1 (by cases h; rfl)⟩)

theorem cut_fourr (a b : Int) (c : Bool) (a' b' : Int) (c' : Bool) : (a = a' ∧ b = b' ∧ c = c') ∨ ((a' == a) = false ∧ (⟨a', b', c'⟩ : Cut) ≠ ⟨a, b, c⟩) ∨ (a = a' ∧ (b' == b) = false ∧ (⟨a', b', c'⟩ : Cut) ≠ ⟨a, b, c⟩) ∨ (a = a' ∧ b = b' ∧ (c' == c) = false ∧ (⟨a', b', c'⟩ : Cut) ≠ ⟨a, b, c⟩) := by
  rcases cut_four a' b' c' a b c with ⟨h1, h2, h3⟩ | h | ⟨h1, h⟩ | ⟨h1, h2, h⟩
  · exact .inl ⟨h1.symm, h2.symm, h3.symm⟩
  · exact .inr (.inl h)
  · exact .inr (.inr (.inl ⟨h1.symm, h⟩))
  · exact .inr (.inr (.inr ⟨h1.symm, h2.symm, h⟩))

/-- Whether the next end is at the same cut. -/
def NextSame (ys : List En) (k : Nat) (c : Cut) (q : Bool) : Prop := (q = true → ∃ e', ys[k + 1]? = some e' ∧ e'.c = c) ∧ (q = false → ∀ e', ys[k + 1]? = some e' → e'.c ≠ c)

def Cut10 (ys : List En) (k : Nat) (c : Cut) (W : World) (v : Value) (wx : World) : Prop := ∃ q, v = .bool q ∧ Hid (NextSame ys k c q) ∧ Hid (Since W wx)

theorem SwInv.closed {xss : List (List Iv)} {ys : List En} {hasF : List Int → Bool} {k : Nat} {L : List Iv} {F : Cut} {b : Bool} (h : SwInv ys (setS hasF xss) k L F b) (hk : ys.length ≤ k) : b = false := by
  cases b
  · rfl
  · exfalso
    have := (h.mem (max F.key highC.key) fun e he => by rw [List.getElem?_eq_none hk] at he; cases he).1 (.inr ⟨rfl, Int.le_max_left ..⟩)
    have h2 := this.2.1
    have h3 := Int.le_max_right F.key highC.key
    omega

theorem depths_zero (m : Nat) (ys : List En) : depthsAt m ys 0 = List.replicate m 0 := by
  apply List.ext_getElem
  · simp [depthsAt]
  · intro i h1 h2
    simp [depthsAt, psum]

/-- What holds of the sweep's loop. -/
def SwRel (ys : List En) (S : Int → Prop) (m ne : Nat) (w1 : World) (NF : Nat) (Ed Es : TypeId) (k : Nat) (bI : Bool) (a : Option Addr) (n c : Nat) (L : List Iv) (F : Cut) (v bv x : Value) (wr : World) : Prop :=
  k ≤ ne ∧ x = .int .i64 k ∧ bv = .bool bI ∧ v = .slice a n c ∧ L.length ≤ k ∧ Hid (SwW w1.heap.size w1.heap.size NF m Ed Es wr (depthsAt m ys k) F (.slice a n c) L) ∧ Hid (SwInv ys S k L F bI) ∧ Hid (Below w1.heap.size w1 wr)

set_option maxHeartbeats 8000000 in
set_option maxRecDepth 100000 in
theorem sweep_any (F : Nat) (hF : F = 46 ∨ F = 59 ∨ F = 60 ∨ F = 61 ∨ F = 62) (hasF : List Int → Bool) (sv : Value) (xss : List (List Iv)) (w : World) (h : LEls w sv xss) (hg : ∀ xs ∈ xss, ∀ x ∈ xs, x.good = true) (hl : ∀ xs ∈ xss, xs.length ≤ 100000) (hm : xss.length ≤ 10) (h0 : 0 < xss.length)
    (hc : ∀ W dv ds, Els .i64 W dv ds → ds.length = xss.length → Calls Try.prog F #[dv] W fun e w' => e = .returned (.bool (hasF ds)) ∧ W = w') :
    Calls Try.prog 45 #[.func (.func F) #[] #[], sv] w (SweepOut (setS hasF xss) 27 w) := by
  have k1 := Lib.hid (ends_any sv xss w h hg hl hm)
  have HEN := Lib.hid fun ys (a : SortedE ys) (b : (ys.map En.raw).Perm (ends0 ++ allEnds xss xss.length)) => (Ends.mk a b hg : Ends xss ys)
  have HC := Lib.hid hc
  have HLEN := Lib.hid fun k => allEnds_len hl k
  obtain ⟨b, cap, rfl, hcap, hb, hat⟩ := h
  generalize hm' : xss.length = m at *
  have HM := Lib.hid hm'
  obtain ⟨i0, hi, hz0, hz1, hz2⟩ := info_parts Try.infoI3
  have HI := Lib.hid hi
  have HZ := Lib.hid hz0
  have HZ1 := Lib.hid hz1
  have HZ2 := Lib.hid hz2
  clear hg hl hc hat hm' hcap hb hi hz0 hz1 hz2
  have HF := Lib.hid hF
  clear hF
  go_enter Try.func45, Try.ntmps45
  go_wp2_with fail
  refine (k1.out).mono ?_
  rintro e w1 ⟨ys, hs, hp, ae, ne, ce, rfl, hne, hOe, hBe⟩
  have HE := Lib.hid (HEN.out ys hs hp)
  have HOe := Lib.hid hOe
  clear k1 HEN hs hp
  go_wp2_with (at_make; go_loud (refine wpList_make_full _ rfl _ _ 22 rfl w1.heap.size 3 i0 (.int .i64 0) 1 Try.underlying22 HI.out HZ.out HZ1.out .i64 .i64 m m m rfl rfl rfl rfl (by rw [HZ2.out]; omega) (by unfold maxLen; omega) (Nat.le_refl _) ?_); intro w2 hown hgrow; have HO2 := Lib.hid hown; have HG2 := Lib.hid hgrow; clear hown hgrow)
  have hzl : (madeCells (Value.int .i64 0).cells (m * 1)).toList = (List.replicate m 0).map (Value.int .i64) := by
    show (madeCells #[.int .i64 0] (m * 1)).toList = _
    apply List.ext_getElem
    · simp [madeCells]
    · intro i h1 h2
      simp [madeCells, Nat.mod_one]
  have hO2 : Own .i64 3 w1.heap.size w2 (.slice (some ⟨w1.heap.size, 0, none⟩) m m) (depthsAt m ys 0) := by
    have := HO2.out
    rw [hzl] at this
    rw [depths_zero]
    unfold Own
    rw [List.length_replicate]
    exact this
  have hB2 : Below w1.heap.size w1 w2 := (Below.refl _ _).grown HG2.out (Nat.le_refl _) (fun j hj => by cases hj)
  have hgn : w1.heap.size < w2.heap.size := by
    obtain ⟨_, ⟨hv, _⟩ | ⟨g, cap, cur, hv, _, hh, _⟩⟩ := HO2.out
    · cases hv
    · cases hv
      exact (Array.getElem?_eq_some_iff.1 hh).1
  have SW0 := Lib.hid (SwW.mk (hO2.below ((Below.refl _ w2).alloc (Nat.le_refl _) (.cells #[.int .i64 0, .int .i64 0, .bool false] 75))) (BoxL.made w2 #[.int .i64 0, .int .i64 0, .bool false] 75) (ROwn.nil RIv 27 (w2.heap.size + 1) _) hgn (Nat.le_refl _) : SwW w1.heap.size w1.heap.size w2.heap.size m 3 27 _ (depthsAt m ys 0) ⟨0, 0, false⟩ (.slice none 0 0) [])
  have SI0 := Lib.hid (SwInv.start HE.out hasF ⟨0, 0, false⟩)
  have HB0 := Lib.hid (hB2.alloc (Nat.le_of_lt hgn) (.cells #[.int .i64 0, .int .i64 0, .bool false] 75))
  have hyl : ys.length ≤ 2000002 := by
    have h1 := HE.out.perm.length_eq
    have h2 := HLEN.out xss.length
    have h3 := HM.out
    rw [List.length_map, List.length_append] at h1
    have : ends0.length = 2 := rfl
    omega
  have hne2 := hne.out
  rw [← hne2] at hyl
  have HNE := Lib.hid hne2
  have HREL := Lib.hid hOe.els
  clear hzl hO2 hB2 HG2 HO2 hne2 hne HLEN HI HZ HZ1 HZ2
  generalize w2.heap.size = NF at *
  generalize hW0 : w2.alloc (.cells #[.int .i64 0, .int .i64 0, .bool false] 75) = W0 at *
  clear hW0
  go_loopw [7, 9, 20] (fun v bv x wr => ∃ k bI a n c L F, SwRel ys (setS hasF xss) m ne w1 NF 3 27 k bI a n c L F v bv x wr) (fun _ _ x _ => ne - (intOf x).toNat)
  case atStart => exact ⟨0, false, none, 0, 0, [], ⟨0, 0, false⟩, by omega, rfl, rfl, rfl, by simp, SW0, SI0, HB0⟩
  case round =>
    obtain ⟨k, bI, a, n, c, L, Fc, hk, rfl, rfl, rfl, hLk, hSW, hSI, hB⟩ := hrel
    clear SW0 SI0 HB0
    by_cases hlt : k < ne
    · have hki : (k : Int) < ne := by omega
      obtain ⟨e, he⟩ : ∃ e, ys[k]? = some e := ⟨ys[k]'(by rw [← HNE.out]; exact hlt), List.getElem?_eq_getElem _⟩
      obtain ⟨b2, rfl, -⟩ := HREL.out.get hlt
      obtain ⟨g0, g1, g2, g3, g4, -⟩ := en_at (HREL.out.below hB.out) he
      have hem := HE.out.mem (List.mem_of_getElem? he)
      obtain ⟨j, hij⟩ : ∃ j : Nat, e.i = (j : Int) := ⟨e.i.toNat, (Int.toNat_of_nonneg hem.2.1).symm⟩
      have hjm : j < m := by have := HM.out; omega
      have hds := Lib.hid (depths_step (m := m) he hij)
      have hpa := depths_at m ys k j hjm
      have hpb := psum_bd (l := (j : Int)) (es := ys.take k) (fun x hx => (HE.out.mem (List.mem_of_mem_take hx)).2.2.2)
      rw [List.length_take] at hpb
      generalize psum (j : Int) (ys.take k) = p at *
      have hp1 : -2000002 ≤ p ∧ p ≤ 2000002 := by omega
      have heh := hem.2.2.2
      have HEM := Lib.hid hem
      have HEE := Lib.hid he
      obtain ⟨⟨cn, cd, ca⟩, ei, eh, eok⟩ := e
      simp only at hij heh g0 g1 g2 g3 g4
      subst hij
      have HDS : Hid ((depthsAt m ys k).set j (p + eh) = depthsAt m ys (k + 1)) := hds
      clear hds hpb hem he
      go_upto_region 9 with (fail)
      have SW3 := Lib.hid (hSW.out.step ((Below.refl _ wr).alloc (Nat.le_refl _) (.cells #[.int .i64 cn, .int .i64 cd, .bool ca, .int .i64 (j : Int), .int .i64 eh] 115)))
      have XE := Lib.hid (BoxL.made wr #[.int .i64 cn, .int .i64 cd, .bool ca, .int .i64 (j : Int), .int .i64 eh] 115)
      have HB3 := Lib.hid (hB.out.alloc hB.out.size (.cells #[.int .i64 cn, .int .i64 cd, .bool ca, .int .i64 (j : Int), .int .i64 eh] 115))
      have hEn : NF < wr.heap.size := hSW.out.box.1
      clear hSW hB g0 g1 g2 g3 g4
      generalize hW3 : wr.alloc (.cells #[.int .i64 cn, .int .i64 cd, .bool ca, .int .i64 (j : Int), .int .i64 eh] 115) = W3 at *
      clear hW3
      generalize wr.heap.size = EN at *
      have hgn := SW3.out.gn
      have hbg := SW3.out.bg
      obtain ⟨g', hg', -, -, hcd, hfd⟩ := SW3.out.dep.open (depths_len m ys k).symm (by omega)
      cases hg'
      have hdc := hcd j hjm
      rw [hpa] at hdc
      have hdf := hfd j
      have S4 := SW3.out.store (depths_len m ys k).symm j (p + eh)
      rw [HDS.out] at S4
      have X4 := XE.out.other (N := w1.heap.size) (k := j) (v := .int .i64 (p + eh)) (by omega)
      have B4 := HB3.out.setCell (p := ⟨w1.heap.size, j, none⟩) (Nat.le_refl _) (.int .i64 (p + eh))
      have HS4 := Lib.hid S4
      have HX4 := Lib.hid X4
      have HB4 := Lib.hid B4
      obtain ⟨e0, e1, e2, e3, e4, -⟩ := XE.out.open5
      have n1 : IntKind.i64.wrap (p + eh) = p + eh := IntWalk.i64_in _ (by omega)
      have n2 : (j : Int) < m := by omega
      have n3 : EN ≠ w1.heap.size := by omega
      clear S4 X4 B4 hcd hfd hpa
      go_cut [] (fun wx => Hid (SwW w1.heap.size w1.heap.size NF m 3 27 wx (depthsAt m ys (k + 1)) Fc (.slice a n c) L) ∧ Hid (BoxL EN [.int .i64 cn, .int .i64 cd, .bool ca, .int .i64 (j : Int), .int .i64 eh] wx) ∧ Hid (Below w1.heap.size w1 wx))
      case first =>
        go_region
        all_goals
          go_wp2_with fail
          go_meet
          exact ⟨Lib.hid (HS4.out.step (Below.refl _ _).drew), Lib.hid (HX4.out.keep (Below.refl _ _).drew), Lib.hid HB4.out.drew⟩
      case rest =>
        obtain ⟨hSW, hX, hB⟩ := hcut
        clear HS4 HX4 HB4 XE HB3 SW3 hdc hdf e0 e1 e2 e3 e4 n1 n3 HDS
        rename World => W4
        have HRE := Lib.hid (HREL.out.below hB.out)
        obtain ⟨e0, e1, e2, -, -, -⟩ := hX.out.open5
        go_wp2_with fail
        go_cut [49] (fun v wx => Cut10 ys k ⟨cn, cd, ca⟩ W4 v wx)
        case first =>
          by_cases hnx : k + 1 < ne
          · obtain ⟨f, hf⟩ : ∃ f, ys[k + 1]? = some f := ⟨ys[k + 1]'(by rw [← HNE.out]; exact hnx), List.getElem?_eq_getElem _⟩
            obtain ⟨f0, f1, f2, -, -, -⟩ := en_at HRE.out hf
            have HFF := Lib.hid hf
            clear hf
            obtain ⟨⟨fn, fd, fa⟩, fi, fh, fok⟩ := f
            simp only at f0 f1 f2
            have n1 : (k : Int) + 1 < (ne : Int) := by omega
            have n2 : 0 ≤ (k : Int) + 1 := by omega
            have n3 : ((k : Int) + 1).toNat = k + 1 := by omega
            have n4 : IntKind.i64.wrap ((k : Int) + 1) = (k : Int) + 1 := IntWalk.i64_in _ (by omega)
            have n5 : decide ((k : Int) + 1 < (ne : Int)) = true := decide_eq_true n1
            rcases cut_fourr cn cd ca fn fd fa with ⟨rfl, rfl, rfl⟩ | ⟨h1, h2⟩ | ⟨rfl, h1, h2⟩ | ⟨rfl, rfl, h1, h2⟩
            · go_quiet (fail)
              go_wp2_with fail
              go_meet
              exact ⟨true, rfl, Lib.hid ⟨fun _ => ⟨_, HFF.out, rfl⟩, fun h => by cases h⟩, Lib.hid (below_drewN (Below.refl _ _) _)⟩
            all_goals
              have HNS : Hid (NextSame ys k ⟨cn, cd, ca⟩ false) := Lib.hid ⟨fun h => (by cases h), fun _ e' he' hc' => by rw [HFF.out] at he'; cases he'; exact h2 hc'⟩
              clear h2
              go_quiet (fail)
              go_wp2_with fail
              go_meet
              exact ⟨false, rfl, HNS, Lib.hid (below_drewN (Below.refl _ _) _)⟩
          · have HNS : Hid (NextSame ys k ⟨cn, cd, ca⟩ false) := Lib.hid ⟨fun h => (by cases h), fun _ e' he' hc' => by rw [List.getElem?_eq_none (by rw [← HNE.out]; omega)] at he'; cases he'⟩
            have n4 : IntKind.i64.wrap ((k : Int) + 1) = (k : Int) + 1 := IntWalk.i64_in _ (by omega)
            have n5 : decide ((k : Int) + 1 < (ne : Int)) = false := decide_eq_false (by omega)
            go_quiet (fail)
            go_wp2_with fail
            go_meet
            exact ⟨false, rfl, HNS, Lib.hid (below_drewN (Below.refl _ _) _)⟩
        case rest =>
          obtain ⟨q10, rfl, hQ, hS⟩ := hcut
          have SW5 := Lib.hid (hSW.out.step hS.out)
          have X5 := Lib.hid (hX.out.keep hS.out)
          have HB5 := Lib.hid (hB.out.trans (Below.mono hS.out hB.out.size))
          clear hSW hX hB hS HRE e0 e1 e2
          rename World => W5
          cases q10
          case true =>
            obtain ⟨f, hf, hfc⟩ := hQ.out.1 rfl
            have SI5 := Lib.hid (SwInv.same hSI.out HEE.out hf hfc)
            clear hf hfc hQ hSI
            go_wp2
            go_roundw
            case rel => exact ⟨k + 1, bI, a, n, c, L, Fc, by omega, by go_num, rfl, rfl, by omega, SW5, SI5, HB5⟩
            case measure => simp [intOf]; omega
          case false =>
            have HNX := Lib.hid (hQ.out.2 rfl)
            obtain ⟨e0, e1, e2, -, -, -⟩ := X5.out.open5
            have kh := fun W => (highest_any W).mono (R' := fun e w' => e = .returned (.agg #[.int .i64 1099511627776, .int .i64 1, .bool true]) ∧ Below W.heap.size W w') (by rintro e w' ⟨rfl, rfl⟩; exact ⟨rfl, (Below.refl _ _).alloc (Nat.le_refl _) _⟩)
            have kc := fun W (h : Since W5 W) => HC.out W (.slice (some ⟨w1.heap.size, 0, none⟩) m m) (depthsAt m ys (k + 1)) ((SW5.out.dep.els).below h) (depths_len _ _ _)
            have hqq : ∀ Q : Bool, Q = (decide ((⟨cn, cd, ca⟩ : Cut) ≠ highC) && hasF (depthsAt m ys (k + 1))) → SwInv ys (setS hasF xss) (k + 1) (if bI && !Q then L ++ [mkIv Fc ⟨cn, cd, ca⟩] else L) (if Q && !bI then ⟨cn, cd, ca⟩ else Fc) Q ∧ (bI = true → Q = false → FromC Fc ∧ ToC ⟨cn, cd, ca⟩ ∧ Fc.key < Cut.key ⟨cn, cd, ca⟩) := fun Q hQ => SwInv.step HE.out hasF hSI.out HEE.out HNX.out (by rw [HM.out]; exact hQ)
            generalize hasF (depthsAt m ys (k + 1)) = hq at *
            have KH := Lib.hid kh
            have KC := Lib.hid kc
            have HQQ := Lib.hid hqq
            clear kh kc hqq hQ hSI HNX
            have hS0 : Since W5 W5 := Below.refl _ _
            have hSd : Since W5 W5.drew := Below.drew hS0
            go_wp2_with fail
            go_cut [12] (fun v wx => v = .bool (decide ((⟨cn, cd, ca⟩ : Cut) ≠ highC) && hq) ∧ Hid (Since W5 wx))
            case first =>
              rcases cut_four cn cd ca 1099511627776 1 true with ⟨rfl, rfl, rfl⟩ | ⟨h1, h2⟩ | ⟨rfl, h1, h2⟩ | ⟨rfl, rfl, h1, h2⟩
              · have HQ := Lib.hid (show (decide ((⟨1099511627776, 1, true⟩ : Cut) ≠ highC) && hq) = false from by simp [highC])
                refine wp_region_noPanic ?_
                refine wp_region_held_drew (S := fun w' => w'.cell? ⟨EN, 0, none⟩ = some (.int .i64 1099511627776) ∧ w'.cell? ⟨EN, 1, none⟩ = some (.int .i64 1) ∧ w'.cell? ⟨EN, 2, none⟩ = some (.bool true) ∧ Since W5 w') (by kernel_rfl) ⟨e0, e1, e2, hSd⟩ (fun hHeld => ?_)
                refine wpAnyH_take (i := 0) (oi := { dst := some 50, op := Op.fieldAddr 115 (Operand.tmp 11) 0, type := 0, pos := _, after := #[], guard := none }) (v := ?_) rfl (by kernel_rfl) (by kernel_rfl) (by kernel_rfl) (fun _ _ _ h => h) (Or.inl ⟨by rfl, ?_⟩) (by assumption) ?_
                rotate_left 1
                · (intro w hSw; (try dsimp only at hSw); go_simp; first | done | with_reducible rfl)
                try simp only [Act.put, List.setIfInBounds_toArray, List.set_cons_zero, List.set_cons_succ]
                refine wpAnyH_take (i := 1) (oi := { dst := some 51, op := Op.load 75 (Operand.tmp 50), type := 75, pos := _, after := #[{ on := 0, ground := Ground.data }], guard := none }) (v := ?_) rfl (by kernel_rfl) (by kernel_rfl) (by kernel_rfl) (fun _ _ _ h => h) (Or.inl ⟨by rfl, ?_⟩) (by assumption) ?_
                rotate_left 1
                · (intro w hSw; (try dsimp only at hSw); go_simp; first | done | with_reducible rfl)
                try simp only [Act.put, List.setIfInBounds_toArray, List.set_cons_zero, List.set_cons_succ]
                refine wpAnyH_ready (rs := [2]) (by kernel_rfl) (by simp) ?_
                refine AllReadyH.cons (o := { dst := some 52, op := Op.call { callee := Callee.value (Operand.func 87), args := #[], argTypes := #[] }, type := 75, pos := _, after := #[], guard := none }) rfl (fun K hK => ?_) AllReadyH.nil
                go_simp
                go_at_call 87
                refine (KH.out _).mono ?_
                rintro e w6 ⟨rfl, hr⟩
                have hB6 := Since.step hSd hr
                go_wp2_with fail
                refine hK.out _ _ ?_ (fun hHeld => ?_)
                · exact ⟨Since.cell hB6 e0, Since.cell hB6 e1, Since.cell hB6 e2, hB6⟩
                clear hK K hr
                try simp only [Act.put, List.setIfInBounds_toArray, List.set_cons_zero, List.set_cons_succ]
                refine wpAnyH_take (i := 3) (oi := { dst := some 53, op := Op.binOp BinOp.neq 75 (Operand.tmp 51) (Operand.tmp 52) 75, type := 4, pos := _, after := #[{ on := 1, ground := Ground.data }, { on := 2, ground := Ground.data }], guard := none }) (v := ?_) rfl (by kernel_rfl) (by kernel_rfl) (by kernel_rfl) (fun _ _ _ h => h) (Or.inl ⟨by rfl, ?_⟩) (by assumption) ?_
                rotate_left 1
                · (intro w hSw; (try dsimp only at hSw); go_simp; first | done | with_reducible rfl)
                try simp only [Act.put, List.setIfInBounds_toArray, List.set_cons_zero, List.set_cons_succ]
                refine wpAnyH_take (i := 4) (oi := { dst := some 54, op := Op.move (Operand.tmp 53), type := 4, pos := _, after := #[{ on := 3, ground := Ground.data }, { on := 2, ground := Ground.chain }], guard := none }) (v := ?_) rfl (by kernel_rfl) (by kernel_rfl) (by kernel_rfl) (fun _ _ _ h => h) (Or.inl ⟨by rfl, ?_⟩) (by assumption) ?_
                rotate_left 1
                · (intro w hSw; (try dsimp only at hSw); go_simp; first | done | with_reducible rfl)
                try simp only [Act.put, List.setIfInBounds_toArray, List.set_cons_zero, List.set_cons_succ]
                refine wpAnyH_take (i := 5) (oi := { dst := some 55, op := Op.move (Operand.tmp 0), type := 70, pos := _, after := #[{ on := 4, ground := Ground.guard }], guard := some (4, true) }) (v := undef) rfl (by kernel_rfl) (by kernel_rfl) (by kernel_rfl) (fun _ _ _ h => h) (Or.inr ⟨by rfl, rfl⟩) (by assumption) ?_
                try simp only [Act.put, List.setIfInBounds_toArray, List.set_cons_zero, List.set_cons_succ]
                refine wpAnyH_take (i := 6) (oi := { dst := some 56, op := Op.move (Operand.tmp 6), type := 22, pos := _, after := #[{ on := 4, ground := Ground.guard }], guard := some (4, true) }) (v := undef) rfl (by kernel_rfl) (by kernel_rfl) (by kernel_rfl) (fun _ _ _ h => h) (Or.inr ⟨by rfl, rfl⟩) (by assumption) ?_
                try simp only [Act.put, List.setIfInBounds_toArray, List.set_cons_zero, List.set_cons_succ]
                refine wpAnyH_take (i := 7) (oi := { dst := some 57, op := Op.call { callee := Callee.value (Operand.tmp 55), args := #[Operand.tmp 56], argTypes := #[22] }, type := 4, pos := _, after := #[{ on := 5, ground := Ground.data }, { on := 6, ground := Ground.data }, { on := 4, ground := Ground.chain }, { on := 4, ground := Ground.guard }], guard := some (4, true) }) (v := undef) rfl (by kernel_rfl) (by kernel_rfl) (by kernel_rfl) (fun _ _ _ h => h) (Or.inr ⟨by rfl, rfl⟩) (by assumption) ?_
                try simp only [Act.put, List.setIfInBounds_toArray, List.set_cons_zero, List.set_cons_succ]
                refine wpAnyH_take (i := 8) (oi := { dst := some 58, op := Op.pick (Operand.tmp 54) (Operand.tmp 57) (Operand.const (Value.bool false)), type := 4, pos := _, after := #[{ on := 4, ground := Ground.data }, { on := 7, ground := Ground.data }], guard := none }) (v := ?_) rfl (by kernel_rfl) (by kernel_rfl) (by kernel_rfl) (fun _ _ _ h => h) (Or.inl ⟨by rfl, ?_⟩) (by assumption) ?_
                rotate_left 1
                · (intro w hSw; (try dsimp only at hSw); go_simp; first | done | with_reducible rfl)
                try simp only [Act.put, List.setIfInBounds_toArray, List.set_cons_zero, List.set_cons_succ]
                refine wpAnyH_take (i := 9) (oi := { dst := some 12, op := Op.assign (Operand.tmp 58), type := 4, pos := _, after := #[{ on := 8, ground := Ground.data }, { on := 7, ground := Ground.chain }, { on := 0, ground := Ground.phase }, { on := 1, ground := Ground.phase }, { on := 2, ground := Ground.phase }, { on := 3, ground := Ground.phase }, { on := 4, ground := Ground.phase }, { on := 5, ground := Ground.phase }, { on := 6, ground := Ground.phase }, { on := 7, ground := Ground.phase }, { on := 8, ground := Ground.phase }], guard := none }) (v := ?_) rfl (by kernel_rfl) (by kernel_rfl) (by kernel_rfl) (fun _ _ _ h => h) (Or.inl ⟨by rfl, ?_⟩) (by assumption) ?_
                rotate_left 1
                · (intro w hSw; (try dsimp only at hSw); go_simp; first | done | with_reducible rfl)
                try simp only [Act.put, List.setIfInBounds_toArray, List.set_cons_zero, List.set_cons_succ]
                refine wpAnyH_done (by kernel_rfl) ?_ _
                refine NoPanic.normal ?_
                go_wp2_with fail
                go_meet
                exact ⟨congrArg Value.bool HQ.out.symm, Lib.hid hB6⟩
              · have HQ := Lib.hid (show (decide ((⟨cn, cd, ca⟩ : Cut) ≠ highC) && hq) = hq from by rw [decide_eq_true (show (⟨cn, cd, ca⟩ : Cut) ≠ highC from h2), Bool.true_and])
                clear h2
                rcases HF.out with rfl | rfl | rfl | rfl | rfl
                all_goals
                  refine wp_region_noPanic ?_
                  refine wp_region_held_drew (S := fun w' => w'.cell? ⟨EN, 0, none⟩ = some (.int .i64 cn) ∧ w'.cell? ⟨EN, 1, none⟩ = some (.int .i64 cd) ∧ w'.cell? ⟨EN, 2, none⟩ = some (.bool ca) ∧ Since W5 w') (by kernel_rfl) ⟨e0, e1, e2, hSd⟩ (fun hHeld => ?_)
                  refine wpAnyH_take (i := 0) (oi := { dst := some 50, op := Op.fieldAddr 115 (Operand.tmp 11) 0, type := 0, pos := _, after := #[], guard := none }) (v := ?_) rfl (by kernel_rfl) (by kernel_rfl) (by kernel_rfl) (fun _ _ _ h => h) (Or.inl ⟨by rfl, ?_⟩) (by assumption) ?_
                  rotate_left 1
                  · (intro w hSw; (try dsimp only at hSw); go_simp; first | done | with_reducible rfl)
                  try simp only [Act.put, List.setIfInBounds_toArray, List.set_cons_zero, List.set_cons_succ]
                  refine wpAnyH_take (i := 1) (oi := { dst := some 51, op := Op.load 75 (Operand.tmp 50), type := 75, pos := _, after := #[{ on := 0, ground := Ground.data }], guard := none }) (v := ?_) rfl (by kernel_rfl) (by kernel_rfl) (by kernel_rfl) (fun _ _ _ h => h) (Or.inl ⟨by rfl, ?_⟩) (by assumption) ?_
                  rotate_left 1
                  · (intro w hSw; (try dsimp only at hSw); go_simp; first | done | with_reducible rfl)
                  try simp only [Act.put, List.setIfInBounds_toArray, List.set_cons_zero, List.set_cons_succ]
                  refine wpAnyH_ready (rs := [2]) (by kernel_rfl) (by simp) ?_
                  refine AllReadyH.cons (o := { dst := some 52, op := Op.call { callee := Callee.value (Operand.func 87), args := #[], argTypes := #[] }, type := 75, pos := _, after := #[], guard := none }) rfl (fun K hK => ?_) AllReadyH.nil
                  go_simp
                  go_at_call 87
                  refine (KH.out _).mono ?_
                  rintro e w6 ⟨rfl, hr⟩
                  have hB6 := Since.step hSd hr
                  go_wp2_with fail
                  refine hK.out _ _ ?_ (fun hHeld => ?_)
                  · exact ⟨Since.cell hB6 e0, Since.cell hB6 e1, Since.cell hB6 e2, hB6⟩
                  clear hK K hr
                  try simp only [Act.put, List.setIfInBounds_toArray, List.set_cons_zero, List.set_cons_succ]
                  refine wpAnyH_take (i := 3) (oi := { dst := some 53, op := Op.binOp BinOp.neq 75 (Operand.tmp 51) (Operand.tmp 52) 75, type := 4, pos := _, after := #[{ on := 1, ground := Ground.data }, { on := 2, ground := Ground.data }], guard := none }) (v := ?_) rfl (by kernel_rfl) (by kernel_rfl) (by kernel_rfl) (fun _ _ _ h => h) (Or.inl ⟨by rfl, ?_⟩) (by assumption) ?_
                  rotate_left 1
                  · (intro w hSw; (try dsimp only at hSw); go_simp; first | done | with_reducible rfl)
                  try simp only [Act.put, List.setIfInBounds_toArray, List.set_cons_zero, List.set_cons_succ]
                  refine wpAnyH_take (i := 4) (oi := { dst := some 54, op := Op.move (Operand.tmp 53), type := 4, pos := _, after := #[{ on := 3, ground := Ground.data }, { on := 2, ground := Ground.chain }], guard := none }) (v := ?_) rfl (by kernel_rfl) (by kernel_rfl) (by kernel_rfl) (fun _ _ _ h => h) (Or.inl ⟨by rfl, ?_⟩) (by assumption) ?_
                  rotate_left 1
                  · (intro w hSw; (try dsimp only at hSw); go_simp; first | done | with_reducible rfl)
                  try simp only [Act.put, List.setIfInBounds_toArray, List.set_cons_zero, List.set_cons_succ]
                  refine wpAnyH_take (i := 5) (oi := { dst := some 55, op := Op.move (Operand.tmp 0), type := 70, pos := _, after := #[{ on := 4, ground := Ground.guard }], guard := some (4, true) }) (v := ?_) rfl (by kernel_rfl) (by kernel_rfl) (by kernel_rfl) (fun _ _ _ h => h) (Or.inl ⟨by rfl, ?_⟩) (by assumption) ?_
                  rotate_left 1
                  · (intro w hSw; (try dsimp only at hSw); go_simp; first | done | with_reducible rfl)
                  try simp only [Act.put, List.setIfInBounds_toArray, List.set_cons_zero, List.set_cons_succ]
                  refine wpAnyH_take (i := 6) (oi := { dst := some 56, op := Op.move (Operand.tmp 6), type := 22, pos := _, after := #[{ on := 4, ground := Ground.guard }], guard := some (4, true) }) (v := ?_) rfl (by kernel_rfl) (by kernel_rfl) (by kernel_rfl) (fun _ _ _ h => h) (Or.inl ⟨by rfl, ?_⟩) (by assumption) ?_
                  rotate_left 1
                  · (intro w hSw; (try dsimp only at hSw); go_simp; first | done | with_reducible rfl)
                  try simp only [Act.put, List.setIfInBounds_toArray, List.set_cons_zero, List.set_cons_succ]
                  refine wpAnyH_ready (rs := [7]) (by kernel_rfl) (by simp) ?_
                  refine AllReadyH.cons (o := { dst := some 57, op := Op.call { callee := Callee.value (Operand.tmp 55), args := #[Operand.tmp 56], argTypes := #[22] }, type := 4, pos := _, after := #[{ on := 5, ground := Ground.data }, { on := 6, ground := Ground.data }, { on := 4, ground := Ground.chain }, { on := 4, ground := Ground.guard }], guard := some (4, true) }) rfl (fun K hK => ?_) AllReadyH.nil
                  go_simp
                  first | go_at_call 46 | go_at_call 59 | go_at_call 60 | go_at_call 61 | go_at_call 62
                  refine (KC.out _ hB6).mono ?_
                  rintro e w7 ⟨rfl, rfl⟩
                  go_wp2_with fail
                  refine hK.out _ _ ?_ (fun hHeld => ?_)
                  · exact ⟨Since.cell hB6 e0, Since.cell hB6 e1, Since.cell hB6 e2, hB6⟩
                  clear hK K
                  try simp only [Act.put, List.setIfInBounds_toArray, List.set_cons_zero, List.set_cons_succ]
                  refine wpAnyH_take (i := 8) (oi := { dst := some 58, op := Op.pick (Operand.tmp 54) (Operand.tmp 57) (Operand.const (Value.bool false)), type := 4, pos := _, after := #[{ on := 4, ground := Ground.data }, { on := 7, ground := Ground.data }], guard := none }) (v := ?_) rfl (by kernel_rfl) (by kernel_rfl) (by kernel_rfl) (fun _ _ _ h => h) (Or.inl ⟨by rfl, ?_⟩) (by assumption) ?_
                  rotate_left 1
                  · (intro w hSw; (try dsimp only at hSw); go_simp; first | done | with_reducible rfl)
                  try simp only [Act.put, List.setIfInBounds_toArray, List.set_cons_zero, List.set_cons_succ]
                  refine wpAnyH_take (i := 9) (oi := { dst := some 12, op := Op.assign (Operand.tmp 58), type := 4, pos := _, after := #[{ on := 8, ground := Ground.data }, { on := 7, ground := Ground.chain }, { on := 0, ground := Ground.phase }, { on := 1, ground := Ground.phase }, { on := 2, ground := Ground.phase }, { on := 3, ground := Ground.phase }, { on := 4, ground := Ground.phase }, { on := 5, ground := Ground.phase }, { on := 6, ground := Ground.phase }, { on := 7, ground := Ground.phase }, { on := 8, ground := Ground.phase }], guard := none }) (v := ?_) rfl (by kernel_rfl) (by kernel_rfl) (by kernel_rfl) (fun _ _ _ h => h) (Or.inl ⟨by rfl, ?_⟩) (by assumption) ?_
                  rotate_left 1
                  · (intro w hSw; (try dsimp only at hSw); go_simp; first | done | with_reducible rfl)
                  try simp only [Act.put, List.setIfInBounds_toArray, List.set_cons_zero, List.set_cons_succ]
                  refine wpAnyH_done (by kernel_rfl) ?_ _
                  refine NoPanic.normal ?_
                  go_wp2_with fail
                  go_meet
                  exact ⟨congrArg Value.bool HQ.out.symm, Lib.hid hB6⟩
              · have HQ := Lib.hid (show (decide ((⟨1099511627776, cd, ca⟩ : Cut) ≠ highC) && hq) = hq from by rw [decide_eq_true (show (⟨1099511627776, cd, ca⟩ : Cut) ≠ highC from h2), Bool.true_and])
                clear h2
                rcases HF.out with rfl | rfl | rfl | rfl | rfl
                all_goals
                  refine wp_region_noPanic ?_
                  refine wp_region_held_drew (S := fun w' => w'.cell? ⟨EN, 0, none⟩ = some (.int .i64 1099511627776) ∧ w'.cell? ⟨EN, 1, none⟩ = some (.int .i64 cd) ∧ w'.cell? ⟨EN, 2, none⟩ = some (.bool ca) ∧ Since W5 w') (by kernel_rfl) ⟨e0, e1, e2, hSd⟩ (fun hHeld => ?_)
                  refine wpAnyH_take (i := 0) (oi := { dst := some 50, op := Op.fieldAddr 115 (Operand.tmp 11) 0, type := 0, pos := _, after := #[], guard := none }) (v := ?_) rfl (by kernel_rfl) (by kernel_rfl) (by kernel_rfl) (fun _ _ _ h => h) (Or.inl ⟨by rfl, ?_⟩) (by assumption) ?_
                  rotate_left 1
                  · (intro w hSw; (try dsimp only at hSw); go_simp; first | done | with_reducible rfl)
                  try simp only [Act.put, List.setIfInBounds_toArray, List.set_cons_zero, List.set_cons_succ]
                  refine wpAnyH_take (i := 1) (oi := { dst := some 51, op := Op.load 75 (Operand.tmp 50), type := 75, pos := _, after := #[{ on := 0, ground := Ground.data }], guard := none }) (v := ?_) rfl (by kernel_rfl) (by kernel_rfl) (by kernel_rfl) (fun _ _ _ h => h) (Or.inl ⟨by rfl, ?_⟩) (by assumption) ?_
                  rotate_left 1
                  · (intro w hSw; (try dsimp only at hSw); go_simp; first | done | with_reducible rfl)
                  try simp only [Act.put, List.setIfInBounds_toArray, List.set_cons_zero, List.set_cons_succ]
                  refine wpAnyH_ready (rs := [2]) (by kernel_rfl) (by simp) ?_
                  refine AllReadyH.cons (o := { dst := some 52, op := Op.call { callee := Callee.value (Operand.func 87), args := #[], argTypes := #[] }, type := 75, pos := _, after := #[], guard := none }) rfl (fun K hK => ?_) AllReadyH.nil
                  go_simp
                  go_at_call 87
                  refine (KH.out _).mono ?_
                  rintro e w6 ⟨rfl, hr⟩
                  have hB6 := Since.step hSd hr
                  go_wp2_with fail
                  refine hK.out _ _ ?_ (fun hHeld => ?_)
                  · exact ⟨Since.cell hB6 e0, Since.cell hB6 e1, Since.cell hB6 e2, hB6⟩
                  clear hK K hr
                  try simp only [Act.put, List.setIfInBounds_toArray, List.set_cons_zero, List.set_cons_succ]
                  refine wpAnyH_take (i := 3) (oi := { dst := some 53, op := Op.binOp BinOp.neq 75 (Operand.tmp 51) (Operand.tmp 52) 75, type := 4, pos := _, after := #[{ on := 1, ground := Ground.data }, { on := 2, ground := Ground.data }], guard := none }) (v := ?_) rfl (by kernel_rfl) (by kernel_rfl) (by kernel_rfl) (fun _ _ _ h => h) (Or.inl ⟨by rfl, ?_⟩) (by assumption) ?_
                  rotate_left 1
                  · (intro w hSw; (try dsimp only at hSw); go_simp; first | done | with_reducible rfl)
                  try simp only [Act.put, List.setIfInBounds_toArray, List.set_cons_zero, List.set_cons_succ]
                  refine wpAnyH_take (i := 4) (oi := { dst := some 54, op := Op.move (Operand.tmp 53), type := 4, pos := _, after := #[{ on := 3, ground := Ground.data }, { on := 2, ground := Ground.chain }], guard := none }) (v := ?_) rfl (by kernel_rfl) (by kernel_rfl) (by kernel_rfl) (fun _ _ _ h => h) (Or.inl ⟨by rfl, ?_⟩) (by assumption) ?_
                  rotate_left 1
                  · (intro w hSw; (try dsimp only at hSw); go_simp; first | done | with_reducible rfl)
                  try simp only [Act.put, List.setIfInBounds_toArray, List.set_cons_zero, List.set_cons_succ]
                  refine wpAnyH_take (i := 5) (oi := { dst := some 55, op := Op.move (Operand.tmp 0), type := 70, pos := _, after := #[{ on := 4, ground := Ground.guard }], guard := some (4, true) }) (v := ?_) rfl (by kernel_rfl) (by kernel_rfl) (by kernel_rfl) (fun _ _ _ h => h) (Or.inl ⟨by rfl, ?_⟩) (by assumption) ?_
                  rotate_left 1
                  · (intro w hSw; (try dsimp only at hSw); go_simp; first | done | with_reducible rfl)
                  try simp only [Act.put, List.setIfInBounds_toArray, List.set_cons_zero, List.set_cons_succ]
                  refine wpAnyH_take (i := 6) (oi := { dst := some 56, op := Op.move (Operand.tmp 6), type := 22, pos := _, after := #[{ on := 4, ground := Ground.guard }], guard := some (4, true) }) (v := ?_) rfl (by kernel_rfl) (by kernel_rfl) (by kernel_rfl) (fun _ _ _ h => h) (Or.inl ⟨by rfl, ?_⟩) (by assumption) ?_
                  rotate_left 1
                  · (intro w hSw; (try dsimp only at hSw); go_simp; first | done | with_reducible rfl)
                  try simp only [Act.put, List.setIfInBounds_toArray, List.set_cons_zero, List.set_cons_succ]
                  refine wpAnyH_ready (rs := [7]) (by kernel_rfl) (by simp) ?_
                  refine AllReadyH.cons (o := { dst := some 57, op := Op.call { callee := Callee.value (Operand.tmp 55), args := #[Operand.tmp 56], argTypes := #[22] }, type := 4, pos := _, after := #[{ on := 5, ground := Ground.data }, { on := 6, ground := Ground.data }, { on := 4, ground := Ground.chain }, { on := 4, ground := Ground.guard }], guard := some (4, true) }) rfl (fun K hK => ?_) AllReadyH.nil
                  go_simp
                  first | go_at_call 46 | go_at_call 59 | go_at_call 60 | go_at_call 61 | go_at_call 62
                  refine (KC.out _ hB6).mono ?_
                  rintro e w7 ⟨rfl, rfl⟩
                  go_wp2_with fail
                  refine hK.out _ _ ?_ (fun hHeld => ?_)
                  · exact ⟨Since.cell hB6 e0, Since.cell hB6 e1, Since.cell hB6 e2, hB6⟩
                  clear hK K
                  try simp only [Act.put, List.setIfInBounds_toArray, List.set_cons_zero, List.set_cons_succ]
                  refine wpAnyH_take (i := 8) (oi := { dst := some 58, op := Op.pick (Operand.tmp 54) (Operand.tmp 57) (Operand.const (Value.bool false)), type := 4, pos := _, after := #[{ on := 4, ground := Ground.data }, { on := 7, ground := Ground.data }], guard := none }) (v := ?_) rfl (by kernel_rfl) (by kernel_rfl) (by kernel_rfl) (fun _ _ _ h => h) (Or.inl ⟨by rfl, ?_⟩) (by assumption) ?_
                  rotate_left 1
                  · (intro w hSw; (try dsimp only at hSw); go_simp; first | done | with_reducible rfl)
                  try simp only [Act.put, List.setIfInBounds_toArray, List.set_cons_zero, List.set_cons_succ]
                  refine wpAnyH_take (i := 9) (oi := { dst := some 12, op := Op.assign (Operand.tmp 58), type := 4, pos := _, after := #[{ on := 8, ground := Ground.data }, { on := 7, ground := Ground.chain }, { on := 0, ground := Ground.phase }, { on := 1, ground := Ground.phase }, { on := 2, ground := Ground.phase }, { on := 3, ground := Ground.phase }, { on := 4, ground := Ground.phase }, { on := 5, ground := Ground.phase }, { on := 6, ground := Ground.phase }, { on := 7, ground := Ground.phase }, { on := 8, ground := Ground.phase }], guard := none }) (v := ?_) rfl (by kernel_rfl) (by kernel_rfl) (by kernel_rfl) (fun _ _ _ h => h) (Or.inl ⟨by rfl, ?_⟩) (by assumption) ?_
                  rotate_left 1
                  · (intro w hSw; (try dsimp only at hSw); go_simp; first | done | with_reducible rfl)
                  try simp only [Act.put, List.setIfInBounds_toArray, List.set_cons_zero, List.set_cons_succ]
                  refine wpAnyH_done (by kernel_rfl) ?_ _
                  refine NoPanic.normal ?_
                  go_wp2_with fail
                  go_meet
                  exact ⟨congrArg Value.bool HQ.out.symm, Lib.hid hB6⟩
              · have HQ := Lib.hid (show (decide ((⟨1099511627776, 1, ca⟩ : Cut) ≠ highC) && hq) = hq from by rw [decide_eq_true (show (⟨1099511627776, 1, ca⟩ : Cut) ≠ highC from h2), Bool.true_and])
                clear h2
                rcases HF.out with rfl | rfl | rfl | rfl | rfl
                all_goals
                  refine wp_region_noPanic ?_
                  refine wp_region_held_drew (S := fun w' => w'.cell? ⟨EN, 0, none⟩ = some (.int .i64 1099511627776) ∧ w'.cell? ⟨EN, 1, none⟩ = some (.int .i64 1) ∧ w'.cell? ⟨EN, 2, none⟩ = some (.bool ca) ∧ Since W5 w') (by kernel_rfl) ⟨e0, e1, e2, hSd⟩ (fun hHeld => ?_)
                  refine wpAnyH_take (i := 0) (oi := { dst := some 50, op := Op.fieldAddr 115 (Operand.tmp 11) 0, type := 0, pos := _, after := #[], guard := none }) (v := ?_) rfl (by kernel_rfl) (by kernel_rfl) (by kernel_rfl) (fun _ _ _ h => h) (Or.inl ⟨by rfl, ?_⟩) (by assumption) ?_
                  rotate_left 1
                  · (intro w hSw; (try dsimp only at hSw); go_simp; first | done | with_reducible rfl)
                  try simp only [Act.put, List.setIfInBounds_toArray, List.set_cons_zero, List.set_cons_succ]
                  refine wpAnyH_take (i := 1) (oi := { dst := some 51, op := Op.load 75 (Operand.tmp 50), type := 75, pos := _, after := #[{ on := 0, ground := Ground.data }], guard := none }) (v := ?_) rfl (by kernel_rfl) (by kernel_rfl) (by kernel_rfl) (fun _ _ _ h => h) (Or.inl ⟨by rfl, ?_⟩) (by assumption) ?_
                  rotate_left 1
                  · (intro w hSw; (try dsimp only at hSw); go_simp; first | done | with_reducible rfl)
                  try simp only [Act.put, List.setIfInBounds_toArray, List.set_cons_zero, List.set_cons_succ]
                  refine wpAnyH_ready (rs := [2]) (by kernel_rfl) (by simp) ?_
                  refine AllReadyH.cons (o := { dst := some 52, op := Op.call { callee := Callee.value (Operand.func 87), args := #[], argTypes := #[] }, type := 75, pos := _, after := #[], guard := none }) rfl (fun K hK => ?_) AllReadyH.nil
                  go_simp
                  go_at_call 87
                  refine (KH.out _).mono ?_
                  rintro e w6 ⟨rfl, hr⟩
                  have hB6 := Since.step hSd hr
                  go_wp2_with fail
                  refine hK.out _ _ ?_ (fun hHeld => ?_)
                  · exact ⟨Since.cell hB6 e0, Since.cell hB6 e1, Since.cell hB6 e2, hB6⟩
                  clear hK K hr
                  try simp only [Act.put, List.setIfInBounds_toArray, List.set_cons_zero, List.set_cons_succ]
                  refine wpAnyH_take (i := 3) (oi := { dst := some 53, op := Op.binOp BinOp.neq 75 (Operand.tmp 51) (Operand.tmp 52) 75, type := 4, pos := _, after := #[{ on := 1, ground := Ground.data }, { on := 2, ground := Ground.data }], guard := none }) (v := ?_) rfl (by kernel_rfl) (by kernel_rfl) (by kernel_rfl) (fun _ _ _ h => h) (Or.inl ⟨by rfl, ?_⟩) (by assumption) ?_
                  rotate_left 1
                  · (intro w hSw; (try dsimp only at hSw); go_simp; first | done | with_reducible rfl)
                  try simp only [Act.put, List.setIfInBounds_toArray, List.set_cons_zero, List.set_cons_succ]
                  refine wpAnyH_take (i := 4) (oi := { dst := some 54, op := Op.move (Operand.tmp 53), type := 4, pos := _, after := #[{ on := 3, ground := Ground.data }, { on := 2, ground := Ground.chain }], guard := none }) (v := ?_) rfl (by kernel_rfl) (by kernel_rfl) (by kernel_rfl) (fun _ _ _ h => h) (Or.inl ⟨by rfl, ?_⟩) (by assumption) ?_
                  rotate_left 1
                  · (intro w hSw; (try dsimp only at hSw); go_simp; first | done | with_reducible rfl)
                  try simp only [Act.put, List.setIfInBounds_toArray, List.set_cons_zero, List.set_cons_succ]
                  refine wpAnyH_take (i := 5) (oi := { dst := some 55, op := Op.move (Operand.tmp 0), type := 70, pos := _, after := #[{ on := 4, ground := Ground.guard }], guard := some (4, true) }) (v := ?_) rfl (by kernel_rfl) (by kernel_rfl) (by kernel_rfl) (fun _ _ _ h => h) (Or.inl ⟨by rfl, ?_⟩) (by assumption) ?_
                  rotate_left 1
                  · (intro w hSw; (try dsimp only at hSw); go_simp; first | done | with_reducible rfl)
                  try simp only [Act.put, List.setIfInBounds_toArray, List.set_cons_zero, List.set_cons_succ]
                  refine wpAnyH_take (i := 6) (oi := { dst := some 56, op := Op.move (Operand.tmp 6), type := 22, pos := _, after := #[{ on := 4, ground := Ground.guard }], guard := some (4, true) }) (v := ?_) rfl (by kernel_rfl) (by kernel_rfl) (by kernel_rfl) (fun _ _ _ h => h) (Or.inl ⟨by rfl, ?_⟩) (by assumption) ?_
                  rotate_left 1
                  · (intro w hSw; (try dsimp only at hSw); go_simp; first | done | with_reducible rfl)
                  try simp only [Act.put, List.setIfInBounds_toArray, List.set_cons_zero, List.set_cons_succ]
                  refine wpAnyH_ready (rs := [7]) (by kernel_rfl) (by simp) ?_
                  refine AllReadyH.cons (o := { dst := some 57, op := Op.call { callee := Callee.value (Operand.tmp 55), args := #[Operand.tmp 56], argTypes := #[22] }, type := 4, pos := _, after := #[{ on := 5, ground := Ground.data }, { on := 6, ground := Ground.data }, { on := 4, ground := Ground.chain }, { on := 4, ground := Ground.guard }], guard := some (4, true) }) rfl (fun K hK => ?_) AllReadyH.nil
                  go_simp
                  first | go_at_call 46 | go_at_call 59 | go_at_call 60 | go_at_call 61 | go_at_call 62
                  refine (KC.out _ hB6).mono ?_
                  rintro e w7 ⟨rfl, rfl⟩
                  go_wp2_with fail
                  refine hK.out _ _ ?_ (fun hHeld => ?_)
                  · exact ⟨Since.cell hB6 e0, Since.cell hB6 e1, Since.cell hB6 e2, hB6⟩
                  clear hK K
                  try simp only [Act.put, List.setIfInBounds_toArray, List.set_cons_zero, List.set_cons_succ]
                  refine wpAnyH_take (i := 8) (oi := { dst := some 58, op := Op.pick (Operand.tmp 54) (Operand.tmp 57) (Operand.const (Value.bool false)), type := 4, pos := _, after := #[{ on := 4, ground := Ground.data }, { on := 7, ground := Ground.data }], guard := none }) (v := ?_) rfl (by kernel_rfl) (by kernel_rfl) (by kernel_rfl) (fun _ _ _ h => h) (Or.inl ⟨by rfl, ?_⟩) (by assumption) ?_
                  rotate_left 1
                  · (intro w hSw; (try dsimp only at hSw); go_simp; first | done | with_reducible rfl)
                  try simp only [Act.put, List.setIfInBounds_toArray, List.set_cons_zero, List.set_cons_succ]
                  refine wpAnyH_take (i := 9) (oi := { dst := some 12, op := Op.assign (Operand.tmp 58), type := 4, pos := _, after := #[{ on := 8, ground := Ground.data }, { on := 7, ground := Ground.chain }, { on := 0, ground := Ground.phase }, { on := 1, ground := Ground.phase }, { on := 2, ground := Ground.phase }, { on := 3, ground := Ground.phase }, { on := 4, ground := Ground.phase }, { on := 5, ground := Ground.phase }, { on := 6, ground := Ground.phase }, { on := 7, ground := Ground.phase }, { on := 8, ground := Ground.phase }], guard := none }) (v := ?_) rfl (by kernel_rfl) (by kernel_rfl) (by kernel_rfl) (fun _ _ _ h => h) (Or.inl ⟨by rfl, ?_⟩) (by assumption) ?_
                  rotate_left 1
                  · (intro w hSw; (try dsimp only at hSw); go_simp; first | done | with_reducible rfl)
                  try simp only [Act.put, List.setIfInBounds_toArray, List.set_cons_zero, List.set_cons_succ]
                  refine wpAnyH_done (by kernel_rfl) ?_ _
                  refine NoPanic.normal ?_
                  go_wp2_with fail
                  go_meet
                  exact ⟨congrArg Value.bool HQ.out.symm, Lib.hid hB6⟩
            case rest =>
              obtain ⟨rfl, hS⟩ := hcut
              have SW6 := Lib.hid (SW5.out.step hS.out)
              have X6 := Lib.hid (X5.out.keep hS.out)
              have HB6 := Lib.hid (HB5.out.trans (Below.mono hS.out HB5.out.size))
              clear SW5 X5 HB5 hS e0 e1 e2 hS0 hSd KC KH
              rename World => W6
              generalize hQd : (decide ((⟨cn, cd, ca⟩ : Cut) ≠ highC) && hq) = Q at *
              have hst := HQQ.out Q rfl
              clear hQd HQQ
              obtain ⟨e0, e1, e2, -, -, -⟩ := X6.out.open5
              cases bI <;> cases Q
              · have SI6 := Lib.hid (show SwInv ys (setS hasF xss) (k + 1) L Fc false from by simpa using hst.1)
                clear hst
                go_wp2
                go_roundw
                case rel => exact ⟨k + 1, false, a, n, c, L, Fc, by omega, by go_num, rfl, rfl, by omega, SW6, SI6, HB6⟩
                case measure => simp [intOf]; omega
              · have SI6 := Lib.hid (show SwInv ys (setS hasF xss) (k + 1) L ⟨cn, cd, ca⟩ true from by simpa using hst.1)
                clear hst
                have hgb : w1.heap.size ≤ NF := by have h1 := SW6.out.gn; have h2 := SW6.out.bg; omega
                have HSN := Lib.hid (SW6.out.from (G := ⟨cn, cd, ca⟩))
                have HBN := Lib.hid (((HB6.out.setCell (p := ⟨NF, 0, none⟩) hgb (.int .i64 cn)).setCell (p := ⟨NF, 1, none⟩) hgb (.int .i64 cd)).setCell (p := ⟨NF, 2, none⟩) hgb (.bool ca))
                obtain ⟨b0, b1, b2, b3, b4, b5, b6⟩ := SW6.out.box.open3
                clear hgb
                go_wp2
                go_roundw
                case rel => exact ⟨k + 1, true, a, n, c, L, ⟨cn, cd, ca⟩, by omega, by go_num, rfl, rfl, by omega, HSN, SI6, HBN⟩
                case measure => simp [intOf]; omega
              · have SI6 := Lib.hid (show SwInv ys (setS hasF xss) (k + 1) (L ++ [mkIv Fc ⟨cn, cd, ca⟩]) Fc false from by simpa using hst.1)
                have hft := hst.2 rfl rfl
                have ki := fun W => interval_any Fc ⟨cn, cd, ca⟩ W hft.1 hft.2.1
                clear hst hft
                generalize mkIv Fc ⟨cn, cd, ca⟩ = R at *
                have KI := Lib.hid ki
                clear ki
                obtain ⟨b0, b1, b2, -, -, -, b6⟩ := SW6.out.box.open3
                obtain ⟨ra, rb, rc, rd, rp, rq, rr, rs⟩ := R
                unfold Iv.v Cut.v at KI
                simp only at KI
                go_wp2_with fail
                refine (KI.out _).mono ?_
                rintro e w7 ⟨rfl, hr⟩
                have SW7 := Lib.hid (SW6.out.step hr)
                have HB7 := Lib.hid (HB6.out.trans (hr.mono HB6.out.size))
                have hz7 : NF + 1 ≤ w7.heap.size := SW7.out.box.1
                have hLm : L.length + 1 ≤ 1000000000 := by omega
                clear hr b0 b1 b2 b6 e0 e1 e2
                go_wp2_with (at_builtin; refine push_row rfl _ _ _ rfl RIv 27 40 _ Try.underlying23 Try.infoIv rfl (by decide) (NF + 1) (.slice a n c) L [⟨ra, rb, rc, rd, rp, rq, rr, rs⟩] _ _ rfl rfl _ 1 rfl rfl rfl SW7.out.set hz7 hLm ?_; intro an nn cn' wn hnn hOn hBn)
                have SW8 := Lib.hid (SW7.out.push hBn.out hOn.out)
                have HB8 := Lib.hid (HB7.out.trans (hBn.out.mono (by have h1 := SW7.out.gn; have h2 := SW7.out.bg; omega)))
                clear SW7 HB7 hOn hBn
                go_wp2
                go_roundw
                case rel => exact ⟨k + 1, false, an, nn, cn', L ++ [⟨ra, rb, rc, rd, rp, rq, rr, rs⟩], Fc, by omega, by go_num, rfl, rfl, by simp; omega, SW8, SI6, HB8⟩
                case measure => simp [intOf]; omega
              · have SI6 := Lib.hid (show SwInv ys (setS hasF xss) (k + 1) L Fc true from by simpa using hst.1)
                clear hst
                go_wp2
                go_roundw
                case rel => exact ⟨k + 1, true, a, n, c, L, Fc, by omega, by go_num, rfl, rfl, by omega, SW6, SI6, HB6⟩
                case measure => simp [intOf]; omega
    · have hki : (ne : Int) ≤ (k : Int) := by omega
      have hbI := hSI.out.closed (by have := HNE.out; omega)
      subst hbI
      have hdn := hSI.out.done (by have := HNE.out; omega)
      have HDN := Lib.hid hdn
      have HBF := Lib.hid (hBe.out.trans (hB.out.mono hBe.out.size))
      have HOF := Lib.hid (hSW.out.set.base (B' := w.heap.size) (by have h1 := hSW.out.gn; have h2 := hSW.out.bg; have := hBe.out.size; omega))
      clear hdn
      go_wp2
      go_ret
      exact ⟨L, HDN.out.1, HDN.out.2, rmakes_of HOF.out HBF.out⟩

end Go.Proofs.Ytimbgjpjgbjnkaa
