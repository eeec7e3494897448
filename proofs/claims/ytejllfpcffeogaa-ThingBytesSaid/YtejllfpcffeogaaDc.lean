/- Package thing's read. -/
import Derived.Test.YtejllfpcffeogaaCb
import Derived.Test.YtejllfpcffeogaaZb
import Derived.Test.YtejllfpcffeogaaYj
import Derived.Test.YtejllfpcffeogaaYq
namespace Go.Proofs.Ytejllfpcffeogaa
open Go.RowKit Go.Shelf

theorem Rd.set {p d G k : Nat} {w : World} {l : List Int} {e : Int} {v : Value} (h : Rd p d w l e) (hp : p ≠ G) (hd : d ≠ G) : Rd p d (w.setCell ⟨G, k, none⟩ v) l e := by
  have hb : ∀ b, b ≠ G → (w.setCell ⟨G, k, none⟩ v).heap[b]? = w.heap[b]? := fun b hb => Below.heap_setCell _ _ _ _ hb
  obtain ⟨x, T, h1, h2 | ⟨h3, h4, h5⟩⟩ := h
  · exact ⟨x, T, (hb p hp).trans h1, .inl h2⟩
  · exact ⟨x, T, (hb p hp).trans h1, .inr ⟨h3, by simp [World.setCell]; exact h4, h5.keep (hb d hd)⟩⟩

/-- What a read leaves of a thing under way. -/
theorem OB.grown {S : Nat → Prop} {B N p : Nat} {w w' : World} {va vb vc : Value} {cs : List Int} {vs : List Va} {rs : List Tr} {ps : List Th} (h : OB S B N w va vb vc cs vs rs ps) (hG : w.grownBy w' (some p)) (hp : p < B) (hS : ∀ k, S k → B ≤ k) : OB S B N w' va vb vc cs vs rs ps :=
  { h with
    box := h.box.keepF (F := fun k => k = N) rfl ⟨hG.size, fun k hk hl => hG.block k hl fun e => by have := h.hB; injection e with e; omega⟩
    oa := h.oa.keepS fun g e hl => hG.block g hl fun e2 => by have := (h.oa.lt g e).1; injection e2 with e2; omega
    ob := h.ob.keepS fun g e hl => hG.block g hl fun e2 => by have := (h.ob.lt g e).1; injection e2 with e2; omega
    oc := h.oc.keepS fun g e hl => hG.block g hl fun e2 => by have := (h.oc.lt g e).1; injection e2 with e2; omega
    lie := h.lie.keep ⟨hG.size, fun b hb hl => hG.block b hl fun e => by have := hS b hb.1; injection e with e; omega⟩ fun _ _ h => h }

/-- A thing under way that begins with classes of its own. -/
theorem OB.init (S : Nat → Prop) {B : Nat} {w : World} {va : Value} {cs : List Int} (T : TypeId) (hB : B ≤ w.heap.size) (h : ROwn RIn 3 B w va cs) : OB S B w.heap.size (w.alloc (.cells #[va, .slice none 0 0, .slice none 0 0] T)) va (.slice none 0 0) (.slice none 0 0) cs [] [] [] :=
  ⟨BoxL.made w _ T, hB, h.below ((Below.refl _ _).alloc (Nat.le_refl _) _), ROwn.nil _ _ _ _, ROwn.nil _ _ _ _, Lie.nil _ _, (fun e => by have := (h.lt _ e).2; omega), by simp [Value.ownBlock], by simp [Value.ownBlock], by simp [Value.ownBlock], by simp [Value.ownBlock], by simp [Value.ownBlock]⟩

theorem grown_tr {p : Nat} {a b c : World} (h : a.grownBy b (some p)) (k : b.grownBy c (some p)) : a.grownBy c (some p) :=
  ⟨k.os.trans h.os, k.tape.trans h.tape, k.output.trans h.output, Nat.le_trans h.size k.size, fun i hi hr => (k.block i (Nat.lt_of_lt_of_le hi h.size) hr).trans (h.block i hi hr)⟩

theorem grown_since {p : Nat} {a b : World} (h : Since a b) : a.grownBy b (some p) := ⟨h.os, h.tape, h.output, h.size, fun k hk _ => h.block k hk⟩

/-- An append leaves a reader alone. -/
theorem grown_belowB {p B : Nat} {a b c : World} (h : a.grownBy b (some p)) (hB : Below B b c) (ha : a.heap.size ≤ B) : a.grownBy c (some p) :=
  ⟨hB.os.trans h.os, hB.tape.trans h.tape, hB.output.trans h.output, Nat.le_trans h.size hB.size, fun i hi hr => (hB.block i (Nat.lt_of_lt_of_le hi ha)).trans (h.block i hi hr)⟩

theorem grown_undrew {a b : World} {r : Option Nat} (h : a.drew.grownBy b r) : a.grownBy b r := ⟨h.os, h.tape, h.output, h.size, h.block⟩

theorem Rd.low {p d B : Nat} {w w' : World} {l : List Int} {e : Int} (h : Rd p d w l e) (hB : Below B w w') (hp : p < B) (hd : d < B) : Rd p d w' l e := h.keep hB.size (hB.block p hp) fun _ => hB.block d hd

/-- What read leaves. -/
def ReadOut (o : Option (Th × List Int × Int)) (p d : Nat) (w : World) (x : Ending) (w' : World) : Prop :=
  (∃ (t : Th) (l : List Int) (e : Int) (r : Tr), o = some (t, l, e) ∧ x = .returned (.tuple #[.agg #[.slice r.a1 r.n1 r.c1, .slice r.a2 r.n2 r.c2, .slice r.a3 r.n3 r.c3], .bool true]) ∧ Hid (TSr (fun k => w.heap.size ≤ k ∧ k < w'.heap.size) w' t r) ∧ Hid (Rd p d w' l e) ∧ Hid (w.grownBy w' (some p))) ∨
  (o = none ∧ x = .returned (.tuple #[.agg #[.slice none 0 0, .slice none 0 0, .slice none 0 0], .bool false]) ∧ Hid (w.grownBy w' (some p)))

def ReadK (m : Nat) : Prop := ∀ (p d : Nat) (l : List Int) (e : Int) (w : World), Rd p d w l e → d < w.heap.size → Hm.Byt l → l.length ≤ 1000000 →
  Calls Try.prog 56 #[.pointer (some ⟨p, 0, none⟩), .int .i64 (m : Int)] w (ReadOut (rdT m l e) p d w)

set_option maxHeartbeats 1000000 in
set_option maxRecDepth 100000 in
theorem value_any (t n d : Int) (w : World) :
    Calls Try.prog 81 #[.agg #[.int .i64 t, .int .i64 n, .int .i64 d]] w fun e w' => e = .returned (.agg #[.int .i64 t, .int .i64 n, .int .i64 d]) ∧ Below w.heap.size w w' := by
  have hX := (BoxL.made w #[.int .i64 t, .int .i64 n, .int .i64 d] 103)
  have hX' := hX.keep (Since.alloc (Since.refl _) (.cells #[.int .i64 t, .int .i64 n, .int .i64 d] 61))
  have hX2 := hX.keep (Since.alloc (Since.refl _) (.cells #[.int .i64 0, .int .i64 0, .int .i64 0] 61))
  have hY := BoxL.made (w.alloc (.cells #[.int .i64 t, .int .i64 n, .int .i64 d] 103)) #[.int .i64 t, .int .i64 n, .int .i64 d] 61
  have hY2 := BoxL.made (w.alloc (.cells #[.int .i64 t, .int .i64 n, .int .i64 d] 103)) #[.int .i64 0, .int .i64 0, .int .i64 0] 61
  have hfin : Below w.heap.size w ((w.alloc (.cells #[.int .i64 t, .int .i64 n, .int .i64 d] 103)).alloc (.cells #[.int .i64 t, .int .i64 n, .int .i64 d] 61)) := ((Below.refl _ _).alloc (Nat.le_refl _) _).alloc (by simp) _
  rw [World.size_alloc] at hY hY2
  obtain ⟨x0, x1, x2, -⟩ := hX'.open3
  obtain ⟨b0, b1, b2, -⟩ := hX2.open3
  obtain ⟨y0, y1, y2, -, -, -, -⟩ := hY.open3
  obtain ⟨c0, c1, c2, f0, f1, f2, -⟩ := hY2.open3
  clear hX hX' hX2 hY hY2
  go_enter Try.func81, Try.ntmps81
  go_wp2
  exact bodyPost_ret (v := .agg #[.int .i64 t, .int .i64 n, .int .i64 d]) (by simp [results, Try.results81, go_sem, y0, y1, y2]) rfl ⟨rfl, hfin⟩

theorem vaC_rd {l l1 l2 l3 : List Int} {e e1 e2 e3 x y z : Int} (h1 : intC.rd l e = (x, l1, e1)) (h2 : intC.rd l1 e1 = (y, l2, e2)) (h3 : intC.rd l2 e2 = (z, l3, e3)) : vaC.rd l e = (⟨x, y, z⟩, l3, e3) := by
  show ((⟨(((intC.pair intC).pair intC).rd l e).1.1.1, (((intC.pair intC).pair intC).rd l e).1.1.2, (((intC.pair intC).pair intC).rd l e).1.2⟩ : Va), (((intC.pair intC).pair intC).rd l e).2) = _
  simp only [Codec.pair, h1, h2, h3]

theorem read_zero : ReadK 0 := by
  intro p d l e w h hd hb hl
  have HB := Lib.hid (BoxL.made w #[.slice none 0 0, .slice none 0 0, .slice none 0 0] 29)
  have hG : w.grownBy (w.alloc (.cells #[.slice none 0 0, .slice none 0 0, .slice none 0 0] 29)) (some p) := grown_since ((Below.refl _ _).alloc (Nat.le_refl _) _)
  have HG := Lib.hid hG
  obtain ⟨x0, x1, x2, f0, f1, f2, -⟩ := HB.out.open3
  clear h hd hb hl hG HB
  go_enter Try.func56, Try.ntmps56
  go_wp2
  exact bodyPost_ret (v := .tuple #[.agg #[.slice none 0 0, .slice none 0 0, .slice none 0 0], .bool false]) (by simp [results, Try.results56, go_sem, x0, x1, x2]) rfl (.inr ⟨rfl, rfl, HG⟩)

/-- How a read of one thing fails: too many values. -/
theorem rdN_bad1 {f : List Int → Int → Option (Th × List Int × Int)} {l : List Int} {e : Int} (h : (rd2 l e).1 < 0 ∨ 32 < (rd2 l e).1) : rdN f l e = none := by unfold rdN; rw [if_pos h]
theorem rdN_bad2 {f : List Int → Int → Option (Th × List Int × Int)} {l : List Int} {e : Int} (h1 : ¬ ((rd2 l e).1 < 0 ∨ 32 < (rd2 l e).1)) (h : (rd4 l e).1 < 0 ∨ 96 ≤ (rd4 l e).1) : rdN f l e = none := by unfold rdN; rw [if_neg h1, if_pos h]
theorem rdN_ok {f : List Int → Int → Option (Th × List Int × Int)} {l : List Int} {e : Int} (h1 : ¬ ((rd2 l e).1 < 0 ∨ 32 < (rd2 l e).1)) (h : ¬ ((rd4 l e).1 < 0 ∨ 96 ≤ (rd4 l e).1)) : rdN f l e = (rdL f (rd4 l e).1.toNat (rd4 l e).2.1 (rd4 l e).2.2 []).map fun r => (Th.mk (Hm.rInts l e).1 (rd3 l e).1 r.1, r.2) := by unfold rdN; rw [if_neg h1, if_neg h]

/-- The end of a read that failed. -/
theorem read_fail {p d B : Nat} {w wr : World} {o : Option (Th × List Int × Int)} (ho : o = none) (hG : w.grownBy wr (some p)) (hB : w.heap.size ≤ B) : ReadOut o p d w (.returned (.tuple #[.agg #[.slice none 0 0, .slice none 0 0, .slice none 0 0], .bool false])) (((wr.setCell ⟨B, 0, none⟩ (.slice none 0 0)).setCell ⟨B, 1, none⟩ (.slice none 0 0)).setCell ⟨B, 2, none⟩ (.slice none 0 0)) :=
  .inr ⟨ho, rfl, Lib.hid (grown_later (o := 2) (grown_later (o := 1) (grown_later (o := 0) hG hB) hB) hB)⟩

set_option maxHeartbeats 16000000 in
set_option maxRecDepth 100000 in
theorem read_step (m : Nat) (hm : m ≤ 100) (K : Hid (ReadK m)) : ReadK (m + 1) := by
  intro p d l e w h hd hb hl
  have hres : rdT (m + 1) l e = rdN (rdT m) l e := by rw [rdT]
  rw [hres]
  clear hres
  have hq2 : (rd2 l e).1 < 0 ∨ 32 < (rd2 l e).1 → rdN (rdT m) l e = none := fun h => rdN_bad1 h
  have hq4 : ¬ ((rd2 l e).1 < 0 ∨ 32 < (rd2 l e).1) → ((rd4 l e).1 < 0 ∨ 96 ≤ (rd4 l e).1) → rdN (rdT m) l e = none := fun h1 h => rdN_bad2 h1 h
  have hqo := fun (h1 : ¬ ((rd2 l e).1 < 0 ∨ 32 < (rd2 l e).1)) h => rdN_ok (f := rdT m) (l := l) (e := e) h1 h
  generalize rdN (rdT m) l e = RES at *
  have hd2 : intC.rd (Hm.rInts l e).2.1 (Hm.rInts l e).2.2 = ((rd2 l e).1, (rd2 l e).2.1, (rd2 l e).2.2) := rfl
  have hd3 : vaC.rep (rd2 l e).1.toNat (rd2 l e).2.1 (rd2 l e).2.2 [] = ((rd3 l e).1, (rd3 l e).2.1, (rd3 l e).2.2) := rfl
  have hd4 : intC.rd (rd3 l e).2.1 (rd3 l e).2.2 = ((rd4 l e).1, (rd4 l e).2.1, (rd4 l e).2.2) := rfl
  have b1 := tInts_byt hb e
  have b2 : Hm.Byt (rd2 l e).2.1 ∧ (rd2 l e).2.1.length ≤ (Hm.rInts l e).2.1.length := intC.left _ _ b1.1
  have b3 : Hm.Byt (rd3 l e).2.1 ∧ (rd3 l e).2.1.length ≤ (rd2 l e).2.1.length := vaC.rep_left _ _ _ _ b2.1
  have b4 : Hm.Byt (rd4 l e).2.1 ∧ (rd4 l e).2.1.length ≤ (rd3 l e).2.1.length := intC.left _ _ b3.1
  have k1 := fun W (h : Rd p d W l e) (hd : d < W.heap.size) => rints_any p d l e W h hd hb (by omega)
  have kI := fun (l : List Int) (e : Int) W (h : Rd p d W l e) (hb : Hm.Byt l) (hl : l.length ≤ 1000000) (x l' e') (hr : intC.rd l e = (x, l', e')) => show Calls Try.prog 80 #[.pointer (some ⟨p, 0, none⟩)] W (fun y w' => y = .returned (.int .i64 x) ∧ Hid (Rd p d w' l' e') ∧ Hid (W.grownBy w' (some p))) from by
    have h1 : (Hm.unzig (Hm.rU l e).1, (Hm.rU l e).2.1, (Hm.rU l e).2.2) = (x, l', e') := hr
    simp only [Prod.mk.injEq] at h1
    obtain ⟨rfl, rfl, rfl⟩ := h1
    exact (rint_any p d l e W h hb (by omega)).mono fun y w' hh => ⟨hh.1, hh.2.1, hh.2.2⟩
  generalize (Hm.rInts l e).1 = cs at *
  generalize (Hm.rInts l e).2.1 = l1 at *
  generalize (Hm.rInts l e).2.2 = e1 at *
  generalize (rd2 l e).1 = q2 at *
  generalize (rd2 l e).2.1 = l2 at *
  generalize (rd2 l e).2.2 = e2 at *
  generalize (rd3 l e).1 = vals at *
  generalize (rd3 l e).2.1 = l3 at *
  generalize (rd3 l e).2.2 = e3 at *
  generalize (rd4 l e).1 = q4 at *
  generalize (rd4 l e).2.1 = l4 at *
  generalize (rd4 l e).2.2 = e4 at *
  have HBY : Hid ((Hm.Byt l1 ∧ l1.length ≤ 1000000) ∧ (Hm.Byt l2 ∧ l2.length ≤ 1000000) ∧ (Hm.Byt l3 ∧ l3.length ≤ 1000000) ∧ Hm.Byt l4 ∧ l4.length ≤ 1000000) := Lib.hid ⟨⟨b1.1, by omega⟩, ⟨b2.1, by omega⟩, ⟨b3.1, by omega⟩, b4.1, by omega⟩
  have K1 := Lib.hid k1
  have KI := Lib.hid kI
  have HD2 := Lib.hid hd2
  have HD3 := Lib.hid hd3
  have HD4 := Lib.hid hd4
  have HQ4 := Lib.hid hq4
  have HQO := Lib.hid hqo
  have hpw := h.lt
  obtain ⟨L, hL⟩ : ∃ L : Int, L = ((m + 1 : Nat) : Int) := ⟨_, rfl⟩
  rw [← hL]
  have hL0 : (L == 0) = false := by rw [beq_eq_false_iff_ne]; omega
  have hL1 : IntKind.i64.wrap (L - 1) = (m : Int) := by rw [IntWalk.i64_in _ (by omega)]; omega
  obtain ⟨W1, hW1⟩ : ∃ W1, W1 = w.alloc (.cells #[.slice none 0 0, .slice none 0 0, .slice none 0 0] 29) := ⟨_, rfl⟩
  have hS1 : Since w W1 := by rw [hW1]; exact Since.alloc (Since.refl _) _
  have hR1 : BoxL w.heap.size [.slice none 0 0, .slice none 0 0, .slice none 0 0] W1 := by rw [hW1]; exact BoxL.made w _ _
  have hz1 : W1.heap.size = w.heap.size + 1 := by rw [hW1, World.size_alloc]
  have HR1 := Lib.hid hR1
  have HS1 := Lib.hid hS1
  have HRD1 := Lib.hid (h.below hS1)
  have hd1 : d < W1.heap.size := by omega
  have hG1 := Lib.hid (grown_since (p := p) hS1)
  have HZ1 := Lib.hid hz1
  clear h hb hl hL hq4 hqo hd2 hd3 hd4 b1 b2 b3 b4 k1 kI hR1 hS1 hz1
  go_enter Try.func56, Try.ntmps56
  go_upto_region 3 with (fail)
  rw [← hW1]
  clear hW1
  go_wp2_with fail
  refine (K1.out _ HRD1.out hd1).mono ?_
  rintro x w2 ⟨a2, n2, c2, rfl, hn2, hO2, hR2, hG2⟩
  have hpB : p < W1.heap.size := by have := HZ1.out; omega
  have hdB : d < W1.heap.size := hd1
  have hs2 : W1.heap.size ≤ w2.heap.size := hG2.out.size
  obtain ⟨W3, hW3⟩ : ∃ W3, W3 = w2.alloc (.cells #[.slice a2 n2 c2, .slice none 0 0, .slice none 0 0] 29) := ⟨_, rfl⟩
  have hS3 : Since w2 W3 := by rw [hW3]; exact Since.alloc (Since.refl _) _
  have hO3 : OB (fun k => W1.heap.size ≤ k) W1.heap.size w2.heap.size W3 (.slice a2 n2 c2) (.slice none 0 0) (.slice none 0 0) cs [] [] [] := by rw [hW3]; exact OB.init _ _ hs2 (own_rin hO2.out)
  have HO3 := Lib.hid hO3
  have HR3 := Lib.hid ((hR2.out).below hS3)
  have hG3 := Lib.hid (grown_tr (grown_tr hG1.out hG2.out) (grown_since hS3))
  have HRC3 : Hid (BoxL w.heap.size [.slice none 0 0, .slice none 0 0, .slice none 0 0] W3) := Lib.hid (((HR1.out).keepF (F := fun k => k = w.heap.size) rfl ⟨hs2, fun k hk hl => hG2.out.block k hl fun e => by injection e with e; omega⟩).keep hS3)
  clear hn2 hO2 hR2 hG2 hG1 HR1 HRD1 hO3 hS3 hd1 HS1 K1
  go_upto_region 4 with (fail)
  rw [← hW3]
  have hNB : W1.heap.size ≤ w2.heap.size := hs2
  generalize w2.heap.size = N at *
  clear hW3 hs2
  have hK2 := KI.out l1 e1 W3 HR3.out HBY.out.1.1 HBY.out.1.2 q2 l2 e2 HD2.out
  go_wp2_with fail
  refine hK2.mono ?_
  rintro x w4 ⟨rfl, hR4, hG4⟩
  have HG4 := Lib.hid (grown_tr hG3.out hG4.out)
  generalize hBB : W1.heap.size = B at *
  have hRB : w.heap.size < B := by have := HZ1.out; omega
  have HO4 := Lib.hid (HO3.out.grown hG4.out hpB (fun k hk => hk))
  have HRC4 : Hid (BoxL w.heap.size [.slice none 0 0, .slice none 0 0, .slice none 0 0] w4) := Lib.hid (HRC3.out.keepF (F := fun k => k = w.heap.size) rfl ⟨hG4.out.size, fun k hk hl => hG4.out.block k hl fun e => by injection e with e; omega⟩)
  clear hK2 HO3 HR3 hG3 HRC3 hG4 hBB HZ1
  by_cases hn1 : q2 < 0
  · have HNO : Hid (RES = none) := Lib.hid (hq2 (.inl hn1))
    obtain ⟨z0, z1, z2, zf0, zf1, zf2, -⟩ := HRC4.out.open3
    have hfin := Lib.hid (read_fail (p := p) (d := d) (B := w.heap.size) HNO.out HG4.out (Nat.le_refl _))
    go_wp2
    exact bodyPost_ret (v := .tuple #[.agg #[.slice none 0 0, .slice none 0 0, .slice none 0 0], .bool false]) (by simp [results, Try.results56, go_sem, z0, z1, z2]) rfl hfin.out
  by_cases hn2 : q2 > 32
  · have HNO : Hid (RES = none) := Lib.hid (hq2 (.inr (by omega)))
    obtain ⟨z0, z1, z2, zf0, zf1, zf2, -⟩ := HRC4.out.open3
    have hfin := Lib.hid (read_fail (p := p) (d := d) (B := w.heap.size) HNO.out HG4.out (Nat.le_refl _))
    go_wp2
    exact bodyPost_ret (v := .tuple #[.agg #[.slice none 0 0, .slice none 0 0, .slice none 0 0], .bool false]) (by simp [results, Try.results56, go_sem, z0, z1, z2]) rfl hfin.out
  have hnq : ¬ (q2 < 0 ∨ 32 < q2) := by omega
  have HQ4b := Lib.hid (HQ4.out hnq)
  have HQOb := Lib.hid (HQO.out hnq)
  obtain ⟨nv, rfl⟩ : ∃ nv : Nat, q2 = nv := ⟨q2.toNat, by omega⟩
  have hnv : nv ≤ 32 := by omega
  rw [Int.toNat_natCast] at HD3
  clear hq2 HQ4 HQO hnq
  go_wp2
  go_loopw [27] (fun x wr => ∃ (k : Nat) (b2 : Option Addr) (m2 d2 : Nat) (vs : List Va) (l' : List Int) (e' : Int), k ≤ nv ∧ x = .int .i64 k ∧ Hid (OB (fun k => B ≤ k) B N wr (.slice a2 n2 c2) (.slice b2 m2 d2) (.slice none 0 0) cs vs [] []) ∧ Hid (vaC.rep (nv - k) l' e' vs = (vals, l3, e3)) ∧ Hid (Rd p d wr l' e') ∧ Hid (Hm.Byt l' ∧ l'.length ≤ 1000000) ∧ Hid (vs.length = k) ∧ Hid (w.grownBy wr (some p)) ∧ Hid (BoxL w.heap.size [.slice none 0 0, .slice none 0 0, .slice none 0 0] wr)) (fun x _ => nv - (intOf x).toNat)
  case atStart => exact ⟨0, none, 0, 0, [], l2, e2, by omega, rfl, HO4, HD3, hR4, Lib.hid HBY.out.2.1, Lib.hid rfl, HG4, HRC4⟩
  case round =>
    clear HO4 hR4 HG4 HRC4
    obtain ⟨k, b2, m2, d2, vs, l', e', hk, rfl, hO, hrep, hR, hby, hvl, hG, hRC⟩ := hrel
    by_cases hlt : k < nv
    · have i1 : (k : Int) < nv := by omega
      obtain ⟨y1, la, ea, h1⟩ : ∃ x l e, intC.rd l' e' = (x, l, e) := ⟨_, _, _, rfl⟩
      obtain ⟨y2, lb, eb, h2⟩ : ∃ x l e, intC.rd la ea = (x, l, e) := ⟨_, _, _, rfl⟩
      obtain ⟨y3, lc, ec, h3⟩ : ∃ x l e, intC.rd lb eb = (x, l, e) := ⟨_, _, _, rfl⟩
      have hb1 : Hm.Byt la ∧ la.length ≤ 1000000 := by have h := intC.left l' e' hby.out.1; rw [h1] at h; exact ⟨h.1, Nat.le_trans h.2 hby.out.2⟩
      have hb2 : Hm.Byt lb ∧ lb.length ≤ 1000000 := by have h := intC.left la ea hb1.1; rw [h2] at h; exact ⟨h.1, Nat.le_trans h.2 hb1.2⟩
      have hb3 : Hm.Byt lc ∧ lc.length ≤ 1000000 := by have h := intC.left lb eb hb2.1; rw [h3] at h; exact ⟨h.1, Nat.le_trans h.2 hb2.2⟩
      have hrn : vaC.rep (nv - (k + 1)) lc ec (vs ++ [⟨y1, y2, y3⟩]) = (vals, l3, e3) := by
        have := hrep.out
        rw [show nv - k = (nv - (k + 1)) + 1 by omega, Codec.rep, vaC_rd h1 h2 h3] at this
        exact this
      have KA := Lib.hid fun W (h : Rd p d W l' e') => KI.out l' e' W h hby.out.1 hby.out.2 y1 la ea h1
      have KB := Lib.hid fun W (h : Rd p d W la ea) => KI.out la ea W h hb1.1 hb1.2 y2 lb eb h2
      have KC := Lib.hid fun W (h : Rd p d W lb eb) => KI.out lb eb W h hb2.1 hb2.2 y3 lc ec h3
      have KV := Lib.hid fun W => value_any y1 y2 y3 W
      have HRN := Lib.hid hrn
      have HB3 := Lib.hid hb3
      have hvl2 : vs.length + 1 ≤ 1000000000 := by have := hvl.out; omega
      have HOD := Lib.hid (hO.out.frame (Since.drew (Since.refl wr)))
      obtain ⟨x0, x1, x2, f0, f1, f2, -⟩ := hO.out.box.open3
      have xd := Since.cell (Since.drew (Since.refl wr)) x1
      clear hrn h1 h2 h3 hb1 hb2 hb3 hrep
      go_upto_region 9 with (fail)
      refine wp_region_noPanic ?_
      refine wp_region_held_drew (S := fun _ => True) (by kernel_rfl) trivial (fun hHeld => ?_)
      refine wpAnyH_take (i := 0) (oi := ⟨some 29, Op.fieldAddr 29 (Operand.tmp 6) 1, 0, _, _, none⟩) (v := ?_) rfl (by kernel_rfl) (by kernel_rfl) (by kernel_rfl) (fun _ _ _ h => h) (Or.inl ⟨by rfl, ?_⟩) (by assumption) ?_
      rotate_left 1
      · (intro w hSw; (try dsimp only at hSw); go_simp; first | done | with_reducible rfl)
      try simp only [Act.put, List.setIfInBounds_toArray, List.set_cons_zero, List.set_cons_succ]
      refine wpAnyH_take (i := 2) (oi := ⟨some 31, Op.move (Operand.tmp 0), 47, _, _, none⟩) (v := ?_) rfl (by kernel_rfl) (by kernel_rfl) (by kernel_rfl) (fun _ _ _ h => h) (Or.inl ⟨by rfl, ?_⟩) (by assumption) ?_
      rotate_left 1
      · (intro w hSw; (try dsimp only at hSw); go_simp; first | done | with_reducible rfl)
      try simp only [Act.put, List.setIfInBounds_toArray, List.set_cons_zero, List.set_cons_succ]
      refine wpAnyH_take (i := 4) (oi := ⟨some 33, Op.move (Operand.tmp 0), 47, _, _, none⟩) (v := ?_) rfl (by kernel_rfl) (by kernel_rfl) (by kernel_rfl) (fun _ _ _ h => h) (Or.inl ⟨by rfl, ?_⟩) (by assumption) ?_
      rotate_left 1
      · (intro w hSw; (try dsimp only at hSw); go_simp; first | done | with_reducible rfl)
      try simp only [Act.put, List.setIfInBounds_toArray, List.set_cons_zero, List.set_cons_succ]
      refine wpAnyH_take (i := 6) (oi := ⟨some 35, Op.move (Operand.tmp 0), 47, _, _, none⟩) (v := ?_) rfl (by kernel_rfl) (by kernel_rfl) (by kernel_rfl) (fun _ _ _ h => h) (Or.inl ⟨by rfl, ?_⟩) (by assumption) ?_
      rotate_left 1
      · (intro w hSw; (try dsimp only at hSw); go_simp; first | done | with_reducible rfl)
      try simp only [Act.put, List.setIfInBounds_toArray, List.set_cons_zero, List.set_cons_succ]
      refine wpAnyH_ready (rs := [1, 3]) (by kernel_rfl) (by simp) ?_
      refine AllReadyH.cons (o := ⟨some 30, Op.load 27 (Operand.tmp 29), 27, _, _, none⟩) rfl (fun K hK => ?_) (AllReadyH.cons (o := ⟨some 32, Op.call { callee := Callee.value (Operand.func 80), args := #[Operand.tmp 31], argTypes := #[47] }, 3, _, _, none⟩) rfl (fun K hK => ?_) AllReadyH.nil)
      · go_simp
        try go_wp2_with fail
        refine hK.out _ _ ?_ (fun hHeld => ?_)
        · trivial
        clear hK K
        try simp only [Act.put, List.setIfInBounds_toArray, List.set_cons_zero, List.set_cons_succ]
        refine wpAnyH_ready (rs := [3]) (by kernel_rfl) (by simp) ?_
        refine AllReadyH.cons (o := ⟨some 32, Op.call { callee := Callee.value (Operand.func 80), args := #[Operand.tmp 31], argTypes := #[47] }, 3, _, _, none⟩) rfl (fun K hK => ?_) AllReadyH.nil
        go_simp
        first | refine (KA.out _ hR.out).mono ?_ | refine (KA.out (World.drew wr) hR.out).mono ?_
        rintro e v1 ⟨rfl, hR1, hGx⟩
        have hG1 : wr.grownBy v1 (some p) := by first | exact hGx.out | exact grown_undrew hGx.out
        clear hGx
        have HO1 := Lib.hid (hO.out.grown hG1 hpB (fun k hk => hk))
        obtain ⟨w1_0, w1_1, w1_2, g1_0, g1_1, g1_2, -⟩ := HO1.out.box.open3
        have u1 := Since.cell (Since.drew (Since.refl v1)) w1_1
        try go_wp2_with fail
        refine hK.out _ _ ?_ (fun hHeld => ?_)
        · trivial
        clear hK K
        try simp only [Act.put, List.setIfInBounds_toArray, List.set_cons_zero, List.set_cons_succ]
        refine wpAnyH_ready (rs := [5]) (by kernel_rfl) (by simp) ?_
        refine AllReadyH.cons (o := ⟨some 34, Op.call { callee := Callee.value (Operand.func 80), args := #[Operand.tmp 33], argTypes := #[47] }, 3, _, _, none⟩) rfl (fun K hK => ?_) AllReadyH.nil
        go_simp
        first | refine (KB.out _ hR1.out).mono ?_ | refine (KB.out (World.drew v1) hR1.out).mono ?_
        rintro e v2 ⟨rfl, hR2, hGx⟩
        have hG2 : wr.grownBy v2 (some p) := by first | exact grown_tr hG1 hGx.out | exact grown_tr hG1 (grown_undrew hGx.out)
        clear hGx
        have HO2 := Lib.hid (hO.out.grown hG2 hpB (fun k hk => hk))
        obtain ⟨w2_0, w2_1, w2_2, g2_0, g2_1, g2_2, -⟩ := HO2.out.box.open3
        have u2 := Since.cell (Since.drew (Since.refl v2)) w2_1
        try go_wp2_with fail
        refine hK.out _ _ ?_ (fun hHeld => ?_)
        · trivial
        clear hK K
        try simp only [Act.put, List.setIfInBounds_toArray, List.set_cons_zero, List.set_cons_succ]
        refine wpAnyH_ready (rs := [7]) (by kernel_rfl) (by simp) ?_
        refine AllReadyH.cons (o := ⟨some 36, Op.call { callee := Callee.value (Operand.func 80), args := #[Operand.tmp 35], argTypes := #[47] }, 3, _, _, none⟩) rfl (fun K hK => ?_) AllReadyH.nil
        go_simp
        first | refine (KC.out _ hR2.out).mono ?_ | refine (KC.out (World.drew v2) hR2.out).mono ?_
        rintro e v3 ⟨rfl, hR3, hGx⟩
        have hG3 : wr.grownBy v3 (some p) := by first | exact grown_tr hG2 hGx.out | exact grown_tr hG2 (grown_undrew hGx.out)
        clear hGx
        have HO3 := Lib.hid (hO.out.grown hG3 hpB (fun k hk => hk))
        obtain ⟨w3_0, w3_1, w3_2, g3_0, g3_1, g3_2, -⟩ := HO3.out.box.open3
        have u3 := Since.cell (Since.drew (Since.refl v3)) w3_1
        try go_wp2_with fail
        refine hK.out _ _ ?_ (fun hHeld => ?_)
        · trivial
        clear hK K
        try simp only [Act.put, List.setIfInBounds_toArray, List.set_cons_zero, List.set_cons_succ]
        refine wpAnyH_take (i := 8) (oi := ⟨some 37, Op.build 103 #[(0, Operand.tmp 32), (1, Operand.tmp 34), (2, Operand.tmp 36)], 103, _, _, none⟩) (v := ?_) rfl (by kernel_rfl) (by kernel_rfl) (by kernel_rfl) (fun _ _ _ h => h) (Or.inl ⟨by rfl, ?_⟩) (by assumption) ?_
        rotate_left 1
        · (intro w hSw; (try dsimp only at hSw); go_simp; first | done | with_reducible rfl)
        try simp only [Act.put, List.setIfInBounds_toArray, List.set_cons_zero, List.set_cons_succ]
        refine wpAnyH_ready (rs := [9]) (by kernel_rfl) (by simp) ?_
        refine AllReadyH.cons (o := ⟨some 38, Op.call { callee := Callee.value (Operand.func 81), args := #[Operand.tmp 37], argTypes := #[103] }, 61, _, _, none⟩) rfl (fun K hK => ?_) AllReadyH.nil
        go_simp
        refine (KV.out _).mono ?_
        rintro e v9 ⟨rfl, hr9⟩
        have hS9 : Since v3 v9 := by (with_reducible refine Since.step ?_ hr9); (repeat (first | with_reducible assumption | with_reducible exact Since.refl _ | with_reducible refine Since.alloc ?_ _ | with_reducible refine Since.drew ?_))
        have HO9 := Lib.hid (HO3.out.frame hS9)
        obtain ⟨w9_0, w9_1, w9_2, g9_0, g9_1, g9_2, -⟩ := HO9.out.box.open3
        have u9 := Since.cell (Since.drew (Since.refl v9)) w9_1
        have t9 := Since.cell (Since.alloc (Since.refl v9) (.cells #[.int .i64 y1, .int .i64 y2, .int .i64 y3] 61)) w9_1
        have t8 := Since.cell (Since.drew (Since.alloc (Since.refl v9) (.cells #[.int .i64 y1, .int .i64 y2, .int .i64 y3] 61))) w9_1
        try go_wp2_with fail
        refine hK.out _ _ ?_ (fun hHeld => ?_)
        · trivial
        clear hK K
        try simp only [Act.put, List.setIfInBounds_toArray, List.set_cons_zero, List.set_cons_succ]
        refine wpAnyH_ready (rs := [10]) (by kernel_rfl) (by simp) ?_
        refine AllReadyH.cons (o := ⟨some 39, Op.buildSlice 27 1 #[(0, Operand.tmp 38)], 27, _, _, none⟩) rfl (fun K hK => ?_) AllReadyH.nil
        go_simp
        try go_wp2_with fail
        refine hK.out _ _ ?_ (fun hHeld => ?_)
        · trivial
        clear hK K
        try simp only [Act.put, List.setIfInBounds_toArray, List.set_cons_zero, List.set_cons_succ]
        have hSa : Since v9 (v9.alloc (.cells #[.int .i64 y1, .int .i64 y2, .int .i64 y3] 61)) := Since.alloc (Since.refl _) _
        have HOA := Lib.hid (HO9.out.frame hSa)
        have HCL := Lib.hid (one_cells RVa v9 ⟨y1, y2, y3⟩ #[.int .i64 y1, .int .i64 y2, .int .i64 y3] 61 rfl)
        have hzB : B ≤ (v9.alloc (.cells #[.int .i64 y1, .int .i64 y2, .int .i64 y3] 61)).heap.size := Nat.le_trans hNB (Nat.le_of_lt HOA.out.box.1)
        refine wpAnyH_ready (rs := [11]) (by kernel_rfl) (by simp) ?_
        refine AllReadyH.cons (o := ⟨some 40, Op.call { callee := Callee.builtin Builtin.append, args := #[Operand.tmp 30, Operand.tmp 39], argTypes := #[27, 27] }, 27, _, _, none⟩) rfl (fun K hK => ?_) AllReadyH.nil
        refine wp_row1_f (.tmp 30) (.tmp 39) 27 rfl RVa 61 24 _ Try.underlying27 Try.infoVal rfl (by decide) B (.slice b2 m2 d2) vs [⟨y1, y2, y3⟩] v9.heap.size 1 1 rfl rfl rfl HCL.out HOA.out.ob hzB hvl2 ?_
        intro ak lk ck wn hnn hOn hBn hPn
        obtain ⟨y0', y1', y2', g0', g1', g2', -⟩ := (HOA.out.there2 hPn.out).open3
        refine hK.out _ _ ?_ (fun hHeld => ?_)
        · trivial
        clear hK K
        try simp only [Act.put, List.setIfInBounds_toArray, List.set_cons_zero, List.set_cons_succ]
        refine wpAnyH_take (i := 12) (oi := ⟨some 41, Op.fieldAddr 29 (Operand.tmp 6) 1, 0, _, _, none⟩) (v := ?_) rfl (by kernel_rfl) (by kernel_rfl) (by kernel_rfl) (fun _ _ _ h => h) (Or.inl ⟨by rfl, ?_⟩) (by assumption) ?_
        rotate_left 1
        · (intro w hSw; (try dsimp only at hSw); go_simp; first | done | with_reducible rfl)
        try simp only [Act.put, List.setIfInBounds_toArray, List.set_cons_zero, List.set_cons_succ]
        refine wpAnyH_ready (rs := [13]) (by kernel_rfl) (by simp) ?_
        refine AllReadyH.cons (o := ⟨none, Op.store 27 (Operand.tmp 41) (Operand.tmp 40), 0, _, _, none⟩) rfl (fun K hK => ?_) AllReadyH.nil
        go_simp
        go_wp2_with fail
        refine hK.out _ _ ?_ (fun hHeld => ?_)
        · trivial
        clear hK K
        try simp only [Act.put, List.setIfInBounds_toArray, List.set_cons_zero, List.set_cons_succ]
        refine wpAnyH_done (by kernel_rfl) ?_ _
        refine NoPanic.normal ?_
        have HOZ := Lib.hid (HOA.out.set2 hPn.out hOn.out)
        have hGA : w.grownBy (v9.alloc (.cells #[.int .i64 y1, .int .i64 y2, .int .i64 y3] 61)) (some p) := grown_tr (grown_tr hG.out hG3) (grown_since (Since.step hS9 hSa))
        have HGZ := Lib.hid (grown_later (g := N) (o := 1) (v := .slice ak lk ck) (grown_belowB hGA hBn.out (Nat.le_of_lt hRB)) (by omega))
        have HRZ := Lib.hid (Rd.set (k := 1) (v := .slice ak lk ck) (((hR3.out.below (Since.step hS9 hSa))).low hBn.out hpB hdB) (show p ≠ N by omega) (show d ≠ N by omega))
        have hrc9 : BoxL w.heap.size [.slice none 0 0, .slice none 0 0, .slice none 0 0] (v9.alloc (.cells #[.int .i64 y1, .int .i64 y2, .int .i64 y3] 61)) := (hRC.out.keepF (F := fun k => k = w.heap.size) rfl ⟨hG3.size, fun k hk hl => hG3.block k hl fun e => by injection e with e; omega⟩).keep (Since.step hS9 hSa)
        have HRCZ := Lib.hid (box_keepset (hrc9.keep2 hRB hBn.out) (show w.heap.size ≠ N by omega) 1 (.slice ak lk ck))
        have HVL : Hid ((vs ++ [(⟨y1, y2, y3⟩ : Va)]).length = k + 1) := Lib.hid (by rw [List.length_append, hvl.out]; rfl)
        go_wp2
        go_roundw
        case rel => exact ⟨k + 1, ak, lk, ck, _, lc, ec, by omega, by go_num, HOZ, HRN, HRZ, HB3, HVL, HGZ, HRCZ⟩
        case measure => simp [intOf]; omega
      · go_simp
        first | refine (KA.out _ hR.out).mono ?_ | refine (KA.out (World.drew wr) hR.out).mono ?_
        rintro e v1 ⟨rfl, hR1, hGx⟩
        have hG1 : wr.grownBy v1 (some p) := by first | exact hGx.out | exact grown_undrew hGx.out
        clear hGx
        have HO1 := Lib.hid (hO.out.grown hG1 hpB (fun k hk => hk))
        obtain ⟨w1_0, w1_1, w1_2, g1_0, g1_1, g1_2, -⟩ := HO1.out.box.open3
        have u1 := Since.cell (Since.drew (Since.refl v1)) w1_1
        try go_wp2_with fail
        refine hK.out _ _ ?_ (fun hHeld => ?_)
        · trivial
        clear hK K
        try simp only [Act.put, List.setIfInBounds_toArray, List.set_cons_zero, List.set_cons_succ]
        refine wpAnyH_ready (rs := [1, 5]) (by kernel_rfl) (by simp) ?_
        refine AllReadyH.cons (o := ⟨some 30, Op.load 27 (Operand.tmp 29), 27, _, _, none⟩) rfl (fun K hK => ?_) (AllReadyH.cons (o := ⟨some 34, Op.call { callee := Callee.value (Operand.func 80), args := #[Operand.tmp 33], argTypes := #[47] }, 3, _, _, none⟩) rfl (fun K hK => ?_) AllReadyH.nil)
        · go_simp
          try go_wp2_with fail
          refine hK.out _ _ ?_ (fun hHeld => ?_)
          · trivial
          clear hK K
          try simp only [Act.put, List.setIfInBounds_toArray, List.set_cons_zero, List.set_cons_succ]
          refine wpAnyH_ready (rs := [5]) (by kernel_rfl) (by simp) ?_
          refine AllReadyH.cons (o := ⟨some 34, Op.call { callee := Callee.value (Operand.func 80), args := #[Operand.tmp 33], argTypes := #[47] }, 3, _, _, none⟩) rfl (fun K hK => ?_) AllReadyH.nil
          go_simp
          first | refine (KB.out _ hR1.out).mono ?_ | refine (KB.out (World.drew v1) hR1.out).mono ?_
          rintro e v2 ⟨rfl, hR2, hGx⟩
          have hG2 : wr.grownBy v2 (some p) := by first | exact grown_tr hG1 hGx.out | exact grown_tr hG1 (grown_undrew hGx.out)
          clear hGx
          have HO2 := Lib.hid (hO.out.grown hG2 hpB (fun k hk => hk))
          obtain ⟨w2_0, w2_1, w2_2, g2_0, g2_1, g2_2, -⟩ := HO2.out.box.open3
          have u2 := Since.cell (Since.drew (Since.refl v2)) w2_1
          try go_wp2_with fail
          refine hK.out _ _ ?_ (fun hHeld => ?_)
          · trivial
          clear hK K
          try simp only [Act.put, List.setIfInBounds_toArray, List.set_cons_zero, List.set_cons_succ]
          refine wpAnyH_ready (rs := [7]) (by kernel_rfl) (by simp) ?_
          refine AllReadyH.cons (o := ⟨some 36, Op.call { callee := Callee.value (Operand.func 80), args := #[Operand.tmp 35], argTypes := #[47] }, 3, _, _, none⟩) rfl (fun K hK => ?_) AllReadyH.nil
          go_simp
          first | refine (KC.out _ hR2.out).mono ?_ | refine (KC.out (World.drew v2) hR2.out).mono ?_
          rintro e v3 ⟨rfl, hR3, hGx⟩
          have hG3 : wr.grownBy v3 (some p) := by first | exact grown_tr hG2 hGx.out | exact grown_tr hG2 (grown_undrew hGx.out)
          clear hGx
          have HO3 := Lib.hid (hO.out.grown hG3 hpB (fun k hk => hk))
          obtain ⟨w3_0, w3_1, w3_2, g3_0, g3_1, g3_2, -⟩ := HO3.out.box.open3
          have u3 := Since.cell (Since.drew (Since.refl v3)) w3_1
          try go_wp2_with fail
          refine hK.out _ _ ?_ (fun hHeld => ?_)
          · trivial
          clear hK K
          try simp only [Act.put, List.setIfInBounds_toArray, List.set_cons_zero, List.set_cons_succ]
          refine wpAnyH_take (i := 8) (oi := ⟨some 37, Op.build 103 #[(0, Operand.tmp 32), (1, Operand.tmp 34), (2, Operand.tmp 36)], 103, _, _, none⟩) (v := ?_) rfl (by kernel_rfl) (by kernel_rfl) (by kernel_rfl) (fun _ _ _ h => h) (Or.inl ⟨by rfl, ?_⟩) (by assumption) ?_
          rotate_left 1
          · (intro w hSw; (try dsimp only at hSw); go_simp; first | done | with_reducible rfl)
          try simp only [Act.put, List.setIfInBounds_toArray, List.set_cons_zero, List.set_cons_succ]
          refine wpAnyH_ready (rs := [9]) (by kernel_rfl) (by simp) ?_
          refine AllReadyH.cons (o := ⟨some 38, Op.call { callee := Callee.value (Operand.func 81), args := #[Operand.tmp 37], argTypes := #[103] }, 61, _, _, none⟩) rfl (fun K hK => ?_) AllReadyH.nil
          go_simp
          refine (KV.out _).mono ?_
          rintro e v9 ⟨rfl, hr9⟩
          have hS9 : Since v3 v9 := by (with_reducible refine Since.step ?_ hr9); (repeat (first | with_reducible assumption | with_reducible exact Since.refl _ | with_reducible refine Since.alloc ?_ _ | with_reducible refine Since.drew ?_))
          have HO9 := Lib.hid (HO3.out.frame hS9)
          obtain ⟨w9_0, w9_1, w9_2, g9_0, g9_1, g9_2, -⟩ := HO9.out.box.open3
          have u9 := Since.cell (Since.drew (Since.refl v9)) w9_1
          have t9 := Since.cell (Since.alloc (Since.refl v9) (.cells #[.int .i64 y1, .int .i64 y2, .int .i64 y3] 61)) w9_1
          have t8 := Since.cell (Since.drew (Since.alloc (Since.refl v9) (.cells #[.int .i64 y1, .int .i64 y2, .int .i64 y3] 61))) w9_1
          try go_wp2_with fail
          refine hK.out _ _ ?_ (fun hHeld => ?_)
          · trivial
          clear hK K
          try simp only [Act.put, List.setIfInBounds_toArray, List.set_cons_zero, List.set_cons_succ]
          refine wpAnyH_ready (rs := [10]) (by kernel_rfl) (by simp) ?_
          refine AllReadyH.cons (o := ⟨some 39, Op.buildSlice 27 1 #[(0, Operand.tmp 38)], 27, _, _, none⟩) rfl (fun K hK => ?_) AllReadyH.nil
          go_simp
          try go_wp2_with fail
          refine hK.out _ _ ?_ (fun hHeld => ?_)
          · trivial
          clear hK K
          try simp only [Act.put, List.setIfInBounds_toArray, List.set_cons_zero, List.set_cons_succ]
          have hSa : Since v9 (v9.alloc (.cells #[.int .i64 y1, .int .i64 y2, .int .i64 y3] 61)) := Since.alloc (Since.refl _) _
          have HOA := Lib.hid (HO9.out.frame hSa)
          have HCL := Lib.hid (one_cells RVa v9 ⟨y1, y2, y3⟩ #[.int .i64 y1, .int .i64 y2, .int .i64 y3] 61 rfl)
          have hzB : B ≤ (v9.alloc (.cells #[.int .i64 y1, .int .i64 y2, .int .i64 y3] 61)).heap.size := Nat.le_trans hNB (Nat.le_of_lt HOA.out.box.1)
          refine wpAnyH_ready (rs := [11]) (by kernel_rfl) (by simp) ?_
          refine AllReadyH.cons (o := ⟨some 40, Op.call { callee := Callee.builtin Builtin.append, args := #[Operand.tmp 30, Operand.tmp 39], argTypes := #[27, 27] }, 27, _, _, none⟩) rfl (fun K hK => ?_) AllReadyH.nil
          refine wp_row1_f (.tmp 30) (.tmp 39) 27 rfl RVa 61 24 _ Try.underlying27 Try.infoVal rfl (by decide) B (.slice b2 m2 d2) vs [⟨y1, y2, y3⟩] v9.heap.size 1 1 rfl rfl rfl HCL.out HOA.out.ob hzB hvl2 ?_
          intro ak lk ck wn hnn hOn hBn hPn
          obtain ⟨y0', y1', y2', g0', g1', g2', -⟩ := (HOA.out.there2 hPn.out).open3
          refine hK.out _ _ ?_ (fun hHeld => ?_)
          · trivial
          clear hK K
          try simp only [Act.put, List.setIfInBounds_toArray, List.set_cons_zero, List.set_cons_succ]
          refine wpAnyH_take (i := 12) (oi := ⟨some 41, Op.fieldAddr 29 (Operand.tmp 6) 1, 0, _, _, none⟩) (v := ?_) rfl (by kernel_rfl) (by kernel_rfl) (by kernel_rfl) (fun _ _ _ h => h) (Or.inl ⟨by rfl, ?_⟩) (by assumption) ?_
          rotate_left 1
          · (intro w hSw; (try dsimp only at hSw); go_simp; first | done | with_reducible rfl)
          try simp only [Act.put, List.setIfInBounds_toArray, List.set_cons_zero, List.set_cons_succ]
          refine wpAnyH_ready (rs := [13]) (by kernel_rfl) (by simp) ?_
          refine AllReadyH.cons (o := ⟨none, Op.store 27 (Operand.tmp 41) (Operand.tmp 40), 0, _, _, none⟩) rfl (fun K hK => ?_) AllReadyH.nil
          go_simp
          go_wp2_with fail
          refine hK.out _ _ ?_ (fun hHeld => ?_)
          · trivial
          clear hK K
          try simp only [Act.put, List.setIfInBounds_toArray, List.set_cons_zero, List.set_cons_succ]
          refine wpAnyH_done (by kernel_rfl) ?_ _
          refine NoPanic.normal ?_
          have HOZ := Lib.hid (HOA.out.set2 hPn.out hOn.out)
          have hGA : w.grownBy (v9.alloc (.cells #[.int .i64 y1, .int .i64 y2, .int .i64 y3] 61)) (some p) := grown_tr (grown_tr hG.out hG3) (grown_since (Since.step hS9 hSa))
          have HGZ := Lib.hid (grown_later (g := N) (o := 1) (v := .slice ak lk ck) (grown_belowB hGA hBn.out (Nat.le_of_lt hRB)) (by omega))
          have HRZ := Lib.hid (Rd.set (k := 1) (v := .slice ak lk ck) (((hR3.out.below (Since.step hS9 hSa))).low hBn.out hpB hdB) (show p ≠ N by omega) (show d ≠ N by omega))
          have hrc9 : BoxL w.heap.size [.slice none 0 0, .slice none 0 0, .slice none 0 0] (v9.alloc (.cells #[.int .i64 y1, .int .i64 y2, .int .i64 y3] 61)) := (hRC.out.keepF (F := fun k => k = w.heap.size) rfl ⟨hG3.size, fun k hk hl => hG3.block k hl fun e => by injection e with e; omega⟩).keep (Since.step hS9 hSa)
          have HRCZ := Lib.hid (box_keepset (hrc9.keep2 hRB hBn.out) (show w.heap.size ≠ N by omega) 1 (.slice ak lk ck))
          have HVL : Hid ((vs ++ [(⟨y1, y2, y3⟩ : Va)]).length = k + 1) := Lib.hid (by rw [List.length_append, hvl.out]; rfl)
          go_wp2
          go_roundw
          case rel => exact ⟨k + 1, ak, lk, ck, _, lc, ec, by omega, by go_num, HOZ, HRN, HRZ, HB3, HVL, HGZ, HRCZ⟩
          case measure => simp [intOf]; omega
        · go_simp
          first | refine (KB.out _ hR1.out).mono ?_ | refine (KB.out (World.drew v1) hR1.out).mono ?_
          rintro e v2 ⟨rfl, hR2, hGx⟩
          have hG2 : wr.grownBy v2 (some p) := by first | exact grown_tr hG1 hGx.out | exact grown_tr hG1 (grown_undrew hGx.out)
          clear hGx
          have HO2 := Lib.hid (hO.out.grown hG2 hpB (fun k hk => hk))
          obtain ⟨w2_0, w2_1, w2_2, g2_0, g2_1, g2_2, -⟩ := HO2.out.box.open3
          have u2 := Since.cell (Since.drew (Since.refl v2)) w2_1
          try go_wp2_with fail
          refine hK.out _ _ ?_ (fun hHeld => ?_)
          · trivial
          clear hK K
          try simp only [Act.put, List.setIfInBounds_toArray, List.set_cons_zero, List.set_cons_succ]
          refine wpAnyH_ready (rs := [1, 7]) (by kernel_rfl) (by simp) ?_
          refine AllReadyH.cons (o := ⟨some 30, Op.load 27 (Operand.tmp 29), 27, _, _, none⟩) rfl (fun K hK => ?_) (AllReadyH.cons (o := ⟨some 36, Op.call { callee := Callee.value (Operand.func 80), args := #[Operand.tmp 35], argTypes := #[47] }, 3, _, _, none⟩) rfl (fun K hK => ?_) AllReadyH.nil)
          · go_simp
            try go_wp2_with fail
            refine hK.out _ _ ?_ (fun hHeld => ?_)
            · trivial
            clear hK K
            try simp only [Act.put, List.setIfInBounds_toArray, List.set_cons_zero, List.set_cons_succ]
            refine wpAnyH_ready (rs := [7]) (by kernel_rfl) (by simp) ?_
            refine AllReadyH.cons (o := ⟨some 36, Op.call { callee := Callee.value (Operand.func 80), args := #[Operand.tmp 35], argTypes := #[47] }, 3, _, _, none⟩) rfl (fun K hK => ?_) AllReadyH.nil
            go_simp
            first | refine (KC.out _ hR2.out).mono ?_ | refine (KC.out (World.drew v2) hR2.out).mono ?_
            rintro e v3 ⟨rfl, hR3, hGx⟩
            have hG3 : wr.grownBy v3 (some p) := by first | exact grown_tr hG2 hGx.out | exact grown_tr hG2 (grown_undrew hGx.out)
            clear hGx
            have HO3 := Lib.hid (hO.out.grown hG3 hpB (fun k hk => hk))
            obtain ⟨w3_0, w3_1, w3_2, g3_0, g3_1, g3_2, -⟩ := HO3.out.box.open3
            have u3 := Since.cell (Since.drew (Since.refl v3)) w3_1
            try go_wp2_with fail
            refine hK.out _ _ ?_ (fun hHeld => ?_)
            · trivial
            clear hK K
            try simp only [Act.put, List.setIfInBounds_toArray, List.set_cons_zero, List.set_cons_succ]
            refine wpAnyH_take (i := 8) (oi := ⟨some 37, Op.build 103 #[(0, Operand.tmp 32), (1, Operand.tmp 34), (2, Operand.tmp 36)], 103, _, _, none⟩) (v := ?_) rfl (by kernel_rfl) (by kernel_rfl) (by kernel_rfl) (fun _ _ _ h => h) (Or.inl ⟨by rfl, ?_⟩) (by assumption) ?_
            rotate_left 1
            · (intro w hSw; (try dsimp only at hSw); go_simp; first | done | with_reducible rfl)
            try simp only [Act.put, List.setIfInBounds_toArray, List.set_cons_zero, List.set_cons_succ]
            refine wpAnyH_ready (rs := [9]) (by kernel_rfl) (by simp) ?_
            refine AllReadyH.cons (o := ⟨some 38, Op.call { callee := Callee.value (Operand.func 81), args := #[Operand.tmp 37], argTypes := #[103] }, 61, _, _, none⟩) rfl (fun K hK => ?_) AllReadyH.nil
            go_simp
            refine (KV.out _).mono ?_
            rintro e v9 ⟨rfl, hr9⟩
            have hS9 : Since v3 v9 := by (with_reducible refine Since.step ?_ hr9); (repeat (first | with_reducible assumption | with_reducible exact Since.refl _ | with_reducible refine Since.alloc ?_ _ | with_reducible refine Since.drew ?_))
            have HO9 := Lib.hid (HO3.out.frame hS9)
            obtain ⟨w9_0, w9_1, w9_2, g9_0, g9_1, g9_2, -⟩ := HO9.out.box.open3
            have u9 := Since.cell (Since.drew (Since.refl v9)) w9_1
            have t9 := Since.cell (Since.alloc (Since.refl v9) (.cells #[.int .i64 y1, .int .i64 y2, .int .i64 y3] 61)) w9_1
            have t8 := Since.cell (Since.drew (Since.alloc (Since.refl v9) (.cells #[.int .i64 y1, .int .i64 y2, .int .i64 y3] 61))) w9_1
            try go_wp2_with fail
            refine hK.out _ _ ?_ (fun hHeld => ?_)
            · trivial
            clear hK K
            try simp only [Act.put, List.setIfInBounds_toArray, List.set_cons_zero, List.set_cons_succ]
            refine wpAnyH_ready (rs := [10]) (by kernel_rfl) (by simp) ?_
            refine AllReadyH.cons (o := ⟨some 39, Op.buildSlice 27 1 #[(0, Operand.tmp 38)], 27, _, _, none⟩) rfl (fun K hK => ?_) AllReadyH.nil
            go_simp
            try go_wp2_with fail
            refine hK.out _ _ ?_ (fun hHeld => ?_)
            · trivial
            clear hK K
            try simp only [Act.put, List.setIfInBounds_toArray, List.set_cons_zero, List.set_cons_succ]
            have hSa : Since v9 (v9.alloc (.cells #[.int .i64 y1, .int .i64 y2, .int .i64 y3] 61)) := Since.alloc (Since.refl _) _
            have HOA := Lib.hid (HO9.out.frame hSa)
            have HCL := Lib.hid (one_cells RVa v9 ⟨y1, y2, y3⟩ #[.int .i64 y1, .int .i64 y2, .int .i64 y3] 61 rfl)
            have hzB : B ≤ (v9.alloc (.cells #[.int .i64 y1, .int .i64 y2, .int .i64 y3] 61)).heap.size := Nat.le_trans hNB (Nat.le_of_lt HOA.out.box.1)
            refine wpAnyH_ready (rs := [11]) (by kernel_rfl) (by simp) ?_
            refine AllReadyH.cons (o := ⟨some 40, Op.call { callee := Callee.builtin Builtin.append, args := #[Operand.tmp 30, Operand.tmp 39], argTypes := #[27, 27] }, 27, _, _, none⟩) rfl (fun K hK => ?_) AllReadyH.nil
            refine wp_row1_f (.tmp 30) (.tmp 39) 27 rfl RVa 61 24 _ Try.underlying27 Try.infoVal rfl (by decide) B (.slice b2 m2 d2) vs [⟨y1, y2, y3⟩] v9.heap.size 1 1 rfl rfl rfl HCL.out HOA.out.ob hzB hvl2 ?_
            intro ak lk ck wn hnn hOn hBn hPn
            obtain ⟨y0', y1', y2', g0', g1', g2', -⟩ := (HOA.out.there2 hPn.out).open3
            refine hK.out _ _ ?_ (fun hHeld => ?_)
            · trivial
            clear hK K
            try simp only [Act.put, List.setIfInBounds_toArray, List.set_cons_zero, List.set_cons_succ]
            refine wpAnyH_take (i := 12) (oi := ⟨some 41, Op.fieldAddr 29 (Operand.tmp 6) 1, 0, _, _, none⟩) (v := ?_) rfl (by kernel_rfl) (by kernel_rfl) (by kernel_rfl) (fun _ _ _ h => h) (Or.inl ⟨by rfl, ?_⟩) (by assumption) ?_
            rotate_left 1
            · (intro w hSw; (try dsimp only at hSw); go_simp; first | done | with_reducible rfl)
            try simp only [Act.put, List.setIfInBounds_toArray, List.set_cons_zero, List.set_cons_succ]
            refine wpAnyH_ready (rs := [13]) (by kernel_rfl) (by simp) ?_
            refine AllReadyH.cons (o := ⟨none, Op.store 27 (Operand.tmp 41) (Operand.tmp 40), 0, _, _, none⟩) rfl (fun K hK => ?_) AllReadyH.nil
            go_simp
            go_wp2_with fail
            refine hK.out _ _ ?_ (fun hHeld => ?_)
            · trivial
            clear hK K
            try simp only [Act.put, List.setIfInBounds_toArray, List.set_cons_zero, List.set_cons_succ]
            refine wpAnyH_done (by kernel_rfl) ?_ _
            refine NoPanic.normal ?_
            have HOZ := Lib.hid (HOA.out.set2 hPn.out hOn.out)
            have hGA : w.grownBy (v9.alloc (.cells #[.int .i64 y1, .int .i64 y2, .int .i64 y3] 61)) (some p) := grown_tr (grown_tr hG.out hG3) (grown_since (Since.step hS9 hSa))
            have HGZ := Lib.hid (grown_later (g := N) (o := 1) (v := .slice ak lk ck) (grown_belowB hGA hBn.out (Nat.le_of_lt hRB)) (by omega))
            have HRZ := Lib.hid (Rd.set (k := 1) (v := .slice ak lk ck) (((hR3.out.below (Since.step hS9 hSa))).low hBn.out hpB hdB) (show p ≠ N by omega) (show d ≠ N by omega))
            have hrc9 : BoxL w.heap.size [.slice none 0 0, .slice none 0 0, .slice none 0 0] (v9.alloc (.cells #[.int .i64 y1, .int .i64 y2, .int .i64 y3] 61)) := (hRC.out.keepF (F := fun k => k = w.heap.size) rfl ⟨hG3.size, fun k hk hl => hG3.block k hl fun e => by injection e with e; omega⟩).keep (Since.step hS9 hSa)
            have HRCZ := Lib.hid (box_keepset (hrc9.keep2 hRB hBn.out) (show w.heap.size ≠ N by omega) 1 (.slice ak lk ck))
            have HVL : Hid ((vs ++ [(⟨y1, y2, y3⟩ : Va)]).length = k + 1) := Lib.hid (by rw [List.length_append, hvl.out]; rfl)
            go_wp2
            go_roundw
            case rel => exact ⟨k + 1, ak, lk, ck, _, lc, ec, by omega, by go_num, HOZ, HRN, HRZ, HB3, HVL, HGZ, HRCZ⟩
            case measure => simp [intOf]; omega
          · go_simp
            first | refine (KC.out _ hR2.out).mono ?_ | refine (KC.out (World.drew v2) hR2.out).mono ?_
            rintro e v3 ⟨rfl, hR3, hGx⟩
            have hG3 : wr.grownBy v3 (some p) := by first | exact grown_tr hG2 hGx.out | exact grown_tr hG2 (grown_undrew hGx.out)
            clear hGx
            have HO3 := Lib.hid (hO.out.grown hG3 hpB (fun k hk => hk))
            obtain ⟨w3_0, w3_1, w3_2, g3_0, g3_1, g3_2, -⟩ := HO3.out.box.open3
            have u3 := Since.cell (Since.drew (Since.refl v3)) w3_1
            try go_wp2_with fail
            refine hK.out _ _ ?_ (fun hHeld => ?_)
            · trivial
            clear hK K
            try simp only [Act.put, List.setIfInBounds_toArray, List.set_cons_zero, List.set_cons_succ]
            refine wpAnyH_take (i := 8) (oi := ⟨some 37, Op.build 103 #[(0, Operand.tmp 32), (1, Operand.tmp 34), (2, Operand.tmp 36)], 103, _, _, none⟩) (v := ?_) rfl (by kernel_rfl) (by kernel_rfl) (by kernel_rfl) (fun _ _ _ h => h) (Or.inl ⟨by rfl, ?_⟩) (by assumption) ?_
            rotate_left 1
            · (intro w hSw; (try dsimp only at hSw); go_simp; first | done | with_reducible rfl)
            try simp only [Act.put, List.setIfInBounds_toArray, List.set_cons_zero, List.set_cons_succ]
            refine wpAnyH_ready (rs := [1, 9]) (by kernel_rfl) (by simp) ?_
            refine AllReadyH.cons (o := ⟨some 30, Op.load 27 (Operand.tmp 29), 27, _, _, none⟩) rfl (fun K hK => ?_) (AllReadyH.cons (o := ⟨some 38, Op.call { callee := Callee.value (Operand.func 81), args := #[Operand.tmp 37], argTypes := #[103] }, 61, _, _, none⟩) rfl (fun K hK => ?_) AllReadyH.nil)
            · go_simp
              try go_wp2_with fail
              refine hK.out _ _ ?_ (fun hHeld => ?_)
              · trivial
              clear hK K
              try simp only [Act.put, List.setIfInBounds_toArray, List.set_cons_zero, List.set_cons_succ]
              refine wpAnyH_ready (rs := [9]) (by kernel_rfl) (by simp) ?_
              refine AllReadyH.cons (o := ⟨some 38, Op.call { callee := Callee.value (Operand.func 81), args := #[Operand.tmp 37], argTypes := #[103] }, 61, _, _, none⟩) rfl (fun K hK => ?_) AllReadyH.nil
              go_simp
              refine (KV.out _).mono ?_
              rintro e v9 ⟨rfl, hr9⟩
              have hS9 : Since v3 v9 := by (with_reducible refine Since.step ?_ hr9); (repeat (first | with_reducible assumption | with_reducible exact Since.refl _ | with_reducible refine Since.alloc ?_ _ | with_reducible refine Since.drew ?_))
              have HO9 := Lib.hid (HO3.out.frame hS9)
              obtain ⟨w9_0, w9_1, w9_2, g9_0, g9_1, g9_2, -⟩ := HO9.out.box.open3
              have u9 := Since.cell (Since.drew (Since.refl v9)) w9_1
              have t9 := Since.cell (Since.alloc (Since.refl v9) (.cells #[.int .i64 y1, .int .i64 y2, .int .i64 y3] 61)) w9_1
              have t8 := Since.cell (Since.drew (Since.alloc (Since.refl v9) (.cells #[.int .i64 y1, .int .i64 y2, .int .i64 y3] 61))) w9_1
              try go_wp2_with fail
              refine hK.out _ _ ?_ (fun hHeld => ?_)
              · trivial
              clear hK K
              try simp only [Act.put, List.setIfInBounds_toArray, List.set_cons_zero, List.set_cons_succ]
              refine wpAnyH_ready (rs := [10]) (by kernel_rfl) (by simp) ?_
              refine AllReadyH.cons (o := ⟨some 39, Op.buildSlice 27 1 #[(0, Operand.tmp 38)], 27, _, _, none⟩) rfl (fun K hK => ?_) AllReadyH.nil
              go_simp
              try go_wp2_with fail
              refine hK.out _ _ ?_ (fun hHeld => ?_)
              · trivial
              clear hK K
              try simp only [Act.put, List.setIfInBounds_toArray, List.set_cons_zero, List.set_cons_succ]
              have hSa : Since v9 (v9.alloc (.cells #[.int .i64 y1, .int .i64 y2, .int .i64 y3] 61)) := Since.alloc (Since.refl _) _
              have HOA := Lib.hid (HO9.out.frame hSa)
              have HCL := Lib.hid (one_cells RVa v9 ⟨y1, y2, y3⟩ #[.int .i64 y1, .int .i64 y2, .int .i64 y3] 61 rfl)
              have hzB : B ≤ (v9.alloc (.cells #[.int .i64 y1, .int .i64 y2, .int .i64 y3] 61)).heap.size := Nat.le_trans hNB (Nat.le_of_lt HOA.out.box.1)
              refine wpAnyH_ready (rs := [11]) (by kernel_rfl) (by simp) ?_
              refine AllReadyH.cons (o := ⟨some 40, Op.call { callee := Callee.builtin Builtin.append, args := #[Operand.tmp 30, Operand.tmp 39], argTypes := #[27, 27] }, 27, _, _, none⟩) rfl (fun K hK => ?_) AllReadyH.nil
              refine wp_row1_f (.tmp 30) (.tmp 39) 27 rfl RVa 61 24 _ Try.underlying27 Try.infoVal rfl (by decide) B (.slice b2 m2 d2) vs [⟨y1, y2, y3⟩] v9.heap.size 1 1 rfl rfl rfl HCL.out HOA.out.ob hzB hvl2 ?_
              intro ak lk ck wn hnn hOn hBn hPn
              obtain ⟨y0', y1', y2', g0', g1', g2', -⟩ := (HOA.out.there2 hPn.out).open3
              refine hK.out _ _ ?_ (fun hHeld => ?_)
              · trivial
              clear hK K
              try simp only [Act.put, List.setIfInBounds_toArray, List.set_cons_zero, List.set_cons_succ]
              refine wpAnyH_take (i := 12) (oi := ⟨some 41, Op.fieldAddr 29 (Operand.tmp 6) 1, 0, _, _, none⟩) (v := ?_) rfl (by kernel_rfl) (by kernel_rfl) (by kernel_rfl) (fun _ _ _ h => h) (Or.inl ⟨by rfl, ?_⟩) (by assumption) ?_
              rotate_left 1
              · (intro w hSw; (try dsimp only at hSw); go_simp; first | done | with_reducible rfl)
              try simp only [Act.put, List.setIfInBounds_toArray, List.set_cons_zero, List.set_cons_succ]
              refine wpAnyH_ready (rs := [13]) (by kernel_rfl) (by simp) ?_
              refine AllReadyH.cons (o := ⟨none, Op.store 27 (Operand.tmp 41) (Operand.tmp 40), 0, _, _, none⟩) rfl (fun K hK => ?_) AllReadyH.nil
              go_simp
              go_wp2_with fail
              refine hK.out _ _ ?_ (fun hHeld => ?_)
              · trivial
              clear hK K
              try simp only [Act.put, List.setIfInBounds_toArray, List.set_cons_zero, List.set_cons_succ]
              refine wpAnyH_done (by kernel_rfl) ?_ _
              refine NoPanic.normal ?_
              have HOZ := Lib.hid (HOA.out.set2 hPn.out hOn.out)
              have hGA : w.grownBy (v9.alloc (.cells #[.int .i64 y1, .int .i64 y2, .int .i64 y3] 61)) (some p) := grown_tr (grown_tr hG.out hG3) (grown_since (Since.step hS9 hSa))
              have HGZ := Lib.hid (grown_later (g := N) (o := 1) (v := .slice ak lk ck) (grown_belowB hGA hBn.out (Nat.le_of_lt hRB)) (by omega))
              have HRZ := Lib.hid (Rd.set (k := 1) (v := .slice ak lk ck) (((hR3.out.below (Since.step hS9 hSa))).low hBn.out hpB hdB) (show p ≠ N by omega) (show d ≠ N by omega))
              have hrc9 : BoxL w.heap.size [.slice none 0 0, .slice none 0 0, .slice none 0 0] (v9.alloc (.cells #[.int .i64 y1, .int .i64 y2, .int .i64 y3] 61)) := (hRC.out.keepF (F := fun k => k = w.heap.size) rfl ⟨hG3.size, fun k hk hl => hG3.block k hl fun e => by injection e with e; omega⟩).keep (Since.step hS9 hSa)
              have HRCZ := Lib.hid (box_keepset (hrc9.keep2 hRB hBn.out) (show w.heap.size ≠ N by omega) 1 (.slice ak lk ck))
              have HVL : Hid ((vs ++ [(⟨y1, y2, y3⟩ : Va)]).length = k + 1) := Lib.hid (by rw [List.length_append, hvl.out]; rfl)
              go_wp2
              go_roundw
              case rel => exact ⟨k + 1, ak, lk, ck, _, lc, ec, by omega, by go_num, HOZ, HRN, HRZ, HB3, HVL, HGZ, HRCZ⟩
              case measure => simp [intOf]; omega
            · go_simp
              refine (KV.out _).mono ?_
              rintro e v9 ⟨rfl, hr9⟩
              have hS9 : Since v3 v9 := by (with_reducible refine Since.step ?_ hr9); (repeat (first | with_reducible assumption | with_reducible exact Since.refl _ | with_reducible refine Since.alloc ?_ _ | with_reducible refine Since.drew ?_))
              have HO9 := Lib.hid (HO3.out.frame hS9)
              obtain ⟨w9_0, w9_1, w9_2, g9_0, g9_1, g9_2, -⟩ := HO9.out.box.open3
              have u9 := Since.cell (Since.drew (Since.refl v9)) w9_1
              have t9 := Since.cell (Since.alloc (Since.refl v9) (.cells #[.int .i64 y1, .int .i64 y2, .int .i64 y3] 61)) w9_1
              have t8 := Since.cell (Since.drew (Since.alloc (Since.refl v9) (.cells #[.int .i64 y1, .int .i64 y2, .int .i64 y3] 61))) w9_1
              try go_wp2_with fail
              refine hK.out _ _ ?_ (fun hHeld => ?_)
              · trivial
              clear hK K
              try simp only [Act.put, List.setIfInBounds_toArray, List.set_cons_zero, List.set_cons_succ]
              refine wpAnyH_ready (rs := [1, 10]) (by kernel_rfl) (by simp) ?_
              refine AllReadyH.cons (o := ⟨some 30, Op.load 27 (Operand.tmp 29), 27, _, _, none⟩) rfl (fun K hK => ?_) (AllReadyH.cons (o := ⟨some 39, Op.buildSlice 27 1 #[(0, Operand.tmp 38)], 27, _, _, none⟩) rfl (fun K hK => ?_) AllReadyH.nil)
              · go_simp
                try go_wp2_with fail
                refine hK.out _ _ ?_ (fun hHeld => ?_)
                · trivial
                clear hK K
                try simp only [Act.put, List.setIfInBounds_toArray, List.set_cons_zero, List.set_cons_succ]
                refine wpAnyH_ready (rs := [10]) (by kernel_rfl) (by simp) ?_
                refine AllReadyH.cons (o := ⟨some 39, Op.buildSlice 27 1 #[(0, Operand.tmp 38)], 27, _, _, none⟩) rfl (fun K hK => ?_) AllReadyH.nil
                go_simp
                try go_wp2_with fail
                refine hK.out _ _ ?_ (fun hHeld => ?_)
                · trivial
                clear hK K
                try simp only [Act.put, List.setIfInBounds_toArray, List.set_cons_zero, List.set_cons_succ]
                have hSa : Since v9 (v9.alloc (.cells #[.int .i64 y1, .int .i64 y2, .int .i64 y3] 61)) := Since.alloc (Since.refl _) _
                have HOA := Lib.hid (HO9.out.frame hSa)
                have HCL := Lib.hid (one_cells RVa v9 ⟨y1, y2, y3⟩ #[.int .i64 y1, .int .i64 y2, .int .i64 y3] 61 rfl)
                have hzB : B ≤ (v9.alloc (.cells #[.int .i64 y1, .int .i64 y2, .int .i64 y3] 61)).heap.size := Nat.le_trans hNB (Nat.le_of_lt HOA.out.box.1)
                refine wpAnyH_ready (rs := [11]) (by kernel_rfl) (by simp) ?_
                refine AllReadyH.cons (o := ⟨some 40, Op.call { callee := Callee.builtin Builtin.append, args := #[Operand.tmp 30, Operand.tmp 39], argTypes := #[27, 27] }, 27, _, _, none⟩) rfl (fun K hK => ?_) AllReadyH.nil
                refine wp_row1_f (.tmp 30) (.tmp 39) 27 rfl RVa 61 24 _ Try.underlying27 Try.infoVal rfl (by decide) B (.slice b2 m2 d2) vs [⟨y1, y2, y3⟩] v9.heap.size 1 1 rfl rfl rfl HCL.out HOA.out.ob hzB hvl2 ?_
                intro ak lk ck wn hnn hOn hBn hPn
                obtain ⟨y0', y1', y2', g0', g1', g2', -⟩ := (HOA.out.there2 hPn.out).open3
                refine hK.out _ _ ?_ (fun hHeld => ?_)
                · trivial
                clear hK K
                try simp only [Act.put, List.setIfInBounds_toArray, List.set_cons_zero, List.set_cons_succ]
                refine wpAnyH_take (i := 12) (oi := ⟨some 41, Op.fieldAddr 29 (Operand.tmp 6) 1, 0, _, _, none⟩) (v := ?_) rfl (by kernel_rfl) (by kernel_rfl) (by kernel_rfl) (fun _ _ _ h => h) (Or.inl ⟨by rfl, ?_⟩) (by assumption) ?_
                rotate_left 1
                · (intro w hSw; (try dsimp only at hSw); go_simp; first | done | with_reducible rfl)
                try simp only [Act.put, List.setIfInBounds_toArray, List.set_cons_zero, List.set_cons_succ]
                refine wpAnyH_ready (rs := [13]) (by kernel_rfl) (by simp) ?_
                refine AllReadyH.cons (o := ⟨none, Op.store 27 (Operand.tmp 41) (Operand.tmp 40), 0, _, _, none⟩) rfl (fun K hK => ?_) AllReadyH.nil
                go_simp
                go_wp2_with fail
                refine hK.out _ _ ?_ (fun hHeld => ?_)
                · trivial
                clear hK K
                try simp only [Act.put, List.setIfInBounds_toArray, List.set_cons_zero, List.set_cons_succ]
                refine wpAnyH_done (by kernel_rfl) ?_ _
                refine NoPanic.normal ?_
                have HOZ := Lib.hid (HOA.out.set2 hPn.out hOn.out)
                have hGA : w.grownBy (v9.alloc (.cells #[.int .i64 y1, .int .i64 y2, .int .i64 y3] 61)) (some p) := grown_tr (grown_tr hG.out hG3) (grown_since (Since.step hS9 hSa))
                have HGZ := Lib.hid (grown_later (g := N) (o := 1) (v := .slice ak lk ck) (grown_belowB hGA hBn.out (Nat.le_of_lt hRB)) (by omega))
                have HRZ := Lib.hid (Rd.set (k := 1) (v := .slice ak lk ck) (((hR3.out.below (Since.step hS9 hSa))).low hBn.out hpB hdB) (show p ≠ N by omega) (show d ≠ N by omega))
                have hrc9 : BoxL w.heap.size [.slice none 0 0, .slice none 0 0, .slice none 0 0] (v9.alloc (.cells #[.int .i64 y1, .int .i64 y2, .int .i64 y3] 61)) := (hRC.out.keepF (F := fun k => k = w.heap.size) rfl ⟨hG3.size, fun k hk hl => hG3.block k hl fun e => by injection e with e; omega⟩).keep (Since.step hS9 hSa)
                have HRCZ := Lib.hid (box_keepset (hrc9.keep2 hRB hBn.out) (show w.heap.size ≠ N by omega) 1 (.slice ak lk ck))
                have HVL : Hid ((vs ++ [(⟨y1, y2, y3⟩ : Va)]).length = k + 1) := Lib.hid (by rw [List.length_append, hvl.out]; rfl)
                go_wp2
                go_roundw
                case rel => exact ⟨k + 1, ak, lk, ck, _, lc, ec, by omega, by go_num, HOZ, HRN, HRZ, HB3, HVL, HGZ, HRCZ⟩
                case measure => simp [intOf]; omega
              · go_simp
                try go_wp2_with fail
                refine hK.out _ _ ?_ (fun hHeld => ?_)
                · trivial
                clear hK K
                try simp only [Act.put, List.setIfInBounds_toArray, List.set_cons_zero, List.set_cons_succ]
                refine wpAnyH_ready (rs := [1]) (by kernel_rfl) (by simp) ?_
                refine AllReadyH.cons (o := ⟨some 30, Op.load 27 (Operand.tmp 29), 27, _, _, none⟩) rfl (fun K hK => ?_) AllReadyH.nil
                go_simp
                try go_wp2_with fail
                refine hK.out _ _ ?_ (fun hHeld => ?_)
                · trivial
                clear hK K
                try simp only [Act.put, List.setIfInBounds_toArray, List.set_cons_zero, List.set_cons_succ]
                have hSa : Since v9 (v9.alloc (.cells #[.int .i64 y1, .int .i64 y2, .int .i64 y3] 61)) := Since.alloc (Since.refl _) _
                have HOA := Lib.hid (HO9.out.frame hSa)
                have HCL := Lib.hid (one_cells RVa v9 ⟨y1, y2, y3⟩ #[.int .i64 y1, .int .i64 y2, .int .i64 y3] 61 rfl)
                have hzB : B ≤ (v9.alloc (.cells #[.int .i64 y1, .int .i64 y2, .int .i64 y3] 61)).heap.size := Nat.le_trans hNB (Nat.le_of_lt HOA.out.box.1)
                refine wpAnyH_ready (rs := [11]) (by kernel_rfl) (by simp) ?_
                refine AllReadyH.cons (o := ⟨some 40, Op.call { callee := Callee.builtin Builtin.append, args := #[Operand.tmp 30, Operand.tmp 39], argTypes := #[27, 27] }, 27, _, _, none⟩) rfl (fun K hK => ?_) AllReadyH.nil
                refine wp_row1_f (.tmp 30) (.tmp 39) 27 rfl RVa 61 24 _ Try.underlying27 Try.infoVal rfl (by decide) B (.slice b2 m2 d2) vs [⟨y1, y2, y3⟩] v9.heap.size 1 1 rfl rfl rfl HCL.out HOA.out.ob hzB hvl2 ?_
                intro ak lk ck wn hnn hOn hBn hPn
                obtain ⟨y0', y1', y2', g0', g1', g2', -⟩ := (HOA.out.there2 hPn.out).open3
                refine hK.out _ _ ?_ (fun hHeld => ?_)
                · trivial
                clear hK K
                try simp only [Act.put, List.setIfInBounds_toArray, List.set_cons_zero, List.set_cons_succ]
                refine wpAnyH_take (i := 12) (oi := ⟨some 41, Op.fieldAddr 29 (Operand.tmp 6) 1, 0, _, _, none⟩) (v := ?_) rfl (by kernel_rfl) (by kernel_rfl) (by kernel_rfl) (fun _ _ _ h => h) (Or.inl ⟨by rfl, ?_⟩) (by assumption) ?_
                rotate_left 1
                · (intro w hSw; (try dsimp only at hSw); go_simp; first | done | with_reducible rfl)
                try simp only [Act.put, List.setIfInBounds_toArray, List.set_cons_zero, List.set_cons_succ]
                refine wpAnyH_ready (rs := [13]) (by kernel_rfl) (by simp) ?_
                refine AllReadyH.cons (o := ⟨none, Op.store 27 (Operand.tmp 41) (Operand.tmp 40), 0, _, _, none⟩) rfl (fun K hK => ?_) AllReadyH.nil
                go_simp
                go_wp2_with fail
                refine hK.out _ _ ?_ (fun hHeld => ?_)
                · trivial
                clear hK K
                try simp only [Act.put, List.setIfInBounds_toArray, List.set_cons_zero, List.set_cons_succ]
                refine wpAnyH_done (by kernel_rfl) ?_ _
                refine NoPanic.normal ?_
                have HOZ := Lib.hid (HOA.out.set2 hPn.out hOn.out)
                have hGA : w.grownBy (v9.alloc (.cells #[.int .i64 y1, .int .i64 y2, .int .i64 y3] 61)) (some p) := grown_tr (grown_tr hG.out hG3) (grown_since (Since.step hS9 hSa))
                have HGZ := Lib.hid (grown_later (g := N) (o := 1) (v := .slice ak lk ck) (grown_belowB hGA hBn.out (Nat.le_of_lt hRB)) (by omega))
                have HRZ := Lib.hid (Rd.set (k := 1) (v := .slice ak lk ck) (((hR3.out.below (Since.step hS9 hSa))).low hBn.out hpB hdB) (show p ≠ N by omega) (show d ≠ N by omega))
                have hrc9 : BoxL w.heap.size [.slice none 0 0, .slice none 0 0, .slice none 0 0] (v9.alloc (.cells #[.int .i64 y1, .int .i64 y2, .int .i64 y3] 61)) := (hRC.out.keepF (F := fun k => k = w.heap.size) rfl ⟨hG3.size, fun k hk hl => hG3.block k hl fun e => by injection e with e; omega⟩).keep (Since.step hS9 hSa)
                have HRCZ := Lib.hid (box_keepset (hrc9.keep2 hRB hBn.out) (show w.heap.size ≠ N by omega) 1 (.slice ak lk ck))
                have HVL : Hid ((vs ++ [(⟨y1, y2, y3⟩ : Va)]).length = k + 1) := Lib.hid (by rw [List.length_append, hvl.out]; rfl)
                go_wp2
                go_roundw
                case rel => exact ⟨k + 1, ak, lk, ck, _, lc, ec, by omega, by go_num, HOZ, HRN, HRZ, HB3, HVL, HGZ, HRCZ⟩
                case measure => simp [intOf]; omega
    · have i1 : ¬ (k : Int) < nv := by omega
      have hrn : k = nv := by omega
      subst hrn
      have hr := hrep.out
      rw [Nat.sub_self, Codec.rep] at hr
      simp only [Prod.mk.injEq] at hr
      obtain ⟨rfl, rfl, rfl⟩ := hr
      clear hrep hby
      have hK4 := KI.out l' e' wr hR.out HBY.out.2.2.1.1 HBY.out.2.2.1.2 q4 l4 e4 HD4.out
      go_wp2_with fail
      refine hK4.mono ?_
      rintro x w6 ⟨rfl, hR6, hG6⟩
      have HG6 := Lib.hid (grown_tr hG.out hG6.out)
      have HO6 := Lib.hid (hO.out.grown hG6.out hpB (fun k hk => hk))
      have HRC6 : Hid (BoxL w.heap.size [.slice none 0 0, .slice none 0 0, .slice none 0 0] w6) := Lib.hid (hRC.out.keepF (F := fun k => k = w.heap.size) rfl ⟨hG6.out.size, fun k hk hl => hG6.out.block k hl fun e => by injection e with e; omega⟩)
      clear hK4 hO hR hG6 hG hRC
      by_cases hn3 : q4 < 0
      · have HNO : Hid (RES = none) := Lib.hid (HQ4b.out (.inl hn3))
        obtain ⟨z0, z1, z2, zf0, zf1, zf2, -⟩ := HRC6.out.open3
        have hfin := Lib.hid (read_fail (p := p) (d := d) (B := w.heap.size) HNO.out HG6.out (Nat.le_refl _))
        go_wp2
        exact bodyPost_ret (v := .tuple #[.agg #[.slice none 0 0, .slice none 0 0, .slice none 0 0], .bool false]) (by simp [results, Try.results56, go_sem, z0, z1, z2]) rfl hfin.out
      by_cases hn4 : q4 ≥ 96
      · have HNO : Hid (RES = none) := Lib.hid (HQ4b.out (.inr (by omega)))
        obtain ⟨z0, z1, z2, zf0, zf1, zf2, -⟩ := HRC6.out.open3
        have hfin := Lib.hid (read_fail (p := p) (d := d) (B := w.heap.size) HNO.out HG6.out (Nat.le_refl _))
        go_wp2
        exact bodyPost_ret (v := .tuple #[.agg #[.slice none 0 0, .slice none 0 0, .slice none 0 0], .bool false]) (by simp [results, Try.results56, go_sem, z0, z1, z2]) rfl hfin.out
      have hnq : ¬ (q4 < 0 ∨ 96 ≤ q4) := by omega
      have HQF := Lib.hid (HQOb.out hnq)
      obtain ⟨np, rfl⟩ : ∃ np : Nat, q4 = np := ⟨q4.toNat, by omega⟩
      have hnp : np ≤ 96 := by omega
      rw [Int.toNat_natCast] at HQF
      obtain ⟨RL, hRL⟩ : ∃ RL, RL = rdL (rdT m) np l4 e4 [] := ⟨_, rfl⟩
      rw [← hRL] at HQF
      have HST : Hid (rdL (rdT m) (np - 0) l4 e4 [] = RL) := Lib.hid hRL.symm
      clear hRL
      clear HQ4b HQOb hnq
      go_wp2
      rename World => wo
      go_loopw [53] (fun x wr => ∃ (j : Nat) (b3 : Option Addr) (m3 d3 : Nat) (rs : List Tr) (ps : List Th) (l9 : List Int) (e9 : Int), j ≤ np ∧ x = .int .i64 j ∧ Hid (OB (fun k => B ≤ k) B N wr (.slice a2 n2 c2) (.slice b2 m2 d2) (.slice b3 m3 d3) cs vs rs ps) ∧ Hid (rdL (rdT m) (np - j) l9 e9 ps = RL) ∧ Hid (Rd p d wr l9 e9) ∧ Hid (Hm.Byt l9 ∧ l9.length ≤ 1000000) ∧ Hid (ps.length = j) ∧ Hid (w.grownBy wr (some p)) ∧ Hid (BoxL w.heap.size [.slice none 0 0, .slice none 0 0, .slice none 0 0] wr)) (fun x _ => np - (intOf x).toNat)
      case atStart => exact ⟨0, none, 0, 0, [], [], l4, e4, by omega, rfl, HO6, HST, hR6, Lib.hid HBY.out.2.2.2, Lib.hid rfl, HG6, HRC6⟩
      case round =>
        clear HO6 hR6 HG6 HRC6 HST i1
        obtain ⟨j, b3, m3, d3, rs, ps, l9, e9, hj, rfl, hO, hst, hR, hby, hpl, hG, hRC⟩ := hrel
        by_cases hlt2 : j < np
        · have i1 : (j : Int) < np := by omega
          have hdw : d < wr.heap.size := by have := hO.out.box.1; omega
          have KR := Lib.hid (K.out p d l9 e9 wr hR.out hdw hby.out.1 hby.out.2)
          have hst2 := hst.out
          rw [show np - j = (np - (j + 1)) + 1 by omega, rdL] at hst2
          have hsn := rdT_sane m l9 e9
          generalize rdT m l9 e9 = ro at *
          have HST2 := Lib.hid hst2
          have HSN := Lib.hid hsn
          clear hst hst2 hsn
          go_wp2_with fail
          refine KR.out.mono ?_
          rintro x w7 (⟨u, lu, eu, ⟨s1, t1, u1, s2, t2, u2, s3, t3, u3⟩, ho, rfl, hT7, hR7, hG7⟩ | ⟨ho, rfl, hG7⟩)
          · try simp only
            have hl7 : Hm.Byt lu ∧ lu.length ≤ 1000000 := by have := (HSN.out _ ho).2 hby.out.1; exact ⟨this.1, Nat.le_trans this.2 hby.out.2⟩
            have hst3 := HST2.out
            rw [ho] at hst3
            have HST3 : Hid (rdL (rdT m) (np - (j + 1)) lu eu (ps ++ [u]) = RL) := Lib.hid hst3
            have HL7 := Lib.hid hl7
            obtain ⟨w8, hw8⟩ : ∃ w8, w8 = w7.alloc (.cells #[.slice s1 t1 u1, .slice s2 t2 u2, .slice s3 t3 u3] 29) := ⟨_, rfl⟩
            have hS8 : Since w7 w8 := by rw [hw8]; exact Since.alloc (Since.refl _) _
            have hX8 : BoxL w7.heap.size [.slice s1 t1 u1, .slice s2 t2 u2, .slice s3 t3 u3] w8 := by rw [hw8]; exact BoxL.made w7 _ _
            have hT8 : TS (fun k => wr.heap.size ≤ k ∧ k < w8.heap.size) w8 u (.slice s1 t1 u1) (.slice s2 t2 u2) (.slice s3 t3 u3) := TS.keep (S' := fun k => wr.heap.size ≤ k) (w := w7) ⟨hS8.size, fun b _ hl => hS8.block b hl⟩ (fun k _ hk => hk.1) u hT7.out
            have hO7 := hO.out.grown hG7.out hpB (fun k hk => hk)
            have hO8 := hO7.frame hS8
            have hP8 := OB.part (w' := w8) hO.out (S0 := fun k => wr.heap.size ≤ k ∧ k < w8.heap.size) (fun k _ hk => ⟨by have := hO.out.box.1; omega, .inr hk.1⟩) hT8
            have HL8 := Lib.hid (hO8.lie.snoc (r := ⟨s1, t1, u1, s2, t2, u2, s3, t3, u3⟩) hP8)
            have HO8 := Lib.hid hO8
            have HX8 := Lib.hid hX8
            have HG8 := Lib.hid (grown_tr (grown_tr hG.out hG7.out) (grown_since hS8))
            have HR8 := Lib.hid (hR7.out.below hS8)
            have HRC8 : Hid (BoxL w.heap.size [.slice none 0 0, .slice none 0 0, .slice none 0 0] w8) := Lib.hid ((hRC.out.keepF (F := fun k => k = w.heap.size) rfl ⟨hG7.out.size, fun k hk hl => hG7.out.block k hl fun e => by injection e with e; omega⟩).keep hS8)
            clear hO7 hO8 hP8 hX8 hT8 hT7 hR7 hG7 hS8 ho HST2 HSN hl7 hst3 hO hR hby hG hRC KR
            go_upto_region 17 with (fail)
            rw [← hw8]
            generalize w7.heap.size = M at *
            clear hw8
            obtain ⟨x0, x1, x2, f0, f1, f2, -⟩ := HO8.out.box.open3
            obtain ⟨m0, m1, m2', -, -, -, -⟩ := HX8.out.open3
            have hzB : B ≤ w8.heap.size := Nat.le_trans hNB (Nat.le_of_lt HO8.out.box.1)
            have hl : rs.length + 1 ≤ 1000000000 := by have := hpl.out; have := HO8.out.lie.1; omega
            go_wp2_with (at_builtin; refine push_row_f rfl _ _ 23 rfl RTh 29 72 _ Try.underlying23 Try.infoTh rfl (by decide) B (.slice b3 m3 d3) rs [⟨s1, t1, u1, s2, t2, u2, s3, t3, u3⟩] _ _ rfl rfl _ 1 rfl rfl rfl HO8.out.oc hzB hl ?_; intro an ln cn wn hnn hOn hBn hPn; obtain ⟨y0, y1, y2, g0, g1, g2, -⟩ := (HO8.out.there3 hPn.out).open3)
            have HOZ := Lib.hid (HO8.out.set3 hPn.out hOn.out HL8.out)
            have HGZ := Lib.hid (grown_later (g := N) (o := 2) (v := .slice an ln cn) (grown_belowB HG8.out hBn.out (Nat.le_of_lt hRB)) (by omega))
            have HRZ := Lib.hid (Rd.set (k := 2) (v := .slice an ln cn) (HR8.out.low hBn.out hpB hdB) (show p ≠ N by omega) (show d ≠ N by omega))
            have HRCZ := Lib.hid (box_keepset (HRC8.out.keep2 hRB hBn.out) (show w.heap.size ≠ N by omega) 2 (.slice an ln cn))
            have HPL : Hid ((ps ++ [u]).length = j + 1) := Lib.hid (by rw [List.length_append, hpl.out]; rfl)
            go_roundw
            case rel => exact ⟨j + 1, an, ln, cn, _, _, lu, eu, by omega, by go_num, HOZ, HST3, HRZ, HL7, HPL, HGZ, HRCZ⟩
            case measure => simp [intOf]; omega
          · have hst3 := HST2.out
            rw [ho] at hst3
            have hrl : RL = none := hst3.symm
            have HNO : Hid (RES = none) := Lib.hid (by rw [HQF.out, hrl]; rfl)
            obtain ⟨w8, hw8⟩ : ∃ w8, w8 = w7.alloc (.cells #[.slice none 0 0, .slice none 0 0, .slice none 0 0] 29) := ⟨_, rfl⟩
            have hS8 : Since w7 w8 := by rw [hw8]; exact Since.alloc (Since.refl _) _
            have HG8 := Lib.hid (grown_tr (grown_tr hG.out hG7.out) (grown_since hS8))
            have HRC8 : Hid (BoxL w.heap.size [.slice none 0 0, .slice none 0 0, .slice none 0 0] w8) := Lib.hid ((hRC.out.keepF (F := fun k => k = w.heap.size) rfl ⟨hG7.out.size, fun k hk hl => hG7.out.block k hl fun e => by injection e with e; omega⟩).keep hS8)
            clear hst3 hrl hO hR hby hG hRC KR hG7 hS8
            go_upto_region 17 with (fail)
            rw [← hw8]
            generalize w7.heap.size = M at *
            clear hw8
            obtain ⟨z0, z1, z2, zf0, zf1, zf2, -⟩ := HRC8.out.open3
            have hfin := Lib.hid (read_fail (p := p) (d := d) (B := w.heap.size) HNO.out HG8.out (Nat.le_refl _))
            go_wp2
            exact bodyPost_ret (v := .tuple #[.agg #[.slice none 0 0, .slice none 0 0, .slice none 0 0], .bool false]) (by simp [results, Try.results56, go_sem, z0, z1, z2]) rfl hfin.out
        · have i1 : ¬ (j : Int) < np := by omega
          have hjn : j = np := by omega
          subst hjn
          have hst2 := hst.out
          rw [Nat.sub_self, rdL] at hst2
          have hres : RES = some (Th.mk cs vs ps, l9, e9) := by rw [HQF.out, ← hst2]; rfl
          have HRES := Lib.hid hres
          have hfin : Hid (ReadOut RES p d w (.returned (.tuple #[.agg #[.slice a2 n2 c2, .slice b2 m2 d2, .slice b3 m3 d3], .bool true])) (((wr.setCell ⟨w.heap.size, 0, none⟩ (.slice a2 n2 c2)).setCell ⟨w.heap.size, 1, none⟩ (.slice b2 m2 d2)).setCell ⟨w.heap.size, 2, none⟩ (.slice b3 m3 d3))) := by
            have hd := hO.out.done (fun k hk => hk)
            refine Lib.hid (.inl ⟨.mk cs vs ps, l9, e9, ⟨a2, n2, c2, b2, m2, d2, b3, m3, d3⟩, HRES.out, rfl, Lib.hid ?_, Lib.hid ?_, Lib.hid ?_⟩)
            · have hk : KeepS (fun k => B ≤ k ∧ k < wr.heap.size) wr (((wr.setCell ⟨w.heap.size, 0, none⟩ (.slice a2 n2 c2)).setCell ⟨w.heap.size, 1, none⟩ (.slice b2 m2 d2)).setCell ⟨w.heap.size, 2, none⟩ (.slice b3 m3 d3)) := by
                refine ⟨by simp only [World.size_setCell]; exact Nat.le_refl _, fun b hb hl => ?_⟩
                have hne : b ≠ w.heap.size := by omega
                rw [Below.heap_setCell _ _ _ _ hne, Below.heap_setCell _ _ _ _ hne, Below.heap_setCell _ _ _ _ hne]
              exact TS.keep hk (S' := fun k => w.heap.size ≤ k) (fun b _ hb => by omega) _ hd
            · exact Rd.set (Rd.set (Rd.set hR.out (by omega) (by omega)) (by omega) (by omega)) (by omega) (by omega)
            · exact grown_later (grown_later (grown_later hG.out (Nat.le_refl _)) (Nat.le_refl _)) (Nat.le_refl _)
          obtain ⟨x0, x1, x2, f0, f1, f2, -⟩ := hO.out.box.open3
          obtain ⟨z0, z1, z2, zf0, zf1, zf2, -⟩ := hRC.out.open3
          clear hst hst2 hres
          go_wp2
          exact bodyPost_ret (v := .tuple #[.agg #[.slice a2 n2 c2, .slice b2 m2 d2, .slice b3 m3 d3], .bool true]) (by simp [results, Try.results56, go_sem, z0, z1, z2]) rfl hfin.out

theorem read_all : ∀ m : Nat, m ≤ 100 → ReadK m
  | 0, _ => read_zero
  | m + 1, h => read_step m (by omega) (Lib.hid (read_all m (by omega)))

end Go.Proofs.Ytejllfpcffeogaa
