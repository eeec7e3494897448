/- Package thing's Decode. -/
import Derived.Test.YtejllfpcffeogaaDc
import Derived.Test.YtejllfpcffeogaaYf
import Derived.Test.YtejllfpcffeogaaRead3
namespace Go.Proofs.Ytejllfpcffeogaa
open Go.RowKit Go.Shelf

mutual
theorem Th.size_enc : ∀ t : Th, t.size ≤ t.enc.length
  | .mk cs vs ps => by
    have h := Th.sizes_enc ps
    have := Hm.uv_ne (Hm.zig (ps.length : Int))
    rw [Th.enc, Th.size]
    simp only [List.length_append]
    omega
theorem Th.sizes_enc : ∀ ts : List Th, Th.sizes ts ≤ (Th.encL ts).length
  | [] => by simp [Th.sizes]
  | t :: ts => by
    have h1 := Th.size_enc t
    have h2 := Th.sizes_enc ts
    rw [Th.sizes, Th.encL, List.length_append]
    omega
end

/-- What Decode leaves. -/
def DecOut (b : List Int) (w : World) (x : Ending) (w' : World) : Prop :=
  (∃ (t : Th) (r : Tr), decT b = some t ∧ x = .returned (.tuple #[.agg #[.slice r.a1 r.n1 r.c1, .slice r.a2 r.n2 r.c2, .slice r.a3 r.n3 r.c3], .int .i64 0]) ∧ Hid (TAt w'.heap.size w' t (.slice r.a1 r.n1 r.c1) (.slice r.a2 r.n2 r.c2) (.slice r.a3 r.n3 r.c3)) ∧ Hid (Below w.heap.size w w')) ∨
  (decT b = none ∧ x = .returned (.tuple #[.agg #[.slice none 0 0, .slice none 0 0, .slice none 0 0], .int .i64 2]) ∧ Hid (Below w.heap.size w w'))

theorem decT_none {b : List Int} (h : rdT 8 b 0 = none) : decT b = none := by unfold decT; rw [h]; rfl
theorem decT_end {b l : List Int} {e : Int} {t : Th} (h : rdT 8 b 0 = some (t, l, e)) (he : Hm.rEnd l e ≠ 0) : decT b = none := by
  unfold decT; rw [h]
  show (if Hm.rEnd l e = 0 ∧ validT t = 0 then some t else none) = _
  rw [if_neg fun hh => he hh.1]
theorem decT_inv {b l : List Int} {e : Int} {t : Th} (h : rdT 8 b 0 = some (t, l, e)) (he : validT t ≠ 0) : decT b = none := by
  unfold decT; rw [h]
  show (if Hm.rEnd l e = 0 ∧ validT t = 0 then some t else none) = _
  rw [if_neg fun hh => he hh.2]
theorem decT_yes {b l : List Int} {e : Int} {t : Th} (h : rdT 8 b 0 = some (t, l, e)) (he : Hm.rEnd l e = 0) (hv : validT t = 0) : decT b = some t := by
  unfold decT; rw [h]
  show (if Hm.rEnd l e = 0 ∧ validT t = 0 then some t else none) = _
  rw [if_pos ⟨he, hv⟩]

theorem dec_below {w a : World} (h : Below w.heap.size w a) (x y z : Value) : Below w.heap.size w (((a.setCell ⟨w.heap.size, 0, none⟩ x).setCell ⟨w.heap.size, 1, none⟩ y).setCell ⟨w.heap.size, 2, none⟩ z) :=
  ((h.setCell (p := ⟨w.heap.size, 0, none⟩) (Nat.le_refl _) x).setCell (p := ⟨w.heap.size, 1, none⟩) (Nat.le_refl _) y).setCell (p := ⟨w.heap.size, 2, none⟩) (Nat.le_refl _) z

set_option maxHeartbeats 16000000 in
set_option maxRecDepth 100000 in
theorem tdecode_any (sv : Value) (zs : List Int) (w : World) (hl : Els .u8 w sv zs) (hb : Hm.Byt zs) (hlen : zs.length ≤ 1000000) :
    Calls Try.prog 28 #[sv] w (DecOut zs w) := by
  obtain ⟨a0, c0, rfl⟩ := hl.shape
  have HDN := Lib.hid (decT_none (b := zs))
  have HDE := Lib.hid fun l e t => decT_end (b := zs) (l := l) (e := e) (t := t)
  have HDI := Lib.hid fun l e t => decT_inv (b := zs) (l := l) (e := e) (t := t)
  have HDY := Lib.hid fun l e t => decT_yes (b := zs) (l := l) (e := e) (t := t)
  have HOK := Lib.hid fun l e t (h : rdT 8 zs 0 = some (t, l, e)) (he : Hm.rEnd l e = 0) => show t.wf ∧ t.size ≤ 1000000 by
    obtain ⟨rfl, rfl⟩ := rEnd_zero he
    obtain ⟨h1, h2⟩ := rdT_one 8 zs t [] hb hlen h
    rw [List.append_nil] at h1
    have := Th.size_enc t
    rw [← h1] at this
    exact ⟨h2, by omega⟩
  have HLL := Lib.hid fun r (h : rdT 8 zs 0 = some r) => show r.2.1.length ≤ 1000000 from Nat.le_trans ((rdT_sane 8 zs 0 r h).2 hb).2 hlen
  obtain ⟨W0, hW0⟩ : ∃ W0, W0 = w.alloc (.cells #[.slice none 0 0, .slice none 0 0, .slice none 0 0] 29) := ⟨_, rfl⟩
  have hS0 : Since w W0 := by rw [hW0]; exact Since.alloc (Since.refl _) _
  have hR0 : BoxL w.heap.size [.slice none 0 0, .slice none 0 0, .slice none 0 0] W0 := by rw [hW0]; exact BoxL.made w _ _
  have hz0 : W0.heap.size = w.heap.size + 1 := by rw [hW0, World.size_alloc]
  have K1 := Lib.hid (rread_any _ zs W0 (by omega) (hl.below hS0))
  have K2 := Lib.hid fun p d W (h : Rd p d W zs 0) (hd : d < W.heap.size) => read_all 8 (by decide) p d zs 0 W h hd hb hlen
  have HS0 := Lib.hid hS0
  have HR0 := Lib.hid hR0
  have HZ0 := Lib.hid hz0
  clear hl hb hlen hS0 hR0 hz0
  generalize rdT 8 zs 0 = RT at *
  go_enter Try.func28, Try.ntmps28
  go_upto_region 1 with (fail)
  rw [← hW0]
  clear hW0
  go_wp2_with fail
  refine K1.out.mono ?_
  rintro x w1 ⟨p, d, rfl, hp, hd, hdl, HR1, HB1⟩
  have hz := HZ0.out
  have hpl := HR1.out.lt
  have HX1 := Lib.hid (HR0.out.keep HB1.out)
  have HS1 := Lib.hid (Since.step HS0.out HB1.out)
  have hs1 : W0.heap.size ≤ w1.heap.size := HB1.out.size
  have K2b := Lib.hid (K2.out p d w1 HR1.out hdl)
  clear K1 K2 HR0 HB1 HS0 HR1
  go_wp2_with fail
  refine K2b.out.mono ?_
  rintro x w2 (⟨t, l, e, ⟨s1, t1, u1, s2, t2, u2, s3, t3, u3⟩, ho, rfl, HT2, HR2, HG2⟩ | ⟨ho, rfl, HG2⟩)
  · try simp only
    subst ho
    have hs2 : w1.heap.size ≤ w2.heap.size := HG2.out.size
    have HX2 : Hid (BoxL w.heap.size [.slice none 0 0, .slice none 0 0, .slice none 0 0] w2) := Lib.hid (HX1.out.keepF (F := fun k => k = w.heap.size) rfl ⟨hs2, fun k hk hl => HG2.out.block k hl fun e => by injection e with e; omega⟩)
    have HS2 : Hid (Since w w2) := Lib.hid ⟨HG2.out.os.trans HS1.out.os, HG2.out.tape.trans HS1.out.tape, HG2.out.output.trans HS1.out.output, Nat.le_trans HS1.out.size hs2, fun k hk => (HG2.out.block k (by omega) fun e => by injection e with e; omega).trans (HS1.out.block k hk)⟩
    have HQ := Lib.hid (HLL.out _ rfl)
    have HQ2 := Lib.hid (HOK.out l e t rfl)
    obtain ⟨w3, hw3⟩ : ∃ w3, w3 = w2.alloc (.cells #[.slice s1 t1 u1, .slice s2 t2 u2, .slice s3 t3 u3] 29) := ⟨_, rfl⟩
    have hS3 : Since w2 w3 := by rw [hw3]; exact Since.alloc (Since.refl _) _
    have hX3 : BoxL w2.heap.size [.slice s1 t1 u1, .slice s2 t2 u2, .slice s3 t3 u3] w3 := by rw [hw3]; exact BoxL.made w2 _ _
    have hT3 : TS (fun k => w1.heap.size ≤ k ∧ k < w3.heap.size) w3 t (.slice s1 t1 u1) (.slice s2 t2 u2) (.slice s3 t3 u3) := TS.keep (S' := fun k => w1.heap.size ≤ k) (w := w2) ⟨hS3.size, fun b _ hl => hS3.block b hl⟩ (fun k _ hk => hk.1) t HT2.out
    have HS3 := Lib.hid (Since.step HS2.out hS3)
    have HR3 := Lib.hid (HR2.out.below hS3)
    have HXR := Lib.hid (HX2.out.keep hS3)
    have HX3 := Lib.hid hX3
    have HT3 := Lib.hid hT3
    have K3 := Lib.hid (rend_any p d l e w3 HR3.out (Nat.le_trans HQ.out (by decide)))
    clear HX2 HS2 HX1 HS1 HG2 HT2 HR2 hS3 hX3 hT3 K2b HDN HLL HOK
    go_upto_region 3 with (fail)
    rw [← hw3]
    generalize w2.heap.size = M at *
    clear hw3
    obtain ⟨m0, m1, m2', -, -, -, -⟩ := HX3.out.open3
    obtain ⟨z0, z1, z2, zf0, zf1, zf2, -⟩ := HXR.out.open3
    by_cases hE : Hm.rEnd l e = 0
    · obtain ⟨hwf, hsz⟩ := HQ2.out hE
      have hT3 : TAt w3.heap.size w3 t (.slice s1 t1 u1) (.slice s2 t2 u2) (.slice s3 t3 u3) := TS.tat (fun _ h => h.2) t HT3.out
      have K4 := Lib.hid (tvalid_any t hsz hwf _ _ _ w3 hT3)
      have HEE := Lib.hid hE
      have HEI := Lib.hid (HDI.out l e t rfl)
      have HEY := Lib.hid (HDY.out l e t rfl hE)
      clear HDE HDI HDY HQ2
      rw [hE] at K3
      go_wp2_with fail
      refine K3.out.mono ?_
      rintro x w' ⟨rfl, rfl⟩
      go_wp2_with fail
      refine K4.out.mono ?_
      rintro x w4 ⟨rfl, HB4⟩
      have HBB := Lib.hid (Since.step HS3.out HB4)
      have hTT : TS (fun k => w1.heap.size ≤ k ∧ k < w4.heap.size) w4 t (.slice s1 t1 u1) (.slice s2 t2 u2) (.slice s3 t3 u3) := TS.keep (S' := fun k => w1.heap.size ≤ k) (w := w3) ⟨HB4.size, fun b _ hl => HB4.block b hl⟩ (fun k _ hk => hk.1) t HT3.out
      have HTT := Lib.hid hTT
      have y0 := Since.cell HB4 m0
      have y1 := Since.cell HB4 m1
      have y2 := Since.cell HB4 m2'
      have hXR4 := HXR.out.keep HB4
      obtain ⟨q0, q1, q2, qf0, qf1, qf2, -⟩ := hXR4.open3
      clear m0 m1 m2' z0 z1 z2 zf0 zf1 zf2 hXR4 hTT hT3
      by_cases hv : validT t = 0
      · have hfin : Hid (DecOut zs w (.returned (.tuple #[.agg #[.slice s1 t1 u1, .slice s2 t2 u2, .slice s3 t3 u3], .int .i64 0])) (((w4.setCell ⟨w.heap.size, 0, none⟩ (.slice s1 t1 u1)).setCell ⟨w.heap.size, 1, none⟩ (.slice s2 t2 u2)).setCell ⟨w.heap.size, 2, none⟩ (.slice s3 t3 u3))) := by
          refine Lib.hid (.inl ⟨t, ⟨s1, t1, u1, s2, t2, u2, s3, t3, u3⟩, ?_, rfl, Lib.hid ?_, Lib.hid (dec_below HBB.out _ _ _)⟩)
          · exact HEY.out hv
          · have hk : KeepS (fun k => w1.heap.size ≤ k ∧ k < w4.heap.size) w4 (((w4.setCell ⟨w.heap.size, 0, none⟩ (.slice s1 t1 u1)).setCell ⟨w.heap.size, 1, none⟩ (.slice s2 t2 u2)).setCell ⟨w.heap.size, 2, none⟩ (.slice s3 t3 u3)) := by
              refine ⟨by simp only [World.size_setCell]; exact Nat.le_refl _, fun b hb hl => ?_⟩
              have hne : b ≠ w.heap.size := by omega
              rw [Below.heap_setCell _ _ _ _ hne, Below.heap_setCell _ _ _ _ hne, Below.heap_setCell _ _ _ _ hne]
            exact TS.tat (fun _ h => h.2) t (TS.keep hk (S' := fun _ => True) (fun b _ _ => trivial) t HTT.out)
        rw [hv]
        clear HTT HBB HEI HEY hv K3 K4
        go_wp2
        exact bodyPost_ret (v := .tuple #[.agg #[.slice s1 t1 u1, .slice s2 t2 u2, .slice s3 t3 u3], .int .i64 0]) (by simp [results, Try.results28, go_sem, q0, q1, q2]) rfl hfin.out
      · have hfin : Hid (DecOut zs w (.returned (.tuple #[.agg #[.slice none 0 0, .slice none 0 0, .slice none 0 0], .int .i64 2])) (((w4.setCell ⟨w.heap.size, 0, none⟩ (.slice none 0 0)).setCell ⟨w.heap.size, 1, none⟩ (.slice none 0 0)).setCell ⟨w.heap.size, 2, none⟩ (.slice none 0 0))) := Lib.hid (.inr ⟨HEI.out hv, rfl, Lib.hid (dec_below HBB.out _ _ _)⟩)
        have tv : (validT t != 0) = true := by rw [bne_iff_ne]; exact hv
        generalize validT t = V at *
        clear HTT HBB HEI HEY hv K3 K4
        go_wp2
        exact bodyPost_ret (v := .tuple #[.agg #[.slice none 0 0, .slice none 0 0, .slice none 0 0], .int .i64 2]) (by simp [results, Try.results28, go_sem, q0, q1, q2]) rfl hfin.out
    · have hfin : Hid (DecOut zs w (.returned (.tuple #[.agg #[.slice none 0 0, .slice none 0 0, .slice none 0 0], .int .i64 2])) (((w3.setCell ⟨w.heap.size, 0, none⟩ (.slice none 0 0)).setCell ⟨w.heap.size, 1, none⟩ (.slice none 0 0)).setCell ⟨w.heap.size, 2, none⟩ (.slice none 0 0))) := Lib.hid (.inr ⟨HDE.out l e t rfl hE, rfl, Lib.hid (dec_below HS3.out _ _ _)⟩)
      have tv : (Hm.rEnd l e != 0) = true := by rw [bne_iff_ne]; exact hE
      clear HDE HDI HDY HQ2
      generalize Hm.rEnd l e = V at *
      go_wp2_with fail
      refine K3.out.mono ?_
      rintro x w' ⟨rfl, rfl⟩
      clear hE K3
      go_wp2
      exact bodyPost_ret (v := .tuple #[.agg #[.slice none 0 0, .slice none 0 0, .slice none 0 0], .int .i64 2]) (by simp [results, Try.results28, go_sem, z0, z1, z2]) rfl hfin.out
  · subst ho
    have hs2 : w1.heap.size ≤ w2.heap.size := HG2.out.size
    have HX2 : Hid (BoxL w.heap.size [.slice none 0 0, .slice none 0 0, .slice none 0 0] w2) := Lib.hid (HX1.out.keepF (F := fun k => k = w.heap.size) rfl ⟨hs2, fun k hk hl => HG2.out.block k hl fun e => by injection e with e; omega⟩)
    have HS2 : Hid (Since w w2) := Lib.hid ⟨HG2.out.os.trans HS1.out.os, HG2.out.tape.trans HS1.out.tape, HG2.out.output.trans HS1.out.output, Nat.le_trans HS1.out.size hs2, fun k hk => (HG2.out.block k (by omega) fun e => by injection e with e; omega).trans (HS1.out.block k hk)⟩
    obtain ⟨w3, hw3⟩ : ∃ w3, w3 = w2.alloc (.cells #[.slice none 0 0, .slice none 0 0, .slice none 0 0] 29) := ⟨_, rfl⟩
    have hS3 : Since w2 w3 := by rw [hw3]; exact Since.alloc (Since.refl _) _
    have HXR := Lib.hid (HX2.out.keep hS3)
    have hfin : Hid (DecOut zs w (.returned (.tuple #[.agg #[.slice none 0 0, .slice none 0 0, .slice none 0 0], .int .i64 2])) (((w3.setCell ⟨w.heap.size, 0, none⟩ (.slice none 0 0)).setCell ⟨w.heap.size, 1, none⟩ (.slice none 0 0)).setCell ⟨w.heap.size, 2, none⟩ (.slice none 0 0))) := Lib.hid (.inr ⟨HDN.out rfl, rfl, Lib.hid (dec_below (Since.step HS2.out hS3) _ _ _)⟩)
    clear HX2 HS2 HX1 HS1 HG2 hS3 K2b HDN HDE HDI HDY HLL HOK
    go_upto_region 3 with (fail)
    rw [← hw3]
    clear hw3
    obtain ⟨z0, z1, z2, zf0, zf1, zf2, -⟩ := HXR.out.open3
    go_wp2
    exact bodyPost_ret (v := .tuple #[.agg #[.slice none 0 0, .slice none 0 0, .slice none 0 0], .int .i64 2]) (by simp [results, Try.results28, go_sem, z0, z1, z2]) rfl hfin.out

end Go.Proofs.Ytejllfpcffeogaa
