/- The walk of the law WireRound. -/
import Derived.Test.YtgipfbmomhlcjaaLaw02c
namespace Go.Proofs.Ytgipfbmomhlcjaa
open Go.RowKit Go.Shelf

theorem small_two {ts : List VT} {s t : VT} (h : Small ts) (hs : s.1.Good ∧ s.1.b.length ≤ 9 ∧ s.1.l.length ≤ 4) (ht : t.1.Good ∧ t.1.b.length ≤ 9 ∧ t.1.l.length ≤ 4) : Small (ts ++ [s, t]) := fun u hu => by
  rcases List.mem_append.1 hu with hu | hu
  · exact h u hu
  · simp at hu
    rcases hu with rfl | rfl
    · exact hs
    · exact ht

set_option maxRecDepth 100000 in
set_option maxHeartbeats 8000000 in
theorem law_round (a0 : Option Addr) (len0 cap0 : Nat) (z0 : List Int) (m1 m2 : Int) (w : World) (v0 : Came .i64 w a0 len0 cap0 z0) (v1 : (Lit.int .u64 m1).wf = true) (v2 : (Lit.int .i64 m2).wf = true) :
    Calls Try.prog 5 #[.slice a0 len0 cap0, .int .u64 m1, .int .i64 m2] w fun e w' => e = .returned (.bool true) ∧ Below w.heap.size w w' := by
  have k1 := vals_any a0 len0 cap0 _ w v0.els (fun z hz => v0.wf z (List.mem_of_mem_take hz)) v0.lenle
  have hu : 0 ≤ m1 ∧ m1 ≤ 18446744073709551615 := by
    simpa [Lit.wf, IntKind.min, IntKind.max, IntKind.signed, IntKind.bits] using v1
  obtain ⟨u, rfl⟩ := Int.eq_ofNat_of_zero_le hu.1
  have g1 := Lib.hid (good0 (u := u) (by omega))
  have g2 := Lib.hid (good1 (i64_of_wf v2))
  have K1 := Lib.hid k1
  have HB0 := Lib.hid (Below.refl w.heap.size w)
  clear v0 v1 v2 k1 hu
  go_enter Try.func5, Try.ntmps5
  go_wp2_with fail
  refine K1.out.mono ?_
  rintro e w1 ⟨a, n, c, ts, rfl, hV, hS, hn, hn8, hB1⟩
  have HB1 := Lib.hid hB1.out
  have HS2 := Lib.hid (small_two (s := ((⟨0, u, 0, [], []⟩ : V), Value.slice none 0 0, Value.slice none 0 0)) (t := ((⟨1, 0, m2, [], []⟩ : V), Value.slice none 0 0, Value.slice none 0 0)) hS.out ⟨g1.out, Nat.zero_le _, Nat.zero_le _⟩ ⟨g2.out, Nat.zero_le _, Nat.zero_le _⟩)
  go_wp2_with (at_builtin; refine push_vals rfl _ _ rfl w.heap.size (.slice a n c) ts [((⟨0, u, 0, [], []⟩ : V), Value.slice none 0 0, Value.slice none 0 0), ((⟨1, 0, m2, [], []⟩ : V), Value.slice none 0 0, Value.slice none 0 0)] _ _ rfl rfl _ rfl rfl hV.out HB1.out.size (by have := hn.out; simp; omega) (fun t ht => by simp at ht; rcases ht with rfl | rfl <;> exact ⟨rfl, rfl⟩) (fun t ht => by simp at ht; rcases ht with rfl | rfl <;> exact ⟨emp_els _ _, emp_els _ _, fun g _ => ⟨.inl (.inl rfl), .inl (.inl rfl)⟩⟩) ?_; intro a2 n2 c2 w2 hn2 hV2 hB2)
  have HB2 := Lib.hid (HB1.out.trans hB2.out)
  have hn10 : n2 ≤ 10 := by rw [hn2.out, List.length_append]; have := hn.out; simp; omega
  generalize ts ++ [((⟨0, u, 0, [], []⟩ : V), Value.slice none 0 0, Value.slice none 0 0), ((⟨1, 0, m2, [], []⟩ : V), Value.slice none 0 0, Value.slice none 0 0)] = ts2 at *
  have HVE := Lib.hid hV2.out.els
  have HGd : Hid (∀ x ∈ ts2.map (·.1), x.Good) := fun x hx => by
    obtain ⟨t, ht, rfl⟩ := List.mem_map.1 hx
    exact (HS2.out t ht).1
  have hLs := encVs_small HS2.out
  have hxl : Hid (n2 = (ts2.map (·.1)).length) := by show _ = _; rw [List.length_map]; exact hn2.out
  have HLs := Lib.hid (show (encVs (ts2.map (·.1))).length ≤ 500 by have := hn2.out; omega)
  clear hB1 hLs hV hS hn hB2 hV2 hn2
  generalize ts2.map (·.1) = xs at *
  go_wp2_with fail
  refine (encode_any a2 n2 c2 xs w2 HVE.out HGd.out (by omega)).mono ?_
  rintro e w3 ⟨a3, n3, c3, rfl, HN3, O3, hB⟩
  have B3 := Lib.hid hB.out
  have HB3 := Lib.hid (HB2.out.trans (hB.out.mono HB2.out.size))
  have HE3 := Lib.hid O3.out.els
  clear hB
  go_wp2_with fail
  refine (rread_any _ _ _ (by have := HLs.out; omega) HE3.out).mono ?_
  rintro e w4 ⟨p4, d4, rfl, hp4, hd4, hl4, R4, B4⟩
  have HB4 := Lib.hid (HB3.out.trans (B4.out.mono HB3.out.size))
  have hs3 : w2.heap.size ≤ w3.heap.size := B3.out.size
  have hs4 : w3.heap.size ≤ w4.heap.size := B4.out.size
  have D4 := Lib.hid (B3.out.trans (B4.out.mono hs3))
  go_wp2_with fail
  go_loopw [9] (fun v wr => ∃ k : Nat, k ≤ n2 ∧ v = .int .i64 k ∧ Hid (Rd p4 d4 wr (encVs (xs.drop k)) 0) ∧ Hid (Below w3.heap.size w4 wr)) (fun v _ => n2 - (intOf v).toNat)
  case atStart => exact ⟨0, Nat.zero_le _, rfl, R4.out, Below.refl _ _⟩
  case round =>
    obtain ⟨k, hk, rfl, hR, hBl⟩ := hrel
    have hsr : w4.heap.size ≤ wr.heap.size := hBl.out.size
    have hbl := Lib.hid (show Hm.Byt (encVs (xs.drop k)) ∧ (encVs (xs.drop k)).length ≤ 1000 from ⟨encVs_byt fun y hy => HGd.out y (List.mem_of_mem_drop hy), by have h5 := encVs_drop_len xs k; have h6 := HLs.out; omega⟩)
    by_cases hlt : k < n2
    · obtain ⟨x, hx⟩ : ∃ x, xs[k]? = some x := ⟨_, List.getElem?_eq_getElem (by rw [← hxl.out]; exact hlt)⟩
      have hgx := HGd.out x (List.mem_of_getElem? hx)
      have HGX := Lib.hid hgx
      have HX := Lib.hid hx
      have K8 := read_any p4 d4 x.kind _ 0 wr.drew hR.out (by show d4 < wr.heap.size; omega) hgx.kind hbl.out.1 (by have := hbl.out.2; omega)
      have hdr : rdV x.kind (encVs (xs.drop k)) 0 = (x, encVs (xs.drop (k + 1)), 0) := by
        rw [drop_at hx, encVs_cons, rdV_enc hgx]
      rw [hdr] at K8
      have K8h := Lib.hid K8
      obtain ⟨b, off, bv, lv, rfl, h0, h1, h2, h3, h4, he5, he6, hlo5, hlo6⟩ := HVE.out.at (D4.out.trans (hBl.out.mono hs3)) hx
      have hblk : b < w2.heap.size := by obtain ⟨b', off', _, _, hab, hbl2, _⟩ := HVE.out.2.2 k x hx; cases hab; exact hbl2
      have HBK := Lib.hid hblk
      clear hblk
      obtain ⟨ab, cb, rfl⟩ := he5.out.shape
      obtain ⟨al, cl, rfl⟩ := he6.out.shape
      have HSM := Lib.hid (fun (w8 : World) (h : Below w3.heap.size wr w8) => And.intro (he5.out.low (hlo5.out.mono hs3) h) (he6.out.low (hlo6.out.mono hs3) h))
      have HCL := Lib.hid (fun (w8 : World) (h : Below w3.heap.size wr w8) => show w8.cell? ⟨b, off + k * 5, none⟩ = some (.int .i64 x.kind) ∧ w8.cell? ⟨b, off + k * 5 + 1, none⟩ = some (.int .u64 x.u) ∧ w8.cell? ⟨b, off + k * 5 + 2, none⟩ = some (.int .i64 x.n) ∧ w8.cell? ⟨b, off + k * 5 + 3, none⟩ = some (.slice ab x.b.length cb) ∧ w8.cell? ⟨b, off + k * 5 + 4, none⟩ = some (.slice al x.l.length cl) from by
        have hc : ∀ o, w8.cell? ⟨b, o, none⟩ = wr.cell? ⟨b, o, none⟩ := fun o => h.cell (p := ⟨b, o, none⟩) (Nat.lt_of_lt_of_le HBK.out hs3)
        rw [hc, hc, hc, hc, hc]
        exact ⟨h0, h1, h2, h3, h4⟩)
      clear hx hgx K8 hdr
      go_wp2_with fail
      go_region_held3 (fun w' => w'.cell? ⟨b, off + k * 5, none⟩ = some (.int .i64 x.kind) ∧ w'.cell? ⟨b, off + k * 5 + 1, none⟩ = some (.int .u64 x.u) ∧ w'.cell? ⟨b, off + k * 5 + 2, none⟩ = some (.int .i64 x.n) ∧ w'.cell? ⟨b, off + k * 5 + 3, none⟩ = some (.slice ab x.b.length cb) ∧ w'.cell? ⟨b, off + k * 5 + 4, none⟩ = some (.slice al x.l.length cl))
        (first | exact ⟨h0, h1, h2, h3, h4⟩ | exact HCL.out _ hB8.out | exact HCL.out _ hB9.out)
        ((first
          | (go_at_call 22; refine K8h.out.mono ?_; rintro e w8 ⟨bv8, lv8, rfl, hb8, hl8, _, _, hR8, hG8⟩; have hB8 := Lib.hid (((Below.refl w3.heap.size wr).drew).trans (grown_to hG8.out hp4 (by show w3.heap.size ≤ wr.heap.size; omega))))
          | (go_at_call 21; refine (same_any x.kind x.u x.n x.b x.l bv8 lv8 _ _ w8 hb8.out hl8.out (HSM.out w8 hB8.out).1 (HSM.out w8 hB8.out).2 HGX.out.bl HGX.out.ll).mono ?_; rintro e w9 ⟨rfl, hB9'⟩; have hB9 := Lib.hid (hB8.out.trans (hB9'.mono (by have := hB8.out.size; omega))); have hR9 := Lib.hid (hR8.out.below hB9'); clear hB9')))
      clear h0 h1 h2 h3 h4
      go_wp2_with fail
      go_roundw
      case rel => exact ⟨k + 1, by omega, by go_num, hR9.out, hBl.out.trans hB9.out⟩
      case measure => simp [intOf]; omega
    · obtain rfl : k = n2 := by omega
      have hend : Hid (xs.drop k = []) := by show _ = _; rw [hxl.out, List.drop_length]
      have hR3 := hR.out
      rw [hend.out] at hR3
      have HR3 := Lib.hid (show Rd p4 d4 wr [] 0 from hR3)
      have HB5 := Lib.hid (HB4.out.trans (hBl.out.mono HB3.out.size))
      clear hR3 hlt
      go_wp2_with fail
      refine (rend_any _ _ _ _ _ HR3.out (by decide)).mono ?_
      rintro e w' ⟨rfl, rfl⟩
      rw [show Hm.rEnd [] 0 = 0 from by decide]
      go_wp2_with fail
      refine (lives_any _).mono ?_
      rintro e w6 ⟨rfl, hB⟩
      have B6 := Lib.hid hB
      have HB6 := Lib.hid (HB5.out.trans (hB.mono HB5.out.size))
      clear hB
      go_wp2_with fail
      go_ret
      exact ⟨rfl, HB6.out⟩

end Go.Proofs.Ytgipfbmomhlcjaa
