/- The walk of the law WireOwn: rows that are filled while others stay. -/
import Derived.Test.YtgipfbmomhlcjaaWlives
import Derived.Test.YtgipfbmomhlcjaaWvals
namespace Go.Proofs.Ytgipfbmomhlcjaa
open Go.RowKit Go.Shelf

/-- The blocks from lo to below hi stay as they were. -/
def Kept (lo hi : Nat) (w w' : World) : Prop := w.heap.size ≤ w'.heap.size ∧ ∀ k, lo ≤ k → k < hi → w'.heap[k]? = w.heap[k]?

theorem Kept.trans {lo hi : Nat} {a b c : World} (h : Kept lo hi a b) (k : Kept lo hi b c) : Kept lo hi a c := ⟨Nat.le_trans h.1 k.1, fun i h1 h2 => (k.2 i h1 h2).trans (h.2 i h1 h2)⟩

theorem Kept.below {lo hi B : Nat} {w w' : World} (h : Below B w w') (hB : hi ≤ B) : Kept lo hi w w' := ⟨h.size, fun k _ h2 => h.block k (by omega)⟩

theorem Kept.fill {lo hi : Nat} {row : Option Nat} {w w' : World} (h : w.grownBy w' row) (hs : hi ≤ w.heap.size) (hr : ∀ g, row = some g → g < lo ∨ hi ≤ g) : Kept lo hi w w' :=
  ⟨h.size, fun k h1 h2 => h.block k (by omega) fun e => by have := hr k e.symm; omega⟩

theorem Own.kept {k : IntKind} {E : TypeId} {B : Nat} {w w' : World} {sv : Value} {zs : List Int} (h : Own k E B w sv zs) (hK : Kept B w.heap.size w w') : Own k E B w' sv zs := by
  obtain ⟨hx, hv | ⟨g, cap, cur, hv, hg, hc, hr⟩⟩ := h
  · exact ⟨hx, .inl hv⟩
  · exact ⟨hx, .inr ⟨g, cap, cur, hv, hg, (hK.2 g hg (Array.getElem?_eq_some_iff.1 hc).1).trans hc, hr⟩⟩

theorem Wr.kept {p B : Nat} {w w' : World} {zs : List Int} (h : Wr p B w zs) (hK : Kept p w.heap.size w w') : Wr p B w' zs := h.keep hK.1 hK.2

theorem Rd.kept {p d lo : Nat} {w w' : World} {l : List Int} {e : Int} (h : Rd p d w l e) (hp : lo ≤ p) (hd : lo ≤ d) (hK : Kept lo w.heap.size w w') : Rd p d w' l e :=
  h.keep hK.1 (hK.2 p hp h.lt) fun hl => hK.2 d hd hl

/-- A row of n numbers of the call's own that is being filled: nothing else turns. -/
def Fill (k : IntKind) (E : TypeId) (B : Nat) (sv : Value) (n : Nat) (w0 w : World) : Prop := ∃ ys : List Int, n = ys.length ∧ Own k E B w sv ys ∧ w0.grownBy w sv.ownBlock

theorem Fill.start {k : IntKind} {E : TypeId} {B : Nat} {w : World} {a : Option Addr} {n c : Nat} {zs : List Int} (h : Own k E B w (.slice a n c) zs) (hn : n = zs.length) : Fill k E B (.slice a n c) n w w :=
  ⟨zs, hn, h, ⟨rfl, rfl, rfl, Nat.le_refl _, fun _ _ _ => rfl⟩⟩

theorem Fill.at {k : IntKind} {E : TypeId} {B : Nat} {w0 w : World} {a : Option Addr} {n c : Nat} (h : Fill k E B (.slice a n c) n w0 w) (j : Nat) (hj : j < n) :
    ∃ g x, a = some ⟨g, 0, none⟩ ∧ w.cell? ⟨g, j, none⟩ = some (.int k x) ∧ w.frozen? ⟨g, j, none⟩ = false ∧ Hid (∀ v, Fill k E B (.slice (some ⟨g, 0, none⟩) n c) n w0 (w.setCell ⟨g, j, none⟩ (.int k v))) := by
  obtain ⟨ys, hn, hO, hG⟩ := h
  obtain ⟨g, rfl, _, _, h1, h2⟩ := hO.open hn (by omega)
  refine ⟨g, _, rfl, h1 j hj, h2 j, fun v => ⟨ys.set j v, by rw [List.length_set]; exact hn, hO.set hn j v, ?_⟩⟩
  exact ⟨hG.os, hG.tape, hG.output, by simpa [World.setCell] using hG.size, fun i hi hr => (Below.heap_setCell _ _ _ _ (fun e => hr (by rw [e]; rfl))).trans (hG.block i hi hr)⟩

theorem own_lt {k : IntKind} {E : TypeId} {B : Nat} {w : World} {sv : Value} {zs : List Int} (h : Own k E B w sv zs) : ∀ g, sv.ownBlock = some g → B ≤ g ∧ g < w.heap.size := fun g hg => World.ownsRow.lt h g hg

theorem own_empty (w : World) (T : TypeId) : Own .u8 T w.heap.size (w.alloc (.cells #[] T)) (.slice (some ⟨w.heap.size, 0, none⟩) 0 0) [] := World.ownsRow_made w #[] 0 (Nat.le_refl _) (Nat.zero_le _) rfl

set_option maxRecDepth 100000 in
set_option maxHeartbeats 4000000 in
theorem law_own (a0 : Option Addr) (len0 cap0 : Nat) (z0 : List Int) (a1 : Option Addr) (len1 cap1 : Nat) (z1 : List Int) (w : World) (v0 : Came .u8 w a0 len0 cap0 z0) (v1 : Came .i64 w a1 len1 cap1 z1) :
    Calls Try.prog 9 #[.slice a0 len0 cap0, .slice a1 len1 cap1] w fun e w' => e = .returned (.bool true) ∧ Below w.heap.size w w' := by
  have e0 := v0.els
  have e1 := v1.els
  have c0 := v0.cap
  have c1 := v1.cap
  have hz := ((v0.byt).take len0).take 30
  have hw : Nums ((z1.take len1).take 10) := fun z h => v1.wf z (List.mem_of_mem_take (List.mem_of_mem_take h))
  have hl0 : ((z0.take len0).take 30).length ≤ 30 := List.length_take_le _ _
  have hl1 : ((z1.take len1).take 10).length ≤ 10 := List.length_take_le _ _
  clear v0 v1
  have k1 := fun W (h : Below w.heap.size w W) => few_any 30 _ _ W (by decide) (e0.below h) c0
  have k2 := fun W (h : Below w.heap.size w W) => ints_any 10 _ _ W (by decide) (e1.below h) c1
  generalize (z0.take len0).take 30 = zs at *
  generalize (z1.take len1).take 10 = ns at *
  obtain ⟨L, hL⟩ : ∃ L, L = Hm.uv zs.length ++ zs ++ (Hm.uv ns.length ++ encs ns) := ⟨_, rfl⟩
  have hLl : L.length ≤ 1000 := by
    have h1 := Hm.uv_len (n := zs.length) (by omega)
    have h2 := Hm.uv_len (n := ns.length) (by omega)
    have h3 := encs_len ns hw
    rw [hL]
    simp only [List.length_append]
    omega
  have hLb : Hm.Byt L := by rw [hL]; exact Hm.byt_append (Hm.byt_append (Hm.uv_byt _) hz) (Hm.byt_append (Hm.uv_byt _) (encs_byt _))
  have hr1 : Hm.rRaw L 0 = (zs, Hm.uv ns.length ++ encs ns, 0) := by rw [hL]; exact rRaw_enc zs _ (by omega)
  have hr2 : Hm.rInts (Hm.uv ns.length ++ encs ns) 0 = (ns, [], 0) := by
    have := rInts_enc ns [] hw (by omega)
    rwa [List.append_nil] at this
  have hMb : Hm.Byt (Hm.uv ns.length ++ encs ns) := Hm.byt_append (Hm.uv_byt _) (encs_byt _)
  have hMl : (Hm.uv ns.length ++ encs ns).length ≤ 1000 := by
    have h2 := Hm.uv_len (n := ns.length) (by omega)
    have h3 := encs_len ns hw
    rw [List.length_append]
    omega
  have k3 := fun p B a n c W (hE : Els .u8 W (.slice a n c) zs) (h : Wr p B W []) (hlow : LowEls p (.slice a n c)) => wraw_any p B a n c zs [] W (by decide) (by omega) hE h hlow
  have k4 := fun p B a n c W (hE : Els .i64 W (.slice a n c) ns) (h : Wr p B W (Hm.uv zs.length ++ zs)) (hlow : LowEls p (.slice a n c)) => wints_any p B a n c ns _ W (by have h1 := Hm.uv_len (n := zs.length) (by omega); rw [List.length_append]; omega) (by omega) hw hE h hlow
  rw [List.nil_append] at k3
  rw [← hL] at k4
  have k5 := fun p B W (h : Wr p B W L) => wdone_any p B L W (by omega) h
  have k6 := fun sv sv2 W (h : Els .u8 W sv L) (h2 : Els .u8 W sv2 L) => (sameBytes_any sv sv2 L L W h h2 (by omega)).mono fun e w' hh => And.intro (hh.1.trans (ret_bool (b := true) (decide_eq_true rfl))) hh.2
  have k7 := fun sv W (h : Els .u8 W sv L) => rread_any sv L W (by omega) h
  have k8 := fun p d W (h : Rd p d W L 0) => rraw_any p d L 0 W h hLb (by omega)
  rw [hr1] at k8
  have k9 := fun p d W (h : Rd p d W (Hm.uv ns.length ++ encs ns) 0) (hd : d < W.heap.size) => rints_any p d _ 0 W h hd hMb (by omega)
  rw [hr2] at k9
  dsimp only at k8 k9
  have k10 := fun sv sv2 W (h : Els .i64 W sv ns) (h2 : Els .i64 W sv2 ns) => (sameInts_any sv sv2 ns ns W h h2 (by omega)).mono fun e w' hh => And.intro (hh.1.trans (ret_bool (b := true) (decide_eq_true rfl))) hh.2
  have k11 := fun p d W (h : Rd p d W [] 0) => rend_any p d [] 0 W h (by decide)
  rw [show Hm.rEnd [] 0 = 0 from by decide] at k11
  generalize Hm.uv zs.length ++ zs = L1 at *
  generalize Hm.uv ns.length ++ encs ns = L2 at *
  have K1 := Lib.hid k1
  have K2 := Lib.hid k2
  have K3 := Lib.hid k3
  have K4 := Lib.hid k4
  have K5 := Lib.hid k5
  have K6 := Lib.hid k6
  have K7 := Lib.hid k7
  have K8 := Lib.hid k8
  have K9 := Lib.hid k9
  have K10 := Lib.hid k10
  have K11 := Lib.hid k11
  have HLL := Lib.hid hLl
  have HL0 := Lib.hid hl0
  have HL1 := Lib.hid hl1
  have HI := Lib.hid Try.infoU8
  clear e0 e1 c0 c1 hz hw hl0 hl1 hL hLl hLb hr1 hr2 hMb hMl k1 k2 k3 k4 k5 k6 k7 k8 k9 k10 k11
  have HB0 := Lib.hid (Below.refl w.heap.size w)
  go_enter Try.func9, Try.ntmps9
  go_wp2_with fail
  refine (K1.out _ HB0.out).mono ?_
  rintro e w1 ⟨a1, n1, c1, rfl, HN1, O1, hB⟩
  have B1 := Lib.hid hB.out
  have HB1 := Lib.hid (HB0.out.trans (hB.out.mono HB0.out.size))
  have HE1 := Lib.hid O1.out.els
  clear hB
  go_wp2_with fail
  refine (K2.out _ HB1.out).mono ?_
  rintro e w2 ⟨a2, n2, c2, rfl, HN2, O2, hB⟩
  have B2 := Lib.hid hB.out
  have HB2 := Lib.hid (HB1.out.trans (hB.out.mono HB1.out.size))
  have HE2 := Lib.hid O2.out.els
  clear hB
  go_wp2_with fail
  refine (K3.out w2.heap.size (w2.heap.size + 1) _ _ _ _ ((HE1.out.below B2.out).below ((Below.refl _ w2).alloc (Nat.le_refl _) _)) (Wr.new w2 _) ((HE1.out.below B2.out).lows)).mono ?_
  rintro e w3 ⟨rfl, W3, B3⟩
  have W3_ := Lib.hid W3
  clear W3
  have W3 := W3_
  clear W3_
  have B3_ := Lib.hid B3
  clear B3
  have B3 := B3_
  clear B3_
  have B3b := Lib.hid (below_new' B3.out)
  go_wp2_with fail
  refine (K4.out _ _ _ _ _ _ (HE2.out.below B3b.out) W3.out HE2.out.lows).mono ?_
  rintro e w4 ⟨rfl, W4, B4⟩
  have W4_ := Lib.hid W4
  clear W4
  have W4 := W4_
  clear W4_
  have B4_ := Lib.hid B4
  clear B4
  have B4 := B4_
  clear B4_
  have B4b := Lib.hid (B3b.out.trans B4.out)
  have hn1 : n1 ≤ 30 := by rw [HN1.out]; exact HL0.out
  have hn2 : n2 ≤ 10 := by rw [HN2.out]; exact HL1.out
  have hs4 : w2.heap.size ≤ w4.heap.size := B4b.out.size
  have hs2 : w1.heap.size ≤ w2.heap.size := B2.out.size
  have hs1 : w.heap.size ≤ w1.heap.size := B1.out.size
  have HB4 := Lib.hid (HB2.out.trans (B4b.out.mono HB2.out.size))
  go_wp2_with fail
  refine (K5.out _ _ _ W4.out).mono ?_
  rintro e w5 ⟨a5, n5, c5, rfl, HN5, O5, hB⟩
  have B5 := Lib.hid hB.out
  have HB5 := Lib.hid (HB4.out.trans (hB.out.mono HB4.out.size))
  have HE5 := Lib.hid O5.out.els
  clear hB
  have hs5 : w4.heap.size ≤ w5.heap.size := B5.out.size
  have hn5 : n5 ≤ 1000 := by rw [HN5.out]; exact HLL.out
  go_wp2_with (at_builtin; refine push_all rfl _ _ 24 rfl .u8 5 1 Try.underlying24 HI.out (by decide) w5.heap.size _ [] _ L rfl rfl (own_empty w5 _) (HE5.out.below ((Below.refl _ w5).alloc (Nat.le_refl _) _)) (by simp) (by have := HLL.out; simp; omega) ?_; intro a6 n6 c6 w6 HN6 O6 hB6)
  have B6 := Lib.hid (below_new' hB6.out)
  have HB6 := Lib.hid (HB5.out.trans (B6.out.mono HB5.out.size))
  have hs6 : w5.heap.size ≤ w6.heap.size := B6.out.size
  clear hB6
  have O1b := Lib.hid (O1.out.below (((B2.out.trans (B4b.out.mono hs2)).trans (B5.out.mono (by omega))).trans (B6.out.mono (by omega))))
  have hg1 := Lib.hid (own_lt O1.out)
  have hg2 := Lib.hid (own_lt O2.out)
  have hg5 := Lib.hid (own_lt O5.out)
  go_wp2_with fail
  go_loopw [10] (fun v wr => ∃ k : Nat, k ≤ n1 ∧ v = .int .i64 k ∧ Hid (Fill .u8 5 w.heap.size (.slice a1 n1 c1) n1 w6 wr)) (fun v _ => n1 - (intOf v).toNat)
  case atStart => exact ⟨0, Nat.zero_le _, rfl, Fill.start O1b.out HN1.out⟩
  case round =>
    obtain ⟨k, hk, rfl, hF⟩ := hrel
    by_cases hlt : k < n1
    · obtain ⟨g, x, rfl, hcx, hfx, hN⟩ := hF.out.at k hlt
      go_wp2_with fail
      go_roundw
      case rel => exact ⟨k + 1, by omega, by go_num, hN.out _⟩
      case measure => simp [intOf]; omega
    · obtain ⟨w7, rfl⟩ : ∃ w7, w7 = wr := ⟨_, rfl⟩
      have G7 : Hid (w6.grownBy w7 (Value.slice a1 n1 c1).ownBlock) := by obtain ⟨ys, _, _, hG⟩ := hF.out; exact hG
      have hge : n1 ≤ k := by omega
      have hb7 := Lib.hid (fun g (hg : (Value.slice a1 n1 c1).ownBlock = some g) => hg1.out g hg)
      have O2c := Lib.hid (O2.out.kept (((((Kept.below B3b.out (Nat.le_refl _)).trans (Kept.below B4.out (Nat.le_refl _))).trans (Kept.below B5.out hs4)).trans (Kept.below B6.out (by omega))).trans (Kept.fill G7.out (by omega) fun g hg => .inl (by have := hg1.out g hg; omega))))
      have HB7 := Lib.hid (HB6.out.trans ((Below.refl _ w6).grown G7.out (by omega) fun g hg => by have := hg1.out g hg; omega))
      have hs7 : w6.heap.size ≤ w7.heap.size := G7.out.size
      clear hF hlt
      go_wp2_with fail
      go_loopw [11] (fun v wr => ∃ k : Nat, k ≤ n2 ∧ v = .int .i64 k ∧ Hid (Fill .i64 3 w1.heap.size (.slice a2 n2 c2) n2 w7 wr)) (fun v _ => n2 - (intOf v).toNat)
      case atStart => exact ⟨0, Nat.zero_le _, rfl, Fill.start O2c.out HN2.out⟩
      case round =>
        obtain ⟨k2, hk2, rfl, hF⟩ := hrel
        by_cases hlt : k2 < n2
        · obtain ⟨g, x, rfl, hcx, hfx, hN⟩ := hF.out.at k2 hlt
          go_wp2_with fail
          go_roundw
          case rel => exact ⟨k2 + 1, by omega, by go_num, hN.out _⟩
          case measure => simp [intOf]; omega
        · obtain ⟨w8, rfl⟩ : ∃ w8, w8 = wr := ⟨_, rfl⟩
          have G8 : Hid (w7.grownBy w8 (Value.slice a2 n2 c2).ownBlock) := by obtain ⟨ys, _, _, hG⟩ := hF.out; exact hG
          have hge2 : n2 ≤ k2 := by omega
          have F7 := fun lo hi (h1 : hi ≤ w6.heap.size) (h2 : w1.heap.size ≤ lo) => Kept.fill (lo := lo) (hi := hi) G7.out h1 fun g hg => .inl (by have := hg1.out g hg; omega)
          have F8 := fun lo hi (h1 : hi ≤ w7.heap.size) (h2 : w2.heap.size ≤ lo) => Kept.fill (lo := lo) (hi := hi) G8.out h1 fun g hg => .inl (by have := hg2.out g hg; omega)
          have O5c := Lib.hid (O5.out.kept (((Kept.below B6.out (Nat.le_refl _)).trans (F7 w4.heap.size w5.heap.size (by omega) (by omega))).trans (F8 w4.heap.size w5.heap.size (by omega) (by omega))))
          have HB8 := Lib.hid (HB7.out.trans ((Below.refl _ w7).grown G8.out (by omega) fun g hg => by have := hg2.out g hg; omega))
          have hs8 : w7.heap.size ≤ w8.heap.size := G8.out.size
          have F7h := Lib.hid F7
          have F8h := Lib.hid F8
          clear hF hlt F7 F8
          go_wp2_with fail
          go_loopw [12] (fun v wr => ∃ k : Nat, k ≤ n5 ∧ v = .int .i64 k ∧ Hid (Fill .u8 5 w4.heap.size (.slice a5 n5 c5) n5 w8 wr)) (fun v _ => n5 - (intOf v).toNat)
          case atStart => exact ⟨0, Nat.zero_le _, rfl, Fill.start O5c.out HN5.out⟩
          case round =>
            obtain ⟨k5, hk5, rfl, hF⟩ := hrel
            by_cases hlt : k5 < n5
            · obtain ⟨g, x, rfl, hcx, hfx, hN⟩ := hF.out.at k5 hlt
              go_wp2_with fail
              go_roundw
              case rel => exact ⟨k5 + 1, by omega, by go_num, hN.out _⟩
              case measure => simp [intOf]; omega
            · obtain ⟨w9, rfl⟩ : ∃ w9, w9 = wr := ⟨_, rfl⟩
              have G9 : Hid (w8.grownBy w9 (Value.slice a5 n5 c5).ownBlock) := by obtain ⟨ys, _, _, hG⟩ := hF.out; exact hG
              have hge5 : n5 ≤ k5 := by omega
              have hs9 : w8.heap.size ≤ w9.heap.size := G9.out.size
              have HB9 := Lib.hid (HB8.out.trans ((Below.refl _ w8).grown G9.out (by omega) fun g hg => by have := hg5.out g hg; omega))
              have W9 := Lib.hid (W4.out.kept (((((Kept.below B5.out (Nat.le_refl _)).trans (Kept.below B6.out hs5)).trans (F7h.out _ _ (by omega) hs2)).trans (F8h.out _ _ (by omega) (Nat.le_refl _))).trans (Kept.fill G9.out (by omega) fun g hg => .inr (by have := hg5.out g hg; omega))))
              have O6c := Lib.hid (O6.out.kept (((F7h.out _ _ (Nat.le_refl _) (by omega)).trans (F8h.out _ _ (by omega) (by omega))).trans (Kept.fill G9.out (by omega) fun g hg => .inl (by have := hg5.out g hg; omega))))
              clear hF hlt
              go_wp2_with fail
              refine (K5.out _ _ _ W9.out).mono ?_
              rintro e w10 ⟨a10, n10, c10, rfl, HN10, O10, hB⟩
              have B10 := Lib.hid hB.out
              have HB10 := Lib.hid (HB9.out.trans (hB.out.mono HB9.out.size))
              have HE10 := Lib.hid O10.out.els
              clear hB
              have hs10 : w9.heap.size ≤ w10.heap.size := B10.out.size
              have O6d := Lib.hid (O6c.out.below B10.out)
              go_wp2_with fail
              refine (K6.out _ _ _ HE10.out O6d.out.els).mono ?_
              rintro e w11 ⟨rfl, hB⟩
              have B11 := Lib.hid hB
              have HB11 := Lib.hid (HB10.out.trans (hB.mono HB10.out.size))
              clear hB
              have hs11 : w10.heap.size ≤ w11.heap.size := B11.out.size
              have HE6e := Lib.hid (O6d.out.below B11.out).els
              go_wp2_with (at_builtin; refine push_all rfl _ _ 24 rfl .u8 5 1 Try.underlying24 HI.out (by decide) w11.heap.size _ [] _ L rfl rfl (own_empty w11 _) (HE6e.out.below ((Below.refl _ w11).alloc (Nat.le_refl _) _)) (by simp) (by have := HLL.out; simp; omega) ?_; intro a12 n12 c12 w12 HN12 O12 hB12)
              have B12 := Lib.hid (below_new' hB12.out)
              have HB12 := Lib.hid (HB11.out.trans (B12.out.mono HB11.out.size))
              have hs12 : w11.heap.size ≤ w12.heap.size := B12.out.size
              have hn12 : n12 ≤ 1000 := by have h1 := HN12.out; have h2 := HLL.out; simp at h1; omega
              rw [List.nil_append] at O12
              clear hB12
              have HE12 := Lib.hid O12.out.els
              refine (K7.out _ _ HE12.out).mono ?_
              rintro e w13 ⟨p13, d13, rfl, hp13, hd13, hl13, R13, B13⟩
              have hs13 : w12.heap.size ≤ w13.heap.size := B13.out.size
              have HB13 := Lib.hid (HB12.out.trans (B13.out.mono HB12.out.size))
              have hp13l := R13.out.lt
              have O12b := Lib.hid (O12.out.below B13.out)
              have hn12b : Hid (n12 = L.length) := by show n12 = L.length; have := HN12.out; simpa using this
              have hg12 := Lib.hid (own_lt O12.out)
              go_wp2_with fail
              go_loopw [15] (fun v wr => ∃ k : Nat, k ≤ n12 ∧ v = .int .i64 k ∧ Hid (Fill .u8 5 w11.heap.size (.slice a12 n12 c12) n12 w13 wr)) (fun v _ => n12 - (intOf v).toNat)
              case atStart => exact ⟨0, Nat.zero_le _, rfl, Fill.start O12b.out hn12b.out⟩
              case round =>
                obtain ⟨k12, hk12, rfl, hF⟩ := hrel
                by_cases hlt : k12 < n12
                · obtain ⟨g, x, rfl, hcx, hfx, hN⟩ := hF.out.at k12 hlt
                  go_wp2_with fail
                  go_roundw
                  case rel => exact ⟨k12 + 1, by omega, by go_num, hN.out _⟩
                  case measure => simp [intOf]; omega
                · obtain ⟨w14, rfl⟩ : ∃ w14, w14 = wr := ⟨_, rfl⟩
                  have G14 : Hid (w13.grownBy w14 (Value.slice a12 n12 c12).ownBlock) := by obtain ⟨ys, _, _, hG⟩ := hF.out; exact hG
                  have hge12 : n12 ≤ k12 := by omega
                  have hs14 : w13.heap.size ≤ w14.heap.size := G14.out.size
                  have HB14 := Lib.hid (HB13.out.trans ((Below.refl _ w13).grown G14.out (by omega) fun g hg => by have := hg12.out g hg; omega))
                  have R14 := Lib.hid (R13.out.kept hp13 hd13 (Kept.fill G14.out (Nat.le_refl _) fun g hg => .inl (by have := hg12.out g hg; omega)))
                  clear hF hlt
                  go_wp2_with fail
                  refine (K8.out _ _ _ R14.out).mono ?_
                  rintro e w15 ⟨a15, n15, c15, rfl, HN15, O15, R15, G15⟩
                  have hs15 : w14.heap.size ≤ w15.heap.size := G15.out.size
                  have HB15 := Lib.hid (HB14.out.trans (grown_to G15.out (by omega) HB14.out.size))
                  have hn15 : n15 ≤ 30 := by rw [HN15.out]; exact HL0.out
                  have hg15 := Lib.hid (own_lt O15.out)
                  go_wp2_with fail
                  go_loopw [17] (fun v wr => ∃ k : Nat, k ≤ n15 ∧ v = .int .i64 k ∧ Hid (Fill .u8 5 w14.heap.size (.slice a15 n15 c15) n15 w15 wr)) (fun v _ => n15 - (intOf v).toNat)
                  case atStart => exact ⟨0, Nat.zero_le _, rfl, Fill.start O15.out HN15.out⟩
                  case round =>
                    obtain ⟨k15, hk15, rfl, hF⟩ := hrel
                    by_cases hlt : k15 < n15
                    · obtain ⟨g, x, rfl, hcx, hfx, hN⟩ := hF.out.at k15 hlt
                      go_wp2_with fail
                      go_roundw
                      case rel => exact ⟨k15 + 1, by omega, by go_num, hN.out _⟩
                      case measure => simp [intOf]; omega
                    · obtain ⟨w16, rfl⟩ : ∃ w16, w16 = wr := ⟨_, rfl⟩
                      have G16 : Hid (w15.grownBy w16 (Value.slice a15 n15 c15).ownBlock) := by obtain ⟨ys, _, _, hG⟩ := hF.out; exact hG
                      have hge15 : n15 ≤ k15 := by omega
                      have hs16 : w15.heap.size ≤ w16.heap.size := G16.out.size
                      have HB16 := Lib.hid (HB15.out.trans ((Below.refl _ w15).grown G16.out (by omega) fun g hg => by have := hg15.out g hg; omega))
                      have R16 := Lib.hid (R15.out.keep G16.out.size (G16.out.block _ (by omega) (fun hg => by have := hg15.out _ hg.symm; omega)) (fun hd => G16.out.block _ (by omega) (fun hg => by have := hg15.out _ hg.symm; omega)))
                      clear hF hlt
                      go_wp2_with fail
                      refine (K9.out _ _ _ R16.out (by omega)).mono ?_
                      rintro e w17 ⟨a17, n17, c17, rfl, HN17, O17, R17, G17⟩
                      have HB17 := Lib.hid (HB16.out.trans (grown_to G17.out (by omega) HB16.out.size))
                      go_wp2_with fail
                      refine (K2.out _ HB17.out).mono ?_
                      rintro e w18 ⟨a18, n18, c18, rfl, HN18, O18, hB⟩
                      have B18 := Lib.hid hB.out
                      have HB18 := Lib.hid (HB17.out.trans (hB.out.mono HB17.out.size))
                      have HE18 := Lib.hid O18.out.els
                      clear hB
                      have HE17 := Lib.hid (O17.out.els.below B18.out)
                      go_wp2_with fail
                      refine (K10.out _ _ _ HE17.out HE18.out).mono ?_
                      rintro e w19 ⟨rfl, hB⟩
                      have B19 := Lib.hid hB
                      have HB19 := Lib.hid (HB18.out.trans (hB.mono HB18.out.size))
                      clear hB
                      have R19 := Lib.hid ((R17.out.below B18.out).below B19.out)
                      go_wp2_with fail
                      refine (K11.out _ _ _ R19.out).mono ?_
                      rintro e w' ⟨rfl, rfl⟩
                      go_wp2_with fail
                      refine (lives_any _).mono ?_
                      rintro e w20 ⟨rfl, hB⟩
                      have B20 := Lib.hid hB
                      have HB20 := Lib.hid (HB19.out.trans (hB.mono HB19.out.size))
                      clear hB
                      go_wp2_with fail
                      go_ret
                      exact ⟨rfl, HB20.out⟩

end Go.Proofs.Ytgipfbmomhlcjaa
