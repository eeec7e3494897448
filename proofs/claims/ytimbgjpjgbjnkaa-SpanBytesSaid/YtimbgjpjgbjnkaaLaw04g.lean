/- The law SpanBytes. -/
import Derived.Test.YtimbgjpjgbjnkaaNew6
import Derived.Test.YtimbgjpjgbjnkaaBb
import Derived.Test.YtimbgjpjgbjnkaaBc
import Derived.Test.YtimbgjpjgbjnkaaStp
import Derived.Test.YtimbgjpjgbjnkaaGbGc
import Derived.Test.YtimbgjpjgbjnkaaLaw04c
namespace Go.Proofs.Ytimbgjpjgbjnkaa
open Go.RowKit Go.Shelf

/-- A new slice of three slices. -/
theorem LEls.new3 {w : World} {v0 v1 v2 : Value} {x0 x1 x2 : List Iv} (h0 : REls RIv w v0 x0) (h1 : REls RIv w v1 x1) (h2 : REls RIv w v2 x2) (T : TypeId) :
    LEls (w.alloc (.cells #[v0, v1, v2] T)) (.slice (some ⟨w.heap.size, 0, none⟩) 3 3) [x0, x1, x2] := by
  have hX := BoxL.made w #[v0, v1, v2] T
  have hB : Below w.heap.size w (w.alloc (.cells #[v0, v1, v2] T)) := (Below.refl _ _).alloc (Nat.le_refl _) _
  refine ⟨w.heap.size, 3, rfl, Nat.le_refl _, by simp, fun j zs hj => ?_⟩
  match j with
  | 0 =>
    simp at hj
    subst hj
    exact ⟨v0, (hX.2 0 v0 rfl).1, h0.below hB⟩
  | 1 =>
    simp at hj
    subst hj
    exact ⟨v1, (hX.2 1 v1 rfl).1, h1.below hB⟩
  | 2 =>
    simp at hj
    subst hj
    exact ⟨v2, (hX.2 2 v2 rfl).1, h2.below hB⟩
  | j + 3 => simp at hj

/-- What Decode of a list's encoding leaves. -/
def DecS (xs : List Iv) (w : World) (e : Ending) (w' : World) : Prop := ∃ (da : Option Addr) (dn dc : Nat) (er : Int), e = .returned (.tuple #[.slice da dn dc, .int .i64 er]) ∧ Hid (Below w.heap.size w w') ∧ Hid ((validL xs = 0 ∧ er = 0 ∧ REls RIv w' (.slice da dn dc) xs) ∨ (validL xs ≠ 0 ∧ er = 2 ∧ da = none ∧ dn = 0 ∧ dc = 0))

theorem sdecode_self (sv : Value) (xs : List Iv) (w : World) (hl : Els .u8 w sv (encS xs)) (h : ∀ x ∈ xs, x.wf) (hlen : xs.length ≤ 1000) : Calls Try.prog 37 #[sv] w (DecS xs w) :=
  (sdecode_any sv _ w hl (encS_byt xs) (by have := encS_len h (by omega); omega)).mono fun e w' hp => by
    rw [decS_self h (by omega)] at hp
    rcases hp with ⟨ys, a, n, c, hd, he, hE, hB⟩ | ⟨hd, he, hB⟩
    · split at hd
      · next hv =>
        injection hd with hd
        subst hd
        exact ⟨a, n, c, 0, he, hB, Lib.hid (.inl ⟨hv, rfl, hE.out⟩)⟩
      · cases hd
    · split at hd
      · cases hd
      · next hv => exact ⟨none, 0, 0, 2, he, hB, Lib.hid (.inr ⟨hv, rfl, rfl, rfl, rfl⟩)⟩

/-- A slice of good bytes, made since a world. -/
def CutL (W : World) (v : Value) (wx : World) : Prop := ∃ a n c, v = .slice a n c ∧ Hid (GoodB wx (.slice a n c)) ∧ Hid (Since W wx)

theorem els_pre {k : IntKind} {w : World} {a : Option Addr} {n c m : Nat} {zs : List Int} (h : Els k w (.slice a n c) zs) (hm : m ≤ n) : Els k w (.slice a m c) (zs.take m) := by
  have hn := h.len
  rcases h with ⟨he, hz⟩ | ⟨b', off', cap, hb, he, hl, hc⟩
  · subst hz
    have : n = 0 := by simpa using hn
    subst this
    have : m = 0 := by omega
    subst this
    exact .inl ⟨he, rfl⟩
  · cases he
    refine .inr ⟨b', off', c, hb, ?_, ?_, fun j hj => ?_⟩
    · rw [List.length_take, Nat.min_eq_left (by omega)]
    · rw [List.length_take]; omega
    · rw [List.length_take] at hj
      rw [hc j (by omega), List.getElem?_take_of_lt (by omega)]

set_option maxHeartbeats 16000000 in
set_option maxRecDepth 100000 in
theorem law_bytes4 (a0 : Option Addr) (len0 cap0 : Nat) (z0 : List Int) (a1 a2 a3 : Int) (a4 : Option Addr) (len4 cap4 : Nat) (z4 : List Int) (a5 : Int) (w : World) (w0 : Came .i64 w a0 len0 cap0 z0) (w1 : (Lit.int .i64 a1).wf = true) (w2 : (Lit.int .i64 a2).wf = true) (w3 : (Lit.int .i64 a3).wf = true) (w4 : Came .u8 w a4 len4 cap4 z4) (w5 : (Lit.int .u8 a5).wf = true) :
    Calls Try.prog 8 #[.slice a0 len0 cap0, .int .i64 a1, .int .i64 a2, .int .i64 a3, .slice a4 len4 cap4, .int .u8 a5] w fun e w' => e = .returned (.bool true) ∧ Below w.heap.size w w' := by
  have KS := Lib.hid fun W (hB : Below w.heap.size w W) => set_any a0 len0 cap0 (z0.take len0) 5 W (w0.els.below hB) (came_wfs4 w0) (by decide)
  obtain ⟨m, hm⟩ : ∃ m : Nat, aroundI a3 3 = (m : Int) := ⟨(aroundI a3 3).toNat, by have := aroundI_range a3 3 (by decide); omega⟩
  have hm3 : m < 3 := by have := aroundI_range a3 3 (by decide); omega
  have KA := Lib.hid fun W => around_any a3 3 W (by decide) (by decide) w3
  rw [hm] at KA
  have KSQ := Lib.hid fun (sv : Value) (L : List Iv) W (h : REls RIv W sv L) (hwf : ∀ x ∈ L, x.wf) (hl : L.length ≤ 100) => spoilt_any sv L a1 a2 W h hwf (by omega) w1 w2
  obtain ⟨M, hM⟩ : ∃ M : Nat, 31 + (m : Int) = (M : Int) := ⟨31 + m, by omega⟩
  have hM34 : M ≤ 34 := by omega
  have n1 : IntKind.i64.wrap (31 + (m : Int)) = (M : Int) := by rw [hM]; exact IntWalk.i64_in _ (by omega)
  have KM := Lib.hid fun W => many_any M 7 W (by omega) (by omega)
  have HWM := Lib.hid (many_wf (z := 7) (n := M) (by omega) (by omega))
  have HML : Hid ((manyL 7 M).length = M) := Lib.hid (manyL_len _ _)
  have kar := fun (n : Int) (W : World) (h1 : 1 ≤ n) (h2 : n ≤ 1000) => around_any a1 n W h1 (by omega) w1
  have KAR := Lib.hid kar
  have ha5 := u8_of_wf w5
  have HRAW := Lib.hid w4.els
  have HI := Lib.hid Try.infoU8
  have hrc : len4 ≤ cap4 ∧ cap4 ≤ maxLen := by
    rcases w4 with ⟨_, h1, h2, _⟩ | ⟨_, _, h1, h2, _⟩
    · unfold maxLen; omega
    · exact ⟨h1, h2⟩
  unfold maxLen at hrc
  obtain ⟨hrc1, hrc2⟩ := hrc
  have HRBY := Lib.hid (w4.byt.take len4)
  have HB0 : Hid (Below w.heap.size w w) := Lib.hid (Below.refl _ _)
  clear w0 w1 w2 w3 w4 w5 hm hm3 kar
  generalize manyL 7 M = Y0 at *
  go_enter Try.func8, Try.ntmps8
  go_wp2_with fail
  refine (KS.out _ HB0.out).mono ?_
  rintro e W1 ⟨L, al, nl, cl, hf, hl, rfl, hE, hr⟩
  have H1 := Lib.hid (HB0.out.trans (hr.out.mono HB0.out.size))
  have RA_1 := hE
  have HFL := Lib.hid hf
  have HL5 := Lib.hid hl
  clear hr hE hf hl HB0 KS
  go_wp2_with fail
  refine (KSQ.out _ L _ RA_1.out HFL.out.wf (by have := HL5.out; omega)).mono ?_
  rintro e W5 ⟨S1, b1, l1, c1, hl1, hw1, rfl, hO1, hr⟩
  have H5 := Lib.hid (H1.out.trans (hr.out.mono H1.out.size))
  have RA_5 := Lib.hid (RA_1.out.below hr.out)
  have RS_5 := Lib.hid hO1.out.els
  have HW1 := Lib.hid hw1
  have HL1 : Hid (S1.length ≤ 100) := Lib.hid (by have := HL5.out; omega)
  clear hr hO1 hl1 hw1 RA_1 H1 KSQ
  go_wp2_with fail
  refine (KA.out _).mono ?_
  rintro e w' ⟨rfl, rfl⟩
  go_wp2_with fail
  refine (KM.out _).mono ?_
  rintro e W6 ⟨b3, l3, c3, rfl, hO3, hr⟩
  have H6 := Lib.hid (H5.out.trans (hr.out.mono H5.out.size))
  have RA_6 := Lib.hid (RA_5.out.below hr.out)
  have hLE := LEls.new3 RA_6.out (RS_5.out.below hr.out) hO3.out.els 23
  have hb7 : Below W6.heap.size W6 (W6.alloc (.cells #[.slice al nl cl, .slice b1 l1 c1, .slice b3 l3 c3] 23)) := (Below.refl _ _).alloc (Nat.le_refl _) _
  have H7 := Lib.hid (H6.out.trans (hb7.mono H6.out.size))
  have RA_7 := Lib.hid (RA_6.out.below hb7)
  have HXS : Hid (∀ xs ∈ [L, S1, Y0], (∀ x ∈ xs, x.wf) ∧ xs.length ≤ 100) := Lib.hid fun xs hx => by
    simp only [List.mem_cons, List.not_mem_nil, or_false] at hx
    rcases hx with rfl | rfl | rfl
    · exact ⟨HFL.out.wf, by have := HL5.out; omega⟩
    · exact ⟨HW1.out, HL1.out⟩
    · exact ⟨HWM.out, by rw [HML.out]; omega⟩
  have HLE := Lib.hid hLE
  have h6 : [L, S1, Y0].length = 3 := rfl
  generalize [L, S1, Y0] = XS at *
  have H6L := Lib.hid h6
  have hwA : ∃ wA, wA = W6.alloc (.cells #[.slice al nl cl, .slice b1 l1 c1, .slice b3 l3 c3] 23) := ⟨_, rfl⟩
  obtain ⟨wA, hwA⟩ := hwA
  rw [← hwA] at H7 HLE RA_7
  clear hr hO3 hLE RA_5 RS_5 RA_6 H5 H6 HW1 HWM HML HL1 h6 KA KM hb7 hM hM34 n1
  go_upto_region 3 with (fail)
  rw [← hwA]
  generalize W6.heap.size = b at *
  clear hwA
  go_wp2
  go_loopw [15] (fun x wr => ∃ i : Nat, i ≤ 3 ∧ x = .int .i64 i ∧ Hid (Since wA wr)) (fun x _ => 4 - (intOf x).toNat)
  case atStart => exact ⟨0, by omega, rfl, Below.refl _ _⟩
  case round =>
    obtain ⟨i, hi, rfl, hS⟩ := hrel
    by_cases hlt : i < 3
    · obtain ⟨xs, hx⟩ : ∃ xs, XS[i]? = some xs := ⟨_, List.getElem?_eq_getElem (by rw [H6L.out]; exact hlt)⟩
      obtain ⟨hwf, hlen⟩ := HXS.out xs (List.mem_of_getElem? hx)
      obtain ⟨vi, s1, hv⟩ := lels_at HLE.out hx
      have t1 := Since.cell hS.out s1
      have hV := hv.below hS.out
      have hel := encS_len hwf (by omega)
      have k6 := bencode_any vi xs wr hV hwf (by omega)
      have k7 := fun (sv : Value) W (h : Els .u8 W sv (encS xs)) => sdecode_self sv xs W h hwf (by omega)
      have k8 := fun (sv : Value) W (h : Els .u8 W sv (encS xs)) => rread_any sv (encS xs) W (by omega) h
      have k9 := fun W (h : Since wr W) => gencode_any vi xs W (hV.below h) hwf (by omega)
      have k10 := fun p d W (h : Rd p d W (encS xs) 0) => rint_any p d (encS xs) 0 W h (encS_byt xs) (by omega)
      simp only [rU_encS (show xs.length ≤ 1000000 by omega), Hm.unzig_zig] at k10
      have k11 := fun W (h : Since wr W) => gvalid_any vi xs W (hV.below h) (by omega)
      have k12 := fun (a : Option Addr) (n c : Nat) W (h : REls RIv W (.slice a n c) xs) (h2 : Since wr W) => (gequal_any (.slice a n c) vi xs xs W h (hV.below h2) (by omega)).mono (R' := fun e w' => e = .returned (.bool true) ∧ Below W.heap.size W w') fun e w' hq => ⟨hq.1.trans (ret_bool (decide_eq_true rfl)), hq.2⟩
      obtain ⟨av, cv, hvs⟩ := hV.shape
      subst hvs
      have i1 : (i : Int) < 3 := by omega
      have hnn : ((xs.length : Int) != (xs.length : Int)) = false := bne_self_eq_false _
      unfold DecS at k7
      generalize hsb : strOfNums (encS xs) = sb at *
      have HCV := Lib.hid fun (a : Option Addr) (n c : Nat) W (h : Els .u8 W (.slice a n c) (encS xs)) => (by rw [conv8 h, hsb] : (convert 58 9 (.slice a n c)).run Try.prog W = .ok (.string sb) W)
      generalize validL xs = V at *
      generalize encS xs = EN at *
      generalize ivC.encL xs = EL at *
      generalize xs.length = nx at *
      have K6 := Lib.hid k6
      have K7 := Lib.hid k7
      have K8 := Lib.hid k8
      have K9 := Lib.hid k9
      have K10 := Lib.hid k10
      have K11 := Lib.hid k11
      have K12 := Lib.hid k12
      have HT1 := Lib.hid t1
      clear hsb k6 k7 k8 k9 k10 k11 k12 hv hV hx hwf hlen s1 t1 hel
      have t1 := HT1.out
      go_wp2_with fail
      refine (K6.out).mono ?_
      rintro e w2 ⟨ab, nb, cb, rfl, hn2, hO2, hB2⟩
      have HE2 := Lib.hid hO2.out.els
      have HS2 : Hid (Since wr w2) := Lib.hid hB2.out
      clear t1 hn2 hO2 hB2 K6
      go_wp2_with fail
      refine (K7.out _ _ HE2.out).mono ?_
      rintro e w3 ⟨da, dn, dc, er, rfl, hB3, hcase⟩
      have HE3 := Lib.hid (HE2.out.below hB3.out)
      have HS3 : Hid (Since wr w3) := Lib.hid (Since.step HS2.out hB3.out)
      clear HE2 HS2 hB3 K7
      go_wp2_with fail
      refine (K8.out _ _ HE3.out).mono ?_
      rintro e w4 ⟨p, d, rfl, hp, hd, hdl, HR4, HB4⟩
      have HE4 := Lib.hid (HE3.out.below HB4.out)
      have hB34 : Since w3 w4 := HB4.out
      have t1 := Since.cell (Since.step HS3.out hB34) HT1.out
      have hcv := HCV.out ab nb cb
      have hcv4 := hcv w4 HE4.out
      have HB34 := Lib.hid hB34
      clear K8 hB34
      go_upto_region 9 with (fail)
      go_cut [78] (fun s wx => s = .bool false ∧ Hid (Since w3 wx))
      case first =>
        have hSd : Since w3 w4.drew := Below.drew HB34.out
        have hcvd : (convert 58 9 (.slice ab nb cb)).run Try.prog w4.drew = .ok (.string sb) w4.drew := hcv w4.drew (HE4.out.below (Below.drew (Below.refl _ _)))
        refine wp_region_noPanic ?_
        refine wp_region_held_drew (S := fun w' => w'.cell? ⟨b, i, none⟩ = some (.slice av nx cv) ∧ (convert 58 9 (.slice ab nb cb)).run Try.prog w' = .ok (.string sb) w' ∧ Since w3 w') (by kernel_rfl) ⟨Since.cell (Since.step HS3.out hSd) HT1.out, hcvd, hSd⟩ (fun hHeld => ?_)
        refine wpAnyH_take (i := 0) (oi := { dst := some 56, op := Op.move (Operand.tmp 16), type := 58, pos := _, after := #[], guard := none }) (v := ?_) rfl (by kernel_rfl) (by kernel_rfl) (by kernel_rfl) (fun _ _ _ h => h) (Or.inl ⟨by rfl, ?_⟩) (by assumption) ?_
        rotate_left 1
        · (intro w hSw; (try dsimp only at hSw); go_simp; first | done | with_reducible rfl)
        try simp only [Act.put, List.setIfInBounds_toArray, List.set_cons_zero, List.set_cons_succ]
        refine wpAnyH_take (i := 1) (oi := { dst := some 57, op := Op.convert 58 9 (Operand.tmp 56), type := 9, pos := _, after := #[{ on := 0, ground := Ground.data }], guard := none }) (v := ?_) rfl (by kernel_rfl) (by kernel_rfl) (by kernel_rfl) (fun _ _ _ h => h) (Or.inl ⟨by rfl, ?_⟩) (by assumption) ?_
        rotate_left 1
        · (intro w hSw; (try dsimp only at hSw); go_simp; first | done | with_reducible rfl)
        try simp only [Act.put, List.setIfInBounds_toArray, List.set_cons_zero, List.set_cons_succ]
        refine wpAnyH_take (i := 2) (oi := { dst := some 58, op := Op.move (Operand.tmp 14), type := 33, pos := _, after := #[], guard := none }) (v := ?_) rfl (by kernel_rfl) (by kernel_rfl) (by kernel_rfl) (fun _ _ _ h => h) (Or.inl ⟨by rfl, ?_⟩) (by assumption) ?_
        rotate_left 1
        · (intro w hSw; (try dsimp only at hSw); go_simp; first | done | with_reducible rfl)
        try simp only [Act.put, List.setIfInBounds_toArray, List.set_cons_zero, List.set_cons_succ]
        refine wpAnyH_take (i := 3) (oi := { dst := some 59, op := Op.move (Operand.tmp 15), type := 3, pos := _, after := #[], guard := none }) (v := ?_) rfl (by kernel_rfl) (by kernel_rfl) (by kernel_rfl) (fun _ _ _ h => h) (Or.inl ⟨by rfl, ?_⟩) (by assumption) ?_
        rotate_left 1
        · (intro w hSw; (try dsimp only at hSw); go_simp; first | done | with_reducible rfl)
        try simp only [Act.put, List.setIfInBounds_toArray, List.set_cons_zero, List.set_cons_succ]
        refine wpAnyH_take (i := 4) (oi := { dst := some 60, op := Op.indexAddr 33 (Operand.tmp 58) (Operand.tmp 59), type := 0, pos := _, after := #[{ on := 2, ground := Ground.data }, { on := 3, ground := Ground.data }], guard := none }) (v := ?_) rfl (by kernel_rfl) (by kernel_rfl) (by kernel_rfl) (fun _ _ _ h => h) (Or.inl ⟨by rfl, ?_⟩) (by assumption) ?_
        rotate_left 1
        · (intro w hSw; (try dsimp only at hSw); go_simp; first | done | with_reducible rfl)
        try simp only [Act.put, List.setIfInBounds_toArray, List.set_cons_zero, List.set_cons_succ]
        refine wpAnyH_take (i := 5) (oi := { dst := some 61, op := Op.load 23 (Operand.tmp 60), type := 23, pos := _, after := #[{ on := 4, ground := Ground.data }], guard := none }) (v := ?_) rfl (by kernel_rfl) (by kernel_rfl) (by kernel_rfl) (fun _ _ _ h => h) (Or.inl ⟨by rfl, ?_⟩) (by assumption) ?_
        rotate_left 1
        · (intro w hSw; (try dsimp only at hSw); go_simp; first | done | with_reducible rfl)
        try simp only [Act.put, List.setIfInBounds_toArray, List.set_cons_zero, List.set_cons_succ]
        refine wpAnyH_ready (rs := [6]) (by kernel_rfl) (by simp) ?_
        refine AllReadyH.cons (o := { dst := some 62, op := Op.call { callee := Callee.value (Operand.func 39), args := #[Operand.tmp 61], argTypes := #[23] }, type := 58, pos := _, after := #[{ on := 5, ground := Ground.data }], guard := none }) rfl (fun K hK => ?_) AllReadyH.nil
        go_simp
        go_at_call 39
        refine (K9.out _ (Since.step HS3.out hSd)).mono ?_
        rintro e w5 ⟨a5, n5, c5, rfl, HN5, O5, B5⟩
        have hB := Since.step hSd B5.out
        have hcv5 := HCV.out a5 n5 c5 _ O5.out.els
        have HR5 := Lib.hid (HR4.out.below (((Below.refl _ _).drew).trans B5.out))
        go_wp2_with fail
        refine hK.out _ _ ?_ (fun hHeld => ?_)
        · exact ⟨Since.cell (Since.step HS3.out hB) HT1.out, HCV.out ab nb cb _ (HE3.out.below hB), hB⟩
        clear hK K
        try simp only [Act.put, List.setIfInBounds_toArray, List.set_cons_zero, List.set_cons_succ]
        refine wpAnyH_ready (rs := [7]) (by kernel_rfl) (by simp) ?_
        refine AllReadyH.cons (o := { dst := some 63, op := Op.convert 58 9 (Operand.tmp 62), type := 9, pos := _, after := #[{ on := 6, ground := Ground.data }], guard := none }) rfl (fun K hK => ?_) AllReadyH.nil
        go_simp
        refine hK.out _ _ ?_ (fun hHeld => ?_)
        · exact ⟨Since.cell (Since.step HS3.out hB) HT1.out, HCV.out ab nb cb _ (HE3.out.below hB), hB⟩
        clear hK K hcv5
        try simp only [Act.put, List.setIfInBounds_toArray, List.set_cons_zero, List.set_cons_succ]
        refine wpAnyH_take (i := 8) (oi := { dst := some 64, op := Op.binOp BinOp.neq 9 (Operand.tmp 57) (Operand.tmp 63) 9, type := 4, pos := _, after := #[{ on := 1, ground := Ground.data }, { on := 7, ground := Ground.data }], guard := none }) (v := ?_) rfl (by kernel_rfl) (by kernel_rfl) (by kernel_rfl) (fun _ _ _ h => h) (Or.inl ⟨by rfl, ?_⟩) (by assumption) ?_
        rotate_left 1
        · (intro w hSw; (try dsimp only at hSw); go_simp; first | done | with_reducible rfl)
        try simp only [Act.put, List.setIfInBounds_toArray, List.set_cons_zero, List.set_cons_succ]
        refine wpAnyH_take (i := 9) (oi := { dst := some 65, op := Op.move (Operand.tmp 64), type := 4, pos := _, after := #[{ on := 8, ground := Ground.data }, { on := 6, ground := Ground.chain }], guard := none }) (v := ?_) rfl (by kernel_rfl) (by kernel_rfl) (by kernel_rfl) (fun _ _ _ h => h) (Or.inl ⟨by rfl, ?_⟩) (by assumption) ?_
        rotate_left 1
        · (intro w hSw; (try dsimp only at hSw); go_simp; first | done | with_reducible rfl)
        try simp only [Act.put, List.setIfInBounds_toArray, List.set_cons_zero, List.set_cons_succ]
        refine wpAnyH_take (i := 10) (oi := { dst := some 66, op := Op.move (Operand.tmp 19), type := 61, pos := _, after := #[{ on := 9, ground := Ground.guard }], guard := some (9, false) }) (v := ?_) rfl (by kernel_rfl) (by kernel_rfl) (by kernel_rfl) (fun _ _ _ h => h) (Or.inl ⟨by rfl, ?_⟩) (by assumption) ?_
        rotate_left 1
        · (intro w hSw; (try dsimp only at hSw); go_simp; first | done | with_reducible rfl)
        try simp only [Act.put, List.setIfInBounds_toArray, List.set_cons_zero, List.set_cons_succ]
        refine wpAnyH_take (i := 11) (oi := { dst := some 67, op := Op.binOp BinOp.eql 61 (Operand.tmp 66) (Operand.const (Value.pointer none)) 61, type := 4, pos := _, after := #[{ on := 10, ground := Ground.data }, { on := 9, ground := Ground.guard }], guard := some (9, false) }) (v := ?_) rfl (by kernel_rfl) (by kernel_rfl) (by kernel_rfl) (fun _ _ _ h => h) (Or.inl ⟨by rfl, ?_⟩) (by assumption) ?_
        rotate_left 1
        · (intro w hSw; (try dsimp only at hSw); go_simp; first | done | with_reducible rfl)
        try simp only [Act.put, List.setIfInBounds_toArray, List.set_cons_zero, List.set_cons_succ]
        refine wpAnyH_take (i := 12) (oi := { dst := some 68, op := Op.pick (Operand.tmp 65) (Operand.const (Value.bool true)) (Operand.tmp 67), type := 4, pos := _, after := #[{ on := 9, ground := Ground.data }, { on := 11, ground := Ground.data }], guard := none }) (v := ?_) rfl (by kernel_rfl) (by kernel_rfl) (by kernel_rfl) (fun _ _ _ h => h) (Or.inl ⟨by rfl, ?_⟩) (by assumption) ?_
        rotate_left 1
        · (intro w hSw; (try dsimp only at hSw); go_simp; first | done | with_reducible rfl)
        try simp only [Act.put, List.setIfInBounds_toArray, List.set_cons_zero, List.set_cons_succ]
        refine wpAnyH_take (i := 13) (oi := { dst := some 69, op := Op.move (Operand.tmp 68), type := 4, pos := _, after := #[{ on := 12, ground := Ground.data }, { on := 9, ground := Ground.chain }], guard := none }) (v := ?_) rfl (by kernel_rfl) (by kernel_rfl) (by kernel_rfl) (fun _ _ _ h => h) (Or.inl ⟨by rfl, ?_⟩) (by assumption) ?_
        rotate_left 1
        · (intro w hSw; (try dsimp only at hSw); go_simp; first | done | with_reducible rfl)
        try simp only [Act.put, List.setIfInBounds_toArray, List.set_cons_zero, List.set_cons_succ]
        refine wpAnyH_take (i := 14) (oi := { dst := some 70, op := Op.move (Operand.tmp 19), type := 61, pos := _, after := #[{ on := 13, ground := Ground.guard }], guard := some (13, false) }) (v := ?_) rfl (by kernel_rfl) (by kernel_rfl) (by kernel_rfl) (fun _ _ _ h => h) (Or.inl ⟨by rfl, ?_⟩) (by assumption) ?_
        rotate_left 1
        · (intro w hSw; (try dsimp only at hSw); go_simp; first | done | with_reducible rfl)
        try simp only [Act.put, List.setIfInBounds_toArray, List.set_cons_zero, List.set_cons_succ]
        refine wpAnyH_take (i := 16) (oi := { dst := some 72, op := Op.move (Operand.tmp 14), type := 33, pos := _, after := #[{ on := 13, ground := Ground.guard }], guard := some (13, false) }) (v := ?_) rfl (by kernel_rfl) (by kernel_rfl) (by kernel_rfl) (fun _ _ _ h => h) (Or.inl ⟨by rfl, ?_⟩) (by assumption) ?_
        rotate_left 1
        · (intro w hSw; (try dsimp only at hSw); go_simp; first | done | with_reducible rfl)
        try simp only [Act.put, List.setIfInBounds_toArray, List.set_cons_zero, List.set_cons_succ]
        refine wpAnyH_take (i := 17) (oi := { dst := some 73, op := Op.move (Operand.tmp 15), type := 3, pos := _, after := #[{ on := 13, ground := Ground.guard }], guard := some (13, false) }) (v := ?_) rfl (by kernel_rfl) (by kernel_rfl) (by kernel_rfl) (fun _ _ _ h => h) (Or.inl ⟨by rfl, ?_⟩) (by assumption) ?_
        rotate_left 1
        · (intro w hSw; (try dsimp only at hSw); go_simp; first | done | with_reducible rfl)
        try simp only [Act.put, List.setIfInBounds_toArray, List.set_cons_zero, List.set_cons_succ]
        refine wpAnyH_take (i := 18) (oi := { dst := some 74, op := Op.indexAddr 33 (Operand.tmp 72) (Operand.tmp 73), type := 0, pos := _, after := #[{ on := 16, ground := Ground.data }, { on := 17, ground := Ground.data }, { on := 13, ground := Ground.guard }], guard := some (13, false) }) (v := ?_) rfl (by kernel_rfl) (by kernel_rfl) (by kernel_rfl) (fun _ _ _ h => h) (Or.inl ⟨by rfl, ?_⟩) (by assumption) ?_
        rotate_left 1
        · (intro w hSw; (try dsimp only at hSw); go_simp; first | done | with_reducible rfl)
        try simp only [Act.put, List.setIfInBounds_toArray, List.set_cons_zero, List.set_cons_succ]
        refine wpAnyH_take (i := 19) (oi := { dst := some 75, op := Op.load 23 (Operand.tmp 74), type := 23, pos := _, after := #[{ on := 18, ground := Ground.data }, { on := 13, ground := Ground.guard }], guard := some (13, false) }) (v := ?_) rfl (by kernel_rfl) (by kernel_rfl) (by kernel_rfl) (fun _ _ _ h => h) (Or.inl ⟨by rfl, ?_⟩) (by assumption) ?_
        rotate_left 1
        · (intro w hSw; (try dsimp only at hSw); go_simp; first | done | with_reducible rfl)
        try simp only [Act.put, List.setIfInBounds_toArray, List.set_cons_zero, List.set_cons_succ]
        refine wpAnyH_take (i := 20) (oi := { dst := some 76, op := Op.call { callee := Callee.builtin Builtin.len, args := #[Operand.tmp 75], argTypes := #[23] }, type := 3, pos := _, after := #[{ on := 19, ground := Ground.data }, { on := 13, ground := Ground.guard }], guard := some (13, false) }) (v := ?_) rfl (by kernel_rfl) (by kernel_rfl) (by kernel_rfl) (fun _ _ _ h => h) (Or.inl ⟨by rfl, ?_⟩) (by assumption) ?_
        rotate_left 1
        · (intro w hSw; (try dsimp only at hSw); go_simp; first | done | with_reducible rfl)
        try simp only [Act.put, List.setIfInBounds_toArray, List.set_cons_zero, List.set_cons_succ]
        refine wpAnyH_ready (rs := [15]) (by kernel_rfl) (by simp) ?_
        refine AllReadyH.cons (o := { dst := some 71, op := Op.call { callee := Callee.value (Operand.func 40), args := #[Operand.tmp 70], argTypes := #[61] }, type := 3, pos := _, after := #[{ on := 14, ground := Ground.data }, { on := 13, ground := Ground.chain }, { on := 13, ground := Ground.guard }], guard := some (13, false) }) rfl (fun K hK => ?_) AllReadyH.nil
        go_simp
        go_at_call 40
        refine (K10.out p d _ HR5.out).mono ?_
        rintro e w6 ⟨rfl, hR6, hg6⟩
        have hB := Below.trans hB (reads_below hg6 hp (Below.size hB))
        go_wp2_with fail
        refine hK.out _ _ ?_ (fun hHeld => ?_)
        · exact ⟨Since.cell (Since.step HS3.out hB) HT1.out, HCV.out ab nb cb _ (HE3.out.below hB), hB⟩
        clear hK K hR6 hg6
        try simp only [Act.put, List.setIfInBounds_toArray, List.set_cons_zero, List.set_cons_succ]
        refine wpAnyH_take (i := 21) (oi := { dst := some 77, op := Op.binOp BinOp.neq 3 (Operand.tmp 71) (Operand.tmp 76) 3, type := 4, pos := _, after := #[{ on := 15, ground := Ground.data }, { on := 20, ground := Ground.data }, { on := 13, ground := Ground.guard }], guard := some (13, false) }) (v := ?_) rfl (by kernel_rfl) (by kernel_rfl) (by kernel_rfl) (fun _ _ _ h => h) (Or.inl ⟨by rfl, ?_⟩) (by assumption) ?_
        rotate_left 1
        · (intro w hSw; (try dsimp only at hSw); go_simp; first | done | with_reducible rfl)
        try simp only [Act.put, List.setIfInBounds_toArray, List.set_cons_zero, List.set_cons_succ]
        refine wpAnyH_take (i := 22) (oi := { dst := some 78, op := Op.pick (Operand.tmp 69) (Operand.const (Value.bool true)) (Operand.tmp 77), type := 4, pos := _, after := #[{ on := 13, ground := Ground.data }, { on := 21, ground := Ground.data }], guard := none }) (v := ?_) rfl (by kernel_rfl) (by kernel_rfl) (by kernel_rfl) (fun _ _ _ h => h) (Or.inl ⟨by rfl, ?_⟩) (by assumption) ?_
        rotate_left 1
        · (intro w hSw; (try dsimp only at hSw); go_simp; first | done | with_reducible rfl)
        try simp only [Act.put, List.setIfInBounds_toArray, List.set_cons_zero, List.set_cons_succ]
        refine wpAnyH_done (by kernel_rfl) ?_ _
        refine NoPanic.normal ?_
        have HBB := Lib.hid hB
        clear hB hSd
        go_wp2_with fail
        go_meet
        exact ⟨rfl, HBB⟩
      case rest =>
      obtain ⟨rfl, hS9⟩ := hcut
      rename World => w9
      have HS9 := Lib.hid (Since.step HS3.out hS9.out)
      have hcase9 := hcase
      have t1 := Since.cell HS9.out HT1.out
      have kv := Lib.hid (K11.out w9 HS9.out)
      clear HR4 HB34 HB4 HE3 HE4 hcv hcv4 hp hd hdl K9 K10 K11 hcase
      go_wp2_with fail
      refine (kv.out).mono ?_
      rintro e w10 ⟨rfl, hr10⟩
      have HS10 := Lib.hid (Since.step HS9.out hr10)
      have hS310 := Since.step hS9.out hr10
      have t2 := Since.cell HS10.out HT1.out
      rcases hcase9.out with ⟨hv0, rfl, hEd⟩ | ⟨hv0, rfl, rfl, rfl, rfl⟩
      · subst hv0
        have ke := Lib.hid (K12.out da dn dc w10 (hEd.below hS310) HS10.out)
        clear t1 hr10 hS310 hEd hcase9 HS9 hS9 kv K12
        go_wp2_with fail
        refine (ke.out).mono ?_
        rintro e w11 ⟨rfl, hr11⟩
        have HSZ := Lib.hid (Since.step hS.out (Since.step HS10.out hr11))
        clear hr11
        go_wp2
        go_roundw
        case rel => exact ⟨i + 1, by omega, by go_num, HSZ⟩
        case measure => simp [intOf]; omega
      · have hvz : (V == 0) = false := beq_eq_false_iff_ne.2 hv0
        have HSZ := Lib.hid (Since.step hS.out HS10.out)
        clear t1 hr10 hS310 hcase9 HS9 hS9 kv K12 hv0
        go_wp2
        go_roundw
        case rel => exact ⟨i + 1, by omega, by go_num, HSZ⟩
        case measure => simp [intOf]; omega
    · have i1 : ¬ (i : Int) < 3 := by omega
      have HRA := Lib.hid (RA_7.out.below hS.out)
      have HBR := Lib.hid (H7.out.trans (Below.mono hS.out H7.out.size))
      have ke := gencode_any (.slice al nl cl) L wr HRA.out HFL.out.wf (by have := HL5.out; omega)
      have hel := encS_len HFL.out.wf (by have := HL5.out; omega)
      have hep := encS_pos L
      have heb := encS_byt L
      have hl5 := HL5.out
      have KE := Lib.hid ke
      generalize hEN : encS L = EN at *
      have HEN := Lib.hid hEN
      have HEB := Lib.hid heb
      clear HLE HXS H6L RA_7 H7 hS ke hEN heb HRA
      go_wp2_with fail
      refine (KE.out).mono ?_
      rintro e w1 ⟨ab, nb, cb, rfl, HN1, O1, B1⟩
      have hnb : nb = EN.length := HN1.out
      have hnb1 : 1 ≤ nb := by omega
      have hnb9 : nb ≤ 230 := by omega
      have HNB : Hid (nb = EN.length) := HN1
      have HB1 := Lib.hid (HBR.out.trans (B1.out.mono HBR.out.size))
      obtain ⟨bb, rfl, -, hbw, -, -⟩ := O1.out.open HN1.out (by omega)
      have E1 := Lib.hid O1.out.els
      have hcb : nb ≤ cb := by
        rcases E1.out with ⟨he, hz⟩ | ⟨b', off', cap, hb, he, hl, hc⟩
        · rw [hz] at hnb; simp at hnb; omega
        · cases he; omega
      obtain ⟨k, hk, hkn⟩ := around_nat a1 nb (by omega)
      have k16 := KAR.out (nb : Int) w1 (by omega) (by omega)
      rw [hk] at k16
      have K16 := Lib.hid k16
      have hba : Below w1.heap.size w1 (w1.alloc (.cells #[] 5)) := (Below.refl _ _).alloc (Nat.le_refl _) _
      have HO0 := Lib.hid (own_none (k := .u8) w1 5 w1.heap.size (Nat.le_refl _))
      have HE0 := Lib.hid (E1.out.below hba)
      have hsz0 : w1.heap.size ≤ (w1.alloc (.cells #[] 5)).heap.size := by simp
      have hl0 : ([] : List Int).length + EN.length ≤ 1000000000000 := by rw [← HNB.out]; simp; omega
      have hpos : ∀ n2 : Nat, n2 = ([] : List Int).length + EN.length → n2 = nb := fun n2 h => by rw [h, ← HNB.out]; simp
      have HPOS := Lib.hid hpos
      clear hk k16 HN1 O1 hba hnb hel hep hpos HBR B1 KAR
      go_wp2_with fail
      refine (K16.out).mono ?_
      rintro e w' ⟨rfl, rfl⟩
      go_wp2_with (at_builtin; refine push_all rfl _ _ 58 rfl .u8 5 1 Try.underlying58 HI.out (by decide) w1.heap.size (.slice (some ⟨w1.heap.size, 0, none⟩) 0 0) [] (.slice (some ⟨bb, 0, none⟩) nb cb) EN rfl rfl HO0.out HE0.out hsz0 hl0 ?_; intro a2 n2 c2 w2 hn2 hO2 hB2; have hn2' := HPOS.out n2 hn2.out; subst hn2'; obtain ⟨gx, rfl, hgB, hgw, hgc, hgf⟩ := hO2.out.open (by rw [hn2.out, List.length_append]) hnb1; have hci := hgc k hkn; have hfi := hgf k; have hki : (k : Int) < (n2 : Int) := by omega)
      have hzl : ([] ++ EN).length = n2 := by rw [hn2.out, List.length_append]
      have OX := Own.set hO2.out hzl.symm k a5
      have HS3 : Since w1 (w2.setCell ⟨gx, k, none⟩ (.int .u8 a5)) := Below.setCell (Below.trans ((Below.refl _ _).alloc (Nat.le_refl _) _) hB2.out) (p := ⟨gx, k, none⟩) hgB _
      have hbs : Hm.Byt (([] ++ EN).set k a5) := fun z hz => by
        rcases List.mem_or_eq_of_mem_set hz with h | h
        · exact HEB.out z (by simpa using h)
        · rw [h]; exact ha5
      have GX : GoodB (w2.setCell ⟨gx, k, none⟩ (.int .u8 a5)) (.slice (some ⟨gx, 0, none⟩) n2 c2) := ⟨_, OX.els, hbs, by rw [List.length_set, hzl]; omega⟩
      obtain ⟨w3, hw3⟩ : ∃ w3, w3 = w2.setCell ⟨gx, k, none⟩ (.int .u8 a5) := ⟨_, rfl⟩
      rw [← hw3] at HS3 GX
      have HGX := Lib.hid GX
      have EB3 := Lib.hid (E1.out.below HS3)
      have HB3 := Lib.hid (HB1.out.trans (Below.mono HS3 HB1.out.size))
      clear hzl OX hbs GX hO2 hB2 hgw hgc hci hfi hn2 HE0 HO0 hsz0 hl0 E1 hgB HPOS
      go_upto_region 21 with (fail)
      rw [← hw3]
      clear hw3 HS3
      obtain ⟨j, hj⟩ : ∃ j, k + 1 = j := ⟨_, rfl⟩
      have hjn : j ≤ n2 := by omega
      have s1 : (0 : Int) ≤ (k : Int) := by omega
      have s2 : (k : Int) ≤ (cb : Int) := by omega
      have s3 : ((k : Int)).toNat = k := by omega
      have s4 : k ≤ cb := by omega
      have s5 : IntKind.i64.wrap ((k : Int) + 1) = (j : Int) := by rw [IntWalk.i64_in _ (by omega)]; omega
      have s6 : (0 : Int) ≤ (j : Int) := by omega
      have s7 : (j : Int) ≤ (n2 : Int) := by omega
      have s8 : ((j : Int)).toNat = j := by omega
      have s9 : (n2 : Int) ≤ (cb : Int) := by omega
      have s10 : n2 ≤ cb := by omega
      have hl0 : ([] : List Int).length + (EN.take k).length ≤ 1000000000000 := by rw [List.length_take, ← HNB.out]; simp; omega
      have HK1 := Lib.hid (els_pre EB3.out (show k ≤ n2 by omega))
      have hl1 : ([] ++ EN.take k).length + (EN.drop j).length ≤ 1000000000000 := by rw [List.length_append, List.length_take, List.length_drop, ← HNB.out]; simp; omega
      have hl2 : ∀ zs : List Int, zs.length = ([] ++ EN.take k).length + (EN.drop j).length → zs.length ≤ 5000 := fun zs hz => by rw [hz, List.length_append, List.length_take, List.length_drop, ← HNB.out]; simp; omega
      have HL2 := Lib.hid hl2
      have HBL : Hid (Hm.Byt ([] ++ EN.take k ++ EN.drop j)) := Lib.hid (Hm.byt_append (Hm.byt_append Hm.byt_nil (HEB.out.take k)) (HEB.out.drop j))
      clear hl2
      go_cut [23] (fun v wx => CutL w3 v wx)
      case first =>
        have hSd : Since w3 w3.drew := Below.drew (Below.refl _ _)
        by_cases hce : cb = j
        · obtain rfl : n2 = j := by omega
          subst hce
          have HK2 : Hid (Els .u8 w3 (.slice (some ⟨bb, 0, none⟩) 0 0) (EN.drop cb)) := Lib.hid (by rw [List.drop_of_length_le (by rw [← HNB.out]; omega)]; exact .inl ⟨.inr ⟨_, _, rfl⟩, rfl⟩)
          refine wp_region_noPanic ?_
          refine wp_region_held_drew (S := fun w' => Since w3 w') (by kernel_rfl) hSd (fun hHeld => ?_)
          refine wpAnyH_take (i := 0) (oi := { dst := some 116, op := Op.move (Operand.tmp 23), type := 58, pos := _, after := #[], guard := none }) (v := ?_) rfl (by kernel_rfl) (by kernel_rfl) (by kernel_rfl) (fun _ _ _ h => h) (Or.inl ⟨by rfl, ?_⟩) (by assumption) ?_
          rotate_left 1
          · (intro w hSw; (try dsimp only at hSw); go_simp; first | done | with_reducible rfl)
          try simp only [Act.put, List.setIfInBounds_toArray, List.set_cons_zero, List.set_cons_succ]
          refine wpAnyH_take (i := 1) (oi := { dst := some 117, op := Op.move (Operand.tmp 20), type := 58, pos := _, after := #[], guard := none }) (v := ?_) rfl (by kernel_rfl) (by kernel_rfl) (by kernel_rfl) (fun _ _ _ h => h) (Or.inl ⟨by rfl, ?_⟩) (by assumption) ?_
          rotate_left 1
          · (intro w hSw; (try dsimp only at hSw); go_simp; first | done | with_reducible rfl)
          try simp only [Act.put, List.setIfInBounds_toArray, List.set_cons_zero, List.set_cons_succ]
          refine wpAnyH_take (i := 2) (oi := { dst := some 118, op := Op.move (Operand.tmp 21), type := 3, pos := _, after := #[], guard := none }) (v := ?_) rfl (by kernel_rfl) (by kernel_rfl) (by kernel_rfl) (fun _ _ _ h => h) (Or.inl ⟨by rfl, ?_⟩) (by assumption) ?_
          rotate_left 1
          · (intro w hSw; (try dsimp only at hSw); go_simp; first | done | with_reducible rfl)
          try simp only [Act.put, List.setIfInBounds_toArray, List.set_cons_zero, List.set_cons_succ]
          refine wpAnyH_take (i := 3) (oi := { dst := some 119, op := Op.slice 58 (Operand.tmp 117) none (some (Operand.tmp 118)) none, type := 58, pos := _, after := #[{ on := 1, ground := Ground.data }, { on := 2, ground := Ground.data }], guard := none }) (v := ?_) rfl (by kernel_rfl) (by kernel_rfl) (by kernel_rfl) (fun _ _ _ h => h) (Or.inl ⟨by rfl, ?_⟩) (by assumption) ?_
          rotate_left 1
          · (intro w hSw; (try dsimp only at hSw); go_simp; first | done | with_reducible rfl)
          try simp only [Act.put, List.setIfInBounds_toArray, List.set_cons_zero, List.set_cons_succ]
          refine wpAnyH_take (i := 5) (oi := { dst := some 121, op := Op.move (Operand.tmp 20), type := 58, pos := _, after := #[], guard := none }) (v := ?_) rfl (by kernel_rfl) (by kernel_rfl) (by kernel_rfl) (fun _ _ _ h => h) (Or.inl ⟨by rfl, ?_⟩) (by assumption) ?_
          rotate_left 1
          · (intro w hSw; (try dsimp only at hSw); go_simp; first | done | with_reducible rfl)
          try simp only [Act.put, List.setIfInBounds_toArray, List.set_cons_zero, List.set_cons_succ]
          refine wpAnyH_take (i := 6) (oi := { dst := some 122, op := Op.move (Operand.tmp 21), type := 3, pos := _, after := #[], guard := none }) (v := ?_) rfl (by kernel_rfl) (by kernel_rfl) (by kernel_rfl) (fun _ _ _ h => h) (Or.inl ⟨by rfl, ?_⟩) (by assumption) ?_
          rotate_left 1
          · (intro w hSw; (try dsimp only at hSw); go_simp; first | done | with_reducible rfl)
          try simp only [Act.put, List.setIfInBounds_toArray, List.set_cons_zero, List.set_cons_succ]
          refine wpAnyH_take (i := 7) (oi := { dst := some 123, op := Op.binOp BinOp.add 3 (Operand.tmp 122) (Operand.const (Value.int IntKind.i64 1)) 3, type := 3, pos := _, after := #[{ on := 6, ground := Ground.data }], guard := none }) (v := ?_) rfl (by kernel_rfl) (by kernel_rfl) (by kernel_rfl) (fun _ _ _ h => h) (Or.inl ⟨by rfl, ?_⟩) (by assumption) ?_
          rotate_left 1
          · (intro w hSw; (try dsimp only at hSw); go_simp; first | done | with_reducible rfl)
          try simp only [Act.put, List.setIfInBounds_toArray, List.set_cons_zero, List.set_cons_succ]
          refine wpAnyH_take (i := 8) (oi := { dst := some 124, op := Op.slice 58 (Operand.tmp 121) (some (Operand.tmp 123)) none none, type := 58, pos := _, after := #[{ on := 5, ground := Ground.data }, { on := 7, ground := Ground.data }], guard := none }) (v := ?_) rfl (by kernel_rfl) (by kernel_rfl) (by kernel_rfl) (fun _ _ _ h => h) (Or.inl ⟨by rfl, ?_⟩) (by assumption) ?_
          rotate_left 1
          · (intro w hSw; (try dsimp only at hSw); go_simp; first | done | with_reducible rfl)
          try simp only [Act.put, List.setIfInBounds_toArray, List.set_cons_zero, List.set_cons_succ]
          refine wpAnyH_ready (rs := [4]) (by kernel_rfl) (by simp) ?_
          refine AllReadyH.cons (o := { dst := some 120, op := Op.call { callee := Callee.builtin Builtin.append, args := #[Operand.tmp 116, Operand.tmp 119], argTypes := #[58, 58] }, type := 58, pos := _, after := #[{ on := 0, ground := Ground.data }, { on := 3, ground := Ground.data }], guard := none }) rfl (fun K hK => ?_) AllReadyH.nil
          refine wp_all rfl (.tmp 116) (.tmp 119) 58 rfl .u8 5 1 Try.underlying58 HI.out (by decide) w3.heap.size (.slice none 0 0) [] (.slice (some ⟨bb, 0, none⟩) k cb) (EN.take k) rfl rfl (World.ownsRow_nil _ _ _ _) (HK1.out.below hSd) (Below.size hSd) hl0 ?_
          intro a4' n4 c4 w4 hn4 hO4 hB4
          have hS4 : Since w3 w4 := Below.trans hSd hB4.out
          refine hK.out _ _ ?_ (fun hHeld => ?_)
          · exact hS4
          clear hK K
          try simp only [Act.put, List.setIfInBounds_toArray, List.set_cons_zero, List.set_cons_succ]
          refine wpAnyH_ready (rs := [9]) (by kernel_rfl) (by simp) ?_
          refine AllReadyH.cons (o := { dst := some 125, op := Op.call { callee := Callee.builtin Builtin.append, args := #[Operand.tmp 120, Operand.tmp 124], argTypes := #[58, 58] }, type := 58, pos := _, after := #[{ on := 4, ground := Ground.data }, { on := 8, ground := Ground.data }, { on := 4, ground := Ground.chain }], guard := none }) rfl (fun K hK => ?_) AllReadyH.nil
          refine wp_all rfl (.tmp 120) (.tmp 124) 58 rfl .u8 5 1 Try.underlying58 HI.out (by decide) w3.heap.size (.slice a4' n4 c4) ([] ++ EN.take k) (.slice (some ⟨bb, 0, none⟩) 0 0) (EN.drop cb) rfl rfl hO4.out (HK2.out.below hS4) (Below.size hS4) hl1 ?_
          intro a6 n6 c6 w6 hn6 hO6 hB6
          have hS6 : Since w3 w6 := Below.trans hS4 hB6.out
          refine hK.out _ _ ?_ (fun hHeld => ?_)
          · exact hS6
          clear hK K
          try simp only [Act.put, List.setIfInBounds_toArray, List.set_cons_zero, List.set_cons_succ]
          refine wpAnyH_take (i := 10) (oi := { dst := some 23, op := Op.assign (Operand.tmp 125), type := 58, pos := _, after := #[{ on := 9, ground := Ground.data }, { on := 9, ground := Ground.chain }, { on := 0, ground := Ground.phase }, { on := 1, ground := Ground.phase }, { on := 2, ground := Ground.phase }, { on := 3, ground := Ground.phase }, { on := 4, ground := Ground.phase }, { on := 5, ground := Ground.phase }, { on := 6, ground := Ground.phase }, { on := 7, ground := Ground.phase }, { on := 8, ground := Ground.phase }, { on := 9, ground := Ground.phase }], guard := none }) (v := ?_) rfl (by kernel_rfl) (by kernel_rfl) (by kernel_rfl) (fun _ _ _ h => h) (Or.inl ⟨by rfl, ?_⟩) (by assumption) ?_
          rotate_left 1
          · (intro w hSw; (try dsimp only at hSw); go_simp; first | done | with_reducible rfl)
          try simp only [Act.put, List.setIfInBounds_toArray, List.set_cons_zero, List.set_cons_succ]
          refine wpAnyH_done (by kernel_rfl) ?_ _
          refine NoPanic.normal ?_
          go_wp2_with fail
          go_meet
          exact ⟨a6, n6, c6, rfl, Lib.hid ⟨_, hO6.out.els, HBL.out, HL2.out _ (by rw [List.length_append])⟩, Lib.hid hS6⟩
        · have hck : ¬ cb = j := hce
          have HK2 : Hid (Els .u8 w3 (.slice (some ⟨bb, j, none⟩) (n2 - j) (cb - j)) (EN.drop j)) := Lib.hid (by have := els_rest EB3.out hjn hnb1; rw [Nat.zero_add] at this; exact this)
          refine wp_region_noPanic ?_
          refine wp_region_held_drew (S := fun w' => Since w3 w') (by kernel_rfl) hSd (fun hHeld => ?_)
          refine wpAnyH_take (i := 0) (oi := { dst := some 116, op := Op.move (Operand.tmp 23), type := 58, pos := _, after := #[], guard := none }) (v := ?_) rfl (by kernel_rfl) (by kernel_rfl) (by kernel_rfl) (fun _ _ _ h => h) (Or.inl ⟨by rfl, ?_⟩) (by assumption) ?_
          rotate_left 1
          · (intro w hSw; (try dsimp only at hSw); go_simp; first | done | with_reducible rfl)
          try simp only [Act.put, List.setIfInBounds_toArray, List.set_cons_zero, List.set_cons_succ]
          refine wpAnyH_take (i := 1) (oi := { dst := some 117, op := Op.move (Operand.tmp 20), type := 58, pos := _, after := #[], guard := none }) (v := ?_) rfl (by kernel_rfl) (by kernel_rfl) (by kernel_rfl) (fun _ _ _ h => h) (Or.inl ⟨by rfl, ?_⟩) (by assumption) ?_
          rotate_left 1
          · (intro w hSw; (try dsimp only at hSw); go_simp; first | done | with_reducible rfl)
          try simp only [Act.put, List.setIfInBounds_toArray, List.set_cons_zero, List.set_cons_succ]
          refine wpAnyH_take (i := 2) (oi := { dst := some 118, op := Op.move (Operand.tmp 21), type := 3, pos := _, after := #[], guard := none }) (v := ?_) rfl (by kernel_rfl) (by kernel_rfl) (by kernel_rfl) (fun _ _ _ h => h) (Or.inl ⟨by rfl, ?_⟩) (by assumption) ?_
          rotate_left 1
          · (intro w hSw; (try dsimp only at hSw); go_simp; first | done | with_reducible rfl)
          try simp only [Act.put, List.setIfInBounds_toArray, List.set_cons_zero, List.set_cons_succ]
          refine wpAnyH_take (i := 3) (oi := { dst := some 119, op := Op.slice 58 (Operand.tmp 117) none (some (Operand.tmp 118)) none, type := 58, pos := _, after := #[{ on := 1, ground := Ground.data }, { on := 2, ground := Ground.data }], guard := none }) (v := ?_) rfl (by kernel_rfl) (by kernel_rfl) (by kernel_rfl) (fun _ _ _ h => h) (Or.inl ⟨by rfl, ?_⟩) (by assumption) ?_
          rotate_left 1
          · (intro w hSw; (try dsimp only at hSw); go_simp; first | done | with_reducible rfl)
          try simp only [Act.put, List.setIfInBounds_toArray, List.set_cons_zero, List.set_cons_succ]
          refine wpAnyH_take (i := 5) (oi := { dst := some 121, op := Op.move (Operand.tmp 20), type := 58, pos := _, after := #[], guard := none }) (v := ?_) rfl (by kernel_rfl) (by kernel_rfl) (by kernel_rfl) (fun _ _ _ h => h) (Or.inl ⟨by rfl, ?_⟩) (by assumption) ?_
          rotate_left 1
          · (intro w hSw; (try dsimp only at hSw); go_simp; first | done | with_reducible rfl)
          try simp only [Act.put, List.setIfInBounds_toArray, List.set_cons_zero, List.set_cons_succ]
          refine wpAnyH_take (i := 6) (oi := { dst := some 122, op := Op.move (Operand.tmp 21), type := 3, pos := _, after := #[], guard := none }) (v := ?_) rfl (by kernel_rfl) (by kernel_rfl) (by kernel_rfl) (fun _ _ _ h => h) (Or.inl ⟨by rfl, ?_⟩) (by assumption) ?_
          rotate_left 1
          · (intro w hSw; (try dsimp only at hSw); go_simp; first | done | with_reducible rfl)
          try simp only [Act.put, List.setIfInBounds_toArray, List.set_cons_zero, List.set_cons_succ]
          refine wpAnyH_take (i := 7) (oi := { dst := some 123, op := Op.binOp BinOp.add 3 (Operand.tmp 122) (Operand.const (Value.int IntKind.i64 1)) 3, type := 3, pos := _, after := #[{ on := 6, ground := Ground.data }], guard := none }) (v := ?_) rfl (by kernel_rfl) (by kernel_rfl) (by kernel_rfl) (fun _ _ _ h => h) (Or.inl ⟨by rfl, ?_⟩) (by assumption) ?_
          rotate_left 1
          · (intro w hSw; (try dsimp only at hSw); go_simp; first | done | with_reducible rfl)
          try simp only [Act.put, List.setIfInBounds_toArray, List.set_cons_zero, List.set_cons_succ]
          refine wpAnyH_take (i := 8) (oi := { dst := some 124, op := Op.slice 58 (Operand.tmp 121) (some (Operand.tmp 123)) none none, type := 58, pos := _, after := #[{ on := 5, ground := Ground.data }, { on := 7, ground := Ground.data }], guard := none }) (v := ?_) rfl (by kernel_rfl) (by kernel_rfl) (by kernel_rfl) (fun _ _ _ h => h) (Or.inl ⟨by rfl, ?_⟩) (by assumption) ?_
          rotate_left 1
          · (intro w hSw; (try dsimp only at hSw); go_simp; first | done | with_reducible rfl)
          try simp only [Act.put, List.setIfInBounds_toArray, List.set_cons_zero, List.set_cons_succ]
          refine wpAnyH_ready (rs := [4]) (by kernel_rfl) (by simp) ?_
          refine AllReadyH.cons (o := { dst := some 120, op := Op.call { callee := Callee.builtin Builtin.append, args := #[Operand.tmp 116, Operand.tmp 119], argTypes := #[58, 58] }, type := 58, pos := _, after := #[{ on := 0, ground := Ground.data }, { on := 3, ground := Ground.data }], guard := none }) rfl (fun K hK => ?_) AllReadyH.nil
          refine wp_all rfl (.tmp 116) (.tmp 119) 58 rfl .u8 5 1 Try.underlying58 HI.out (by decide) w3.heap.size (.slice none 0 0) [] (.slice (some ⟨bb, 0, none⟩) k cb) (EN.take k) rfl rfl (World.ownsRow_nil _ _ _ _) (HK1.out.below hSd) (Below.size hSd) hl0 ?_
          intro a4' n4 c4 w4 hn4 hO4 hB4
          have hS4 : Since w3 w4 := Below.trans hSd hB4.out
          refine hK.out _ _ ?_ (fun hHeld => ?_)
          · exact hS4
          clear hK K
          try simp only [Act.put, List.setIfInBounds_toArray, List.set_cons_zero, List.set_cons_succ]
          refine wpAnyH_ready (rs := [9]) (by kernel_rfl) (by simp) ?_
          refine AllReadyH.cons (o := { dst := some 125, op := Op.call { callee := Callee.builtin Builtin.append, args := #[Operand.tmp 120, Operand.tmp 124], argTypes := #[58, 58] }, type := 58, pos := _, after := #[{ on := 4, ground := Ground.data }, { on := 8, ground := Ground.data }, { on := 4, ground := Ground.chain }], guard := none }) rfl (fun K hK => ?_) AllReadyH.nil
          refine wp_all rfl (.tmp 120) (.tmp 124) 58 rfl .u8 5 1 Try.underlying58 HI.out (by decide) w3.heap.size (.slice a4' n4 c4) ([] ++ EN.take k) (.slice (some ⟨bb, j, none⟩) (n2 - j) (cb - j)) (EN.drop j) rfl rfl hO4.out (HK2.out.below hS4) (Below.size hS4) hl1 ?_
          intro a6 n6 c6 w6 hn6 hO6 hB6
          have hS6 : Since w3 w6 := Below.trans hS4 hB6.out
          refine hK.out _ _ ?_ (fun hHeld => ?_)
          · exact hS6
          clear hK K
          try simp only [Act.put, List.setIfInBounds_toArray, List.set_cons_zero, List.set_cons_succ]
          refine wpAnyH_take (i := 10) (oi := { dst := some 23, op := Op.assign (Operand.tmp 125), type := 58, pos := _, after := #[{ on := 9, ground := Ground.data }, { on := 9, ground := Ground.chain }, { on := 0, ground := Ground.phase }, { on := 1, ground := Ground.phase }, { on := 2, ground := Ground.phase }, { on := 3, ground := Ground.phase }, { on := 4, ground := Ground.phase }, { on := 5, ground := Ground.phase }, { on := 6, ground := Ground.phase }, { on := 7, ground := Ground.phase }, { on := 8, ground := Ground.phase }, { on := 9, ground := Ground.phase }], guard := none }) (v := ?_) rfl (by kernel_rfl) (by kernel_rfl) (by kernel_rfl) (fun _ _ _ h => h) (Or.inl ⟨by rfl, ?_⟩) (by assumption) ?_
          rotate_left 1
          · (intro w hSw; (try dsimp only at hSw); go_simp; first | done | with_reducible rfl)
          try simp only [Act.put, List.setIfInBounds_toArray, List.set_cons_zero, List.set_cons_succ]
          refine wpAnyH_done (by kernel_rfl) ?_ _
          refine NoPanic.normal ?_
          go_wp2_with fail
          go_meet
          exact ⟨a6, n6, c6, rfl, Lib.hid ⟨_, hO6.out.els, HBL.out, HL2.out _ (by rw [List.length_append])⟩, Lib.hid hS6⟩
      case rest =>
      obtain ⟨a6, n6, c6, rfl, GL, hS6⟩ := hcut
      rename World => w6
      have HS6 := Lib.hid hS6.out
      have GX6 := Lib.hid (HGX.out.below hS6.out)
      have EB6 := Lib.hid (EB3.out.below hS6.out)
      have HB6 := Lib.hid (HB3.out.trans (Below.mono hS6.out HB3.out.size))
      have HR6 := Lib.hid (HRAW.out.below HB6.out)
      obtain ⟨q, hq⟩ : ∃ q : Nat, q = min len4 60 := ⟨_, rfl⟩
      have hq1 : q ≤ len4 := by omega
      have hq2 : q ≤ 60 := by omega
      have hqv : (len4 ≤ 60 ∧ q = len4) ∨ (60 < len4 ∧ q = 60) := by omega
      have GR6 : Hid (GoodB w6 (.slice a4 q cap4)) := Lib.hid ⟨_, els_pre HR6.out hq1, HRBY.out.take q, by rw [List.length_take]; omega⟩
      have hl3 : ([] : List Int).length + EN.length ≤ 1000000000000 := by rw [← HNB.out]; simp; omega
      have hl4 : ([] ++ EN).length ≤ 10000 := by rw [List.nil_append, ← HNB.out]; omega
      have hlz : ([] ++ EN ++ [a5]).length ≤ 5000 := by rw [List.length_append, List.nil_append, ← HNB.out]; simp; omega
      have HLZ := Lib.hid hlz
      have HBZ : Hid (Hm.Byt ([] ++ EN ++ [a5])) := Lib.hid (byt_snoc (by rw [List.nil_append]; exact HEB.out) ha5)
      clear hq hS6 HGX EB3 HB3 HK1 HBL HL2 hl0 hl1 hlz s1 s2 s3 s4 s5 s6 s7 s8 HS6 HR6
      go_upto_region 22 with (fail)
      go_cut [24] (fun v wx => BTab w6 v wx)
      case first =>
        have hSd : Since w6 w6.drew := Below.drew (Below.refl _ _)
        have r1 : (0 : Int) ≤ (q : Int) := by omega
        have r2 : (q : Int) ≤ (cap4 : Int) := by omega
        have r3 : ((q : Int)).toNat = q := by omega
        have r4 : q ≤ cap4 := by omega
        have r5 : min (len4 : Int) 60 = (q : Int) := by omega
        refine wp_region_noPanic ?_
        refine wp_region_held_drew (S := fun w' => Since w6 w') (by kernel_rfl) hSd (fun hHeld => ?_)
        refine wpAnyH_take (i := 0) (oi := { dst := some 126, op := Op.move (Operand.tmp 4), type := 58, pos := _, after := #[], guard := none }) (v := ?_) rfl (by kernel_rfl) (by kernel_rfl) (by kernel_rfl) (fun _ _ _ h => h) (Or.inl ⟨by rfl, ?_⟩) (by assumption) ?_
        rotate_left 1
        · (intro w hSw; (try dsimp only at hSw); go_simp; first | done | with_reducible rfl)
        try simp only [Act.put, List.setIfInBounds_toArray, List.set_cons_zero, List.set_cons_succ]
        refine wpAnyH_take (i := 1) (oi := { dst := some 127, op := Op.move (Operand.tmp 4), type := 58, pos := _, after := #[], guard := none }) (v := ?_) rfl (by kernel_rfl) (by kernel_rfl) (by kernel_rfl) (fun _ _ _ h => h) (Or.inl ⟨by rfl, ?_⟩) (by assumption) ?_
        rotate_left 1
        · (intro w hSw; (try dsimp only at hSw); go_simp; first | done | with_reducible rfl)
        try simp only [Act.put, List.setIfInBounds_toArray, List.set_cons_zero, List.set_cons_succ]
        refine wpAnyH_take (i := 2) (oi := { dst := some 128, op := Op.call { callee := Callee.builtin Builtin.len, args := #[Operand.tmp 127], argTypes := #[58] }, type := 3, pos := _, after := #[{ on := 1, ground := Ground.data }], guard := none }) (v := ?_) rfl (by kernel_rfl) (by kernel_rfl) (by kernel_rfl) (fun _ _ _ h => h) (Or.inl ⟨by rfl, ?_⟩) (by assumption) ?_
        rotate_left 1
        · (intro w hSw; (try dsimp only at hSw); go_simp; first | done | with_reducible rfl)
        try simp only [Act.put, List.setIfInBounds_toArray, List.set_cons_zero, List.set_cons_succ]
        refine wpAnyH_take (i := 3) (oi := { dst := some 129, op := Op.call { callee := Callee.builtin Builtin.min, args := #[Operand.tmp 128, Operand.const (Value.int IntKind.i64 60)], argTypes := #[3, 3] }, type := 3, pos := _, after := #[{ on := 2, ground := Ground.data }], guard := none }) (v := ?_) rfl (by kernel_rfl) (by kernel_rfl) (by kernel_rfl) (fun _ _ _ h => h) (Or.inl ⟨by rfl, ?_⟩) (by assumption) ?_
        rotate_left 1
        · (intro w hSw; (try dsimp only at hSw); go_simp; first | done | with_reducible rfl)
        try simp only [Act.put, List.setIfInBounds_toArray, List.set_cons_zero, List.set_cons_succ]
        refine wpAnyH_take (i := 4) (oi := { dst := some 130, op := Op.slice 58 (Operand.tmp 126) none (some (Operand.tmp 129)) none, type := 58, pos := _, after := #[{ on := 0, ground := Ground.data }, { on := 3, ground := Ground.data }], guard := none }) (v := ?_) rfl (by kernel_rfl) (by kernel_rfl) (by kernel_rfl) (fun _ _ _ h => h) (Or.inl ⟨by rfl, ?_⟩) (by assumption) ?_
        rotate_left 1
        · (intro w hSw; (try dsimp only at hSw); go_simp; first | done | with_reducible rfl)
        try simp only [Act.put, List.setIfInBounds_toArray, List.set_cons_zero, List.set_cons_succ]
        refine wpAnyH_take (i := 5) (oi := { dst := some 131, op := Op.move (Operand.tmp 22), type := 58, pos := _, after := #[], guard := none }) (v := ?_) rfl (by kernel_rfl) (by kernel_rfl) (by kernel_rfl) (fun _ _ _ h => h) (Or.inl ⟨by rfl, ?_⟩) (by assumption) ?_
        rotate_left 1
        · (intro w hSw; (try dsimp only at hSw); go_simp; first | done | with_reducible rfl)
        try simp only [Act.put, List.setIfInBounds_toArray, List.set_cons_zero, List.set_cons_succ]
        refine wpAnyH_take (i := 6) (oi := { dst := some 132, op := Op.move (Operand.tmp 23), type := 58, pos := _, after := #[], guard := none }) (v := ?_) rfl (by kernel_rfl) (by kernel_rfl) (by kernel_rfl) (fun _ _ _ h => h) (Or.inl ⟨by rfl, ?_⟩) (by assumption) ?_
        rotate_left 1
        · (intro w hSw; (try dsimp only at hSw); go_simp; first | done | with_reducible rfl)
        try simp only [Act.put, List.setIfInBounds_toArray, List.set_cons_zero, List.set_cons_succ]
        refine wpAnyH_take (i := 8) (oi := { dst := some 134, op := Op.move (Operand.tmp 20), type := 58, pos := _, after := #[], guard := none }) (v := ?_) rfl (by kernel_rfl) (by kernel_rfl) (by kernel_rfl) (fun _ _ _ h => h) (Or.inl ⟨by rfl, ?_⟩) (by assumption) ?_
        rotate_left 1
        · (intro w hSw; (try dsimp only at hSw); go_simp; first | done | with_reducible rfl)
        try simp only [Act.put, List.setIfInBounds_toArray, List.set_cons_zero, List.set_cons_succ]
        refine wpAnyH_take (i := 10) (oi := { dst := some 136, op := Op.move (Operand.tmp 5), type := 5, pos := _, after := #[], guard := none }) (v := ?_) rfl (by kernel_rfl) (by kernel_rfl) (by kernel_rfl) (fun _ _ _ h => h) (Or.inl ⟨by rfl, ?_⟩) (by assumption) ?_
        rotate_left 1
        · (intro w hSw; (try dsimp only at hSw); go_simp; first | done | with_reducible rfl)
        try simp only [Act.put, List.setIfInBounds_toArray, List.set_cons_zero, List.set_cons_succ]
        refine wpAnyH_ready (rs := [7, 11]) (by kernel_rfl) (by simp) ?_
        refine AllReadyH.cons (o := { dst := some 133, op := Op.buildSlice 58 0 #[], type := 58, pos := _, after := #[], guard := none }) rfl (fun K hK => ?_) (AllReadyH.cons (o := { dst := some 137, op := Op.buildSlice 58 1 #[(0, Operand.tmp 136)], type := 58, pos := _, after := #[{ on := 10, ground := Ground.data }], guard := none }) rfl (fun K hK => ?_) AllReadyH.nil)
        · go_simp
          have hS7 : Since w6 (w6.drew.alloc (.cells #[] 5)) := Below.alloc hSd (Below.size hSd) _
          refine hK.out _ _ ?_ (fun hHeld => ?_)
          · exact hS7
          clear hK K
          try simp only [Act.put, List.setIfInBounds_toArray, List.set_cons_zero, List.set_cons_succ]
          refine wpAnyH_ready (rs := [9, 11]) (by kernel_rfl) (by simp) ?_
          refine AllReadyH.cons (o := { dst := some 135, op := Op.call { callee := Callee.builtin Builtin.append, args := #[Operand.tmp 133, Operand.tmp 134], argTypes := #[58, 58] }, type := 58, pos := _, after := #[{ on := 7, ground := Ground.data }, { on := 8, ground := Ground.data }], guard := none }) rfl (fun K hK => ?_) (AllReadyH.cons (o := { dst := some 137, op := Op.buildSlice 58 1 #[(0, Operand.tmp 136)], type := 58, pos := _, after := #[{ on := 10, ground := Ground.data }], guard := none }) rfl (fun K hK => ?_) AllReadyH.nil)
          · refine wp_all_f (.tmp 133) (.tmp 134) 58 rfl .u8 5 1 Try.underlying58 HI.out (by decide) w6.heap.size (.slice (some ⟨w6.heap.size, 0, none⟩) 0 0) [] (.slice (some ⟨bb, 0, none⟩) n2 cb) EN rfl rfl (own_at w6.drew _ _ _ rfl (Nat.le_refl _)) (EB6.out.below hS7) (Below.size hS7) hl3 ?_
            intro a9 n9 c9 w9 hn9 hO9 hB9 hK9
            have hS9 : Since w6 w9 := Below.trans hS7 hB9.out
            refine hK.out _ _ ?_ (fun hHeld => ?_)
            · exact hS9
            clear hK K
            try simp only [Act.put, List.setIfInBounds_toArray, List.set_cons_zero, List.set_cons_succ]
            refine wpAnyH_ready (rs := [11]) (by kernel_rfl) (by simp) ?_
            refine AllReadyH.cons (o := { dst := some 137, op := Op.buildSlice 58 1 #[(0, Operand.tmp 136)], type := 58, pos := _, after := #[{ on := 10, ground := Ground.data }], guard := none }) rfl (fun K hK => ?_) AllReadyH.nil
            go_simp
            have hSc : Since w6 (w9.alloc (.cells #[.int .u8 a5] 5)) := Below.alloc hS9 (Below.size hS9) _
            refine hK.out _ _ ?_ (fun hHeld => ?_)
            · exact hSc
            clear hK K
            try simp only [Act.put, List.setIfInBounds_toArray, List.set_cons_zero, List.set_cons_succ]
            have hO9x := hO9.out.below ((Below.refl w9.heap.size w9).alloc (Nat.le_refl _) (.cells #[.int .u8 a5] 5))
            refine wpAnyH_ready (rs := [12]) (by kernel_rfl) (by simp) ?_
            refine AllReadyH.cons (o := { dst := some 138, op := Op.call { callee := Callee.builtin Builtin.append, args := #[Operand.tmp 135, Operand.tmp 137], argTypes := #[58, 58] }, type := 58, pos := _, after := #[{ on := 9, ground := Ground.data }, { on := 11, ground := Ground.data }, { on := 9, ground := Ground.chain }], guard := none }) rfl (fun K hK => ?_) AllReadyH.nil
            refine wp_all rfl (.tmp 135) (.tmp 137) 58 rfl .u8 5 1 Try.underlying58 HI.out (by decide) w6.heap.size (.slice a9 n9 c9) ([] ++ EN) (.slice (some ⟨w9.heap.size, 0, none⟩) 1 1) [a5] rfl rfl hO9x (els_one w9 a5 _ _ rfl) (Below.size hSc) (by have := hl4; simp only [List.length_singleton]; omega) ?_
            intro a12 n12 c12 w12 hn12 hO12 hB12
            have hZ : Since w6 w12 := Below.trans hSc hB12.out
            refine hK.out _ _ ?_ (fun hHeld => ?_)
            · exact hZ
            clear hK K
            try simp only [Act.put, List.setIfInBounds_toArray, List.set_cons_zero, List.set_cons_succ]
            refine wpAnyH_ready (rs := [13]) (by kernel_rfl) (by simp) ?_
            refine AllReadyH.cons (o := { dst := some 139, op := Op.buildSlice 64 4 #[(0, Operand.tmp 130), (1, Operand.tmp 131), (2, Operand.tmp 132), (3, Operand.tmp 138)], type := 64, pos := _, after := #[{ on := 4, ground := Ground.data }, { on := 5, ground := Ground.data }, { on := 6, ground := Ground.data }, { on := 12, ground := Ground.data }], guard := none }) rfl (fun K hK => ?_) AllReadyH.nil
            go_simp
            refine hK.out _ _ ?_ (fun hHeld => ?_)
            · exact Below.alloc hZ (Below.size hZ) _
            clear hK K
            try simp only [Act.put, List.setIfInBounds_toArray, List.set_cons_zero, List.set_cons_succ]
            refine wpAnyH_take (i := 14) (oi := { dst := some 24, op := Op.assign (Operand.tmp 139), type := 64, pos := _, after := #[{ on := 13, ground := Ground.data }, { on := 12, ground := Ground.chain }, { on := 0, ground := Ground.phase }, { on := 1, ground := Ground.phase }, { on := 2, ground := Ground.phase }, { on := 3, ground := Ground.phase }, { on := 4, ground := Ground.phase }, { on := 5, ground := Ground.phase }, { on := 6, ground := Ground.phase }, { on := 7, ground := Ground.phase }, { on := 8, ground := Ground.phase }, { on := 9, ground := Ground.phase }, { on := 10, ground := Ground.phase }, { on := 11, ground := Ground.phase }, { on := 12, ground := Ground.phase }, { on := 13, ground := Ground.phase }], guard := none }) (v := ?_) rfl (by kernel_rfl) (by kernel_rfl) (by kernel_rfl) (fun _ _ _ h => h) (Or.inl ⟨by rfl, ?_⟩) (by assumption) ?_
            rotate_left 1
            · (intro w hSw; (try dsimp only at hSw); go_simp; first | done | with_reducible rfl)
            try simp only [Act.put, List.setIfInBounds_toArray, List.set_cons_zero, List.set_cons_succ]
            refine wpAnyH_done (by kernel_rfl) ?_ _
            refine NoPanic.normal ?_
            go_wp2_with fail
            go_meet
            exact btab_of _ hZ (GR6.out.below hZ) (GX6.out.below hZ) (GL.out.below hZ) ⟨_, hO12.out.els, HBZ.out, HLZ.out⟩ _ rfl
          · go_simp
            have hSc : Since w6 ((w6.drew.alloc (.cells #[] 5)).alloc (.cells #[.int .u8 a5] 5)) := Below.alloc hS7 (Below.size hS7) _
            refine hK.out _ _ ?_ (fun hHeld => ?_)
            · exact hSc
            clear hK K
            try simp only [Act.put, List.setIfInBounds_toArray, List.set_cons_zero, List.set_cons_succ]
            refine wpAnyH_ready (rs := [9]) (by kernel_rfl) (by simp) ?_
            refine AllReadyH.cons (o := { dst := some 135, op := Op.call { callee := Callee.builtin Builtin.append, args := #[Operand.tmp 133, Operand.tmp 134], argTypes := #[58, 58] }, type := 58, pos := _, after := #[{ on := 7, ground := Ground.data }, { on := 8, ground := Ground.data }], guard := none }) rfl (fun K hK => ?_) AllReadyH.nil
            refine wp_all_f (.tmp 133) (.tmp 134) 58 rfl .u8 5 1 Try.underlying58 HI.out (by decide) w6.heap.size (.slice (some ⟨w6.heap.size, 0, none⟩) 0 0) [] (.slice (some ⟨bb, 0, none⟩) n2 cb) EN rfl rfl ((own_at w6.drew _ _ _ rfl (Nat.le_refl _)).below ((Below.refl _ _).alloc (Nat.le_refl _) _)) (EB6.out.below hSc) (Below.size hSc) hl3 ?_
            intro a9 n9 c9 w9 hn9 hO9 hB9 hK9
            have hS9 : Since w6 w9 := Below.trans hSc hB9.out
            refine hK.out _ _ ?_ (fun hHeld => ?_)
            · exact hS9
            clear hK K
            try simp only [Act.put, List.setIfInBounds_toArray, List.set_cons_zero, List.set_cons_succ]
            have hO9x := hO9.out
            have hC9 : Els .u8 w9 (.slice (some ⟨w6.heap.size + 1, 0, none⟩) 1 1) [a5] := (els_one (w6.drew.alloc (.cells #[] 5)) a5 5 (w6.heap.size + 1) (by simp)).keepF (F := fun k => k = w6.heap.size + 1) rfl (hK9.out (fun k => k = w6.heap.size + 1) (fun k hk => by simp; omega) (fun g hg hf => by simp [Value.ownBlock] at hg; omega)).1
            refine wpAnyH_ready (rs := [12]) (by kernel_rfl) (by simp) ?_
            refine AllReadyH.cons (o := { dst := some 138, op := Op.call { callee := Callee.builtin Builtin.append, args := #[Operand.tmp 135, Operand.tmp 137], argTypes := #[58, 58] }, type := 58, pos := _, after := #[{ on := 9, ground := Ground.data }, { on := 11, ground := Ground.data }, { on := 9, ground := Ground.chain }], guard := none }) rfl (fun K hK => ?_) AllReadyH.nil
            refine wp_all rfl (.tmp 135) (.tmp 137) 58 rfl .u8 5 1 Try.underlying58 HI.out (by decide) w6.heap.size (.slice a9 n9 c9) ([] ++ EN) (.slice (some ⟨w6.heap.size + 1, 0, none⟩) 1 1) [a5] rfl rfl hO9x hC9 (Below.size hS9) (by have := hl4; simp only [List.length_singleton]; omega) ?_
            intro a12 n12 c12 w12 hn12 hO12 hB12
            have hZ : Since w6 w12 := Below.trans hS9 hB12.out
            refine hK.out _ _ ?_ (fun hHeld => ?_)
            · exact hZ
            clear hK K
            try simp only [Act.put, List.setIfInBounds_toArray, List.set_cons_zero, List.set_cons_succ]
            refine wpAnyH_ready (rs := [13]) (by kernel_rfl) (by simp) ?_
            refine AllReadyH.cons (o := { dst := some 139, op := Op.buildSlice 64 4 #[(0, Operand.tmp 130), (1, Operand.tmp 131), (2, Operand.tmp 132), (3, Operand.tmp 138)], type := 64, pos := _, after := #[{ on := 4, ground := Ground.data }, { on := 5, ground := Ground.data }, { on := 6, ground := Ground.data }, { on := 12, ground := Ground.data }], guard := none }) rfl (fun K hK => ?_) AllReadyH.nil
            go_simp
            refine hK.out _ _ ?_ (fun hHeld => ?_)
            · exact Below.alloc hZ (Below.size hZ) _
            clear hK K
            try simp only [Act.put, List.setIfInBounds_toArray, List.set_cons_zero, List.set_cons_succ]
            refine wpAnyH_take (i := 14) (oi := { dst := some 24, op := Op.assign (Operand.tmp 139), type := 64, pos := _, after := #[{ on := 13, ground := Ground.data }, { on := 12, ground := Ground.chain }, { on := 0, ground := Ground.phase }, { on := 1, ground := Ground.phase }, { on := 2, ground := Ground.phase }, { on := 3, ground := Ground.phase }, { on := 4, ground := Ground.phase }, { on := 5, ground := Ground.phase }, { on := 6, ground := Ground.phase }, { on := 7, ground := Ground.phase }, { on := 8, ground := Ground.phase }, { on := 9, ground := Ground.phase }, { on := 10, ground := Ground.phase }, { on := 11, ground := Ground.phase }, { on := 12, ground := Ground.phase }, { on := 13, ground := Ground.phase }], guard := none }) (v := ?_) rfl (by kernel_rfl) (by kernel_rfl) (by kernel_rfl) (fun _ _ _ h => h) (Or.inl ⟨by rfl, ?_⟩) (by assumption) ?_
            rotate_left 1
            · (intro w hSw; (try dsimp only at hSw); go_simp; first | done | with_reducible rfl)
            try simp only [Act.put, List.setIfInBounds_toArray, List.set_cons_zero, List.set_cons_succ]
            refine wpAnyH_done (by kernel_rfl) ?_ _
            refine NoPanic.normal ?_
            go_wp2_with fail
            go_meet
            exact btab_of _ hZ (GR6.out.below hZ) (GX6.out.below hZ) (GL.out.below hZ) ⟨_, hO12.out.els, HBZ.out, HLZ.out⟩ _ rfl
        · go_simp
          have hS7 : Since w6 (w6.drew.alloc (.cells #[.int .u8 a5] 5)) := Below.alloc hSd (Below.size hSd) _
          refine hK.out _ _ ?_ (fun hHeld => ?_)
          · exact hS7
          clear hK K
          try simp only [Act.put, List.setIfInBounds_toArray, List.set_cons_zero, List.set_cons_succ]
          refine wpAnyH_ready (rs := [7]) (by kernel_rfl) (by simp) ?_
          refine AllReadyH.cons (o := { dst := some 133, op := Op.buildSlice 58 0 #[], type := 58, pos := _, after := #[], guard := none }) rfl (fun K hK => ?_) AllReadyH.nil
          go_simp
          have hSc : Since w6 ((w6.drew.alloc (.cells #[.int .u8 a5] 5)).alloc (.cells #[] 5)) := Below.alloc hS7 (Below.size hS7) _
          refine hK.out _ _ ?_ (fun hHeld => ?_)
          · exact hSc
          clear hK K
          try simp only [Act.put, List.setIfInBounds_toArray, List.set_cons_zero, List.set_cons_succ]
          refine wpAnyH_ready (rs := [9]) (by kernel_rfl) (by simp) ?_
          refine AllReadyH.cons (o := { dst := some 135, op := Op.call { callee := Callee.builtin Builtin.append, args := #[Operand.tmp 133, Operand.tmp 134], argTypes := #[58, 58] }, type := 58, pos := _, after := #[{ on := 7, ground := Ground.data }, { on := 8, ground := Ground.data }], guard := none }) rfl (fun K hK => ?_) AllReadyH.nil
          refine wp_all_f (.tmp 133) (.tmp 134) 58 rfl .u8 5 1 Try.underlying58 HI.out (by decide) w6.heap.size (.slice (some ⟨w6.heap.size + 1, 0, none⟩) 0 0) [] (.slice (some ⟨bb, 0, none⟩) n2 cb) EN rfl rfl (own_at (w6.drew.alloc (.cells #[.int .u8 a5] 5)) _ _ (w6.heap.size + 1) (by simp) (Below.size hS7)) (EB6.out.below hSc) (Below.size hSc) hl3 ?_
          intro a9 n9 c9 w9 hn9 hO9 hB9 hK9
          have hS9 : Since w6 w9 := Below.trans hSc hB9.out
          refine hK.out _ _ ?_ (fun hHeld => ?_)
          · exact hS9
          clear hK K
          try simp only [Act.put, List.setIfInBounds_toArray, List.set_cons_zero, List.set_cons_succ]
          have hO9x := hO9.out
          have hC9 : Els .u8 w9 (.slice (some ⟨w6.heap.size, 0, none⟩) 1 1) [a5] := ((els_one w6.drew a5 5 w6.heap.size rfl).below ((Below.refl _ _).alloc (Nat.le_refl _) _)).keepF (F := fun k => k = w6.heap.size) rfl (hK9.out (fun k => k = w6.heap.size) (fun k hk => by simp; omega) (fun g hg hf => by simp [Value.ownBlock] at hg; omega)).1
          refine wpAnyH_ready (rs := [12]) (by kernel_rfl) (by simp) ?_
          refine AllReadyH.cons (o := { dst := some 138, op := Op.call { callee := Callee.builtin Builtin.append, args := #[Operand.tmp 135, Operand.tmp 137], argTypes := #[58, 58] }, type := 58, pos := _, after := #[{ on := 9, ground := Ground.data }, { on := 11, ground := Ground.data }, { on := 9, ground := Ground.chain }], guard := none }) rfl (fun K hK => ?_) AllReadyH.nil
          refine wp_all rfl (.tmp 135) (.tmp 137) 58 rfl .u8 5 1 Try.underlying58 HI.out (by decide) w6.heap.size (.slice a9 n9 c9) ([] ++ EN) (.slice (some ⟨w6.heap.size, 0, none⟩) 1 1) [a5] rfl rfl hO9x hC9 (Below.size hS9) (by have := hl4; simp only [List.length_singleton]; omega) ?_
          intro a12 n12 c12 w12 hn12 hO12 hB12
          have hZ : Since w6 w12 := Below.trans hS9 hB12.out
          refine hK.out _ _ ?_ (fun hHeld => ?_)
          · exact hZ
          clear hK K
          try simp only [Act.put, List.setIfInBounds_toArray, List.set_cons_zero, List.set_cons_succ]
          refine wpAnyH_ready (rs := [13]) (by kernel_rfl) (by simp) ?_
          refine AllReadyH.cons (o := { dst := some 139, op := Op.buildSlice 64 4 #[(0, Operand.tmp 130), (1, Operand.tmp 131), (2, Operand.tmp 132), (3, Operand.tmp 138)], type := 64, pos := _, after := #[{ on := 4, ground := Ground.data }, { on := 5, ground := Ground.data }, { on := 6, ground := Ground.data }, { on := 12, ground := Ground.data }], guard := none }) rfl (fun K hK => ?_) AllReadyH.nil
          go_simp
          refine hK.out _ _ ?_ (fun hHeld => ?_)
          · exact Below.alloc hZ (Below.size hZ) _
          clear hK K
          try simp only [Act.put, List.setIfInBounds_toArray, List.set_cons_zero, List.set_cons_succ]
          refine wpAnyH_take (i := 14) (oi := { dst := some 24, op := Op.assign (Operand.tmp 139), type := 64, pos := _, after := #[{ on := 13, ground := Ground.data }, { on := 12, ground := Ground.chain }, { on := 0, ground := Ground.phase }, { on := 1, ground := Ground.phase }, { on := 2, ground := Ground.phase }, { on := 3, ground := Ground.phase }, { on := 4, ground := Ground.phase }, { on := 5, ground := Ground.phase }, { on := 6, ground := Ground.phase }, { on := 7, ground := Ground.phase }, { on := 8, ground := Ground.phase }, { on := 9, ground := Ground.phase }, { on := 10, ground := Ground.phase }, { on := 11, ground := Ground.phase }, { on := 12, ground := Ground.phase }, { on := 13, ground := Ground.phase }], guard := none }) (v := ?_) rfl (by kernel_rfl) (by kernel_rfl) (by kernel_rfl) (fun _ _ _ h => h) (Or.inl ⟨by rfl, ?_⟩) (by assumption) ?_
          rotate_left 1
          · (intro w hSw; (try dsimp only at hSw); go_simp; first | done | with_reducible rfl)
          try simp only [Act.put, List.setIfInBounds_toArray, List.set_cons_zero, List.set_cons_succ]
          refine wpAnyH_done (by kernel_rfl) ?_ _
          refine NoPanic.normal ?_
          go_wp2_with fail
          go_meet
          exact btab_of _ hZ (GR6.out.below hZ) (GX6.out.below hZ) (GL.out.below hZ) ⟨_, hO12.out.els, HBZ.out, HLZ.out⟩ _ rfl
      case rest =>
      obtain ⟨G, rfl, hSc, hT⟩ := hcut
      have HB7 := Lib.hid (HB6.out.trans (Below.mono hSc HB6.out.size))
      have HT := Lib.hid hT
      rename World => wc
      clear hSc hT GX6 EB6 HB6 GR6 GL HLZ HBZ hl3 hl4 hqv HNB HEB
      go_wp2
      go_loopw [25] (fun x wr => ∃ t : Nat, t ≤ 4 ∧ x = .int .i64 t ∧ Hid (Since wc wr)) (fun x _ => 5 - (intOf x).toNat)
      case atStart => exact ⟨0, by omega, rfl, Lib.hid (Below.refl _ _)⟩
      case round =>
        obtain ⟨t, ht, rfl, hS⟩ := hrel
        by_cases hlt : t < 4
        · have hki : (t : Int) < 4 := by omega
          obtain ⟨ax, nx, cx, zs, hcx0, hE, hby, hzl⟩ := HT.out t hlt
          have hcx := Since.cell hS.out hcx0
          have hEr := hE.below hS.out
          have kd := sdecode_any _ zs wr hEr hby (by omega)
          have KD := Lib.hid kd
          have HCX := Lib.hid hcx
          have HER := Lib.hid hEr
          have HBY := Lib.hid hby
          clear hcx0 hE hby hzl hEr kd
          go_wp2_with fail
          refine (KD.out).mono ?_
          rintro e w5 hdec
          rcases hdec with ⟨ys, da, dn, dc, hd, rfl, hEd, HB5⟩ | ⟨hd, rfl, HB5⟩
          · obtain ⟨hz1, hz2, hz3⟩ := decS_one HBY.out hd
            have hy32 : ys.length ≤ 32 := (validL_fit hz2).2
            have hcx5 := Since.cell HB5.out HCX.out
            have hE5 := Lib.hid (HER.out.below HB5.out)
            have kv := fun W (h : Since w5 W) => gvalid_any (.slice da dn dc) ys W (hEd.out.below h) (by omega)
            rw [hz2] at kv
            have ke := fun W (h : Since w5 W) => gencode_any (.slice da dn dc) ys W (hEd.out.below h) hz3 (by omega)
            rw [← hz1] at ke
            generalize hsb : strOfNums zs = sb at *
            have HCV2 := Lib.hid fun (a : Option Addr) (n c : Nat) W (h : Els .u8 W (.slice a n c) zs) => (by rw [conv8 h, hsb] : (convert 58 9 (.slice a n c)).run Try.prog W = .ok (.string sb) W)
            have hcvx := HCV2.out ax nx cx
            have KV := Lib.hid kv
            have KE2 := Lib.hid ke
            have hSd : Since w5 w5.drew := Below.drew (Below.refl _ _)
            clear hd hz1 hz2 hz3 hy32 hcx kv ke hsb KD HER HBY hEd
            go_wp2
            refine wp_region_noPanic ?_
            refine wp_region_held_drew (S := fun w' => w'.cell? ⟨G, t, none⟩ = some (.slice ax nx cx) ∧ (convert 58 9 (.slice ax nx cx)).run Try.prog w' = .ok (.string sb) w' ∧ Since w5 w') (by kernel_rfl) ⟨Since.cell hSd hcx5, hcvx _ (hE5.out.below hSd), hSd⟩ (fun hHeld => ?_)
            refine wpAnyH_take (i := 0) (oi := { dst := some 152, op := Op.move (Operand.tmp 27), type := 37, pos := _, after := #[], guard := none }) (v := ?_) rfl (by kernel_rfl) (by kernel_rfl) (by kernel_rfl) (fun _ _ _ h => h) (Or.inl ⟨by rfl, ?_⟩) (by assumption) ?_
            rotate_left 1
            · (intro w hSw; (try dsimp only at hSw); go_simp; first | done | with_reducible rfl)
            try simp only [Act.put, List.setIfInBounds_toArray, List.set_cons_zero, List.set_cons_succ]
            refine wpAnyH_take (i := 1) (oi := { dst := some 153, op := Op.binOp BinOp.eql 37 (Operand.tmp 152) (Operand.const (Value.int IntKind.i64 0)) 37, type := 4, pos := _, after := #[{ on := 0, ground := Ground.data }], guard := none }) (v := ?_) rfl (by kernel_rfl) (by kernel_rfl) (by kernel_rfl) (fun _ _ _ h => h) (Or.inl ⟨by rfl, ?_⟩) (by assumption) ?_
            rotate_left 1
            · (intro w hSw; (try dsimp only at hSw); go_simp; first | done | with_reducible rfl)
            try simp only [Act.put, List.setIfInBounds_toArray, List.set_cons_zero, List.set_cons_succ]
            refine wpAnyH_take (i := 2) (oi := { dst := some 154, op := Op.move (Operand.tmp 153), type := 4, pos := _, after := #[{ on := 1, ground := Ground.data }], guard := none }) (v := ?_) rfl (by kernel_rfl) (by kernel_rfl) (by kernel_rfl) (fun _ _ _ h => h) (Or.inl ⟨by rfl, ?_⟩) (by assumption) ?_
            rotate_left 1
            · (intro w hSw; (try dsimp only at hSw); go_simp; first | done | with_reducible rfl)
            try simp only [Act.put, List.setIfInBounds_toArray, List.set_cons_zero, List.set_cons_succ]
            refine wpAnyH_take (i := 3) (oi := { dst := some 155, op := Op.move (Operand.tmp 26), type := 23, pos := _, after := #[{ on := 2, ground := Ground.guard }], guard := some (2, true) }) (v := ?_) rfl (by kernel_rfl) (by kernel_rfl) (by kernel_rfl) (fun _ _ _ h => h) (Or.inl ⟨by rfl, ?_⟩) (by assumption) ?_
            rotate_left 1
            · (intro w hSw; (try dsimp only at hSw); go_simp; first | done | with_reducible rfl)
            try simp only [Act.put, List.setIfInBounds_toArray, List.set_cons_zero, List.set_cons_succ]
            refine wpAnyH_ready (rs := [4]) (by kernel_rfl) (by simp) ?_
            refine AllReadyH.cons (o := { dst := some 156, op := Op.call { callee := Callee.value (Operand.func 20), args := #[Operand.tmp 155], argTypes := #[23] }, type := 37, pos := _, after := #[{ on := 3, ground := Ground.data }, { on := 2, ground := Ground.chain }, { on := 2, ground := Ground.guard }], guard := some (2, true) }) rfl (fun K hK => ?_) AllReadyH.nil
            go_simp
            go_at_call 20
            refine (KV.out _ hSd).mono ?_
            rintro e v1 ⟨rfl, hr1⟩
            have hB : Since w5 v1 := Since.step hSd hr1
            go_wp2_with fail
            refine hK.out _ _ ?_ (fun hHeld => ?_)
            · exact ⟨Since.cell hB hcx5, hcvx _ (hE5.out.below hB), hB⟩
            clear hK K hr1
            try simp only [Act.put, List.setIfInBounds_toArray, List.set_cons_zero, List.set_cons_succ]
            refine wpAnyH_take (i := 5) (oi := { dst := some 157, op := Op.binOp BinOp.neq 37 (Operand.tmp 156) (Operand.const (Value.int IntKind.i64 0)) 37, type := 4, pos := _, after := #[{ on := 4, ground := Ground.data }, { on := 2, ground := Ground.guard }], guard := some (2, true) }) (v := ?_) rfl (by kernel_rfl) (by kernel_rfl) (by kernel_rfl) (fun _ _ _ h => h) (Or.inl ⟨by rfl, ?_⟩) (by assumption) ?_
            rotate_left 1
            · (intro w hSw; (try dsimp only at hSw); go_simp; first | done | with_reducible rfl)
            try simp only [Act.put, List.setIfInBounds_toArray, List.set_cons_zero, List.set_cons_succ]
            refine wpAnyH_take (i := 6) (oi := { dst := some 158, op := Op.move (Operand.tmp 157), type := 4, pos := _, after := #[{ on := 5, ground := Ground.data }, { on := 4, ground := Ground.chain }, { on := 2, ground := Ground.guard }], guard := some (2, true) }) (v := ?_) rfl (by kernel_rfl) (by kernel_rfl) (by kernel_rfl) (fun _ _ _ h => h) (Or.inl ⟨by rfl, ?_⟩) (by assumption) ?_
            rotate_left 1
            · (intro w hSw; (try dsimp only at hSw); go_simp; first | done | with_reducible rfl)
            try simp only [Act.put, List.setIfInBounds_toArray, List.set_cons_zero, List.set_cons_succ]
            refine wpAnyH_take (i := 7) (oi := { dst := some 159, op := Op.move (Operand.tmp 26), type := 23, pos := _, after := #[{ on := 6, ground := Ground.guard }], guard := some (6, false) }) (v := ?_) rfl (by kernel_rfl) (by kernel_rfl) (by kernel_rfl) (fun _ _ _ h => h) (Or.inl ⟨by rfl, ?_⟩) (by assumption) ?_
            rotate_left 1
            · (intro w hSw; (try dsimp only at hSw); go_simp; first | done | with_reducible rfl)
            try simp only [Act.put, List.setIfInBounds_toArray, List.set_cons_zero, List.set_cons_succ]
            refine wpAnyH_take (i := 10) (oi := { dst := some 162, op := Op.move (Operand.tmp 24), type := 64, pos := _, after := #[{ on := 6, ground := Ground.guard }], guard := some (6, false) }) (v := ?_) rfl (by kernel_rfl) (by kernel_rfl) (by kernel_rfl) (fun _ _ _ h => h) (Or.inl ⟨by rfl, ?_⟩) (by assumption) ?_
            rotate_left 1
            · (intro w hSw; (try dsimp only at hSw); go_simp; first | done | with_reducible rfl)
            try simp only [Act.put, List.setIfInBounds_toArray, List.set_cons_zero, List.set_cons_succ]
            refine wpAnyH_take (i := 11) (oi := { dst := some 163, op := Op.move (Operand.tmp 25), type := 3, pos := _, after := #[{ on := 6, ground := Ground.guard }], guard := some (6, false) }) (v := ?_) rfl (by kernel_rfl) (by kernel_rfl) (by kernel_rfl) (fun _ _ _ h => h) (Or.inl ⟨by rfl, ?_⟩) (by assumption) ?_
            rotate_left 1
            · (intro w hSw; (try dsimp only at hSw); go_simp; first | done | with_reducible rfl)
            try simp only [Act.put, List.setIfInBounds_toArray, List.set_cons_zero, List.set_cons_succ]
            refine wpAnyH_take (i := 12) (oi := { dst := some 164, op := Op.indexAddr 64 (Operand.tmp 162) (Operand.tmp 163), type := 0, pos := _, after := #[{ on := 10, ground := Ground.data }, { on := 11, ground := Ground.data }, { on := 6, ground := Ground.guard }], guard := some (6, false) }) (v := ?_) rfl (by kernel_rfl) (by kernel_rfl) (by kernel_rfl) (fun _ _ _ h => h) (Or.inl ⟨by rfl, ?_⟩) (by assumption) ?_
            rotate_left 1
            · (intro w hSw; (try dsimp only at hSw); go_simp; first | done | with_reducible rfl)
            try simp only [Act.put, List.setIfInBounds_toArray, List.set_cons_zero, List.set_cons_succ]
            refine wpAnyH_take (i := 13) (oi := { dst := some 165, op := Op.load 58 (Operand.tmp 164), type := 58, pos := _, after := #[{ on := 12, ground := Ground.data }, { on := 6, ground := Ground.guard }], guard := some (6, false) }) (v := ?_) rfl (by kernel_rfl) (by kernel_rfl) (by kernel_rfl) (fun _ _ _ h => h) (Or.inl ⟨by rfl, ?_⟩) (by assumption) ?_
            rotate_left 1
            · (intro w hSw; (try dsimp only at hSw); go_simp; first | done | with_reducible rfl)
            try simp only [Act.put, List.setIfInBounds_toArray, List.set_cons_zero, List.set_cons_succ]
            refine wpAnyH_take (i := 14) (oi := { dst := some 166, op := Op.convert 58 9 (Operand.tmp 165), type := 9, pos := _, after := #[{ on := 13, ground := Ground.data }, { on := 6, ground := Ground.guard }], guard := some (6, false) }) (v := ?_) rfl (by kernel_rfl) (by kernel_rfl) (by kernel_rfl) (fun _ _ _ h => h) (Or.inl ⟨by rfl, ?_⟩) (by assumption) ?_
            rotate_left 1
            · (intro w hSw; (try dsimp only at hSw); go_simp; first | done | with_reducible rfl)
            try simp only [Act.put, List.setIfInBounds_toArray, List.set_cons_zero, List.set_cons_succ]
            refine wpAnyH_ready (rs := [8]) (by kernel_rfl) (by simp) ?_
            refine AllReadyH.cons (o := { dst := some 160, op := Op.call { callee := Callee.value (Operand.func 39), args := #[Operand.tmp 159], argTypes := #[23] }, type := 58, pos := _, after := #[{ on := 7, ground := Ground.data }, { on := 6, ground := Ground.chain }, { on := 6, ground := Ground.guard }], guard := some (6, false) }) rfl (fun K hK => ?_) AllReadyH.nil
            go_simp
            go_at_call 39
            refine (KE2.out _ hB).mono ?_
            rintro e v2 ⟨a7, n7, c7, rfl, HN7, O7, B7⟩
            have hB2 : Since w5 v2 := Since.step hB B7.out
            have hcv7 := HCV2.out a7 n7 c7 v2 O7.out.els
            go_wp2_with fail
            refine hK.out _ _ ?_ (fun hHeld => ?_)
            · exact ⟨Since.cell hB2 hcx5, hcvx _ (hE5.out.below hB2), hB2⟩
            clear hK K
            try simp only [Act.put, List.setIfInBounds_toArray, List.set_cons_zero, List.set_cons_succ]
            refine wpAnyH_ready (rs := [9]) (by kernel_rfl) (by simp) ?_
            refine AllReadyH.cons (o := { dst := some 161, op := Op.convert 58 9 (Operand.tmp 160), type := 9, pos := _, after := #[{ on := 8, ground := Ground.data }, { on := 6, ground := Ground.guard }], guard := some (6, false) }) rfl (fun K hK => ?_) AllReadyH.nil
            go_simp
            refine hK.out _ _ ?_ (fun hHeld => ?_)
            · exact ⟨Since.cell hB2 hcx5, hcvx _ (hE5.out.below hB2), hB2⟩
            clear hK K hcv7
            try simp only [Act.put, List.setIfInBounds_toArray, List.set_cons_zero, List.set_cons_succ]
            refine wpAnyH_take (i := 15) (oi := { dst := some 167, op := Op.binOp BinOp.neq 9 (Operand.tmp 161) (Operand.tmp 166) 9, type := 4, pos := _, after := #[{ on := 9, ground := Ground.data }, { on := 14, ground := Ground.data }, { on := 6, ground := Ground.guard }], guard := some (6, false) }) (v := ?_) rfl (by kernel_rfl) (by kernel_rfl) (by kernel_rfl) (fun _ _ _ h => h) (Or.inl ⟨by rfl, ?_⟩) (by assumption) ?_
            rotate_left 1
            · (intro w hSw; (try dsimp only at hSw); go_simp; first | done | with_reducible rfl)
            try simp only [Act.put, List.setIfInBounds_toArray, List.set_cons_zero, List.set_cons_succ]
            refine wpAnyH_take (i := 16) (oi := { dst := some 168, op := Op.pick (Operand.tmp 158) (Operand.const (Value.bool true)) (Operand.tmp 167), type := 4, pos := _, after := #[{ on := 6, ground := Ground.data }, { on := 15, ground := Ground.data }, { on := 2, ground := Ground.guard }], guard := some (2, true) }) (v := ?_) rfl (by kernel_rfl) (by kernel_rfl) (by kernel_rfl) (fun _ _ _ h => h) (Or.inl ⟨by rfl, ?_⟩) (by assumption) ?_
            rotate_left 1
            · (intro w hSw; (try dsimp only at hSw); go_simp; first | done | with_reducible rfl)
            try simp only [Act.put, List.setIfInBounds_toArray, List.set_cons_zero, List.set_cons_succ]
            refine wpAnyH_take (i := 17) (oi := { dst := some 169, op := Op.pick (Operand.tmp 154) (Operand.tmp 168) (Operand.const (Value.bool false)), type := 4, pos := _, after := #[{ on := 2, ground := Ground.data }, { on := 16, ground := Ground.data }], guard := none }) (v := ?_) rfl (by kernel_rfl) (by kernel_rfl) (by kernel_rfl) (fun _ _ _ h => h) (Or.inl ⟨by rfl, ?_⟩) (by assumption) ?_
            rotate_left 1
            · (intro w hSw; (try dsimp only at hSw); go_simp; first | done | with_reducible rfl)
            try simp only [Act.put, List.setIfInBounds_toArray, List.set_cons_zero, List.set_cons_succ]
            refine wpAnyH_take (i := 18) (oi := { dst := some 170, op := Op.move (Operand.tmp 169), type := 4, pos := _, after := #[{ on := 17, ground := Ground.data }, { on := 8, ground := Ground.chain }], guard := none }) (v := ?_) rfl (by kernel_rfl) (by kernel_rfl) (by kernel_rfl) (fun _ _ _ h => h) (Or.inl ⟨by rfl, ?_⟩) (by assumption) ?_
            rotate_left 1
            · (intro w hSw; (try dsimp only at hSw); go_simp; first | done | with_reducible rfl)
            try simp only [Act.put, List.setIfInBounds_toArray, List.set_cons_zero, List.set_cons_succ]
            refine wpAnyH_take (i := 19) (oi := { dst := some 171, op := Op.move (Operand.tmp 27), type := 37, pos := _, after := #[{ on := 18, ground := Ground.guard }], guard := some (18, false) }) (v := ?_) rfl (by kernel_rfl) (by kernel_rfl) (by kernel_rfl) (fun _ _ _ h => h) (Or.inl ⟨by rfl, ?_⟩) (by assumption) ?_
            rotate_left 1
            · (intro w hSw; (try dsimp only at hSw); go_simp; first | done | with_reducible rfl)
            try simp only [Act.put, List.setIfInBounds_toArray, List.set_cons_zero, List.set_cons_succ]
            refine wpAnyH_take (i := 20) (oi := { dst := some 172, op := Op.binOp BinOp.neq 37 (Operand.tmp 171) (Operand.const (Value.int IntKind.i64 0)) 37, type := 4, pos := _, after := #[{ on := 19, ground := Ground.data }, { on := 18, ground := Ground.guard }], guard := some (18, false) }) (v := ?_) rfl (by kernel_rfl) (by kernel_rfl) (by kernel_rfl) (fun _ _ _ h => h) (Or.inl ⟨by rfl, ?_⟩) (by assumption) ?_
            rotate_left 1
            · (intro w hSw; (try dsimp only at hSw); go_simp; first | done | with_reducible rfl)
            try simp only [Act.put, List.setIfInBounds_toArray, List.set_cons_zero, List.set_cons_succ]
            refine wpAnyH_take (i := 21) (oi := { dst := some 173, op := Op.move (Operand.tmp 172), type := 4, pos := _, after := #[{ on := 20, ground := Ground.data }, { on := 18, ground := Ground.chain }, { on := 18, ground := Ground.guard }], guard := some (18, false) }) (v := ?_) rfl (by kernel_rfl) (by kernel_rfl) (by kernel_rfl) (fun _ _ _ h => h) (Or.inl ⟨by rfl, ?_⟩) (by assumption) ?_
            rotate_left 1
            · (intro w hSw; (try dsimp only at hSw); go_simp; first | done | with_reducible rfl)
            try simp only [Act.put, List.setIfInBounds_toArray, List.set_cons_zero, List.set_cons_succ]
            refine wpAnyH_take (i := 22) (oi := { dst := some 174, op := Op.move (Operand.tmp 27), type := 37, pos := _, after := #[{ on := 21, ground := Ground.guard }], guard := some (21, true) }) (v := undef) rfl (by kernel_rfl) (by kernel_rfl) (by kernel_rfl) (fun _ _ _ h => h) (Or.inr ⟨by rfl, rfl⟩) (by assumption) ?_
            try simp only [Act.put, List.setIfInBounds_toArray, List.set_cons_zero, List.set_cons_succ]
            refine wpAnyH_take (i := 23) (oi := { dst := some 175, op := Op.binOp BinOp.neq 37 (Operand.tmp 174) (Operand.const (Value.int IntKind.i64 2)) 37, type := 4, pos := _, after := #[{ on := 22, ground := Ground.data }, { on := 21, ground := Ground.guard }], guard := some (21, true) }) (v := undef) rfl (by kernel_rfl) (by kernel_rfl) (by kernel_rfl) (fun _ _ _ h => h) (Or.inr ⟨by rfl, rfl⟩) (by assumption) ?_
            try simp only [Act.put, List.setIfInBounds_toArray, List.set_cons_zero, List.set_cons_succ]
            refine wpAnyH_take (i := 24) (oi := { dst := some 176, op := Op.move (Operand.tmp 175), type := 4, pos := _, after := #[{ on := 23, ground := Ground.data }, { on := 21, ground := Ground.chain }, { on := 21, ground := Ground.guard }], guard := some (21, true) }) (v := undef) rfl (by kernel_rfl) (by kernel_rfl) (by kernel_rfl) (fun _ _ _ h => h) (Or.inr ⟨by rfl, rfl⟩) (by assumption) ?_
            try simp only [Act.put, List.setIfInBounds_toArray, List.set_cons_zero, List.set_cons_succ]
            refine wpAnyH_take (i := 25) (oi := { dst := some 177, op := Op.move (Operand.tmp 26), type := 23, pos := _, after := #[{ on := 24, ground := Ground.guard }], guard := some (24, false) }) (v := undef) rfl (by kernel_rfl) (by kernel_rfl) (by kernel_rfl) (fun _ _ _ h => h) (Or.inr ⟨by rfl, rfl⟩) (by assumption) ?_
            try simp only [Act.put, List.setIfInBounds_toArray, List.set_cons_zero, List.set_cons_succ]
            refine wpAnyH_take (i := 26) (oi := { dst := some 178, op := Op.call { callee := Callee.builtin Builtin.len, args := #[Operand.tmp 177], argTypes := #[23] }, type := 3, pos := _, after := #[{ on := 25, ground := Ground.data }, { on := 24, ground := Ground.guard }], guard := some (24, false) }) (v := undef) rfl (by kernel_rfl) (by kernel_rfl) (by kernel_rfl) (fun _ _ _ h => h) (Or.inr ⟨by rfl, rfl⟩) (by assumption) ?_
            try simp only [Act.put, List.setIfInBounds_toArray, List.set_cons_zero, List.set_cons_succ]
            refine wpAnyH_take (i := 27) (oi := { dst := some 179, op := Op.binOp BinOp.neq 3 (Operand.tmp 178) (Operand.const (Value.int IntKind.i64 0)) 3, type := 4, pos := _, after := #[{ on := 26, ground := Ground.data }, { on := 24, ground := Ground.guard }], guard := some (24, false) }) (v := undef) rfl (by kernel_rfl) (by kernel_rfl) (by kernel_rfl) (fun _ _ _ h => h) (Or.inr ⟨by rfl, rfl⟩) (by assumption) ?_
            try simp only [Act.put, List.setIfInBounds_toArray, List.set_cons_zero, List.set_cons_succ]
            refine wpAnyH_take (i := 28) (oi := { dst := some 180, op := Op.pick (Operand.tmp 176) (Operand.const (Value.bool true)) (Operand.tmp 179), type := 4, pos := _, after := #[{ on := 24, ground := Ground.data }, { on := 27, ground := Ground.data }, { on := 21, ground := Ground.guard }], guard := some (21, true) }) (v := undef) rfl (by kernel_rfl) (by kernel_rfl) (by kernel_rfl) (fun _ _ _ h => h) (Or.inr ⟨by rfl, rfl⟩) (by assumption) ?_
            try simp only [Act.put, List.setIfInBounds_toArray, List.set_cons_zero, List.set_cons_succ]
            refine wpAnyH_take (i := 29) (oi := { dst := some 181, op := Op.pick (Operand.tmp 173) (Operand.tmp 180) (Operand.const (Value.bool false)), type := 4, pos := _, after := #[{ on := 21, ground := Ground.data }, { on := 28, ground := Ground.data }, { on := 18, ground := Ground.guard }], guard := some (18, false) }) (v := ?_) rfl (by kernel_rfl) (by kernel_rfl) (by kernel_rfl) (fun _ _ _ h => h) (Or.inl ⟨by rfl, ?_⟩) (by assumption) ?_
            rotate_left 1
            · (intro w hSw; (try dsimp only at hSw); go_simp; first | done | with_reducible rfl)
            try simp only [Act.put, List.setIfInBounds_toArray, List.set_cons_zero, List.set_cons_succ]
            refine wpAnyH_take (i := 30) (oi := { dst := some 182, op := Op.pick (Operand.tmp 170) (Operand.const (Value.bool true)) (Operand.tmp 181), type := 4, pos := _, after := #[{ on := 18, ground := Ground.data }, { on := 29, ground := Ground.data }], guard := none }) (v := ?_) rfl (by kernel_rfl) (by kernel_rfl) (by kernel_rfl) (fun _ _ _ h => h) (Or.inl ⟨by rfl, ?_⟩) (by assumption) ?_
            rotate_left 1
            · (intro w hSw; (try dsimp only at hSw); go_simp; first | done | with_reducible rfl)
            try simp only [Act.put, List.setIfInBounds_toArray, List.set_cons_zero, List.set_cons_succ]
            refine wpAnyH_done (by kernel_rfl) ?_ _
            refine NoPanic.normal ?_
            have HBB := Lib.hid (Since.step hS.out (Since.step HB5.out hB2))
            clear hB hB2
            go_wp2
            go_roundw
            case rel => exact ⟨t + 1, by omega, by go_num, HBB⟩
            case measure => simp [intOf]; omega
          · have hcx5 := Since.cell HB5.out HCX.out
            clear hcx KD HER HBY hd
            go_wp2
            go_quiet (fail)
            go_wp2
            go_roundw
            case rel => exact ⟨t + 1, by omega, by go_num, Lib.hid (below_drewN (Since.step hS.out HB5.out) _)⟩
            case measure => simp [intOf]; omega
        · have hki : ¬ (t : Int) < 4 := by omega
          have HBw := Lib.hid (HB7.out.trans (Below.mono hS.out HB7.out.size))
          go_wp2_with fail
          refine (lives04_any _).mono ?_
          rintro e wz ⟨rfl, hrz⟩
          have HBZ := Lib.hid (HBw.out.trans (hrz.mono HBw.out.size))
          clear hrz
          go_wp2
          go_ret
          exact ⟨rfl, HBZ.out⟩

end Go.Proofs.Ytimbgjpjgbjnkaa
