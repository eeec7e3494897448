/- The law RatioTexts: the walk. -/
import Derived.Test.YtloddocibfbkpaaDoorText
import Derived.Test.YtloddocibfbkpaaDoorPmath2
import Derived.Test.YtloddocibfbkpaaDoorRefPar2
import Derived.Test.YtloddocibfbkpaaDoorLives03
import Derived.Test.YtloddocibfbkpaaDoorRef03i
import Derived.Deep.DeepCutAuto
namespace Go.Proofs.YtloddocibfbkpaaDoor
open Go.RowKit Go.Shelf

theorem conv_els {w : World} {a : Option Addr} {n c : Nat} {xs : List Int} (h : Els .u8 w (.slice a n c) xs) (h0 : 0 < n) :
    (convert 29 9 (.slice a n c)).run Tryd.prog w = .ok (.string (strOfNums xs)) w := by
  rcases h with ⟨he, rfl⟩ | ⟨b, off, cap, hb, he, hl, hc⟩
  · obtain ⟨a, cap, he⟩ := he.shape
    cases he
    omega
  · cases he
    exact run_convert_bytes_arg w 29 5 Tryd.underlying29 Tryd.underlying5 b off _ _ xs rfl (fun i hi => by rw [hc i hi, List.getD_eq_getElem?_getD]) 9 Tryd.underlying9

theorem bytes_cells (w : World) (s : ByteArray) (cap : Nat) (T : TypeId) (hcap : s.size ≤ cap) (j : Nat) (hj : j < s.size) :
    (w.alloc (.cells (bytesRow s cap) T ((bytesRow s cap).size, (bytesRow s cap).size + 1))).drew.frozen? ⟨w.heap.size, j, none⟩ = false
    ∧ (w.alloc (.cells (bytesRow s cap) T ((bytesRow s cap).size, (bytesRow s cap).size + 1))).drew.cell? ⟨w.heap.size, j, none⟩ = some (.int .u8 ((Hm.bs s)[j]?.getD 0)) := by
  obtain ⟨h, _⟩ := bytes_world0 w s cap T ((bytesRow s cap).size, (bytesRow s cap).size + 1) hcap _ rfl
  constructor
  · have hz : s.size ≤ (bytesRow s cap).size := by
      unfold bytesRow
      rw [Array.size_append, Array.size_map]
      exact Nat.le_add_right _ _
    have hn := heap_new w (.cells (bytesRow s cap) T ((bytesRow s cap).size, (bytesRow s cap).size + 1))
    show (w.alloc _).frozen? _ = false
    unfold World.frozen?
    rw [hn]
    simp
    intro h
    omega
  · rcases h with ⟨he, hz⟩ | ⟨b, off, c, hb, he, hl, hc⟩
    · have := congrArg List.length hz
      rw [Hm.bs_length, List.length_nil] at this
      omega
    · simp only [Value.slice.injEq, Option.some.injEq, Addr.mk.injEq] at he
      obtain ⟨⟨rfl, rfl, _⟩, _⟩ := he
      have := hc j (by rw [Hm.bs_length]; exact hj)
      rwa [Nat.zero_add] at this

theorem bytes_set {W : World} {B n cap j : Nat} {xs : List Int} {v : Int} (hB : B < W.heap.size) (hn : n = xs.length) (hcap : n ≤ cap) (hj : j < n)
    (hc : ∀ i, i < n → W.cell? ⟨B, i, none⟩ = some (.int .u8 (xs[i]?.getD 0))) :
    Els .u8 (W.setCell ⟨B, j, none⟩ (.int .u8 v)) (.slice (some ⟨B, 0, none⟩) n cap) (xs.set j v) := by
  subst hn
  refine .inr ⟨B, 0, cap, ?_, by rw [List.length_set], by rw [List.length_set]; exact hcap, fun i hi => ?_⟩
  · show B < (W.setCell _ _).heap.size
    simpa [World.setCell] using hB
  · rw [List.length_set] at hi
    rw [Nat.zero_add]
    by_cases e : i = j
    · subst e
      rw [World.cell?_setCell_same _ _ _ (hc i hi), List.getElem?_set_self hi]
      rfl
    · rw [World.cell?_setCell_other _ ⟨B, j, none⟩ ⟨B, i, none⟩ _ (by simp; first | done | omega), hc i hi, List.getElem?_set_ne (by omega)]

theorem ok_i64' {a b : Int} (h : OkP a b) : I64 a ∧ I64 b := ⟨⟨by have := h.2.2.1; omega, by have := h.2.2.2.1; omega⟩, ⟨by have := h.1; omega, by have := h.2.1; omega⟩⟩

theorem conv_since {wb w : World} {a : Option Addr} {n c : Nat} {xs : List Int} (h : Els .u8 wb (.slice a n c) xs) (h0 : 0 < n) (hS : Since wb w) :
    (convert 29 9 (.slice a n c)).run Tryd.prog w = .ok (.string (strOfNums xs)) w := conv_els (h.below hS) h0

/-- A table of strings, none of them long. -/
def StrTab (G : Nat) (f : Nat → ByteArray) (W : World) : Prop := G < W.heap.size ∧ ∀ k, k < 7 → W.cell? ⟨G, k, none⟩ = some (.string (f k))

theorem StrTab.keep {G : Nat} {f : Nat → ByteArray} {W w1 : World} (h : StrTab G f W) (hb : Below W.heap.size W w1) : StrTab G f w1 :=
  ⟨Nat.lt_of_lt_of_le h.1 hb.size, fun k hk => (hb.cell (p := ⟨G, k, none⟩) h.1).trans (h.2 k hk)⟩

/-- The seven texts. -/
def texs (s0 s1 s2 s3 s4 s5 s6 : ByteArray) (k : Nat) : ByteArray := match k with | 0 => s0 | 1 => s1 | 2 => s2 | 3 => s3 | 4 => s4 | 5 => s5 | _ => s6

theorem texs_size {s0 s1 s2 s3 s4 s5 s6 : ByteArray} (h0 : s0.size ≤ 1000) (h1 : s1.size ≤ 1000) (h2 : s2.size ≤ 1000) (h3 : s3.size ≤ 1000) (h4 : s4.size ≤ 1000) (h5 : s5.size ≤ 1000) (h6 : s6.size ≤ 1000) (k : Nat) : (texs s0 s1 s2 s3 s4 s5 s6 k).size ≤ 1000 := by
  unfold texs
  split <;> assumption

theorem StrTab.new (w : World) (s0 s1 s2 s3 s4 s5 s6 : ByteArray) (t : TypeId) : StrTab w.heap.size (texs s0 s1 s2 s3 s4 s5 s6) (w.alloc (.cells #[.string s0, .string s1, .string s2, .string s3, .string s4, .string s5, .string s6] t)) := by
  refine ⟨by simp, fun k hk => ?_⟩
  have hn := heap_new w (.cells #[.string s0, .string s1, .string s2, .string s3, .string s4, .string s5, .string s6] t)
  unfold World.cell?
  rw [hn]
  match k with
  | 0 => rfl
  | 1 => rfl
  | 2 => rfl
  | 3 => rfl
  | 4 => rfl
  | 5 => rfl
  | 6 => rfl
  | k + 7 => omega

/-- What the region of the texts leaves. -/
def CutT (W8 : World) (f : Nat → ByteArray) (s : Value) (wx : World) : Prop := ∃ G : Nat, s = .slice (some ⟨G, 0, none⟩) 7 7 ∧ StrTab G f wx ∧ Since W8 wx

/-- Both Parse return the same. -/
theorem both_parse (s : ByteArray) (w : World) (hs : s.size ≤ 1000) :
    Calls Tryd.prog 6 #[.string s] w fun e w' => e = .returned (rve (refP s.data.toList)) ∧ Below w.heap.size w w' := by
  have := parse_any s w (by unfold maxLen; omega)
  rw [parse_ref] at this
  exact this

set_option maxHeartbeats 20000000 in
set_option maxRecDepth 100000 in
theorem law_texts (a0 a1 a2 a3 : Int) (a4 : ByteArray) (a5 a6 : Int) (w0 : (Lit.int .i64 a0).wf = true) (w1 : (Lit.int .i64 a1).wf = true) (w2 : (Lit.int .i64 a2).wf = true) (w3 : (Lit.int .i64 a3).wf = true) (w5 : (Lit.int .i64 a5).wf = true) (w6 : (Lit.int .u8 a6).wf = true) (w : World) (HT0 : Tab w) (KL : Lives) :
    Calls Tryd.prog 3 #[.int .i64 a0, .int .i64 a1, .int .i64 a2, .int .i64 a3, .string a4, .int .i64 a5, .int .u8 a6] w fun e w' => e = .returned (.bool true) ∧ Below w.heap.size w w' := by
  have KL' := Lib.hid KL
  unfold Lives at KL'
  have KR0 := Lib.hid (fun w => ratio_any a0 a1 w w0 w1)
  have h2 := i64_of_wf w2
  have h3 := i64_of_wf w3
  have kt2 := Lib.hid fun W (h : Tab W) => text_any a2 a3 W h2 h3 h
  have kr2 := Lib.hid fun W => rtext_any a2 a3 W h2 h3
  have l2 := (texL_len a2 a3 h2 h3).1
  rw [← size_toArray] at l2
  have K5 := Lib.hid fun (n : Nat) W (h : 0 < n) (hn : n ≤ 1000) => around_any a5 n W (by omega) (by omega) w5
  have K6 := Lib.hid fun W => around_any a2 1125899906842624 W (by omega) (by omega) w2
  have K7 := Lib.hid fun W => around_any a3 2000000 W (by omega) (by omega) w3
  have HT := Lib.hid HT0
  have R6 := aroundI_range a2 1125899906842624 (by omega)
  have R7 := aroundI_range a3 2000000 (by omega)
  have K8 := Lib.hid fun W => rdec_any (aroundI a2 1125899906842624) W (by omega)
  have K9 := Lib.hid fun W => rdec_any (aroundI a3 2000000) W (by omega)
  have l8 := (itoa_len (aroundI a2 1125899906842624) (by omega)).1
  have l9 := (itoa_len (aroundI a3 2000000) (by omega)).1
  rw [← size_toArray] at l8 l9
  have K10 := Lib.hid fun W => short_any a4 30 W (by decide)
  have l10 : (a4.extract 0 30).size ≤ 30 := extract_size a4 30
  generalize aroundI a2 1125899906842624 = n6 at *
  generalize aroundI a3 2000000 = n7 at *
  generalize (⟨(texL a2 a3).toArray⟩ : ByteArray) = X2 at *
  generalize (⟨(Lib.itoa n6).toArray⟩ : ByteArray) = D at *
  generalize (⟨(Lib.itoa n7).toArray⟩ : ByteArray) = F at *
  generalize a4.extract 0 30 = S at *
  have H6 := Lib.hid w6
  clear KL w0 w1 w2 w3 w5 w6 h2 h3 HT0 R6 R7
  go_enter Tryd.func3, Tryd.ntmps3
  go_wp2_with fail
  refine (KR0.out _).mono ?_
  rintro e W1 ⟨a, b, hA, rfl, hB1⟩
  have HB1 := Lib.hid hB1
  have kt1 := Lib.hid fun W (h : Tab W) => text_any a b W (ok_i64' hA).1 (ok_i64' hA).2 h
  have kr1 := Lib.hid fun W => rtext_any a b W (ok_i64' hA).1 (ok_i64' hA).2
  have l1 := texL_len a b (ok_i64' hA).1 (ok_i64' hA).2
  rw [← size_toArray] at l1
  have kp := fun W => both_parse (⟨(texL a b).toArray⟩ : ByteArray) W (by omega)
  rw [show (⟨(texL a b).toArray⟩ : ByteArray).data.toList = texL a b from rfl, refP_text hA] at kp
  have KP := Lib.hid kp
  generalize (⟨(texL a b).toArray⟩ : ByteArray) = X1 at *
  have l1a := l1.1
  have l1b := l1.2
  clear kp hB1 hA KR0 l1
  unfold rv rve at *
  go_wp2_with fail
  refine (kt1.out _ ?_).mono ?_
  · exact (HT.out.below HB1.out).below ((Below.refl _ _).alloc (Nat.le_refl _) _)
  rintro e W2 ⟨rfl, hB2⟩
  have X_r := Lib.hid (BoxAt.new hB2)
  have HB2 := Lib.hid ((HB1.out.alloc HB1.out.size _).trans (hB2.mono (Nat.le_trans HB1.out.size (by simp))))
  clear hB2
  go_wp2_with fail
  refine (KP.out _).mono ?_
  rintro e W3 ⟨rfl, hB3⟩
  replace X_r := Lib.hid (X_r.out.keep hB3)
  have HB3 := Lib.hid (HB2.out.trans (hB3.mono HB2.out.size))
  clear hB3 HB2 HB1 KP
  obtain ⟨r0, r1, -, -, r2⟩ := X_r.out
  go_wp2
  have X_b := Lib.hid ((BoxAt.made W3 (.int .i64 a) (.int .i64 b) 23).under (.cells #[.int .i64 a2, .int .i64 a3] 23))
  have x_w := BoxAt.made (W3.alloc (.cells #[.int .i64 a, .int .i64 b] 23)) (.int .i64 a2) (.int .i64 a3) 23
  rw [size_alloc] at x_w
  have X_w := Lib.hid x_w
  replace X_r := Lib.hid ((X_r.out.under (.cells #[.int .i64 a, .int .i64 b] 23)).under (.cells #[.int .i64 a2, .int .i64 a3] 23))
  have hb5 : Below w.heap.size w ((W3.alloc (.cells #[.int .i64 a, .int .i64 b] 23)).alloc (.cells #[.int .i64 a2, .int .i64 a3] 23)) := (HB3.out.alloc HB3.out.size _).alloc (Nat.le_trans HB3.out.size (by simp)) _
  have HB5 := Lib.hid hb5
  clear x_w hb5 HB3 r0 r1 r2
  generalize (W3.alloc (.cells #[.int .i64 a, .int .i64 b] 23)).alloc (.cells #[.int .i64 a2, .int .i64 a3] 23) = W5 at *
  generalize W1.heap.size = N1 at *
  generalize W3.heap.size + 1 = N4 at *
  generalize W3.heap.size = N3 at *
  obtain ⟨r0, r1, -, -, r2⟩ := X_r.out
  obtain ⟨b0, b1, -, -, b2⟩ := X_b.out
  obtain ⟨u0, u1, -, -, u2⟩ := X_w.out
  have HT5 := Lib.hid (HT.out.below HB5.out)
  have hSd : Since W5 W5.drew := Below.drew (Below.refl _ _)
  go_region_held3 (fun w' => w'.cell? ⟨N1, 0, none⟩ = some (.int .i64 a) ∧ w'.cell? ⟨N1, 1, none⟩ = some (.int .i64 b) ∧ w'.cell? ⟨N3, 0, none⟩ = some (.int .i64 a) ∧ w'.cell? ⟨N3, 1, none⟩ = some (.int .i64 b) ∧ w'.cell? ⟨N4, 0, none⟩ = some (.int .i64 a2) ∧ w'.cell? ⟨N4, 1, none⟩ = some (.int .i64 a3) ∧ Since W5 w')
    (first | exact ⟨r0, r1, b0, b1, u0, u1, hSd⟩ | exact ⟨Since.cell hB r0, Since.cell hB r1, Since.cell hB b0, Since.cell hB b1, Since.cell hB u0, Since.cell hB u1, hB⟩)
    (first
      | (go_at_call_of 7 (Value.agg #[.int .i64 a, .int .i64 b]); refine (kr1.out _).mono ?_; rintro e w' ⟨rfl, hr⟩; (first | (have hB := Since.step hSd hr) | (have hB := Since.step hB hr)); clear hr)
      | (go_at_call_of 7 (Value.agg #[.int .i64 a2, .int .i64 a3]); refine (kr2.out _).mono ?_; rintro e w' ⟨rfl, hr⟩; (first | (have hB := Since.step hSd hr) | (have hB := Since.step hB hr)); clear hr)
      | (go_at_call 5; refine (kt2.out _ (HT5.out.below (by first | exact hB | exact hSd))).mono ?_; rintro e w' ⟨rfl, hr⟩; (first | (have hB := Since.step hSd hr) | (have hB := Since.step hB hr)); clear hr))
  rename_i hHeld
  have HB6 := Lib.hid (HB5.out.trans (Below.mono hB HB5.out.size))
  replace X_w := Lib.hid (X_w.out.keep hB)
  clear hHeld X_r X_b r0 r1 r2 b0 b1 b2 u0 u1 u2 hSd HT5 HB5 hB kt1 kr1 kt2
  rename World => W6
  have kc := fun (w : World) => run_bytes_of_string (P := Tryd.prog) w 9 29 5 X1 Tryd.underlying9 Tryd.underlying29 Tryd.underlying5
  go_wp2_with fail
  have hcap := grownCap_ge W6 X1.size 0 5
  generalize grownCap W6 X1.size 0 5 = cb at *
  have HCELLS := Lib.hid fun j hj => bytes_cells W6 X1 cb 5 hcap j hj
  have HB67 := Lib.hid (show Below W6.heap.size W6 (W6.alloc (.cells (bytesRow X1 cb) 5 ((bytesRow X1 cb).size, (bytesRow X1 cb).size + 1))).drew from ((Below.refl _ _).alloc (Nat.le_refl _) _).drew)
  have hlt7 : W6.heap.size < (W6.alloc (.cells (bytesRow X1 cb) 5 ((bytesRow X1 cb).size, (bytesRow X1 cb).size + 1))).drew.heap.size := by
    show _ < (W6.alloc _).heap.size
    simp
  have hX1n := Hm.bs_length X1
  generalize (W6.alloc (.cells (bytesRow X1 cb) 5 ((bytesRow X1 cb).size, (bytesRow X1 cb).size + 1))).drew = W7 at *
  clear kc
  generalize Hm.bs X1 = xs at *
  generalize X1.size = n at *
  refine (K5.out n W7 (by omega) (by omega)).mono ?_
  rintro e w' ⟨rfl, rfl⟩
  obtain ⟨k, hk, hkn⟩ := around_nat a5 n (by omega)
  rw [hk]
  have HK5 := K5
  clear hk K5 HK5
  obtain ⟨f1, c1⟩ := HCELLS.out k hkn
  have hki : (k : Int) < n := by omega
  have hEl := bytes_set (v := a6) hlt7 hX1n.symm hcap hkn (fun i hi => (HCELLS.out i hi).2)
  have hB68 := HB67.out.setCell (p := ⟨W6.heap.size, k, none⟩) (Nat.le_refl _) (.int .u8 a6)
  have hys : (xs.set k a6).length = n := by rw [List.length_set]; exact hX1n
  generalize xs.set k a6 = ys at *
  have HEL := Lib.hid hEl
  have HB68 := Lib.hid hB68
  clear hEl hB68 HB67 hX1n HCELLS
  go_wp2_with fail
  refine (K6.out _).mono ?_
  rintro e w' ⟨rfl, rfl⟩
  go_wp2_with fail
  refine (K8.out _).mono ?_
  rintro e w' ⟨rfl, rfl⟩
  go_wp2_with fail
  refine (K7.out _).mono ?_
  rintro e w' ⟨rfl, rfl⟩
  go_wp2_with fail
  refine (K9.out _).mono ?_
  rintro e w' ⟨rfl, rfl⟩
  generalize W7.setCell ⟨W6.heap.size, k, none⟩ (.int .u8 a6) = W8 at *
  have HB8 := Lib.hid (HB6.out.trans (HB68.out.mono HB6.out.size))
  replace X_w := Lib.hid (X_w.out.keep HB68.out)
  clear HB68 K6 K7 K8 K9 f1 c1 hlt7 hcap hki HB6
  generalize W6.heap.size = N6 at *
  obtain ⟨u0, u1, -, -, u2⟩ := X_w.out
  have hbs : (strOfNums ys).size ≤ 1000 := by rw [strOfNums_size]; omega
  have hcv := Lib.hid fun (W : World) (h : Since W8 W) => conv_since HEL.out l1b h
  generalize strOfNums ys = BS at *
  have hSd : Since W8 W8.drew := Below.drew (Below.refl _ _)
  have v1 := hcv.out _ hSd
  have q1 : ¬ 9223372036854775807 < D.size + 1 := by omega
  have q2 : ¬ 9223372036854775807 < D.size + 1 + F.size := by omega
  have q3 : ¬ 9223372036854775807 < 1 + D.size := by omega
  have q4 : ¬ 9223372036854775807 < 1 + D.size + 1 := by omega
  have q5 : ¬ 9223372036854775807 < 1 + D.size + 1 + F.size := by omega
  have q6 : ¬ 9223372036854775807 < D.size + 2 := by omega
  have q7 : ¬ 9223372036854775807 < 1 + D.size + 4 := by omega
  have HSZ := Lib.hid (fun k => texs_size (s0 := S) (s1 := BS) (s2 := D ++ ⟨#[46]⟩ ++ F) (s3 := (⟨#[45]⟩ : ByteArray) ++ D ++ ⟨#[47]⟩ ++ F) (s4 := D ++ ⟨#[47, 48]⟩) (s5 := (⟨#[48]⟩ : ByteArray) ++ D ++ ⟨#[46, 48, 48, 48]⟩) (s6 := X2) (by omega) hbs (by rw [ByteArray.size_append, ByteArray.size_append]; show D.size + 1 + F.size ≤ 1000; omega) (by rw [ByteArray.size_append, ByteArray.size_append, ByteArray.size_append]; show 1 + D.size + 1 + F.size ≤ 1000; omega) (by rw [ByteArray.size_append]; show D.size + 2 ≤ 1000; omega) (by rw [ByteArray.size_append, ByteArray.size_append]; show 1 + D.size + 4 ≤ 1000; omega) (by omega) k)
  clear hbs HEL hys
  go_upto_region 11 with (fail)
  go_cut [23] (fun s wx => CutT W8 (texs S BS (D ++ ⟨#[46]⟩ ++ F) ((⟨#[45]⟩ : ByteArray) ++ D ++ ⟨#[47]⟩ ++ F) (D ++ ⟨#[47, 48]⟩) ((⟨#[48]⟩ : ByteArray) ++ D ++ ⟨#[46, 48, 48, 48]⟩) X2) s wx)
  case first =>
    go_region_held3 (fun w' => w'.cell? ⟨N4, 0, none⟩ = some (.int .i64 a2) ∧ w'.cell? ⟨N4, 1, none⟩ = some (.int .i64 a3) ∧ (convert 29 9 (.slice (some ⟨N6, 0, none⟩) n cb)).run Tryd.prog w' = .ok (.string BS) w' ∧ Since W8 w')
      (first | exact ⟨u0, u1, v1, hSd⟩ | exact ⟨Since.cell hB u0, Since.cell hB u1, hcv.out _ hB, hB⟩ | exact ⟨Since.cell (Since.alloc hB _) u0, Since.cell (Since.alloc hB _) u1, hcv.out _ (Since.alloc hB _), Since.alloc hB _⟩)
      (first
        | (go_at_call 7; refine (kr2.out _).mono ?_; rintro e w' ⟨rfl, hr⟩; (first | (have hB := Since.step hSd hr) | (have hB := Since.step hB hr)); clear hr)
        | (go_at_call 10; refine (K10.out _).mono ?_; rintro e w' ⟨rfl, rfl⟩))
    all_goals (go_wp2_with fail; go_meet; exact ⟨_, rfl, StrTab.new _ _ _ _ _ _ _ _ _, Since.alloc hB _⟩)
  case rest =>
    obtain ⟨G, rfl, hT9, S9⟩ := hcut
    have HT9 := Lib.hid hT9
    have HB9 := Lib.hid (HB8.out.trans (Below.mono S9 HB8.out.size))
    clear hT9 S9 u0 u1 u2 v1 q1 q2 q3 q4 q5 q6 q7 hSd hcv X_w HB8 K10 kr2 l1a l1b l2 l8 l9 l10 hkn
    generalize texs S BS (D ++ ⟨#[46]⟩ ++ F) ((⟨#[45]⟩ : ByteArray) ++ D ++ ⟨#[47]⟩ ++ F) (D ++ ⟨#[47, 48]⟩) ((⟨#[48]⟩ : ByteArray) ++ D ++ ⟨#[46, 48, 48, 48]⟩) X2 = f at *
    rename World => wb
    go_wp2
    go_loopw [24] (fun x wr => ∃ k : Nat, k ≤ 7 ∧ x = .int .i64 k ∧ Hid (Since wb wr)) (fun x _ => 7 - (intOf x).toNat)
    case atStart => exact ⟨0, by omega, rfl, Below.refl _ _⟩
    case round =>
      obtain ⟨k, hk, rfl, hS⟩ := hrel
      by_cases hlt : k < 7
      · have hki : (k : Int) < 7 := by omega
        have hk0 : 0 ≤ (k : Int) := by omega
        have HT10 := Lib.hid (HT9.out.keep hS.out)
        have c1 := HT10.out.2 k hlt
        have hG := HT10.out.1
        have hsz := HSZ.out k
        have KA := Lib.hid fun W => both_parse (f k) W hsz
        have KB := Lib.hid fun W => rparse_any (f k) W hsz
        generalize refP (f k).data.toList = R at *
        obtain ⟨R1, R2, R3⟩ := R
        have HFK : Hid (∀ W : World, StrTab G f W → W.cell? ⟨G, k, none⟩ = some (.string (f k))) := fun W h => h.2 k hlt
        generalize f k = T at *
        clear hsz
        unfold rve at KA KB
        go_wp2_with fail
        refine (KA.out _).mono ?_
        rintro e w1 ⟨rfl, hB⟩
        have HT11 := Lib.hid ((HT10.out.keep hB).keep ((Below.refl _ _).alloc (Nat.le_refl _) (.cells #[.int .i64 R1, .int .i64 R2] 23)))
        have HS1 := Lib.hid ((Since.step hS.out hB).alloc (.cells #[.int .i64 R1, .int .i64 R2] 23))
        have X_1 := Lib.hid (BoxAt.made w1 (.int .i64 R1) (.int .i64 R2) 23)
        have c2 := HFK.out _ HT11.out
        clear hB hG c1 HT10 hS KA
        go_wp2_with fail
        refine (KB.out _).mono ?_
        rintro e w2 ⟨rfl, hB⟩
        have HS2 := Lib.hid ((Since.step HS1.out hB).alloc (.cells #[.int .i64 R1, .int .i64 R2] 23))
        have X_2 := Lib.hid ((X_1.out.keep hB).under (.cells #[.int .i64 R1, .int .i64 R2] 23))
        have X_3 := Lib.hid (BoxAt.made w2 (.int .i64 R1) (.int .i64 R2) 23)
        obtain ⟨p0, p1, -, -, p2⟩ := X_2.out
        obtain ⟨q0, q1, -, -, q2⟩ := X_3.out
        clear hB c2 HS1 KB X_1
        go_wp2
        go_roundw
        case rel => exact ⟨k + 1, by omega, by go_num, HS2⟩
        case measure => simp [intOf]; omega
      · have hki : 7 ≤ (k : Int) := by omega
        have H5 := Lib.hid (HB9.out.trans (Below.mono hS.out HB9.out.size))
        go_wp2_with fail
        refine (KL'.out _).mono ?_
        rintro e WZ ⟨rfl, hB⟩
        have HZZ := Lib.hid (H5.out.trans (hB.mono H5.out.size))
        clear hB
        go_wp2
        go_ret
        exact ⟨rfl, HZZ.out⟩

end Go.Proofs.YtloddocibfbkpaaDoor
