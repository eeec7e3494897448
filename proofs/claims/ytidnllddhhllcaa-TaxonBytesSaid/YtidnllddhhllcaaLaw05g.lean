/- The law TaxonBytes. -/
import Derived.Test.YtidnllddhhllcaaTj
import Derived.Test.YtidnllddhhllcaaLaw05f
namespace Go.Proofs.Ytidnllddhhllcaa
open Go.RowKit Go.Shelf

theorem good_fit {P : List (List Int)} {m : Nat} (h : Tx.Good P) (hm : m ≤ 1000) (hl : ∀ l ∈ P, l.length ≤ m) : RowsFit P := ⟨by have := h.len; omega, fun l hl2 => ⟨by have := hl l hl2; omega, fun z hz => by
  have := Tx.okB_mem (List.all_eq_true.1 h.ok l hl2) z hz
  have := h.len
  exact wf_range (by omega)⟩⟩

theorem encP_small {P : List (List Int)} (h : RowsFit P) (h9 : P.length ≤ 9) (hl : ∀ l ∈ P, l.length ≤ 9) : (encP P).length ≤ 910 := by
  have h1 := Hm.uv_len (Hm.zig_lt (n := (P.length : Int)) (by omega))
  have h2 : ∀ Q : List (List Int), (∀ l ∈ Q, l.length ≤ 9 ∧ Nums l) → (Q.map encRow).flatten.length ≤ Q.length * 100 := fun Q => by
    induction Q with
    | nil => intro _; simp
    | cons c Q ih =>
      intro hq
      have h3 := hq c (List.mem_cons_self ..)
      have h4 := encs_len c h3.2
      have h5 := Hm.uv_len (n := c.length) (by have := h3.1; omega)
      have h6 := ih fun l hl => hq l (List.mem_cons_of_mem _ hl)
      rw [List.map_cons, List.flatten_cons, List.length_append, List.length_cons, encRow, List.length_append, Nat.add_mul]
      omega
  have h3 := h2 P fun l hl2 => ⟨hl l hl2, (h.2 l hl2).2⟩
  have h4 := Nat.mul_le_mul_right 100 h9
  unfold encP
  rw [List.length_append]
  omega

theorem encP_len10 {P : List (List Int)} (h9 : P.length ≤ 100) (hl : ∀ l ∈ P, RowOK 10 l) : (encP P).length ≤ 100000 := by
  have h1 := Hm.uv_len (Hm.zig_lt (n := (P.length : Int)) (by omega))
  have h2 : ∀ Q : List (List Int), (∀ l ∈ Q, RowOK 10 l) → (Q.map encRow).flatten.length ≤ Q.length * 110 := fun Q => by
    induction Q with
    | nil => intro _; simp
    | cons c Q ih =>
      intro hq
      have h3 := hq c (List.mem_cons_self ..)
      have h4 := encs_len c h3.2
      have h5 := Hm.uv_len (n := c.length) (by have := h3.1; omega)
      have h6 := ih fun l hl => hq l (List.mem_cons_of_mem _ hl)
      have h7 := h3.1
      rw [List.map_cons, List.flatten_cons, List.length_append, List.length_cons, encRow, List.length_append, Nat.add_mul]
      omega
  have h3 := h2 P hl
  have h4 := Nat.mul_le_mul_right 110 h9
  unfold encP
  rw [List.length_append]
  omega

theorem encP_pos (P : List (List Int)) : 1 ≤ (encP P).length := by
  unfold encP
  rw [List.length_append]
  have := Hm.uv_ne (Hm.zig (P.length : Int))
  omega

theorem rowsFit_of {Q : List (List Int)} (h1 : Q.length ≤ 100) (h2 : ∀ l ∈ Q, RowOK 10 l) : RowsFit Q := ⟨h1, fun l hl => ⟨by have := (h2 l hl).1; omega, (h2 l hl).2⟩⟩

theorem dec_self {Q : List (List Int)} (h : RowsFit Q) : (dec (encP Q) = some Q ∨ dec (encP Q) = none ∧ Tx.newE Q ≠ 0) := by
  by_cases h64 : Q.length ≤ 64
  · exact .inl (dec_enc (fun l hl => (h.2 l hl).2) (fun l hl => by have := (h.2 l hl).1; omega) h64)
  · refine .inr ⟨dec_big (by omega) (by have := h.1; omega), ?_⟩
    unfold Tx.newE
    rw [if_pos (by omega)]
    decide

/-- What Decode of an encoding leaves. -/
def DecSelf (Q : List (List Int)) (w : World) (e : Ending) (w' : World) : Prop :=
  (Tx.newE Q = 0 ∧ ∃ N, e = .returned (.tuple #[.pointer (some ⟨N, 0, none⟩), .int .i64 0]) ∧ Hid (TxAt N Q w') ∧ Hid (Below w.heap.size w w')) ∨
  (Tx.newE Q ≠ 0 ∧ e = .returned (.tuple #[.pointer none, .int .i64 2]) ∧ Hid (Below w.heap.size w w'))

theorem decode_self (sv : Value) (Q : List (List Int)) (w : World) (hl : Els .u8 w sv (encP Q)) (h : RowsFit Q) (hlen : (encP Q).length ≤ 100000) :
    Calls Try.prog 30 #[sv] w (DecSelf Q w) :=
  (decode_any sv _ w hl (encP_byt Q) hlen).mono fun e w' hp => by
    rcases dec_self h with hd | ⟨hd, hn⟩
    · rcases hp with ⟨P, N, h1, h2, h3, h4, h5⟩ | ⟨h1, h2, h3⟩
      · rw [hd] at h1
        injection h1 with h1
        subst h1
        exact .inl ⟨h2, N, h3, h4, h5⟩
      · exact .inr ⟨h1 Q hd, h2, h3⟩
    · rcases hp with ⟨P, N, h1, h2, h3, h4, h5⟩ | ⟨h1, h2, h3⟩
      · rw [hd] at h1; cases h1
      · exact .inr ⟨hn, h2, h3⟩

/-- What Decode of any bytes leaves. -/
def DecAny (b : List Int) (w : World) (e : Ending) (w' : World) : Prop :=
  (∃ P N, b = encP P ∧ RowsFit P ∧ e = .returned (.tuple #[.pointer (some ⟨N, 0, none⟩), .int .i64 0]) ∧ Hid (TxAt N P w') ∧ Hid (Below w.heap.size w w')) ∨
  (e = .returned (.tuple #[.pointer none, .int .i64 2]) ∧ Hid (Below w.heap.size w w'))

theorem decode_bytes (sv : Value) (b : List Int) (w : World) (hl : Els .u8 w sv b) (hb : Hm.Byt b) (hlen : b.length ≤ 1000) :
    Calls Try.prog 30 #[sv] w (DecAny b w) :=
  (decode_any sv _ w hl hb (by omega)).mono fun e w' hp => by
    rcases hp with ⟨P, N, h1, h2, h3, h4, h5⟩ | ⟨h1, h2, h3⟩
    · obtain ⟨q1, q2, q3⟩ := dec_one hb h1
      exact .inl ⟨P, N, q1, good_fit h4.out.1 hlen q3, h3, h4, h5⟩
    · exact .inr ⟨h2, h3⟩

theorem cell_new_d (w : World) (v : Value) (t : TypeId) : ((w.alloc (.cells #[v] t)).drew).cell? ⟨w.heap.size, 0, none⟩ = some v := (cell_new_l w v t).1

theorem byt_snoc {zs : List Int} {z : Int} (h : Hm.Byt zs) (hz : 0 ≤ z ∧ z < 256) : Hm.Byt (zs ++ [z]) := Hm.byt_append h (Hm.byt_cons hz Hm.byt_nil)

theorem since_of {w W : World} (h : Below w.heap.size w W) : Since w W := h

/-- One byte appended to a slice of the call's own, as a step of a region that draws its order. -/
theorem step_since {ops : Array Oper} {o : Oper} {act : Act} {K : Act → World → Prop} {Q : Exit → Act → World → Prop} {E : Prop} {w : World} (hgd : o.guard = none) (s x : Operand)
    (ho : o.op = .call { callee := .builtin .append, args := #[s, x], argTypes := #[48, 48] }) (wb : World) (v : Value) (zs : List Int) (ad : Addr) (z : Int)
    (hs : act.eval s = v) (hx : act.eval x = .slice (some ad) 1 1) (hc : w.cell? ad = some (.int .u8 z)) (hown : Own .u8 5 wb.heap.size w v zs) (hS : Since wb w) (hl : zs.length ≤ 1000000000000)
    (h : ∀ a n c w', Hid (n = zs.length + 1) → Hid (Own .u8 5 wb.heap.size w' (.slice a n c) (zs ++ [z])) → Hid (Since wb w') → K (act.put o.dst (.slice a n c)) w') :
    if Region.wanted o (yielded ops act.tmps) = true then Oper.wp Try.prog o act w K Q else E :=
  step_one hgd s x 48 ho .u8 5 1 Try.underlying48 Try.infoU8 (by decide) wb.heap.size v zs ad z hs hx hc hown (Below.size hS) hl fun a n c w' h1 h2 h3 => h a n c w' h1 h2 (Lib.hid (Below.trans hS h3.out))

/-- A table of four slices of bytes. -/
def BTab (w : World) (v : Value) (W : World) : Prop := ∃ G, v = .slice (some ⟨G, 0, none⟩) 4 4 ∧ Since w W ∧ ∀ k, k < 4 → ∃ a n c zs, W.cell? ⟨G, k, none⟩ = some (.slice a n c) ∧ Els .u8 W (.slice a n c) zs ∧ Hm.Byt zs ∧ zs.length ≤ 1000

/-- A slice of good bytes. -/
def GoodB (W : World) (v : Value) : Prop := ∃ zs, Els .u8 W v zs ∧ Hm.Byt zs ∧ zs.length ≤ 1000

theorem GoodB.below {w W : World} {v : Value} (h : GoodB w v) (hB : Below w.heap.size w W) : GoodB W v := by
  obtain ⟨zs, h1, h2, h3⟩ := h
  exact ⟨zs, h1.below hB, h2, h3⟩

theorem btab_of {w W : World} {a b c d : Value} (T : TypeId) (hW : Since w W) (ha : GoodB W a) (hb : GoodB W b) (hc : GoodB W c) (hd : GoodB W d) (g : Nat) (hg : W.heap.size = g) : BTab w (.slice (some ⟨g, 0, none⟩) 4 4) (W.alloc (.cells #[a, b, c, d] T)) := by
  subst hg
  have hB := (Below.refl W.heap.size W).alloc (Nat.le_refl _) (.cells #[a, b, c, d] T)
  have hn := heap_new W (.cells #[a, b, c, d] T)
  have one : ∀ v : Value, GoodB W v → ∃ a' n' c' zs, v = .slice a' n' c' ∧ Els .u8 (W.alloc (.cells #[a, b, c, d] T)) (.slice a' n' c') zs ∧ Hm.Byt zs ∧ zs.length ≤ 1000 := fun v h => by
    obtain ⟨zs, h1, h2, h3⟩ := h
    obtain ⟨x, y, rfl⟩ := h1.shape
    exact ⟨x, _, y, zs, rfl, h1.below hB, h2, h3⟩
  refine ⟨W.heap.size, rfl, Since.step hW hB, fun k hk => ?_⟩
  match k with
  | 0 => obtain ⟨x, y, z, zs, rfl, h⟩ := one a ha; exact ⟨x, y, z, zs, by unfold World.cell?; simp only [hn]; rfl, h⟩
  | 1 => obtain ⟨x, y, z, zs, rfl, h⟩ := one b hb; exact ⟨x, y, z, zs, by unfold World.cell?; simp only [hn]; rfl, h⟩
  | 2 => obtain ⟨x, y, z, zs, rfl, h⟩ := one c hc; exact ⟨x, y, z, zs, by unfold World.cell?; simp only [hn]; rfl, h⟩
  | 3 => obtain ⟨x, y, z, zs, rfl, h⟩ := one d hd; exact ⟨x, y, z, zs, by unfold World.cell?; simp only [hn]; rfl, h⟩
  | n + 4 => omega

theorem els_cut {k : IntKind} {w : World} {b off n c m : Nat} {zs : List Int} (h : Els k w (.slice (some ⟨b, off, none⟩) n c) zs) (hm : m ≤ n) (h1 : 1 ≤ n) : Els k w (.slice (some ⟨b, off, none⟩) m c) (zs.take m) := by
  have hn := h.len
  rcases h with ⟨_, hz⟩ | ⟨b', off', cap, hb, he, hl, hc⟩
  · subst hz; simp at hn; omega
  · cases he
    refine .inr ⟨b, off, c, hb, ?_, ?_, fun j hj => ?_⟩
    · rw [List.length_take, Nat.min_eq_left (by omega)]
    · rw [List.length_take]; omega
    · rw [List.length_take] at hj
      rw [hc j (by omega), List.getElem?_take_of_lt (by omega)]

set_option maxHeartbeats 8000000 in
set_option maxRecDepth 100000 in
theorem law_bytes5 (a0 : Option Addr) (len0 cap0 : Nat) (z0 : List Int) (a1 a2 a3 : Int) (a4 : Option Addr) (len4 cap4 : Nat) (z4 : List Int) (a5 : Int) (w : World) (w0 : Came .i64 w a0 len0 cap0 z0) (w1 : (Lit.int .i64 a1).wf = true) (w2 : (Lit.int .i64 a2).wf = true) (w3 : (Lit.int .i64 a3).wf = true) (w4 : Came .u8 w a4 len4 cap4 z4) (w5 : (Lit.int .u8 a5).wf = true) :
    Calls Try.prog 5 #[.slice a0 len0 cap0, .int .i64 a1, .int .i64 a2, .int .i64 a3, .slice a4 len4 cap4, .int .u8 a5] w fun e w' => e = .returned (.bool true) ∧ Below w.heap.size w w' := by
  have k1 := Lib.hid (parents_any _ _ 9 w w0.els (came_wfs w0) (by decide) (by decide))
  have ks1 := fun (pv : Value) (P : List (List Int)) (W : World) (hL : LE W pv P) (hP : P.length ≤ 100) (hm : ∀ l ∈ P, RowOK 9 l) => spoilt_any pv P a1 a2 a3 9 W hL hP hm (by decide) w1 w2 w3
  have kar := fun (n : Int) (W : World) (h1 : 1 ≤ n) (h2 : n ≤ 1000) => around_any a1 n W h1 (by omega) w1
  have kfr := fun (W : World) (hB : Below w.heap.size w W) => few_any 30 _ _ W (by decide) (w4.els.below hB) w4.cap
  have hby : Hm.Byt ((z4.take len4).take 30) := (w4.byt.take len4).take 30
  have ha5 := u8_of_wf w5
  have KS1 := Lib.hid ks1
  have KAR := Lib.hid kar
  have KFR := Lib.hid kfr
  have HBY := Lib.hid hby
  have KL := Lib.hid lives05
  clear w0 w1 w2 w3 w4 w5 ks1 kar kfr hby
  go_enter Try.func5, Try.ntmps5
  go_wp2_with fail
  refine (k1.out).mono ?_
  rintro e w1 ⟨P, aP, nP, cP, rfl, hG, HNP, O3, B3⟩
  have hLE := O3.out.lin.le
  have HLE := Lib.hid hLE
  have k2 := Lib.hid (KS1.out _ P w1 hLE (by have := hG.le; omega) (genP_ok hG))
  have k3 := Lib.hid fun (W : World) (hL : LE W (.slice aP nP cP) P) => new_ok _ P W hL (by have := hG.le; omega) (fun l hl => by have := hG.short l hl; omega) hG.good
  have hfit := good_fit hG.good (by decide) hG.short
  have hsm := encP_small hfit hG.le hG.short
  have hpos := encP_pos P
  have hp9 : Hid (∀ l ∈ P, l.length ≤ 1000) := fun l hl => by have := hG.short l hl; omega
  have hpl : P.length ≤ 9 := hG.le
  have HFIT := Lib.hid hfit
  have HE0 : Hid (Tx.newE P = 0) := Tx.newE_ok.2 ⟨hG.good.len, hG.good.ok, hG.good.acy⟩
  clear k1 O3 hG hLE KS1 hfit
  go_wp2_with fail
  refine (k2.out).mono ?_
  rintro e w2 ⟨Q, aQ, nQ, cQ, rfl, hql, hqm, HNQ, LQ, B5⟩
  have HB2 := Lib.hid (Since.step B3.out B5.out)
  have HL2 := Lib.hid (LE.below B5.out HLE.out)
  have HQF := Lib.hid (rowsFit_of hql hqm.out)
  have HQL := Lib.hid (encP_len10 hql hqm.out)
  have HQ1 : Hid (∀ l ∈ Q, l.length ≤ 1000) := fun l hl => by have := (hqm.out l hl).1; omega
  clear k2 B3 B5 HLE hqm
  go_wp2_with fail
  refine (k3.out _ HL2.out).mono ?_
  rintro e w3 ⟨N, rfl, X3, B6⟩
  have HB3 := Lib.hid (Since.step HB2.out B6.out)
  have HL3 := Lib.hid (LE.below B6.out HL2.out)
  have LQ3 := Lib.hid (LE.below B6.out LQ.out)
  have k4 := Lib.hid (tencode_any N P w3 X3.out HFIT.out)
  clear k3 B6 HB2 HL2 LQ
  go_wp2_with fail
  refine (k4.out).mono ?_
  rintro e w4 ⟨ab, nb, cb, rfl, HNB, OB, B7⟩
  have HB4 := Lib.hid (Since.step HB3.out B7.out)
  have HL4 := Lib.hid (LE.below B7.out HL3.out)
  have LQ4 := Lib.hid (LE.below B7.out LQ3.out)
  have EB4 := Lib.hid OB.out.els
  have CB4 := Lib.hid OB.out.cap
  have k5 := Lib.hid (decode_self _ P w4 OB.out.els HFIT.out (by omega))
  clear k4 B7 HB3 HL3 LQ3 OB X3
  go_wp2_with fail
  refine (k5.out).mono ?_
  rintro e w5 hself
  rcases hself with ⟨_, N2, rfl, X5, B8⟩ | ⟨hbad, _, _⟩
  rotate_left 1
  · exact absurd HE0.out hbad
  have HB5 := Lib.hid (Since.step HB4.out B8.out)
  have HL5 := Lib.hid (LE.below B8.out HL4.out)
  have LQ5 := Lib.hid (LE.below B8.out LQ4.out)
  have EB5 := Lib.hid (EB4.out.below B8.out)
  have k6 := Lib.hid (rread_any _ (encP P) w5 (by omega) EB5.out)
  clear k5 B8 HB4 HL4 LQ4 EB4
  go_wp2_with fail
  refine (k6.out).mono ?_
  rintro e w6 ⟨p, d, rfl, hp, hd, hdl, HR6, B9⟩
  have HL6 := Lib.hid (LE.below B9.out HL5.out)
  have EB6 := Lib.hid (EB5.out.below B9.out)
  have X6 := Lib.hid (X5.out.below B9.out)
  have k7 := Lib.hid (rencode_any _ P w6 HL6.out HFIT.out)
  have hnb : nb = (encP P).length := HNB.out
  have hnb1 : 1 ≤ nb := by omega
  have hnb9 : nb ≤ 910 := by omega
  have HNB0 : Hid (nb = (encP P).length) := hnb
  have hz0 : ((nb : Int) == 0) = false := beq_eq_false_iff_ne.2 (by omega)
  have HS6 := Lib.hid B9.out
  clear k6 B9 HL5 X5 hd hnb
  go_wp2_with fail
  refine (k7.out).mono ?_
  rintro e w7 ⟨a7, n7, c7, rfl, HN7, O7, B10⟩
  have k8 := Lib.hid (sameBytes_any _ _ (encP P) (encP P) w7 (EB6.out.below B10.out) O7.out.els (by omega))
  have hbt : decide (encP P = encP P) = true := decide_eq_true rfl
  rw [hbt] at k8
  have HS7 := Lib.hid (Since.step HS6.out B10.out)
  have HR7 := Lib.hid (HR6.out.below B10.out)
  have HL7 := Lib.hid (LE.below B10.out HL6.out)
  have X7 := Lib.hid (X6.out.below B10.out)
  have hdl7 : d < w7.heap.size := Nat.lt_of_lt_of_le hdl B10.out.size
  clear k7 O7 B10 HS6 HR6 HL6 EB6 X6 hdl hbt
  go_wp2_with fail
  refine (k8.out).mono ?_
  rintro e w8 ⟨rfl, B11⟩
  have HS8 := Lib.hid (Since.step HS7.out B11)
  have HR8 := Lib.hid (HR7.out.below B11)
  have HL8 := Lib.hid (LE.below B11 HL7.out)
  have k9 := Lib.hid (tparents_any N2 P w8 (X7.out.below B11) hp9.out)
  clear k8 B11 HS7 HR7 HL7 X7
  go_wp2_with fail
  refine (k9.out).mono ?_
  rintro e w9 ⟨a9, c9, rfl, HL9, B12⟩
  have k10 := rsame_any _ _ P P w9 HL9.out.le (LE.below B12.out HL8.out) (by omega) hp9.out
  rw [decide_eq_true rfl] at k10
  have K10 := Lib.hid k10
  have HS9 := Lib.hid (Since.step HS8.out B12.out)
  have HR9 := Lib.hid (HR8.out.below B12.out)
  clear k9 k10 HL9 B12 HS8 HR8 HL8
  go_wp2_with fail
  refine (K10.out).mono ?_
  rintro e w10 ⟨rfl, B13⟩
  have HS10 := Lib.hid (Since.step HS9.out B13)
  have HR10 := Lib.hid (HR9.out.below B13)
  have k11 := rint_any p d _ 0 w10 HR10.out (encP_byt P) (by omega)
  rw [rU_encP (by omega), Hm.unzig_zig, ← HNP.out] at k11
  have hnn : ((nP : Int) != (nP : Int)) = false := by simp
  have K11 := Lib.hid k11
  clear k11 K10 B13 HS9 HR9
  go_wp2_with fail
  refine (K11.out).mono ?_
  rintro e w11 ⟨rfl, HR11, HG11⟩
  have hS11 : Since w5 w11 := Below.trans HS10.out (reads_below HG11 hp HS10.out.size)
  have HB11 := Lib.hid (Since.step HB5.out hS11)
  have LQ11 := Lib.hid (LE.below hS11 LQ5.out)
  have EB11 := Lib.hid (EB5.out.below hS11)
  have k12 := Lib.hid (rencode_any _ Q w11 LQ11.out HQF.out)
  clear K11 HS10 HR10 HR11 HG11 hS11 hp HB5 LQ5 EB5
  go_wp2_with fail
  refine (k12.out).mono ?_
  rintro e w12 ⟨a12, n12, c12, rfl, HN12, O12, B14⟩
  have k13 := Lib.hid (decode_self _ Q w12 O12.out.els HQF.out HQL.out)
  have HB12 := Lib.hid (Since.step HB11.out B14.out)
  have LQ12 := Lib.hid (LE.below B14.out LQ11.out)
  have EB12 := Lib.hid (EB11.out.below B14.out)
  clear k12 O12 B14 HB11 LQ11 EB11
  go_wp2_with fail
  refine (k13.out).mono ?_
  rintro e w13 hself
  have hself2 : ∃ (E : Int) (pv : Value) (g : Int), Tx.newE Q = E ∧ e = .returned (.tuple #[pv, .int .i64 g]) ∧ ((E = 0 ∧ g = 0 ∧ ∃ N, pv = .pointer (some ⟨N, 0, none⟩)) ∨ ((E == 0) = false ∧ g = 2 ∧ pv = .pointer none)) ∧ Hid (Since w12 w13) := by
    rcases hself with ⟨h1, N', h2, _, h3⟩ | ⟨h1, h2, h3⟩
    · exact ⟨_, _, _, rfl, h2, .inl ⟨h1, rfl, N', rfl⟩, h3⟩
    · exact ⟨_, _, _, rfl, h2, .inr ⟨beq_eq_false_iff_ne.2 h1, rfl, rfl⟩, h3⟩
  obtain ⟨E, pv, g, hE, rfl, hcase, HS13⟩ := hself2
  have HB13 := Lib.hid (Since.step HB12.out HS13.out)
  have k14 := rcheck_any _ Q w13 (LE.below HS13.out LQ12.out) (by omega) HQ1.out
  have EB13 := Lib.hid (EB12.out.below HS13.out)
  rw [hE] at k14
  have K14 := Lib.hid k14
  clear hself k13 HB12 LQ12 EB12 HS13 k14 hE
  go_upto_region 12 with (fail)
  go_cut [118] (fun s wx => s = .bool false ∧ Since w13 wx)
  case first =>
    rcases hcase with ⟨rfl, rfl, N', rfl⟩ | ⟨hE0, rfl, rfl⟩
    all_goals
      go_wp2_with fail
      refine (K14.out).mono ?_
      rintro e w14 ⟨rfl, B15⟩
      go_wp2_with fail
      go_meet
      exact ⟨rfl, B15⟩
  case rest =>
    obtain ⟨rfl, B15⟩ := hcut
    rename World => w14
    have HB14 := Lib.hid (Since.step HB13.out B15)
    have EB14 := Lib.hid (EB13.out.below B15)
    have k15 := few_any nb _ (encP P) w14 (by omega) EB14.out CB4.out
    rw [List.take_of_length_le (by rw [← HNB0.out]; exact Nat.le_refl _)] at k15
    have K15 := Lib.hid k15
    clear B15 HB13 EB13 k15
    go_wp2_with fail
    refine (K15.out).mono ?_
    rintro e w15 ⟨a15, n15, c15, rfl, HN15, O15, B16⟩
    have hn15 : n15 = nb := by rw [HN15.out, HNB0.out]
    subst hn15
    obtain ⟨i, hi, hin⟩ := around_nat a1 n15 (by omega)
    have k16 := KAR.out (n15 : Int) w15 (by omega) (by omega)
    rw [hi] at k16
    have K16 := Lib.hid k16
    obtain ⟨gx, rfl, hgB, hgw, hgc, hgf⟩ := O15.out.open HN15.out (by omega)
    have hci := hgc i hin
    have hfi := hgf i
    have OX := Lib.hid (O15.out.set HN15.out i a5)
    have HSX := Lib.hid (B16.out.setCell (p := ⟨gx, i, none⟩) hgB (.int .u8 a5))
    have hii : (i : Int) < n15 := by omega
    have HXB : Hid (Hm.Byt ((encP P).set i a5)) := byt_set (encP_byt P) i a5 ha5
    have HXL : Hid (((encP P).set i a5).length ≤ 910) := by show _ ≤ _; rw [List.length_set, ← HNB0.out]; exact hnb9
    clear k16 hi hgc hgf K15 O15
    go_wp2_with fail
    refine (K16.out).mono ?_
    rintro e w' ⟨rfl, rfl⟩
    go_upto_region 16 with (fail)
    have HB16 := Lib.hid (Since.step HB14.out HSX.out)
    have EB16 := Lib.hid (EB14.out.below HSX.out)
    generalize w15.setCell ⟨gx, i, none⟩ (.int .u8 a5) = w16 at *
    clear hci hfi HSX EB14 HB14 hgw hgB B16 K16
    obtain ⟨bb, ob, hab, -⟩ := EB16.out.at 0 (by omega)
    subst hab
    have hm1 : ((n15 : Int) - 1) = ((n15 - 1 : Nat) : Int) := by omega
    have hm2 : n15 - 1 ≤ n15 := by omega
    have hm4 : 0 ≤ ((n15 - 1 : Nat) : Int) := by omega
    have hcut := els_cut EB16.out hm2 hnb1
    have hcb : n15 ≤ cb := by
      rcases EB16.out with ⟨_, hz⟩ | ⟨b', off', cap, hb, he, hl, hc⟩
      · have h1 := HNB0.out; rw [hz] at h1; simp at h1; omega
      · cases he; exact Nat.le_trans (Nat.le_of_eq HNB0.out) hl
    have hm3 : n15 - 1 ≤ cb := by omega
    have hm5 : ((n15 - 1 : Nat) : Int) ≤ (cb : Int) := by omega
    have hm6 : IntKind.i64.wrap ((n15 : Int) - 1) = ((n15 - 1 : Nat) : Int) := by rw [IntWalk.i64_in _ (by omega)]; exact hm1
    have hm7 : IntKind.i64.wrap ((n15 - 1 : Nat) : Int) = ((n15 - 1 : Nat) : Int) := IntWalk.i64_in _ (by omega)
    have hm8 : (((n15 - 1 : Nat) : Int)).toNat = n15 - 1 := by omega
    have hcutl : ((encP P).take (n15 - 1)).length ≤ 1000 := by rw [List.length_take]; omega
    have GC : Hid (GoodB w16 (.slice (some ⟨bb, ob, none⟩) (n15 - 1) cb)) := ⟨_, hcut, (encP_byt P).take _, hcutl⟩
    have GX : Hid (GoodB w16 (.slice (some ⟨gx, 0, none⟩) n15 c15)) := ⟨_, OX.out.els, HXB.out, by have := HXL.out; omega⟩
    have kfb := fun (W : World) (h : Since w16 W) => show Calls Try.prog 35 #[.slice (some ⟨bb, ob, none⟩) n15 cb, .int .i64 n15] W (Makes .u8 5 (encP P) W) from
      (few_any n15 _ (encP P) W (by omega) (EB16.out.below h) CB4.out).mono fun e w' hh => by
        rw [List.take_of_length_le (by rw [← HNB0.out]; exact Nat.le_refl _)] at hh
        exact hh
    have kfr := fun (W : World) (h : Since w16 W) => show Calls Try.prog 35 #[.slice a4 len4 cap4, .int .i64 30] W (Makes .u8 5 ((z4.take len4).take 30) W) from KFR.out W (Since.step HB16.out h)
    have KFB := Lib.hid kfb
    have KFR2 := Lib.hid kfr
    have hlen30 : Hid (((z4.take len4).take 30).length ≤ 1000) := by show _ ≤ _; rw [List.length_take]; omega
    generalize (z4.take len4).take 30 = r4 at *
    generalize hmm : n15 - 1 = m1 at *
    clear hmm hcut hcutl kfb kfr OX hcb KFR KAR
    go_cut [24] (fun s wx => BTab w16 s wx)
    case first =>
      have hSd : Since w16 w16.drew := Below.drew (Below.refl _ _)
      have h8 : 1 ≤ 8 := by decide
      have hl8 : (encP P).length ≤ 1000000000000 := by rw [← HNB0.out]; omega
      go_region_held3 (fun w' => Since w16 w')
        (first | exact hSd | exact Since.step HS18 hB20.out | exact Since.step (by assumption) B19.out | exact HS18 | exact Since.step (by assumption) ((Below.refl _ _).alloc (Nat.le_refl _) _))
        ((first
          | (go_at_call_of 35 (Value.slice a4 len4 cap4); refine (KFR2.out _ (by assumption)).mono ?_; rintro e w18 ⟨a18, n18, c18, rfl, HN18, O18, B18⟩; have HS18 : Since w16 w18 := Since.step (by assumption) B18.out)
          | (go_at_call_of 35 (Value.slice (some ⟨bb, ob, none⟩) n15 cb); refine (KFB.out _ (by assumption)).mono ?_; rintro e w19 ⟨a19, n19, c19, rfl, HN19, O19, B19⟩)
          | (with_reducible change if Region.wanted (⟨some 144, _, _, _, _, _⟩ : Oper) _ = true then _ else _; refine step_since rfl (.tmp 141) (.tmp 143) rfl w18 (.slice a19 n19 c19) (encP P) _ a5 rfl rfl ?hc ?ho ?hb hl8 ?_; (case hc => (first | with_reducible exact (cell_new_l _ _ _).1 | with_reducible exact Since.cell (since_of B19.out) (cell_new_l _ _ _).1 | with_reducible exact Since.cell (since_of B19.out) (Since.cell (since_of B18.out) (cell_new_d _ _ _)))); (case ho => (first | with_reducible exact O19.out | with_reducible exact O19.out.below ((Below.refl _ _).alloc (Nat.le_refl _) _) | with_reducible exact own_baseR O19.out (by simp))); (case hb => (first | with_reducible exact since_of B19.out | with_reducible exact Since.step (since_of B19.out) ((Below.refl _ _).alloc (Nat.le_refl _) _) | with_reducible exact Since.step (since_of ((Below.refl _ _).alloc (Nat.le_refl _) _)) B19.out)); intro a20 n20 c20 w20 hn20 hO20 hB20)))
      all_goals
        (first | refine NoPanic.normal ?_ | skip)
        go_wp2_with fail
        go_meet
        have GR : GoodB w18 (.slice a18 n18 c18) := ⟨_, O18.out.els, HBY.out, hlen30.out⟩
        have GA : GoodB w20 (.slice a20 n20 c20) := ⟨_, hO20.out.els, byt_snoc (encP_byt P) ha5, by rw [List.length_append, ← HNB0.out]; simp; omega⟩
        exact btab_of _ (Since.step HS18 hB20.out) (GR.below hB20.out) (GX.out.below (Since.step HS18 hB20.out)) (GC.out.below (Since.step HS18 hB20.out)) GA _ rfl
    case rest =>
      obtain ⟨G, rfl, hSc, hT⟩ := hcut
      have HB17 := Lib.hid (Since.step HB16.out hSc)
      have HT := Lib.hid hT
      clear hSc hT GC GX EB16 HB16 KFB KFR2 hm1 hm2 hm3 hm4 hm5 hm6 hm7 hm8
      rename World => wc
      go_wp2
      go_loopw [25] (fun i wr => ∃ k : Nat, k ≤ 4 ∧ i = .int .i64 k ∧ Hid (Since wc wr)) (fun i _ => 4 - (intOf i).toNat)
      case atStart => exact ⟨0, Nat.zero_le _, rfl, Lib.hid (Below.refl _ _)⟩
      case round =>
        obtain ⟨k, hk, rfl, hS⟩ := hrel
        by_cases hlt : k < 4
        · have hki : (k : Int) < 4 := by omega
          obtain ⟨ax, nx, cx, zs, hcx0, hE, hby, hzl⟩ := HT.out k hlt
          have hcx := Since.cell hS.out hcx0
          have hEr := hE.below hS.out
          have kd := decode_bytes _ zs wr hEr hby hzl
          have ksb := fun (sv : Value) (ys : List Int) (W : World) (h : Since wr W) (h1 : Els .u8 W sv ys) (h2 : ys = zs) => (sameBytes_any sv _ ys zs W h1 (hEr.below h) (by rw [h2]; exact hzl)).mono fun e w' hh => And.intro (hh.1.trans (ret_bool (b := true) (decide_eq_true h2))) hh.2
          have KD := Lib.hid kd
          have KSB := Lib.hid ksb
          have HCX := Lib.hid hcx
          clear hcx0 hE hby hzl hEr kd ksb
          go_wp2_with fail
          refine (KD.out).mono ?_
          rintro e w5 hdec
          rcases hdec with ⟨P', N', hz, hft, rfl, HX, HB5⟩ | ⟨rfl, HB5⟩
          · have HZ := Lib.hid hz
            have hcx5 := Since.cell HB5.out HCX.out
            have kx := fun (W : World) (h : Since w5 W) => tencode_any N' P' W (HX.out.below h) hft
            have KX := Lib.hid kx
            have hS0 : Since w5 w5 := Below.refl _ _
            have hSd5 : Since w5 w5.drew := Below.drew hS0
            clear hz hft kx hcx
            go_wp2
            refine wp_region_noPanic ?_
            refine wp_region_held_drew (S := fun w' => w'.cell? ⟨G, k, none⟩ = some (.slice ax nx cx) ∧ Since w5 w') (by kernel_rfl) ⟨hcx5, hSd5⟩ (fun hHeld => ?_)
            refine wpAnyH_take (i := 0) (oi := { dst := some 160, op := Op.move (Operand.tmp 26), type := 27, pos := _, after := #[], guard := none }) (v := ?_) rfl (by kernel_rfl) (by kernel_rfl) (by kernel_rfl) (fun _ _ _ h => h) (Or.inl ⟨by rfl, ?_⟩) (by assumption) ?_
            rotate_left 1
            · (intro w hSw; (try dsimp only at hSw); go_simp; first | done | with_reducible rfl)
            try simp only [Act.put, List.setIfInBounds_toArray, List.set_cons_zero, List.set_cons_succ]
            refine wpAnyH_take (i := 1) (oi := { dst := some 161, op := Op.binOp BinOp.eql 27 (Operand.tmp 160) (Operand.const (Value.pointer none)) 27, type := 4, pos := _, after := #[{ on := 0, ground := Ground.data }], guard := none }) (v := ?_) rfl (by kernel_rfl) (by kernel_rfl) (by kernel_rfl) (fun _ _ _ h => h) (Or.inl ⟨by rfl, ?_⟩) (by assumption) ?_
            rotate_left 1
            · (intro w hSw; (try dsimp only at hSw); go_simp; first | done | with_reducible rfl)
            try simp only [Act.put, List.setIfInBounds_toArray, List.set_cons_zero, List.set_cons_succ]
            refine wpAnyH_take (i := 2) (oi := { dst := some 162, op := Op.move (Operand.tmp 161), type := 4, pos := _, after := #[{ on := 1, ground := Ground.data }], guard := none }) (v := ?_) rfl (by kernel_rfl) (by kernel_rfl) (by kernel_rfl) (fun _ _ _ h => h) (Or.inl ⟨by rfl, ?_⟩) (by assumption) ?_
            rotate_left 1
            · (intro w hSw; (try dsimp only at hSw); go_simp; first | done | with_reducible rfl)
            try simp only [Act.put, List.setIfInBounds_toArray, List.set_cons_zero, List.set_cons_succ]
            refine wpAnyH_take (i := 3) (oi := { dst := some 163, op := Op.move (Operand.tmp 27), type := 28, pos := _, after := #[{ on := 2, ground := Ground.guard }], guard := some (2, true) }) (v := undef) rfl (by kernel_rfl) (by kernel_rfl) (by kernel_rfl) (fun _ _ _ h => h) (Or.inr ⟨by rfl, rfl⟩) (by assumption) ?_
            try simp only [Act.put, List.setIfInBounds_toArray, List.set_cons_zero, List.set_cons_succ]
            refine wpAnyH_take (i := 4) (oi := { dst := some 164, op := Op.binOp BinOp.neq 28 (Operand.tmp 163) (Operand.const (Value.int IntKind.i64 2)) 28, type := 4, pos := _, after := #[{ on := 3, ground := Ground.data }, { on := 2, ground := Ground.guard }], guard := some (2, true) }) (v := undef) rfl (by kernel_rfl) (by kernel_rfl) (by kernel_rfl) (fun _ _ _ h => h) (Or.inr ⟨by rfl, rfl⟩) (by assumption) ?_
            try simp only [Act.put, List.setIfInBounds_toArray, List.set_cons_zero, List.set_cons_succ]
            refine wpAnyH_take (i := 5) (oi := { dst := some 165, op := Op.pick (Operand.tmp 162) (Operand.tmp 164) (Operand.const (Value.bool false)), type := 4, pos := _, after := #[{ on := 2, ground := Ground.data }, { on := 4, ground := Ground.data }], guard := none }) (v := ?_) rfl (by kernel_rfl) (by kernel_rfl) (by kernel_rfl) (fun _ _ _ h => h) (Or.inl ⟨by rfl, ?_⟩) (by assumption) ?_
            rotate_left 1
            · (intro w hSw; (try dsimp only at hSw); go_simp; first | done | with_reducible rfl)
            try simp only [Act.put, List.setIfInBounds_toArray, List.set_cons_zero, List.set_cons_succ]
            refine wpAnyH_take (i := 6) (oi := { dst := some 166, op := Op.move (Operand.tmp 165), type := 4, pos := _, after := #[{ on := 5, ground := Ground.data }, { on := 2, ground := Ground.chain }], guard := none }) (v := ?_) rfl (by kernel_rfl) (by kernel_rfl) (by kernel_rfl) (fun _ _ _ h => h) (Or.inl ⟨by rfl, ?_⟩) (by assumption) ?_
            rotate_left 1
            · (intro w hSw; (try dsimp only at hSw); go_simp; first | done | with_reducible rfl)
            try simp only [Act.put, List.setIfInBounds_toArray, List.set_cons_zero, List.set_cons_succ]
            refine wpAnyH_take (i := 7) (oi := { dst := some 167, op := Op.move (Operand.tmp 26), type := 27, pos := _, after := #[{ on := 6, ground := Ground.guard }], guard := some (6, false) }) (v := ?_) rfl (by kernel_rfl) (by kernel_rfl) (by kernel_rfl) (fun _ _ _ h => h) (Or.inl ⟨by rfl, ?_⟩) (by assumption) ?_
            rotate_left 1
            · (intro w hSw; (try dsimp only at hSw); go_simp; first | done | with_reducible rfl)
            try simp only [Act.put, List.setIfInBounds_toArray, List.set_cons_zero, List.set_cons_succ]
            refine wpAnyH_take (i := 8) (oi := { dst := some 168, op := Op.binOp BinOp.neq 27 (Operand.tmp 167) (Operand.const (Value.pointer none)) 27, type := 4, pos := _, after := #[{ on := 7, ground := Ground.data }, { on := 6, ground := Ground.guard }], guard := some (6, false) }) (v := ?_) rfl (by kernel_rfl) (by kernel_rfl) (by kernel_rfl) (fun _ _ _ h => h) (Or.inl ⟨by rfl, ?_⟩) (by assumption) ?_
            rotate_left 1
            · (intro w hSw; (try dsimp only at hSw); go_simp; first | done | with_reducible rfl)
            try simp only [Act.put, List.setIfInBounds_toArray, List.set_cons_zero, List.set_cons_succ]
            refine wpAnyH_take (i := 9) (oi := { dst := some 169, op := Op.move (Operand.tmp 168), type := 4, pos := _, after := #[{ on := 8, ground := Ground.data }, { on := 6, ground := Ground.chain }, { on := 6, ground := Ground.guard }], guard := some (6, false) }) (v := ?_) rfl (by kernel_rfl) (by kernel_rfl) (by kernel_rfl) (fun _ _ _ h => h) (Or.inl ⟨by rfl, ?_⟩) (by assumption) ?_
            rotate_left 1
            · (intro w hSw; (try dsimp only at hSw); go_simp; first | done | with_reducible rfl)
            try simp only [Act.put, List.setIfInBounds_toArray, List.set_cons_zero, List.set_cons_succ]
            refine wpAnyH_take (i := 10) (oi := { dst := some 170, op := Op.move (Operand.tmp 27), type := 28, pos := _, after := #[{ on := 9, ground := Ground.guard }], guard := some (9, true) }) (v := ?_) rfl (by kernel_rfl) (by kernel_rfl) (by kernel_rfl) (fun _ _ _ h => h) (Or.inl ⟨by rfl, ?_⟩) (by assumption) ?_
            rotate_left 1
            · (intro w hSw; (try dsimp only at hSw); go_simp; first | done | with_reducible rfl)
            try simp only [Act.put, List.setIfInBounds_toArray, List.set_cons_zero, List.set_cons_succ]
            refine wpAnyH_take (i := 11) (oi := { dst := some 171, op := Op.binOp BinOp.neq 28 (Operand.tmp 170) (Operand.const (Value.int IntKind.i64 0)) 28, type := 4, pos := _, after := #[{ on := 10, ground := Ground.data }, { on := 9, ground := Ground.guard }], guard := some (9, true) }) (v := ?_) rfl (by kernel_rfl) (by kernel_rfl) (by kernel_rfl) (fun _ _ _ h => h) (Or.inl ⟨by rfl, ?_⟩) (by assumption) ?_
            rotate_left 1
            · (intro w hSw; (try dsimp only at hSw); go_simp; first | done | with_reducible rfl)
            try simp only [Act.put, List.setIfInBounds_toArray, List.set_cons_zero, List.set_cons_succ]
            refine wpAnyH_take (i := 12) (oi := { dst := some 172, op := Op.move (Operand.tmp 171), type := 4, pos := _, after := #[{ on := 11, ground := Ground.data }, { on := 9, ground := Ground.chain }, { on := 9, ground := Ground.guard }], guard := some (9, true) }) (v := ?_) rfl (by kernel_rfl) (by kernel_rfl) (by kernel_rfl) (fun _ _ _ h => h) (Or.inl ⟨by rfl, ?_⟩) (by assumption) ?_
            rotate_left 1
            · (intro w hSw; (try dsimp only at hSw); go_simp; first | done | with_reducible rfl)
            try simp only [Act.put, List.setIfInBounds_toArray, List.set_cons_zero, List.set_cons_succ]
            refine wpAnyH_take (i := 13) (oi := { dst := some 173, op := Op.move (Operand.tmp 26), type := 27, pos := _, after := #[{ on := 12, ground := Ground.guard }], guard := some (12, false) }) (v := ?_) rfl (by kernel_rfl) (by kernel_rfl) (by kernel_rfl) (fun _ _ _ h => h) (Or.inl ⟨by rfl, ?_⟩) (by assumption) ?_
            rotate_left 1
            · (intro w hSw; (try dsimp only at hSw); go_simp; first | done | with_reducible rfl)
            try simp only [Act.put, List.setIfInBounds_toArray, List.set_cons_zero, List.set_cons_succ]
            refine wpAnyH_take (i := 15) (oi := { dst := some 175, op := Op.move (Operand.tmp 24), type := 56, pos := _, after := #[{ on := 12, ground := Ground.guard }], guard := some (12, false) }) (v := ?_) rfl (by kernel_rfl) (by kernel_rfl) (by kernel_rfl) (fun _ _ _ h => h) (Or.inl ⟨by rfl, ?_⟩) (by assumption) ?_
            rotate_left 1
            · (intro w hSw; (try dsimp only at hSw); go_simp; first | done | with_reducible rfl)
            try simp only [Act.put, List.setIfInBounds_toArray, List.set_cons_zero, List.set_cons_succ]
            refine wpAnyH_take (i := 16) (oi := { dst := some 176, op := Op.move (Operand.tmp 25), type := 3, pos := _, after := #[{ on := 12, ground := Ground.guard }], guard := some (12, false) }) (v := ?_) rfl (by kernel_rfl) (by kernel_rfl) (by kernel_rfl) (fun _ _ _ h => h) (Or.inl ⟨by rfl, ?_⟩) (by assumption) ?_
            rotate_left 1
            · (intro w hSw; (try dsimp only at hSw); go_simp; first | done | with_reducible rfl)
            try simp only [Act.put, List.setIfInBounds_toArray, List.set_cons_zero, List.set_cons_succ]
            refine wpAnyH_take (i := 17) (oi := { dst := some 177, op := Op.indexAddr 56 (Operand.tmp 175) (Operand.tmp 176), type := 0, pos := _, after := #[{ on := 15, ground := Ground.data }, { on := 16, ground := Ground.data }, { on := 12, ground := Ground.guard }], guard := some (12, false) }) (v := ?_) rfl (by kernel_rfl) (by kernel_rfl) (by kernel_rfl) (fun _ _ _ h => h) (Or.inl ⟨by rfl, ?_⟩) (by assumption) ?_
            rotate_left 1
            · (intro w hSw; (try dsimp only at hSw); go_simp; first | done | with_reducible rfl)
            try simp only [Act.put, List.setIfInBounds_toArray, List.set_cons_zero, List.set_cons_succ]
            refine wpAnyH_take (i := 18) (oi := { dst := some 178, op := Op.load 48 (Operand.tmp 177), type := 48, pos := _, after := #[{ on := 17, ground := Ground.data }, { on := 12, ground := Ground.guard }], guard := some (12, false) }) (v := ?_) rfl (by kernel_rfl) (by kernel_rfl) (by kernel_rfl) (fun _ _ _ h => h) (Or.inl ⟨by rfl, ?_⟩) (by assumption) ?_
            rotate_left 1
            · (intro w hSw; (try dsimp only at hSw); go_simp; first | done | with_reducible rfl)
            try simp only [Act.put, List.setIfInBounds_toArray, List.set_cons_zero, List.set_cons_succ]
            refine wpAnyH_ready (rs := [14]) (by kernel_rfl) (by simp) ?_
            refine AllReadyH.cons (o := { dst := some 174, op := Op.call { callee := Callee.value (Operand.func 29), args := #[Operand.tmp 173], argTypes := #[27] }, type := 48, pos := _, after := #[{ on := 13, ground := Ground.data }, { on := 12, ground := Ground.chain }, { on := 12, ground := Ground.guard }], guard := some (12, false) }) rfl (fun K hK => ?_) AllReadyH.nil
            go_simp
            go_at_call 29
            refine (KX.out _ hSd5).mono ?_
            rintro e w6 ⟨a6, n6, c6, rfl, HN6, O6, B6⟩
            have hB := Since.step hSd5 B6.out
            go_wp2_with fail
            refine hK.out _ _ ?_ (fun hHeld => ?_)
            · exact ⟨Since.cell hB hcx5, hB⟩
            clear hK K
            try simp only [Act.put, List.setIfInBounds_toArray, List.set_cons_zero, List.set_cons_succ]
            refine wpAnyH_ready (rs := [19]) (by kernel_rfl) (by simp) ?_
            refine AllReadyH.cons (o := { dst := some 179, op := Op.call { callee := Callee.value (Operand.func 32), args := #[Operand.tmp 174, Operand.tmp 178], argTypes := #[48, 48] }, type := 4, pos := _, after := #[{ on := 14, ground := Ground.data }, { on := 18, ground := Ground.data }, { on := 14, ground := Ground.chain }, { on := 12, ground := Ground.guard }], guard := some (12, false) }) rfl (fun K hK => ?_) AllReadyH.nil
            go_simp
            go_at_call 32
            refine (KSB.out _ _ _ (Since.step HB5.out hB) O6.out.els HZ.out.symm).mono ?_
            rintro e w7 ⟨rfl, hr⟩
            have hB7 := Since.step hB hr
            go_wp2_with fail
            refine hK.out _ _ ?_ (fun hHeld => ?_)
            · exact ⟨Since.cell hB7 hcx5, hB7⟩
            clear hK K hr
            try simp only [Act.put, List.setIfInBounds_toArray, List.set_cons_zero, List.set_cons_succ]
            refine wpAnyH_take (i := 20) (oi := { dst := some 180, op := Op.unOp UnOp.not 4 (Operand.tmp 179), type := 4, pos := _, after := #[{ on := 19, ground := Ground.data }, { on := 12, ground := Ground.guard }], guard := some (12, false) }) (v := ?_) rfl (by kernel_rfl) (by kernel_rfl) (by kernel_rfl) (fun _ _ _ h => h) (Or.inl ⟨by rfl, ?_⟩) (by assumption) ?_
            rotate_left 1
            · (intro w hSw; (try dsimp only at hSw); go_simp; first | done | with_reducible rfl)
            try simp only [Act.put, List.setIfInBounds_toArray, List.set_cons_zero, List.set_cons_succ]
            refine wpAnyH_take (i := 21) (oi := { dst := some 181, op := Op.pick (Operand.tmp 172) (Operand.const (Value.bool true)) (Operand.tmp 180), type := 4, pos := _, after := #[{ on := 12, ground := Ground.data }, { on := 20, ground := Ground.data }, { on := 9, ground := Ground.guard }], guard := some (9, true) }) (v := ?_) rfl (by kernel_rfl) (by kernel_rfl) (by kernel_rfl) (fun _ _ _ h => h) (Or.inl ⟨by rfl, ?_⟩) (by assumption) ?_
            rotate_left 1
            · (intro w hSw; (try dsimp only at hSw); go_simp; first | done | with_reducible rfl)
            try simp only [Act.put, List.setIfInBounds_toArray, List.set_cons_zero, List.set_cons_succ]
            refine wpAnyH_take (i := 22) (oi := { dst := some 182, op := Op.pick (Operand.tmp 169) (Operand.tmp 181) (Operand.const (Value.bool false)), type := 4, pos := _, after := #[{ on := 9, ground := Ground.data }, { on := 21, ground := Ground.data }, { on := 6, ground := Ground.guard }], guard := some (6, false) }) (v := ?_) rfl (by kernel_rfl) (by kernel_rfl) (by kernel_rfl) (fun _ _ _ h => h) (Or.inl ⟨by rfl, ?_⟩) (by assumption) ?_
            rotate_left 1
            · (intro w hSw; (try dsimp only at hSw); go_simp; first | done | with_reducible rfl)
            try simp only [Act.put, List.setIfInBounds_toArray, List.set_cons_zero, List.set_cons_succ]
            refine wpAnyH_take (i := 23) (oi := { dst := some 183, op := Op.pick (Operand.tmp 166) (Operand.const (Value.bool true)) (Operand.tmp 182), type := 4, pos := _, after := #[{ on := 6, ground := Ground.data }, { on := 22, ground := Ground.data }], guard := none }) (v := ?_) rfl (by kernel_rfl) (by kernel_rfl) (by kernel_rfl) (fun _ _ _ h => h) (Or.inl ⟨by rfl, ?_⟩) (by assumption) ?_
            rotate_left 1
            · (intro w hSw; (try dsimp only at hSw); go_simp; first | done | with_reducible rfl)
            try simp only [Act.put, List.setIfInBounds_toArray, List.set_cons_zero, List.set_cons_succ]
            refine wpAnyH_done (by kernel_rfl) ?_ _
            refine NoPanic.normal ?_
            have HBB := Lib.hid hB7
            clear hB hB7 hS0 hSd5
            go_wp2
            go_roundw
            case rel => exact ⟨k + 1, by omega, by go_num, Lib.hid (Since.step hS.out (Since.step HB5.out HBB.out))⟩
            case measure => simp [intOf]; omega
          · have hcx5 := Since.cell HB5.out HCX.out
            clear hcx
            go_wp2
            go_quiet (fail)
            go_wp2
            go_roundw
            case rel => exact ⟨k + 1, by omega, by go_num, Lib.hid (below_drewN (Since.step hS.out HB5.out) _)⟩
            case measure => simp [intOf]; omega
        · have hki : ¬ (k : Int) < 4 := by omega
          have HBw := Lib.hid (Since.step HB17.out hS.out)
          have kn := Lib.hid (tencode_nil wr)
          go_wp2_with fail
          refine (kn.out).mono ?_
          rintro e w' ⟨rfl, rfl⟩
          go_wp2_with fail
          refine (KL.out _).mono ?_
          rintro e w15 ⟨rfl, B15⟩
          go_wp2
          go_ret
          exact ⟨rfl, Since.step HBw.out B15⟩

end Go.Proofs.Ytidnllddhhllcaa
