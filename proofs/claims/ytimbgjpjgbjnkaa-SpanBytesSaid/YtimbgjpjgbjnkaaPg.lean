/- Contracts of the reference of span: Of. -/
import Derived.Test.YtimbgjpjgbjnkaaPcPf
import Derived.Test.YtimbgjpjgbjnkaaSw1
namespace Go.Proofs.Ytimbgjpjgbjnkaa
open Go.RowKit Go.Shelf

/-- The numbers of the first cells that are true. -/
def inC (P : List (Int × Int)) (cs : List Bool) (c : Nat) (κ : Int) : Prop := ∃ d, d < c ∧ cs[d]? = some true ∧ loC P d ≤ κ ∧ κ < loC P (d + 1)

/-- What Of has when c cells are behind it. -/
structure OfInv (P : List (Int × Int)) (cs : List Bool) (c : Nat) (L : List Iv) : Prop where
  fit : Fit L
  mem : ∀ κ, inL L κ ↔ inC P cs c κ
  tos : ∀ x ∈ L, x.to.key ≤ loC P c ∧ (cs[c]? = some true → x.to.key < loC P c)
  len : L.length ≤ c

theorem OfInv.start (P : List (Int × Int)) (cs : List Bool) : OfInv P cs 0 [] :=
  ⟨Fit.nil, fun κ => ⟨fun h => absurd h (inL_nil κ), fun ⟨d, hd, _⟩ => by omega⟩, fun x hx => (by cases hx), Nat.le_refl _⟩

theorem OfInv.skip {P : List (Int × Int)} {cs : List Bool} {c : Nat} {L : List Iv} (h : OfInv P cs c L) (hP : PtsOk P) (hc : c ≤ 2 * P.length) (hf : cs[c]? = some false) : OfInv P cs (c + 1) L := by
  have hs := loC_step hP hc
  refine ⟨h.fit, fun κ => ?_, fun x hx => ?_, by have := h.len; omega⟩
  · rw [h.mem κ]
    constructor
    · rintro ⟨d, hd, r⟩
      exact ⟨d, by omega, r⟩
    · rintro ⟨d, hd, h1, r⟩
      by_cases e : d = c
      · subst e
        rw [hf] at h1
        cases h1
      · exact ⟨d, by omega, h1, r⟩
  · have := (h.tos x hx).1
    exact ⟨by omega, fun _ => by omega⟩

theorem OfInv.run {P : List (Int × Int)} {cs : List Bool} {c d : Nat} {L : List Iv} (h : OfInv P cs c L) (hP : PtsOk P) (hcd : c ≤ d) (hd : d ≤ 2 * P.length) (ht : ∀ i, c ≤ i → i ≤ d → cs[i]? = some true) (hn : cs[d + 1]? ≠ some true) : OfInv P cs (d + 1) (L ++ [mkIv (cutAt P c) (cutAt P (d + 1))]) := by
  have hlt := loC_mono hP (c := c) (d := d + 1) (by omega) (by omega)
  refine ⟨h.fit.push (mkIv_good (cutAt_from hP (by omega)) (cutAt_to hP (by omega) (by omega)) hlt) (fun y hy => ?_), fun κ => ?_, fun x hx => ?_, ?_⟩
  · rw [mkIv_from]
    exact (h.tos y hy).2 (ht c (Nat.le_refl _) hcd)
  · rw [inL_append, inL_one, mkIv_from, mkIv_to, h.mem κ]
    constructor
    · rintro (⟨i, hi, r⟩ | ⟨h1, h2⟩)
      · exact ⟨i, by omega, r⟩
      · have h0 : loC P 0 ≤ κ := Int.le_trans (loC_le hP (Nat.zero_le c) (by omega)) h1
        obtain ⟨i, hi, h3, h4⟩ := cell_of (P := P) (d + 1) h0 h2
        have hci : c ≤ i := by
          apply Classical.byContradiction
          intro hh
          have := loC_le hP (c := i + 1) (d := c) (by omega) (by omega)
          have h1' : loC P c ≤ κ := h1
          omega
        exact ⟨i, hi, ht i hci (by omega), h3, h4⟩
    · rintro ⟨i, hi, h1, h2, h3⟩
      by_cases hic : i < c
      · exact .inl ⟨i, hic, h1, h2, h3⟩
      · refine .inr ⟨?_, ?_⟩
        · have := loC_le hP (c := c) (d := i) (by omega) (by omega)
          show loC P c ≤ κ
          omega
        · have := loC_le hP (c := i + 1) (d := d + 1) (by omega) (by omega)
          show κ < loC P (d + 1)
          omega
  · rcases List.mem_append.1 hx with hx | hx
    · have h1 := (h.tos x hx).1
      exact ⟨by omega, fun _ => by omega⟩
    · rw [List.mem_singleton.1 hx, mkIv_to]
      exact ⟨Int.le_refl _, fun hh => absurd hh hn⟩
  · rw [List.length_append]
    have := h.len
    simp
    omega

theorem bool_at {w : World} {b n c : Nat} {cs : List Bool} {j : Nat} {x : Bool} (h : REls RBool w (.slice (some ⟨b, 0, none⟩) n c) cs) (hx : cs[j]? = some x) : w.cell? ⟨b, j, none⟩ = some (.bool x) := by
  have hn := h.len
  have hj : j < n := by rw [hn]; exact (List.getElem?_eq_some_iff.1 hx).1
  obtain ⟨b', e, hb, hc, hat⟩ := h.get hj
  cases e
  have := hat j x hx 0 _ rfl
  rwa [show j * RBool.k + 0 = j from by show j * 1 + 0 = j; omega] at this

/-- The fields of an interval's first end. -/
theorem lo_cases {P : List (Int × Int)} (hP : PtsOk P) {c : Nat} (hc : c ≤ 2 * P.length) (t : Cut) :
    (c = 0 ∧ (mkIv (cutAt P c) t).a = 0 ∧ (mkIv (cutAt P c) t).b = 0 ∧ (mkIv (cutAt P c) t).p = false ∧ (mkIv (cutAt P c) t).r = true)
    ∨ (∃ j p, c = 2 * j + 1 ∧ P[j]? = some p ∧ (mkIv (cutAt P c) t).a = p.1 ∧ (mkIv (cutAt P c) t).b = p.2 ∧ (mkIv (cutAt P c) t).p = false ∧ (mkIv (cutAt P c) t).r = false)
    ∨ (∃ j p, c = 2 * j + 2 ∧ P[j]? = some p ∧ (mkIv (cutAt P c) t).a = p.1 ∧ (mkIv (cutAt P c) t).b = p.2 ∧ (mkIv (cutAt P c) t).p = true ∧ (mkIv (cutAt P c) t).r = false) := by
  rcases cutAt_cases P c (by omega) with ⟨h, e⟩ | ⟨j, p, h, hp, e⟩ | ⟨j, p, h, hp, e⟩ | ⟨h, _⟩
  · rw [e]
    exact .inl ⟨h, by simp [mkIv], by simp [mkIv], by simp [mkIv], by simp [mkIv]⟩
  · have := small_ne_low (c := ⟨p.1, p.2, false⟩) (hP.1 p (List.mem_of_getElem? hp))
    rw [e]
    exact .inr (.inl ⟨j, p, h, hp, by simp [mkIv, this], by simp [mkIv, this], by simp [mkIv, this], by simp [mkIv, this]⟩)
  · have := small_ne_low (c := ⟨p.1, p.2, true⟩) (hP.1 p (List.mem_of_getElem? hp))
    rw [e]
    exact .inr (.inr ⟨j, p, h, hp, by simp [mkIv, this], by simp [mkIv, this], by simp [mkIv, this], by simp [mkIv, this]⟩)
  · omega

/-- The fields of an interval's second end: d is the last cell. -/
theorem hi_cases {P : List (Int × Int)} (hP : PtsOk P) {d : Nat} (hd : d ≤ 2 * P.length) (f : Cut) :
    (d = 2 * P.length ∧ (mkIv f (cutAt P (d + 1))).c = 0 ∧ (mkIv f (cutAt P (d + 1))).d = 0 ∧ (mkIv f (cutAt P (d + 1))).q = false ∧ (mkIv f (cutAt P (d + 1))).s = true)
    ∨ (∃ j p, d = 2 * j ∧ P[j]? = some p ∧ (mkIv f (cutAt P (d + 1))).c = p.1 ∧ (mkIv f (cutAt P (d + 1))).d = p.2 ∧ (mkIv f (cutAt P (d + 1))).q = true ∧ (mkIv f (cutAt P (d + 1))).s = false)
    ∨ (∃ j p, d = 2 * j + 1 ∧ P[j]? = some p ∧ (mkIv f (cutAt P (d + 1))).c = p.1 ∧ (mkIv f (cutAt P (d + 1))).d = p.2 ∧ (mkIv f (cutAt P (d + 1))).q = false ∧ (mkIv f (cutAt P (d + 1))).s = false) := by
  rcases cutAt_cases P (d + 1) (by omega) with ⟨h, e⟩ | ⟨j, p, h, hp, e⟩ | ⟨j, p, h, hp, e⟩ | ⟨h, e⟩
  · omega
  · have := small_ne_high (c := ⟨p.1, p.2, false⟩) (hP.1 p (List.mem_of_getElem? hp))
    rw [e]
    exact .inr (.inl ⟨j, p, by omega, hp, by simp [mkIv, this], by simp [mkIv, this], by simp [mkIv, this], by simp [mkIv, this]⟩)
  · have := small_ne_high (c := ⟨p.1, p.2, true⟩) (hP.1 p (List.mem_of_getElem? hp))
    rw [e]
    exact .inr (.inr ⟨j, p, by omega, hp, by simp [mkIv, this], by simp [mkIv, this], by simp [mkIv, this], by simp [mkIv, this]⟩)
  · rw [e]
    exact .inl ⟨by omega, by simp [mkIv], by simp [mkIv], by simp [mkIv], by simp [mkIv]⟩

theorem iv_ext {x : Iv} {a b c d : Int} {p q r s : Bool} (h1 : x.a = a) (h2 : x.b = b) (h3 : x.c = c) (h4 : x.d = d) (h5 : x.p = p) (h6 : x.q = q) (h7 : x.r = r) (h8 : x.s = s) : x = ⟨a, b, c, d, p, q, r, s⟩ := by
  subst h1 h2 h3 h4 h5 h6 h7 h8
  rfl

theorem bool_else {cs : List Bool} {k : Nat} (h : cs[k]? ≠ some true) (hk : k < cs.length) : cs[k]? = some false := by
  rw [List.getElem?_eq_getElem hk] at h ⊢
  cases hc : cs[k]
  · rfl
  · rw [hc] at h
    exact absurd rfl h

/-- What Of leaves. -/
def OfOut (P : List (Int × Int)) (cs : List Bool) (w : World) (e : Ending) (w' : World) : Prop := ∃ L, Fit L ∧ (∀ κ, inL L κ ↔ inC P cs cs.length κ) ∧ Below w.heap.size w w' ∧
  ((32 < L.length ∧ e = .returned (.tuple #[.slice none 0 0, .int .i64 4])) ∨ (¬ 32 < L.length ∧ ∃ a n c, e = .returned (.tuple #[.slice a n c, .int .i64 0]) ∧ REls RIv w' (.slice a n c) L))

set_option maxHeartbeats 8000000 in
set_option maxRecDepth 100000 in
theorem of04_any (pv cv : Value) (P : List (Int × Int)) (cs : List Bool) (w : World) (hP : PtsOk P) (hp : PSl w pv P) (hc : REls RBool w cv cs) (hcl : cs.length = 2 * P.length + 1) (hpl : P.length ≤ 10000000) :
    Calls Try.prog 47 #[pv, cv] w (OfOut P cs w) := by
  obtain ⟨pa, pcap, rfl⟩ := hp.shape
  obtain ⟨ca, ccap, rfl⟩ := hc.shape
  obtain ⟨cb, rfl, -⟩ := hc.get (j := 0) (by omega)
  have HE := Lib.hid hc
  have HPE := Lib.hid hp.els
  have HP := Lib.hid hP
  have HCL := Lib.hid hcl
  rw [hcl] at HE ⊢
  generalize hn : P.length = n at *
  have HN := Lib.hid hn
  have S0 := Lib.hid (OfInv.start P cs)
  clear hp hc hP hcl hn
  go_enter Try.func47, Try.ntmps47
  go_wp2
  go_loopw [6, 7] (fun v x wr => ∃ c : Nat, ∃ L a nn cc, c ≤ 2 * n + 1 ∧ x = .int .i64 c ∧ v = .slice a nn cc ∧ Hid (OfInv P cs c L) ∧ Hid (ROwn RIv 27 w.heap.size wr (.slice a nn cc) L) ∧ Hid (Below w.heap.size w wr)) (fun _ x _ => 2 * n + 2 - (intOf x).toNat)
  case atStart => exact ⟨0, [], none, 0, 0, by omega, rfl, rfl, S0, ROwn.nil _ _ _ _, Below.refl _ _⟩
  case round =>
    obtain ⟨c, L, ao, no, co, hc, rfl, rfl, hI, hO, hB⟩ := hrel
    clear S0
    by_cases hlt : c < 2 * n + 1
    · have hci : (c : Int) < 2 * (n : Int) + 1 := by omega
      obtain ⟨q, hq⟩ : ∃ q, cs[c]? = some q := ⟨cs[c]'(by rw [HCL.out]; exact hlt), List.getElem?_eq_getElem _⟩
      have hqc := bool_at (HE.out.below hB.out) hq
      cases q
      case false =>
        have I2 := Lib.hid (hI.out.skip HP.out (by rw [HN.out]; omega) hq)
        clear hq
        go_wp2
        go_roundw
        case rel => exact ⟨c + 1, L, ao, no, co, by omega, by go_num, rfl, I2, hO, hB⟩
        case measure => simp [intOf]; omega
      case true =>
        have HQ := Lib.hid hq
        clear hq
        have hlo := lo_cases HP.out (c := c) (by rw [HN.out]; omega) highC
        have HAA : Hid (∀ t, (mkIv (cutAt P c) t).a = (mkIv (cutAt P c) highC).a ∧ (mkIv (cutAt P c) t).b = (mkIv (cutAt P c) highC).b ∧ (mkIv (cutAt P c) t).p = (mkIv (cutAt P c) highC).p ∧ (mkIv (cutAt P c) t).r = (mkIv (cutAt P c) highC).r) := fun t => ⟨rfl, rfl, rfl, rfl⟩
        generalize (mkIv (cutAt P c) highC).a = ia at *
        generalize (mkIv (cutAt P c) highC).b = ib at *
        generalize (mkIv (cutAt P c) highC).p = ip at *
        generalize (mkIv (cutAt P c) highC).r = ir at *
        have HLO := Lib.hid hlo
        have XZ := Lib.hid (cell_new8 wr (.int .i64 0) (.int .i64 0) (.int .i64 0) (.int .i64 0) (.bool false) (.bool false) (.bool false) (.bool false) 27)
        have HSZ : Hid (Since wr (wr.alloc (.cells #[.int .i64 0, .int .i64 0, .int .i64 0, .int .i64 0, .bool false, .bool false, .bool false, .bool false] 27))) := Lib.hid (Below.alloc (Below.refl _ _) (Nat.le_refl _) _)
        clear hlo
        go_upto_if 22 with (fail)
        clear hqc
        generalize wr.alloc (.cells #[.int .i64 0, .int .i64 0, .int .i64 0, .int .i64 0, .bool false, .bool false, .bool false, .bool false] 27) = W1 at *
        have HBR := Lib.hid hB.out
        generalize hE0 : wr.heap.size = E0 at *
        have HE0 := Lib.hid hE0
        clear hE0
        go_cut [] (fun wx => Hid (BoxL E0 [.int .i64 ia, .int .i64 ib, .int .i64 0, .int .i64 0, .bool ip, .bool false, .bool ir, .bool false] wx) ∧ Hid (Since wr wx))
        case first =>
          obtain ⟨x0, x1, x2, x3, x4, x5, x6, x7, x8⟩ := XZ.out.open8
          obtain ⟨y0, y1, y2, y3, y4, y5, y6, y7⟩ := XZ.out.open8f
          rcases HLO.out with ⟨rfl, rfl, rfl, rfl, rfl⟩ | ⟨j, p, hcj, hp, rfl, rfl, rfl, rfl⟩ | ⟨j, p, hcj, hp, rfl, rfl, rfl, rfl⟩
          · have X1 := Lib.hid (XZ.out.set 6 (.bool true) (by simp))
            have S1 : Hid (Since wr (W1.setCell ⟨E0, 6, none⟩ (.bool true))) := Lib.hid (Below.setCell HSZ.out (p := ⟨E0, 6, none⟩) (Nat.le_of_eq HE0.out) _)
            go_wp2_with fail
            go_meet
            exact ⟨X1, S1⟩
          · obtain ⟨b, rfl, -⟩ := HPE.out.get (j := j) (by omega)
            have hps : Below w.heap.size w W1 := HBR.out.trans (Below.mono HSZ.out HBR.out.size)
            obtain ⟨q0, q1, -⟩ := rat_at (HPE.out.below hps) hp
            have X1 := Lib.hid (((XZ.out.set 0 (.int .i64 p.1) (by simp)).set 1 (.int .i64 p.2) (by simp)).set 4 (.bool false) (by simp))
            have S1 : Hid (Since wr (((W1.setCell ⟨E0, 0, none⟩ (.int .i64 p.1)).setCell ⟨E0, 1, none⟩ (.int .i64 p.2)).setCell ⟨E0, 4, none⟩ (.bool false))) := Lib.hid (((Below.setCell HSZ.out (p := ⟨E0, 0, none⟩) (Nat.le_of_eq HE0.out) _).setCell (p := ⟨E0, 1, none⟩) (Nat.le_of_eq HE0.out) _).setCell (p := ⟨E0, 4, none⟩) (Nat.le_of_eq HE0.out) _)
            have n1 : ((c : Int) == 0) = false := by rw [beq_eq_false_iff_ne]; omega
            have n2 : 0 ≤ (c : Int) - 1 := by omega
            have n3 : ((c : Int) - 1) / 2 = (j : Int) := by omega
            have n4 : ((c : Int) % 2 == 0) = false := by rw [beq_eq_false_iff_ne]; omega
            have n5 : (j : Int) < n := by omega
            have n6 : (c : Int) % 2 = 1 := by omega
            clear hcj hp hps
            go_wp2_with fail
            go_meet
            exact ⟨X1, S1⟩
          · obtain ⟨b, rfl, -⟩ := HPE.out.get (j := j) (by omega)
            have hps : Below w.heap.size w W1 := HBR.out.trans (Below.mono HSZ.out HBR.out.size)
            obtain ⟨q0, q1, -⟩ := rat_at (HPE.out.below hps) hp
            have X1 := Lib.hid (((XZ.out.set 0 (.int .i64 p.1) (by simp)).set 1 (.int .i64 p.2) (by simp)).set 4 (.bool true) (by simp))
            have S1 : Hid (Since wr (((W1.setCell ⟨E0, 0, none⟩ (.int .i64 p.1)).setCell ⟨E0, 1, none⟩ (.int .i64 p.2)).setCell ⟨E0, 4, none⟩ (.bool true))) := Lib.hid (((Below.setCell HSZ.out (p := ⟨E0, 0, none⟩) (Nat.le_of_eq HE0.out) _).setCell (p := ⟨E0, 1, none⟩) (Nat.le_of_eq HE0.out) _).setCell (p := ⟨E0, 4, none⟩) (Nat.le_of_eq HE0.out) _)
            have n1 : ((c : Int) == 0) = false := by rw [beq_eq_false_iff_ne]; omega
            have n2 : 0 ≤ (c : Int) - 1 := by omega
            have n3 : ((c : Int) - 1) / 2 = (j : Int) := by omega
            have n4 : ((c : Int) % 2 == 0) = true := by rw [beq_iff_eq]; omega
            have n5 : (j : Int) < n := by omega
            have n6 : (c : Int) % 2 = 0 := by omega
            clear hcj hp hps
            go_wp2_with fail
            go_meet
            exact ⟨X1, S1⟩
        case rest =>
          obtain ⟨hX, hS⟩ := hcut
          clear XZ HSZ HLO
          rename World => W2
          have HBW := Lib.hid (HBR.out.trans (Below.mono hS.out HBR.out.size))
          have HEW := Lib.hid (HE.out.below HBW.out)
          go_wp2_with fail
          go_loop [7] (fun x => ∃ d : Nat, c ≤ d ∧ d ≤ 2 * n ∧ x = .int .i64 d ∧ Hid (∀ i, c ≤ i → i ≤ d → cs[i]? = some true)) (fun x => 2 * n + 1 - (intOf x).toNat)
          case atStart => exact ⟨c, Nat.le_refl _, by omega, rfl, fun i h1 h2 => by rw [show i = c by omega]; exact HQ.out⟩
          case round =>
            obtain ⟨d, hcd, hd, rfl, hT⟩ := hrel
            by_cases hnx : cs[d + 1]? = some true
            · have hd1 : d + 1 < 2 * n + 1 := by rw [← HCL.out]; exact (List.getElem?_eq_some_iff.1 hnx).1
              have hcell := bool_at HEW.out hnx
              have hT2 : Hid (∀ i, c ≤ i → i ≤ d + 1 → cs[i]? = some true) := fun i h1 h2 => by
                by_cases e : i = d + 1
                · rw [e]; exact hnx
                · exact hT.out i h1 (by omega)
              have n1 : (d : Int) + 1 < 2 * (n : Int) + 1 := by omega
              clear hnx
              go_wp2
              go_round
              case rel => exact ⟨d + 1, by omega, by omega, by go_num, hT2⟩
              case measure => simp [intOf]; omega
            · have I2 := Lib.hid (hI.out.run HP.out hcd (by rw [HN.out]; exact hd) hT.out hnx)
              have hhi := hi_cases HP.out (d := d) (by rw [HN.out]; exact hd) (cutAt P c)
              have hLl : L.length + 1 ≤ 1000000000 := by have := hI.out.len; omega
              rw [HN.out] at hhi
              have hra := HAA.out (cutAt P (d + 1))
              rcases hhi with ⟨hde, h1, h2, h3, h4⟩ | ⟨j, p, hde, hp, h1, h2, h3, h4⟩ | ⟨j, p, hde, hp, h1, h2, h3, h4⟩
              · have HRR := Lib.hid (show mkIv (cutAt P c) (cutAt P (d + 1)) = ⟨ia, ib, 0, 0, ip, false, ir, true⟩ from iv_ext hra.1 hra.2.1 h1 h2 hra.2.2.1 h3 hra.2.2.2 h4)
                have n1 : 2 * (n : Int) ≤ (d : Int) := by omega
                have n2 : ((d : Int) == 2 * (n : Int) + 1 - 1) = true := by rw [beq_iff_eq]; omega
                have n3 : ((d : Int) == 2 * (n : Int)) = true := by rw [beq_iff_eq]; omega
                clear hra h1 h2 h3 h4 hnx hde hT
                have X3 : Hid (BoxL E0 [.int .i64 ia, .int .i64 ib, .int .i64 0, .int .i64 0, .bool ip, .bool false, .bool ir, .bool true] (W2.setCell ⟨E0, 7, none⟩ (.bool true))) := Lib.hid (hX.out.set 7 (.bool true) (by simp))
                have S3 : Hid (Since wr (W2.setCell ⟨E0, 7, none⟩ (.bool true))) := Lib.hid (Below.setCell hS.out (p := ⟨E0, 7, none⟩) (Nat.le_of_eq HE0.out) (.bool true))
                have hOx := Lib.hid (hO.out.below S3.out)
                have hz3 := S3.out.size
                have hz4 : w.heap.size ≤ (W2.setCell ⟨E0, 7, none⟩ (.bool true)).heap.size := Nat.le_trans HBR.out.size hz3
                have HGS := Lib.hid (show (W2.setCell ⟨E0, 7, none⟩ (.bool true)).heap.size = W2.heap.size from by simp)
                have HB3 := Lib.hid (HBR.out.trans (Below.mono S3.out HBR.out.size))
                clear hz3
                obtain ⟨x0, x1, x2, x3, x4, x5, x6, x7, x8⟩ := hX.out.open8
                obtain ⟨y0, y1, y2, y3, y4, y5, y6, y7⟩ := hX.out.open8f
                obtain ⟨z0, z1, z2, z3, z4, z5, z6, z7, z8⟩ := X3.out.open8
                go_wp2_with (at_builtin; refine push_row rfl _ _ _ rfl RIv 27 40 _ Try.underlying23 Try.infoIv rfl (by decide) w.heap.size (.slice ao no co) L [⟨ia, ib, 0, 0, ip, false, ir, true⟩] _ _ rfl rfl W2.heap.size 1 HGS.out rfl rfl hOx.out hz4 hLl ?_; intro an nn cn wn hnn hOn hBn)
                have HOF : Hid (ROwn RIv 27 w.heap.size wn (.slice an nn cn) (L ++ [mkIv (cutAt P c) (cutAt P (d + 1))])) := by
                  have := hOn.out
                  rw [← HRR.out] at this
                  exact this
                have HBF := Lib.hid (HB3.out.trans hBn.out)
                clear hOn hBn x0 x1 x2 x3 x4 x5 x6 x7 x8 y0 y1 y2 y3 y4 y5 y6 y7 z0 z1 z2 z3 z4 z5 z6 z7 z8 X3 S3 hOx HB3
                go_wp2
                go_roundw
                case rel => exact ⟨d + 1, _, an, nn, cn, by omega, by go_num, rfl, I2, HOF, HBF⟩
                case measure => simp [intOf]; omega
              · have HRR := Lib.hid (show mkIv (cutAt P c) (cutAt P (d + 1)) = ⟨ia, ib, p.1, p.2, ip, true, ir, false⟩ from iv_ext hra.1 hra.2.1 h1 h2 hra.2.2.1 h3 hra.2.2.2 h4)
                have hjn : j < n := by rw [← HN.out]; exact (List.getElem?_eq_some_iff.1 hp).1
                have hf : cs[d + 1]? = some false := bool_else hnx (by rw [HCL.out]; omega)
                have hcell := bool_at HEW.out hf
                obtain ⟨b, rfl, -⟩ := HPE.out.get hjn
                obtain ⟨q0, q1, -⟩ := rat_at (HPE.out.below HBW.out) hp
                have n1 : (d : Int) + 1 < 2 * (n : Int) + 1 := by omega
                have n2 : ((d : Int) == 2 * (n : Int) + 1 - 1) = false := by rw [beq_eq_false_iff_ne]; omega
                have n3 : ((d : Int) == 2 * (n : Int)) = false := by rw [beq_eq_false_iff_ne]; omega
                have n4 : (d : Int) / 2 = (j : Int) := by omega
                have n5 : ((d : Int) % 2 == 0) = true := by rw [beq_iff_eq]; omega
                have n6 : (d : Int) % 2 = 0 := by omega
                have n7 : (j : Int) < n := by omega
                clear hra h1 h2 h3 h4 hnx hde hT hf hp
                have X3 : Hid (BoxL E0 [.int .i64 ia, .int .i64 ib, .int .i64 p.1, .int .i64 p.2, .bool ip, .bool true, .bool ir, .bool false] (((W2.setCell ⟨E0, 2, none⟩ (.int .i64 p.1)).setCell ⟨E0, 3, none⟩ (.int .i64 p.2)).setCell ⟨E0, 5, none⟩ (.bool true))) := Lib.hid (((hX.out.set 2 (.int .i64 p.1) (by simp)).set 3 (.int .i64 p.2) (by simp)).set 5 (.bool true) (by simp))
                have S3 : Hid (Since wr (((W2.setCell ⟨E0, 2, none⟩ (.int .i64 p.1)).setCell ⟨E0, 3, none⟩ (.int .i64 p.2)).setCell ⟨E0, 5, none⟩ (.bool true))) := Lib.hid (Below.setCell (Below.setCell (Below.setCell hS.out (p := ⟨E0, 2, none⟩) (Nat.le_of_eq HE0.out) (.int .i64 p.1)) (p := ⟨E0, 3, none⟩) (Nat.le_of_eq HE0.out) (.int .i64 p.2)) (p := ⟨E0, 5, none⟩) (Nat.le_of_eq HE0.out) (.bool true))
                have hOx := Lib.hid (hO.out.below S3.out)
                have hz3 := S3.out.size
                have hz4 : w.heap.size ≤ (((W2.setCell ⟨E0, 2, none⟩ (.int .i64 p.1)).setCell ⟨E0, 3, none⟩ (.int .i64 p.2)).setCell ⟨E0, 5, none⟩ (.bool true)).heap.size := Nat.le_trans HBR.out.size hz3
                have HGS := Lib.hid (show (((W2.setCell ⟨E0, 2, none⟩ (.int .i64 p.1)).setCell ⟨E0, 3, none⟩ (.int .i64 p.2)).setCell ⟨E0, 5, none⟩ (.bool true)).heap.size = W2.heap.size from by simp)
                have HB3 := Lib.hid (HBR.out.trans (Below.mono S3.out HBR.out.size))
                clear hz3
                obtain ⟨x0, x1, x2, x3, x4, x5, x6, x7, x8⟩ := hX.out.open8
                obtain ⟨y0, y1, y2, y3, y4, y5, y6, y7⟩ := hX.out.open8f
                obtain ⟨z0, z1, z2, z3, z4, z5, z6, z7, z8⟩ := X3.out.open8
                go_wp2_with (at_builtin; refine push_row rfl _ _ _ rfl RIv 27 40 _ Try.underlying23 Try.infoIv rfl (by decide) w.heap.size (.slice ao no co) L [⟨ia, ib, p.1, p.2, ip, true, ir, false⟩] _ _ rfl rfl W2.heap.size 1 HGS.out rfl rfl hOx.out hz4 hLl ?_; intro an nn cn wn hnn hOn hBn)
                have HOF : Hid (ROwn RIv 27 w.heap.size wn (.slice an nn cn) (L ++ [mkIv (cutAt P c) (cutAt P (d + 1))])) := by
                  have := hOn.out
                  rw [← HRR.out] at this
                  exact this
                have HBF := Lib.hid (HB3.out.trans hBn.out)
                clear hOn hBn x0 x1 x2 x3 x4 x5 x6 x7 x8 y0 y1 y2 y3 y4 y5 y6 y7 z0 z1 z2 z3 z4 z5 z6 z7 z8 X3 S3 hOx HB3
                go_wp2
                go_roundw
                case rel => exact ⟨d + 1, _, an, nn, cn, by omega, by go_num, rfl, I2, HOF, HBF⟩
                case measure => simp [intOf]; omega
              · have HRR := Lib.hid (show mkIv (cutAt P c) (cutAt P (d + 1)) = ⟨ia, ib, p.1, p.2, ip, false, ir, false⟩ from iv_ext hra.1 hra.2.1 h1 h2 hra.2.2.1 h3 hra.2.2.2 h4)
                have hjn : j < n := by rw [← HN.out]; exact (List.getElem?_eq_some_iff.1 hp).1
                have hf : cs[d + 1]? = some false := bool_else hnx (by rw [HCL.out]; omega)
                have hcell := bool_at HEW.out hf
                obtain ⟨b, rfl, -⟩ := HPE.out.get hjn
                obtain ⟨q0, q1, -⟩ := rat_at (HPE.out.below HBW.out) hp
                have n1 : (d : Int) + 1 < 2 * (n : Int) + 1 := by omega
                have n2 : ((d : Int) == 2 * (n : Int) + 1 - 1) = false := by rw [beq_eq_false_iff_ne]; omega
                have n3 : ((d : Int) == 2 * (n : Int)) = false := by rw [beq_eq_false_iff_ne]; omega
                have n4 : (d : Int) / 2 = (j : Int) := by omega
                have n5 : ((d : Int) % 2 == 0) = false := by rw [beq_eq_false_iff_ne]; omega
                have n6 : (d : Int) % 2 = 1 := by omega
                have n7 : (j : Int) < n := by omega
                clear hra h1 h2 h3 h4 hnx hde hT hf hp
                have X3 : Hid (BoxL E0 [.int .i64 ia, .int .i64 ib, .int .i64 p.1, .int .i64 p.2, .bool ip, .bool false, .bool ir, .bool false] (((W2.setCell ⟨E0, 2, none⟩ (.int .i64 p.1)).setCell ⟨E0, 3, none⟩ (.int .i64 p.2)).setCell ⟨E0, 5, none⟩ (.bool false))) := Lib.hid (((hX.out.set 2 (.int .i64 p.1) (by simp)).set 3 (.int .i64 p.2) (by simp)).set 5 (.bool false) (by simp))
                have S3 : Hid (Since wr (((W2.setCell ⟨E0, 2, none⟩ (.int .i64 p.1)).setCell ⟨E0, 3, none⟩ (.int .i64 p.2)).setCell ⟨E0, 5, none⟩ (.bool false))) := Lib.hid (Below.setCell (Below.setCell (Below.setCell hS.out (p := ⟨E0, 2, none⟩) (Nat.le_of_eq HE0.out) (.int .i64 p.1)) (p := ⟨E0, 3, none⟩) (Nat.le_of_eq HE0.out) (.int .i64 p.2)) (p := ⟨E0, 5, none⟩) (Nat.le_of_eq HE0.out) (.bool false))
                have hOx := Lib.hid (hO.out.below S3.out)
                have hz3 := S3.out.size
                have hz4 : w.heap.size ≤ (((W2.setCell ⟨E0, 2, none⟩ (.int .i64 p.1)).setCell ⟨E0, 3, none⟩ (.int .i64 p.2)).setCell ⟨E0, 5, none⟩ (.bool false)).heap.size := Nat.le_trans HBR.out.size hz3
                have HGS := Lib.hid (show (((W2.setCell ⟨E0, 2, none⟩ (.int .i64 p.1)).setCell ⟨E0, 3, none⟩ (.int .i64 p.2)).setCell ⟨E0, 5, none⟩ (.bool false)).heap.size = W2.heap.size from by simp)
                have HB3 := Lib.hid (HBR.out.trans (Below.mono S3.out HBR.out.size))
                clear hz3
                obtain ⟨x0, x1, x2, x3, x4, x5, x6, x7, x8⟩ := hX.out.open8
                obtain ⟨y0, y1, y2, y3, y4, y5, y6, y7⟩ := hX.out.open8f
                obtain ⟨z0, z1, z2, z3, z4, z5, z6, z7, z8⟩ := X3.out.open8
                go_wp2_with (at_builtin; refine push_row rfl _ _ _ rfl RIv 27 40 _ Try.underlying23 Try.infoIv rfl (by decide) w.heap.size (.slice ao no co) L [⟨ia, ib, p.1, p.2, ip, false, ir, false⟩] _ _ rfl rfl W2.heap.size 1 HGS.out rfl rfl hOx.out hz4 hLl ?_; intro an nn cn wn hnn hOn hBn)
                have HOF : Hid (ROwn RIv 27 w.heap.size wn (.slice an nn cn) (L ++ [mkIv (cutAt P c) (cutAt P (d + 1))])) := by
                  have := hOn.out
                  rw [← HRR.out] at this
                  exact this
                have HBF := Lib.hid (HB3.out.trans hBn.out)
                clear hOn hBn x0 x1 x2 x3 x4 x5 x6 x7 x8 y0 y1 y2 y3 y4 y5 y6 y7 z0 z1 z2 z3 z4 z5 z6 z7 z8 X3 S3 hOx HB3
                go_wp2
                go_roundw
                case rel => exact ⟨d + 1, _, an, nn, cn, by omega, by go_num, rfl, I2, HOF, HBF⟩
                case measure => simp [intOf]; omega
    · have hci : 2 * (n : Int) + 1 ≤ (c : Int) := by omega
      have hcc : c = 2 * n + 1 := by omega
      have HM : Hid (∀ κ, inL L κ ↔ inC P cs cs.length κ) := fun κ => by rw [HCL.out, ← hcc]; exact hI.out.mem κ
      have HF := Lib.hid hI.out.fit
      have hln := hO.out.els.len
      have HLN := Lib.hid hln
      clear hcc hln
      by_cases h32 : 32 < no
      · have h1 : (32 : Int) < (no : Int) := by omega
        go_wp2
        go_ret2
        exact ⟨L, HF.out, HM.out, hB.out, .inl ⟨by rw [← HLN.out]; exact h32, rfl⟩⟩
      · have h1 : (no : Int) ≤ 32 := by omega
        go_wp2
        go_ret2
        exact ⟨L, HF.out, HM.out, hB.out, .inr ⟨by rw [← HLN.out]; exact h32, _, _, _, rfl, hO.out.els⟩⟩

end Go.Proofs.Ytimbgjpjgbjnkaa
