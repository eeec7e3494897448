import Derived.Test.YtimbgjpjgbjnkaaSw1
import Derived.Test.YtimbgjpjgbjnkaaGbGc
/- Contracts of package span: limited, combine. -/
namespace Go.Proofs.Ytimbgjpjgbjnkaa
open Go.RowKit Go.Shelf

/-- A list and an error come back. -/
def Two (xs : List Iv) (e1 : Int) (w : World) (e : Ending) (w' : World) : Prop := ∃ a n c, e = .returned (.tuple #[.slice a n c, .int .i64 e1]) ∧ Hid (REls RIv w' (.slice a n c) xs) ∧ Hid (Below w.heap.size w w')

theorem limited_any (a : Option Addr) (n c : Nat) (xs : List Iv) (e1 : Int) (w : World) (h : REls RIv w (.slice a n c) xs) :
    Calls Try.prog 44 #[.slice a n c, .int .i64 e1] w fun e w' => w = w' ∧ ((32 < xs.length ∧ e = .returned (.tuple #[.slice none 0 0, .int .i64 4])) ∨ (¬ 32 < xs.length ∧ e = .returned (.tuple #[.slice a n c, .int .i64 e1]))) := by
  have hn := h.len
  rw [← hn]
  clear hn h
  by_cases h32 : 32 < n
  · have h1 : (32 : Int) < (n : Int) := by omega
    go_enter Try.func44, Try.ntmps44
    go_wp2
    go_ret2
    exact ⟨rfl, .inl ⟨h32, rfl⟩⟩
  · have h1 : (n : Int) ≤ 32 := by omega
    go_enter Try.func44, Try.ntmps44
    go_wp2
    go_ret2
    exact ⟨rfl, .inr ⟨h32, rfl⟩⟩

/-- The first error of Valid. -/
noncomputable def firstE (xss : List (List Iv)) : Int := match xss with | [] => 0 | xs :: r => if validL xs = 0 then firstE r else validL xs

theorem firstE_take (xss : List (List Iv)) (k : Nat) (h : ∀ xs ∈ xss.take k, validL xs = 0) : firstE xss = firstE (xss.drop k) := by
  induction xss generalizing k with
  | nil => simp
  | cons x r ih =>
    cases k with
    | zero => rfl
    | succ k =>
      rw [List.drop_succ_cons, ← ih k (fun y hy => h y (by rw [List.take_succ_cons]; exact List.mem_cons_of_mem _ hy))]
      have := h x (by rw [List.take_succ_cons]; exact List.mem_cons_self ..)
      show (if validL x = 0 then firstE r else validL x) = _
      rw [if_pos this]

theorem firstE_at {xss : List (List Iv)} {k : Nat} {xs : List Iv} (h : ∀ ys ∈ xss.take k, validL ys = 0) (hx : xss[k]? = some xs) (hv : validL xs ≠ 0) : firstE xss = validL xs := by
  rw [firstE_take xss k h]
  obtain ⟨hk, e⟩ := List.getElem?_eq_some_iff.1 hx
  rw [List.drop_eq_getElem_cons hk, e]
  show (if validL xs = 0 then _ else validL xs) = _
  rw [if_neg hv]

theorem firstE_ok {xss : List (List Iv)} (h : ∀ ys ∈ xss, validL ys = 0) : firstE xss = 0 := by
  rw [firstE_take xss xss.length (fun ys hy => h ys (List.mem_of_mem_take hy)), List.drop_length]
  rfl

theorem validL_fit {xs : List Iv} (h : validL xs = 0) : Fit xs ∧ xs.length ≤ 32 := by
  unfold validL at h
  split at h
  · next hf =>
    split at h
    · cases h
    · exact ⟨hf, by omega⟩
  · cases h

/-- What combine leaves: the set, or an error. -/
def CombOut (S : Int → Prop) (e1 : Int) (Es : TypeId) (w : World) (e : Ending) (w' : World) : Prop :=
  (e1 ≠ 0 ∧ e = .returned (.tuple #[.slice none 0 0, .int .i64 e1]) ∧ Below w.heap.size w w') ∨
  (e1 = 0 ∧ ∃ L a n c, Fit L ∧ (∀ κ, inL L κ ↔ S κ) ∧ e = .returned (.tuple #[.slice a n c, .int .i64 0]) ∧ ROwn RIv Es w.heap.size w' (.slice a n c) L ∧ Below w.heap.size w w')

set_option maxHeartbeats 8000000 in
set_option maxRecDepth 100000 in
theorem combine_any (F : Nat) (hF : F = 46 ∨ F = 59 ∨ F = 60 ∨ F = 61 ∨ F = 62) (hasF : List Int → Bool) (sv : Value) (xss : List (List Iv)) (w : World) (h : LEls w sv xss) (hwf : ∀ xs ∈ xss, ∀ x ∈ xs, x.wf) (hl : ∀ xs ∈ xss, xs.length ≤ 100000) (hm : xss.length ≤ 10) (h0 : 0 < xss.length)
    (hc : ∀ W dv ds, Els .i64 W dv ds → ds.length = xss.length → Calls Try.prog F #[dv] W fun e w' => e = .returned (.bool (hasF ds)) ∧ W = w') :
    Calls Try.prog 58 #[.func (.func F) #[] #[], sv] w (CombOut (setS hasF xss) (firstE xss) 27 w) := by
  have ks := Lib.hid fun (hv : ∀ xs ∈ xss, validL xs = 0) W (hB : Below w.heap.size w W) => sweep_any F hF hasF sv xss W (h.below hB) (fun xs hx x hxx => (validL_fit (hv xs hx)).1.good hxx) hl hm h0 hc
  have HH := Lib.hid h
  obtain ⟨b, cap, rfl, hcap, hb, hat⟩ := h
  have HAT := Lib.hid hat
  have HWF := Lib.hid hwf
  have HL := Lib.hid hl
  generalize hm' : xss.length = m at *
  have HM := Lib.hid hm'
  clear hat hwf hl hm' hc hF hcap hb
  go_enter Try.func58, Try.ntmps58
  go_wp2
  go_loopw [11] (fun x wr => ∃ k : Nat, k ≤ m ∧ x = .int .i64 k ∧ Hid (∀ ys ∈ xss.take k, validL ys = 0) ∧ Hid (Below w.heap.size w wr)) (fun x _ => m - (intOf x).toNat)
  case atStart => exact ⟨0, by omega, rfl, fun ys hy => by simp at hy, Below.refl _ _⟩
  case round =>
    obtain ⟨k, hk, rfl, hV, hB⟩ := hrel
    by_cases hlt : k < m
    · have hki : (k : Int) < m := by omega
      obtain ⟨xs, hx⟩ : ∃ xs, xss[k]? = some xs := ⟨xss[k]'(by rw [HM.out]; exact hlt), List.getElem?_eq_getElem _⟩
      obtain ⟨v, hv, hr⟩ := HAT.out k xs hx
      have hcell := Since.cell hB.out hv
      have hxm := List.mem_of_getElem? hx
      have kv := Lib.hid (svalid_any v xs wr (hr.below hB.out) (HWF.out xs hxm) (by have := HL.out xs hxm; omega))
      have HX := Lib.hid hx
      have hvr : validL xs = 0 ∨ validL xs = 1 ∨ validL xs = 4 := by unfold validL; split <;> (try split) <;> simp
      clear hx hxm hv
      obtain ⟨av, cv, rfl⟩ := hr.shape
      clear hr
      by_cases hz : validL xs = 0
      · have hV2 : Hid (∀ ys ∈ xss.take (k + 1), validL ys = 0) := fun ys hy => by
          rw [List.take_add_one, HX.out, List.mem_append] at hy
          rcases hy with hy | hy
          · exact hV.out ys hy
          · simp at hy
            rw [hy]
            exact hz
        rw [hz] at kv
        clear hvr hz
        generalize xs.length = nl at *
        go_wp2_with fail
        refine (kv.out).mono ?_
        rintro e w1 ⟨rfl, hB1⟩
        have HB1 := Lib.hid (hB.out.trans (hB1.mono hB.out.size))
        clear hB1 hcell
        go_wp2
        go_roundw
        case rel => exact ⟨k + 1, by omega, by go_num, hV2, HB1⟩
        case measure => simp [intOf]; omega
      · have hE := Lib.hid (firstE_at hV.out HX.out hz)
        have hne : (validL xs != 0) = true := by simpa using hz
        have HZ := Lib.hid hz
        clear hvr hz
        generalize validL xs = q at *
        generalize xs.length = nl at *
        go_wp2_with fail
        refine (kv.out).mono ?_
        rintro e w1 ⟨rfl, hB1⟩
        have HB1 := Lib.hid (hB.out.trans (hB1.mono hB.out.size))
        clear hB1 hcell
        go_wp2
        go_ret2
        exact .inl ⟨by rw [hE.out]; exact HZ.out, congrArg (fun z => Ending.returned (.tuple #[.slice none 0 0, .int .i64 z])) hE.out.symm, HB1.out⟩
    · have hki : (m : Int) ≤ (k : Int) := by omega
      have hall : ∀ ys ∈ xss, validL ys = 0 := by
        have := hV.out
        rwa [List.take_of_length_le (by rw [HM.out]; omega)] at this
      have hE := Lib.hid (firstE_ok hall)
      have K := Lib.hid (ks.out hall wr hB.out)
      clear hall
      go_wp2_with fail
      refine (K.out).mono ?_
      rintro e w1 ⟨L, hf, hi, a, n, c, rfl, hn, hO, hB1⟩
      have HB1 := Lib.hid (hB.out.trans (hB1.out.mono hB.out.size))
      have HO := Lib.hid (hO.base (B' := w.heap.size) hB.out.size)
      have HF := Lib.hid hf
      have HI := Lib.hid hi
      clear hf hi hO hn hB1
      go_wp2
      go_ret2
      exact .inr ⟨hE.out, L, a, n, c, HF.out, HI.out, rfl, HO.out, HB1.out⟩

end Go.Proofs.Ytimbgjpjgbjnkaa

/- Mathematics of the sets that the operations of span return. -/
namespace Go.Proofs.Ytimbgjpjgbjnkaa
open Go.RowKit Go.Shelf

open Classical in
/-- The one set with some numbers. -/
noncomputable def theSet (S : Int → Prop) : List Iv := if h : ∃ L, Fit L ∧ ∀ κ, inL L κ ↔ S κ then Classical.choose h else []

theorem theSet_is {L : List Iv} {S : Int → Prop} (hf : Fit L) (h : ∀ κ, inL L κ ↔ S κ) : L = theSet S := by
  have hex : ∃ L, Fit L ∧ ∀ κ, inL L κ ↔ S κ := ⟨L, hf, h⟩
  unfold theSet
  rw [dif_pos hex]
  have hc := Classical.choose_spec hex
  exact Fit.one hf hc.1 fun κ => (h κ).trans (hc.2 κ).symm

/-- A set, if it has not too many intervals. -/
def limL (L : List Iv) : List Iv × Int := if 32 < L.length then ([], 4) else (L, 0)

def unionS (a b : List Iv) (κ : Int) : Prop := inL a κ ∨ inL b κ
def meetS (a b : List Iv) (κ : Int) : Prop := inL a κ ∧ inL b κ
def notS (a : List Iv) (κ : Int) : Prop := lowC.key ≤ κ ∧ κ < highC.key ∧ ¬ inL a κ

/-- The result of an operation of two sets. -/
noncomputable def opL (S : Int → Prop) (a b : List Iv) : List Iv × Int := if validL a ≠ 0 then ([], validL a) else if validL b ≠ 0 then ([], validL b) else limL (theSet S)
noncomputable def notL (a : List Iv) : List Iv × Int := if validL a ≠ 0 then ([], validL a) else limL (theSet (notS a))

open Classical in
noncomputable def normL (xs : List Iv) : List Iv × Int := if ∀ x ∈ xs, x.good = true then limL (theSet (inL xs)) else ([], 1)

open Classical in
noncomputable def withinL (a b : List Iv) : Bool × Int := if validL a ≠ 0 then (false, validL a) else if validL b ≠ 0 then (false, validL b) else (decide (∀ κ, inL a κ → inL b κ), 0)

theorem in_bounds {xs : List Iv} (h : ∀ x ∈ xs, x.good = true) {κ : Int} (hk : inL xs κ) : lowC.key ≤ κ ∧ κ < highC.key := by
  obtain ⟨x, hx, h1, h2⟩ := hk
  obtain ⟨g1, g2⟩ := good_from (h x hx)
  have b1 : lowC.key ≤ x.from.key := by
    rcases g1 with e | e
    · rw [e]; exact Int.le_refl _
    · have := (key_small e).1; omega
  have b2 : x.to.key ≤ highC.key := by
    rcases g2 with e | e
    · rw [e]; exact Int.le_refl _
    · have := (key_small e).2; omega
  omega

/-- What the closures say of depths. -/
def hasN : List Int → Bool | [x] => decide (0 < x) | _ => false
def hasNot : List Int → Bool | [x] => x == 0 | _ => false
def hasU : List Int → Bool | [x, y] => decide (0 < x) || decide (0 < y) | _ => false
def hasM : List Int → Bool | [x, y] => decide (0 < x) && decide (0 < y) | _ => false
def hasW : List Int → Bool | [x, y] => decide (0 < x) && y == 0 | _ => false

theorem depth_in (xs : List Iv) (κ : Int) : decide (0 < depthL xs κ) = true ↔ inL xs κ := by
  rw [decide_eq_true_eq]
  exact (depthL_pos xs κ).2.2

theorem depth_out (xs : List Iv) (κ : Int) : (depthL xs κ == 0) = true ↔ ¬ inL xs κ := by
  have := depthL_pos xs κ
  rw [beq_iff_eq, ← this.2.2]
  omega

theorem setN (xs : List Iv) (h : ∀ x ∈ xs, x.good = true) (κ : Int) : setS hasN [xs] κ ↔ inL xs κ := by
  unfold setS
  show _ ∧ _ ∧ decide (0 < depthL xs κ) = true ↔ _
  rw [depth_in]
  exact ⟨fun h => h.2.2, fun hk => ⟨(in_bounds h hk).1, (in_bounds h hk).2, hk⟩⟩

theorem setNot (xs : List Iv) (κ : Int) : setS hasNot [xs] κ ↔ notS xs κ := by
  unfold setS notS
  show _ ∧ _ ∧ (depthL xs κ == 0) = true ↔ _
  rw [depth_out]

theorem setU (a b : List Iv) (h : ∀ x ∈ a, x.good = true) (h' : ∀ x ∈ b, x.good = true) (κ : Int) : setS hasU [a, b] κ ↔ unionS a b κ := by
  unfold setS unionS
  show _ ∧ _ ∧ (decide (0 < depthL a κ) || decide (0 < depthL b κ)) = true ↔ _
  rw [Bool.or_eq_true, depth_in, depth_in]
  refine ⟨fun h => h.2.2, fun hk => ?_⟩
  rcases hk with hk | hk
  · exact ⟨(in_bounds h hk).1, (in_bounds h hk).2, .inl hk⟩
  · exact ⟨(in_bounds h' hk).1, (in_bounds h' hk).2, .inr hk⟩

theorem setM (a b : List Iv) (h : ∀ x ∈ a, x.good = true) (κ : Int) : setS hasM [a, b] κ ↔ meetS a b κ := by
  unfold setS meetS
  show _ ∧ _ ∧ (decide (0 < depthL a κ) && decide (0 < depthL b κ)) = true ↔ _
  rw [Bool.and_eq_true, depth_in, depth_in]
  exact ⟨fun h => h.2.2, fun hk => ⟨(in_bounds h hk.1).1, (in_bounds h hk.1).2, hk⟩⟩

theorem setW (a b : List Iv) (h : ∀ x ∈ a, x.good = true) (κ : Int) : setS hasW [a, b] κ ↔ inL a κ ∧ ¬ inL b κ := by
  unfold setS
  show _ ∧ _ ∧ (decide (0 < depthL a κ) && (depthL b κ == 0)) = true ↔ _
  rw [Bool.and_eq_true, depth_in, depth_out]
  exact ⟨fun h => h.2.2, fun hk => ⟨(in_bounds h hk.1).1, (in_bounds h hk.1).2, hk⟩⟩

theorem firstE_one (a : List Iv) : firstE [a] = validL a := by
  show (if validL a = 0 then (0 : Int) else validL a) = _
  split
  · next h => exact h.symm
  · rfl

theorem firstE_two (a b : List Iv) : firstE [a, b] = if validL a ≠ 0 then validL a else validL b := by
  show (if validL a = 0 then firstE [b] else validL a) = _
  rw [firstE_one]
  by_cases h : validL a = 0
  · rw [if_pos h, if_neg (by simp [h])]
  · rw [if_neg h, if_pos h]

theorem fit_all {xs : List Iv} (h : validL xs = 0) : ∀ x ∈ xs, x.good = true := fun _ hx => (validL_fit h).1.good hx

theorem len1 {ds : List Int} (h : ds.length = 1) : ∃ x, ds = [x] := by
  match ds, h with
  | [x], _ => exact ⟨x, rfl⟩

theorem len2 {ds : List Int} (h : ds.length = 2) : ∃ x y, ds = [x, y] := by
  match ds, h with
  | [x, y], _ => exact ⟨x, y, rfl⟩

theorem clN (W : World) (dv : Value) (ds : List Int) (h : Els .i64 W dv ds) (hl : ds.length = 1) : Calls Try.prog 46 #[dv] W fun e w' => e = .returned (.bool (hasN ds)) ∧ W = w' := by
  obtain ⟨x, rfl⟩ := len1 hl
  exact normal1_any h
theorem clNot (W : World) (dv : Value) (ds : List Int) (h : Els .i64 W dv ds) (hl : ds.length = 1) : Calls Try.prog 59 #[dv] W fun e w' => e = .returned (.bool (hasNot ds)) ∧ W = w' := by
  obtain ⟨x, rfl⟩ := len1 hl
  exact not1_any h
theorem clU (W : World) (dv : Value) (ds : List Int) (h : Els .i64 W dv ds) (hl : ds.length = 2) : Calls Try.prog 60 #[dv] W fun e w' => e = .returned (.bool (hasU ds)) ∧ W = w' := by
  obtain ⟨x, y, rfl⟩ := len2 hl
  exact union1_any h
theorem clM (W : World) (dv : Value) (ds : List Int) (h : Els .i64 W dv ds) (hl : ds.length = 2) : Calls Try.prog 61 #[dv] W fun e w' => e = .returned (.bool (hasM ds)) ∧ W = w' := by
  obtain ⟨x, y, rfl⟩ := len2 hl
  exact meet1_any h
theorem clW (W : World) (dv : Value) (ds : List Int) (h : Els .i64 W dv ds) (hl : ds.length = 2) : Calls Try.prog 62 #[dv] W fun e w' => e = .returned (.bool (hasW ds)) ∧ W = w' := by
  obtain ⟨x, y, rfl⟩ := len2 hl
  exact within1_any h

/-- New slices of slices. -/
theorem LEls.new1 {w : World} {sv : Value} {xs : List Iv} (h : REls RIv w sv xs) (T : TypeId) : LEls (w.alloc (.cells #[sv] T)) (.slice (some ⟨w.heap.size, 0, none⟩) 1 1) [xs] := by
  refine ⟨w.heap.size, 1, rfl, Nat.le_refl _, by simp, fun j ys hj => ?_⟩
  match j with
  | 0 =>
    simp at hj
    subst hj
    exact ⟨sv, (cell_new_l w sv T).1, h.below ((Below.refl _ _).alloc (Nat.le_refl _) _)⟩
  | j + 1 => simp at hj

theorem LEls.new2 {w : World} {sv tv : Value} {xs ys : List Iv} (h : REls RIv w sv xs) (h' : REls RIv w tv ys) (T : TypeId) : LEls (w.alloc (.cells #[sv, tv] T)) (.slice (some ⟨w.heap.size, 0, none⟩) 2 2) [xs, ys] := by
  have hX := BoxL.made w #[sv, tv] T
  have hB : Below w.heap.size w (w.alloc (.cells #[sv, tv] T)) := (Below.refl _ _).alloc (Nat.le_refl _) _
  refine ⟨w.heap.size, 2, rfl, Nat.le_refl _, by simp, fun j zs hj => ?_⟩
  match j with
  | 0 =>
    simp at hj
    subst hj
    exact ⟨sv, (hX.2 0 sv rfl).1, h.below hB⟩
  | 1 =>
    simp at hj
    subst hj
    exact ⟨tv, (hX.2 1 tv rfl).1, h'.below hB⟩
  | j + 2 => simp at hj

/-- Two of what combine leaves, behind limited. -/
theorem two_of {L : List Iv} {S : Int → Prop} {w w' : World} {e : Ending} {a : Option Addr} {n c : Nat} (hf : Fit L) (h : ∀ κ, inL L κ ↔ S κ) (hO : REls RIv w' (.slice a n c) L) (hB : Below w.heap.size w w')
    (he : (32 < L.length ∧ e = .returned (.tuple #[.slice none 0 0, .int .i64 4])) ∨ (¬ 32 < L.length ∧ e = .returned (.tuple #[.slice a n c, .int .i64 0]))) : Two (limL (theSet S)).1 (limL (theSet S)).2 w e w' := by
  rw [← theSet_is hf h]
  unfold limL
  rcases he with ⟨hl, rfl⟩ | ⟨hl, rfl⟩
  · rw [if_pos hl]
    exact ⟨none, 0, 0, rfl, .inl ⟨.inl rfl, rfl⟩, hB⟩
  · rw [if_neg hl]
    exact ⟨a, n, c, rfl, hO, hB⟩

theorem two_err {e1 : Int} {w w' : World} (hB : Below w.heap.size w w') : Two [] e1 w (.returned (.tuple #[.slice none 0 0, .int .i64 e1])) w' := ⟨none, 0, 0, rfl, .inl ⟨.inl rfl, rfl⟩, hB⟩

end Go.Proofs.Ytimbgjpjgbjnkaa

/- The set of each operation is there. -/
namespace Go.Proofs.Ytimbgjpjgbjnkaa
open Go.RowKit Go.Shelf

theorem ens_of : ∀ (T : List (Cut × Int × Int)), (∀ t ∈ T, t.1.Ok) → ∃ es : List En, es.map En.raw = T
  | [], _ => ⟨[], rfl⟩
  | t :: T, h => by
    obtain ⟨es, he⟩ := ens_of T fun x hx => h x (List.mem_cons_of_mem _ hx)
    obtain ⟨c, i, k⟩ := t
    exact ⟨⟨c, i, k, h _ (List.mem_cons_self ..)⟩ :: es, by rw [List.map_cons, he]; rfl⟩

theorem ens_sort : ∀ (es : List En), ∃ ys : List En, ys.Pairwise (fun x y => x.c.key ≤ y.c.key) ∧ ys.Perm es
  | [] => ⟨[], List.Pairwise.nil, List.Perm.refl _⟩
  | e :: es => by
    obtain ⟨ys, hs, hp⟩ := ens_sort es
    have ins : ∀ (zs : List En), zs.Pairwise (fun x y => x.c.key ≤ y.c.key) → ∃ ws : List En, ws.Pairwise (fun x y => x.c.key ≤ y.c.key) ∧ ws.Perm (e :: zs) := by
      intro zs
      induction zs with
      | nil => intro _; exact ⟨[e], List.pairwise_singleton _ _, List.Perm.refl _⟩
      | cons z zs ih =>
        intro hz
        have hz' := List.pairwise_cons.1 hz
        by_cases h : e.c.key ≤ z.c.key
        · refine ⟨e :: z :: zs, List.pairwise_cons.2 ⟨fun y hy => ?_, hz⟩, List.Perm.refl _⟩
          rcases List.mem_cons.1 hy with rfl | hy
          · exact h
          · have := hz'.1 y hy
            omega
        · obtain ⟨ws, h1, h2⟩ := ih hz'.2
          refine ⟨z :: ws, List.pairwise_cons.2 ⟨fun y hy => ?_, h1⟩, (h2.cons z).trans (List.Perm.swap e z zs)⟩
          rcases List.mem_cons.1 (h2.mem_iff.1 hy) with rfl | hy
          · omega
          · exact hz'.1 y hy
    obtain ⟨ws, h1, h2⟩ := ins ys hs
    exact ⟨ws, h1, h2.trans (hp.cons e)⟩

theorem ends_exist (xss : List (List Iv)) (hg : ∀ xs ∈ xss, ∀ x ∈ xs, x.good = true) : ∃ ys, Ends xss ys := by
  have hok : ∀ t ∈ ends0 ++ allEnds xss xss.length, t.1.Ok := by
    intro t ht
    rcases List.mem_append.1 ht with ht | ht
    · unfold ends0 at ht
      simp at ht
      rcases ht with rfl | rfl
      · exact key_low
      · exact key_high
    · unfold allEnds at ht
      obtain ⟨i, hi, ht⟩ := List.mem_flatMap.1 ht
      rw [List.mem_range] at hi
      unfold rawEnds at ht
      obtain ⟨x, hx, ht⟩ := List.mem_flatMap.1 ht
      rw [List.getElem?_eq_getElem hi] at hx
      have hp := good_parts (hg _ (List.getElem_mem hi) x hx)
      simp at ht
      rcases ht with rfl | rfl
      · exact hp.1
      · exact hp.2.1
  obtain ⟨es, he⟩ := ens_of _ hok
  obtain ⟨ys, hs, hp⟩ := ens_sort es
  refine ⟨ys, ⟨fun i j x y hij hx hy => ?_, ?_, hg⟩⟩
  · by_cases e : i = j
    · subst e
      rw [hx] at hy
      cases hy
      exact Int.le_refl _
    · have := List.pairwise_iff_getElem.1 hs i j (List.getElem?_eq_some_iff.1 hx).1 (List.getElem?_eq_some_iff.1 hy).1 (by omega)
      rw [(List.getElem?_eq_some_iff.1 hx).2, (List.getElem?_eq_some_iff.1 hy).2] at this
      exact this
  · rw [← he]
    exact hp.map En.raw

theorem set_exists (hasF : List Int → Bool) (xss : List (List Iv)) (hg : ∀ xs ∈ xss, ∀ x ∈ xs, x.good = true) : ∃ L, Fit L ∧ ∀ κ, inL L κ ↔ setS hasF xss κ := by
  obtain ⟨ys, h⟩ := ends_exist xss hg
  have hk : ∀ k, k ≤ ys.length → ∃ L F b, SwInv ys (setS hasF xss) k L F b := by
    intro k
    induction k with
    | zero => intro _; exact ⟨[], ⟨0, 0, false⟩, false, SwInv.start h hasF _⟩
    | succ k ih =>
      intro hk
      obtain ⟨L, F, b, hi⟩ := ih (by omega)
      have he : ys[k]? = some ys[k] := List.getElem?_eq_getElem (by omega)
      by_cases hs : ∃ e', ys[k + 1]? = some e' ∧ e'.c = ys[k].c
      · obtain ⟨e', he', hc⟩ := hs
        exact ⟨L, F, b, hi.same he he' hc⟩
      · exact ⟨_, _, _, (SwInv.step h hasF hi he (fun e' he' hc => hs ⟨e', he', hc⟩) rfl).1⟩
  obtain ⟨L, F, b, hi⟩ := hk ys.length (Nat.le_refl _)
  have hb := hi.closed (Nat.le_refl _)
  subst hb
  exact ⟨L, hi.done (Nat.le_refl _)⟩

theorem norm_exists (xs : List Iv) (h : ∀ x ∈ xs, x.good = true) : ∃ L, Fit L ∧ ∀ κ, inL L κ ↔ inL xs κ := by
  obtain ⟨L, h1, h2⟩ := set_exists hasN [xs] (fun ys hy => by simp at hy; subst hy; exact h)
  exact ⟨L, h1, fun κ => (h2 κ).trans (setN xs h κ)⟩

theorem union_exists (a b : List Iv) (h : ∀ x ∈ a, x.good = true) (h' : ∀ x ∈ b, x.good = true) : ∃ L, Fit L ∧ ∀ κ, inL L κ ↔ unionS a b κ := by
  obtain ⟨L, h1, h2⟩ := set_exists hasU [a, b] (fun ys hy => by simp at hy; rcases hy with rfl | rfl; (· exact h); (· exact h'))
  exact ⟨L, h1, fun κ => (h2 κ).trans (setU a b h h' κ)⟩

theorem meet_exists (a b : List Iv) (h : ∀ x ∈ a, x.good = true) (h' : ∀ x ∈ b, x.good = true) : ∃ L, Fit L ∧ ∀ κ, inL L κ ↔ meetS a b κ := by
  obtain ⟨L, h1, h2⟩ := set_exists hasM [a, b] (fun ys hy => by simp at hy; rcases hy with rfl | rfl; (· exact h); (· exact h'))
  exact ⟨L, h1, fun κ => (h2 κ).trans (setM a b h κ)⟩

theorem not_exists' (a : List Iv) (h : ∀ x ∈ a, x.good = true) : ∃ L, Fit L ∧ ∀ κ, inL L κ ↔ notS a κ := by
  obtain ⟨L, h1, h2⟩ := set_exists hasNot [a] (fun ys hy => by simp at hy; subst hy; exact h)
  exact ⟨L, h1, fun κ => (h2 κ).trans (setNot a κ)⟩

end Go.Proofs.Ytimbgjpjgbjnkaa

