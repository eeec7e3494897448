/- The generator of lists of parents that often are none: Spoilt. -/
import Derived.Test.YtidnllddhhllcaaTr
import Derived.Deep.RegionLaw
namespace Go.Proofs.Ytidnllddhhllcaa
open Go.RowKit Go.Shelf

/-- A readable slice appended to a slice of the call's own, as a step of a region that draws its order. -/
theorem step_all {P : Program} {ops : Array Oper} {o : Oper} {act : Act} {K : Act → World → Prop} {Q : Exit → Act → World → Prop} {E : Prop} {w : World} (hgd : o.guard = none) (s x : Operand) (t : TypeId)
    (ho : o.op = .call { callee := .builtin .append, args := #[s, x], argTypes := #[t, t] }) (k : IntKind) (e : TypeId) (bytes : Nat) (ht : P.underlying t = some (.slice e))
    (info : (P.info? e).map (fun i => (i.zero, i.size, i.bytes)) = some (some (.int k 0), 1, bytes)) (hby : bytes ≤ 8) (B : Nat) (v : Value) (zs : List Int) (sv : Value) (ys : List Int)
    (hs : act.eval s = v) (hx : act.eval x = sv) (hown : Own k e B w v zs) (hE : Els k w sv ys) (hB : B ≤ w.heap.size) (hl : zs.length + ys.length ≤ 1000000000000)
    (h : ∀ a n c w', Hid (n = zs.length + ys.length) → Hid (Own k e B w' (.slice a n c) (zs ++ ys)) → Hid (Below B w w') → K (act.put o.dst (.slice a n c)) w') :
    if Region.wanted o (yielded ops act.tmps) = true then Oper.wp P o act w K Q else E := by
  have hw : Region.wanted o (yielded ops act.tmps) = true := by simp [Region.wanted, hgd]
  rw [if_pos hw]
  obtain ⟨i0, hi, hz0, hz1, hz2⟩ := info_parts info
  have fin : ∀ v' w', Own k e B w' v' (zs ++ ys) → Below B w w' → K (act.put o.dst v') w' := by
    intro v' w' hO hb
    obtain ⟨a, n, c, rfl, hn, hO⟩ := Own.slice hO
    refine h a n c w' ?_ hO hb
    have := hn.out
    rw [List.length_append] at this
    exact this
  have some' : ∀ (ad : Addr) (c : Nat), sv = .slice (some ad) ys.length c → (∀ j u, (ys.map (Value.int k))[j]? = some u → w.cell? (ad.add j) = some u) → Oper.wp P o act w K Q := by
    intro ad c hsv hcells
    subst hsv
    have hmul : (zs.length + ys.length) * bytes ≤ (zs.length + ys.length) * 8 := Nat.mul_le_mul_left _ hby
    refine wp_append_own w s x t ho B e i0 (.int k 0) 1 bytes ht hi hz0 hz1 hz2 rfl (by decide) v zs.length _ hs hown ad ys.length c (ys.map (Value.int k)) hx (by simp) hcells (ints_oneCell k ys) (by unfold maxLen; omega) (by omega) hB ?_
    intro v' w1 hown' hgrow _
    refine fin v' w1 ?_ ((Below.refl B w).grown hgrow hB fun j hj => hown.lt j hj)
    unfold Own
    rw [List.length_append, List.map_append]
    exact hown'
  rcases hE with ⟨rfl | ⟨ad, c, rfl⟩, rfl⟩ | ⟨b, off, cap, hb, rfl, hle, hc⟩
  · have hrun := run_append_owned_none (P := P) (w := w) B t o.type e i0 1 ht hi v zs.length _ hown
    unfold Oper.wp
    simp [execOp, ho, resolve, invoke, builtin, hs, hx, hrun, Result.andThen]
    exact fin v w (by rw [List.append_nil]; exact hown) (Below.refl B w)
  · exact some' ad c rfl (by simp)
  · refine some' ⟨b, off, none⟩ cap rfl ?_
    have := news_at (k := k) (w := w) (b := b) (off := off) (zs := ys) (Nat.le_refl _) hc
    rw [List.take_length] at this
    exact this

/-- A slice's length. -/
def lenOf : Value → Nat
  | .slice _ n _ => n
  | _ => 0

/-- A row that is short, of numbers that fit. -/
def RowOK (m : Nat) (l : List Int) : Prop := l.length ≤ m ∧ Wfs l

theorem RowOK.mono {m m' : Nat} {l : List Int} (h : RowOK m l) (hm : m ≤ m') : RowOK m' l := ⟨Nat.le_trans h.1 hm, h.2⟩

theorem wf_range {z : Int} (h : -9223372036854775808 ≤ z ∧ z ≤ 9223372036854775807) : (Lit.int .i64 z).wf = true := by
  simpa [Lit.wf, IntKind.min, IntKind.max, IntKind.signed, IntKind.bits] using h

theorem RowOK.one {m : Nat} {z : Int} (hm : 1 ≤ m) (h : (Lit.int .i64 z).wf = true) : RowOK m [z] := ⟨hm, fun x hx => by simp at hx; subst hx; exact h⟩

theorem RowOK.append {m m' : Nat} {l r : List Int} (h : RowOK m l) (k : RowOK m' r) : RowOK (m + m') (l ++ r) := ⟨by rw [List.length_append]; have := h.1; have := k.1; omega, fun x hx => by
  rcases List.mem_append.1 hx with hx | hx
  · exact h.2 x hx
  · exact k.2 x hx⟩

/-- What Spoilt leaves. -/
def SpoiltPost (m : Nat) (w : World) (e : Ending) (w' : World) : Prop :=
  ∃ Q a n c, e = .returned (.slice a n c) ∧ Q.length ≤ 100 ∧ Hid (∀ l ∈ Q, RowOK m l) ∧ Hid (n = Q.length) ∧ Hid (LE w' (.slice a n c) Q) ∧ Hid (Below w.heap.size w w')

theorem mem_set_le {p : List Int → Prop} {Q : List (List Int)} {i : Nat} {l : List Int} (h : ∀ x ∈ Q, p x) (hl : p l) : ∀ x ∈ Q.set i l, p x := fun x hx => by
  rcases List.mem_or_eq_of_mem_set hx with h1 | rfl
  · exact h x h1
  · exact hl

theorem mem_snoc_le {p : List Int → Prop} {Q : List (List Int)} {l : List Int} (h : ∀ x ∈ Q, p x) (hl : p l) : ∀ x ∈ Q ++ [l], p x := fun x hx => by
  rcases List.mem_append.1 hx with h1 | h1
  · exact h x h1
  · simp at h1; subst h1; exact hl

theorem row_ok {m : Nat} {Q : List (List Int)} (h : ∀ x ∈ Q, RowOK m x) (i : Nat) : RowOK m (Tx.row Q i) := by
  unfold Tx.row
  cases hc : Q[i]? with
  | none => exact ⟨by simp, fun x hx => by simp at hx⟩
  | some l => exact h l (List.mem_of_getElem? hc)

theorem row_le {Q : List (List Int)} {m : Nat} (h : ∀ x ∈ Q, x.length ≤ m) (i : Nat) : (Tx.row Q i).length ≤ m := by
  unfold Tx.row
  cases hc : Q[i]? with
  | none => simp
  | some l => exact h l (List.mem_of_getElem? hc)

/-- One list of one number. -/
theorem one_le (w : World) (z : Int) (T T2 : TypeId) (g : Nat) (hg : (w.alloc (.cells #[.int .i64 z] T)).heap.size = g) : LE ((w.alloc (.cells #[.int .i64 z] T)).alloc (.cells #[.slice (some ⟨w.heap.size, 0, none⟩) 1 1] T2)) (.slice (some ⟨g, 0, none⟩) 1 1) [[z]] := by
  subst hg
  have hB := (Below.refl (w.alloc (.cells #[.int .i64 z] T)).heap.size (w.alloc (.cells #[.int .i64 z] T))).alloc (Nat.le_refl _) (.cells #[.slice (some ⟨w.heap.size, 0, none⟩) 1 1] T2)
  have hn := heap_new (w.alloc (.cells #[.int .i64 z] T)) (.cells #[.slice (some ⟨w.heap.size, 0, none⟩) 1 1] T2)
  refine .inr ⟨_, 1, trivial, by simp, rfl, Nat.le_refl _, fun j l hl => ?_⟩
  match j with
  | 0 =>
    simp at hl
    subst hl
    refine ⟨_, by unfold World.cell?; simp only [hn]; rfl, ?_⟩
    exact ((Els.new .i64 w T [z]).below hB).ein
  | n + 1 => simp at hl

theorem LE.take {w : World} {a : Option Addr} {n c : Nat} {P : List (List Int)} (h : LE w (.slice a n c) P) (i : Nat) (hi : i < n) : LE w (.slice a i c) (P.take i) := by
  have hn := LIn.len h
  rcases h with ⟨_, rfl⟩ | ⟨b, cap, _, h2, h3, h4, h5⟩
  · simp at hn; omega
  · cases h3
    refine .inr ⟨b, c, trivial, h2, ?_, ?_, fun j l hl => ?_⟩
    · rw [List.length_take, Nat.min_eq_left (by omega)]
    · rw [List.length_take]; omega
    · have hj := (List.getElem?_eq_some_iff.1 hl).1
      rw [List.length_take] at hj
      rw [List.getElem?_take_of_lt (by omega)] at hl
      exact h5 j l hl

theorem LSep.base {B : Nat} {w : World} {g n c : Nat} {P : List (List Int)} (h : LSep B w (.slice (some ⟨g, 0, none⟩) n c) P) : B ≤ g := by
  obtain ⟨vs, hO, _⟩ := h
  exact (World.ownsRow.lt hO g rfl).1

/-- A row that was appended to. -/
theorem spoil_one {B : Nat} {wr w1 : World} {g n c i : Nat} {P : List (List Int)} {x v' : Value} {R l : List Int} {o : Obj} (h : LSep B wr (.slice (some ⟨g, 0, none⟩) n c) P) (hi : i < n) (hB : B ≤ wr.heap.size) (hg : g < wr.heap.size) (hc : wr.cell? ⟨g, i, none⟩ = some x) (hf : wr.frozen? ⟨g, i, none⟩ = false)
    (hne : ∀ b, x.ownBlock = some b → b ≠ g) (hx : Own .i64 3 B wr x R) (hG : (wr.alloc o).grownBy w1 x.ownBlock) (hO : Own .i64 3 B w1 v' l) (hat : v'.ownBlock = x.ownBlock ∨ v'.ownBlock = some (wr.alloc o).heap.size) :
    w1.cell? ⟨g, i, none⟩ = some x ∧ w1.frozen? ⟨g, i, none⟩ = false ∧ LE (w1.setCell ⟨g, i, none⟩ v') (.slice (some ⟨g, 0, none⟩) n c) (P.set i l) ∧ Below B wr (w1.setCell ⟨g, i, none⟩ v') := by
  have hBA : Below wr.heap.size wr (wr.alloc o) := (Below.refl _ wr).alloc (Nat.le_refl _) _
  have hk : ∀ b, b < wr.heap.size → x.ownBlock ≠ some b → w1.heap[b]? = wr.heap[b]? := fun b hb hn => (hG.block b (by simp; omega) (fun e => hn e.symm)).trans (hBA.block b hb)
  have hgk := hk g hg (fun e => hne g e rfl)
  refine ⟨(cell_of_block hgk i).trans hc, ?_, LSep.set h i hi (Nat.le_trans hBA.size hG.size) hc hk (hO.einS.mono fun b _ hb e => ?_), ?_⟩
  · rw [← hf]
    unfold World.frozen?
    simp only [hgk]
  · subst e
    rcases hat with h1 | h1
    · exact hne b (by rw [← h1]; exact hb) rfl
    · rw [h1] at hb
      simp at hb
      omega
  · exact (((Below.refl B wr).alloc hB o).grown hG (by simp; omega) fun j hj => (World.ownsRow.lt hx j hj).1).setCell (p := ⟨g, i, none⟩) h.base v'

/-- A row that is new. -/
theorem spoil_new {B : Nat} {wr w1 : World} {g n c i : Nat} {P : List (List Int)} {x v' : Value} {l : List Int} (h : LSep B wr (.slice (some ⟨g, 0, none⟩) n c) P) (hi : i < n) (hB : B ≤ wr.heap.size) (hg : g < wr.heap.size) (hc : wr.cell? ⟨g, i, none⟩ = some x)
    (hw : Below wr.heap.size wr w1) (hO : EIn (wr.heap.size ≤ ·) w1 v' l) : LE (w1.setCell ⟨g, i, none⟩ v') (.slice (some ⟨g, 0, none⟩) n c) (P.set i l) ∧ Below B wr (w1.setCell ⟨g, i, none⟩ v') :=
  ⟨LSep.set h i hi hw.size hc (fun b hb _ => hw.block b hb) (hO.mono fun b _ hb e => by omega), (hw.mono hB).setCell (p := ⟨g, i, none⟩) h.base v'⟩

/-- A slice literal of one number is the call's own. -/
theorem own_one (w : World) (E : TypeId) (z : Int) : Own .i64 E w.heap.size (w.alloc (.cells #[.int .i64 z] E)) (.slice (some ⟨w.heap.size, 0, none⟩) 1 1) [z] :=
  ⟨rfl, .inr ⟨w.heap.size, 1, #[.int .i64 z], rfl, Nat.le_refl _, heap_new w _, Nat.le_refl _, by unfold maxLen; decide, rfl, rfl⟩⟩

theorem ein_new (w : World) (T : TypeId) (z : Int) : EIn (w.heap.size ≤ ·) (w.alloc (.cells #[.int .i64 z] T)) (.slice (some ⟨w.heap.size, 0, none⟩) 1 1) [z] := by
  have hn := heap_new w (.cells #[.int .i64 z] T)
  refine .inr ⟨w.heap.size, 0, 1, Nat.le_refl _, by simp, rfl, by simp, fun j hj => ?_⟩
  have : j = 0 := by simp at hj; exact hj
  subst this
  unfold World.cell?
  simp only [hn]
  rfl

set_option maxHeartbeats 8000000 in
set_option maxRecDepth 100000 in
theorem spoilt_any (pv : Value) (P : List (List Int)) (a1 a2 a3 : Int) (m : Nat) (w : World) (hL : LE w pv P) (hP : P.length ≤ 100) (hm : ∀ l ∈ P, RowOK m l) (hm2 : m ≤ 1000) (w1 : (Lit.int .i64 a1).wf = true) (w2 : (Lit.int .i64 a2).wf = true) (w3 : (Lit.int .i64 a3).wf = true) :
    Calls Try.prog 11 #[pv, .int .i64 a1, .int .i64 a2, .int .i64 a3] w (SpoiltPost (m + 1) w) := by
  obtain ⟨pa, pc, rfl⟩ := LIn.shape hL
  have HI0 := Lib.hid Try.infoI64
  obtain ⟨i0, hi0, hz0, hz1, hz2⟩ := info_parts Try.infoI64
  have HI := Lib.hid hi0
  have HZ := Lib.hid hz0
  have HZ1 := Lib.hid hz1
  have HZ2 := Lib.hid hz2
  clear hi0 hz0 hz1 hz2
  have HL := Lib.hid hL
  have HM := Lib.hid hm
  have ka1 := fun (n : Int) (W : World) (h1 : 1 ≤ n) (h2 : n ≤ 1000) => around_any a1 n W h1 (by omega) w1
  have ka2 := fun (W : World) => around_any a2 5 W (by decide) (by decide) w2
  have ka3 := fun (n : Int) (W : World) (h1 : 1 ≤ n) (h2 : n ≤ 1000) => around_any a3 n W h1 (by omega) w3
  have hr2 := aroundI_range a2 5 (by decide)
  generalize aroundI a2 5 = q at *
  have KA1 := Lib.hid ka1
  have KA2 := Lib.hid ka2
  have KA3 := Lib.hid ka3
  have HW3 := Lib.hid w3
  generalize hn : P.length = n at *
  have HN := Lib.hid hn
  clear hL hm hn ka1 ka2 ka3 w1 w2 w3
  go_enter Try.func11, Try.ntmps11
  go_wp2
  go_loopw [9, 10] (fun v i wr => ∃ k : Nat, k ≤ n ∧ i = .int .i64 k ∧ ∃ ao no co, v = .slice ao no co ∧ Hid (no = k) ∧ Hid (LSep w.heap.size wr (.slice ao no co) (P.take k)) ∧ Hid (Below w.heap.size w wr)) (fun _ i _ => n - (intOf i).toNat)
  case atStart => exact ⟨0, Nat.zero_le _, rfl, none, 0, 0, rfl, rfl, Lib.hid (LSep.nil _ _), Lib.hid (Below.refl _ _)⟩
  case round =>
    obtain ⟨k, hk, rfl, ao, no, co, rfl, hno, hS, hB⟩ := hrel
    by_cases hlt : k < n
    · have hki : (k : Int) < n := by omega
      obtain ⟨b, aj, nj, cj, rfl, hrow, hER, hnj, -⟩ := LIn.at (LE.below hB.out HL.out) k hlt
      have hsn : P.take (k + 1) = P.take k ++ [Tx.row P k] := by
        have hkP : k < P.length := by rw [HN.out]; exact hlt
        rw [List.take_add_one, List.getElem?_eq_getElem hkP]
        unfold Tx.row
        rw [List.getElem?_eq_getElem hkP]
        rfl
      have hrl := (row_ok HM.out k).1
      have hEls := hER.els
      generalize Tx.row P k = R at *
      have HSN := Lib.hid hsn
      have HEL := Lib.hid hEls
      have hbx := (Below.refl wr.heap.size wr).alloc (Nat.le_refl _) (.cells #[] 3)
      have HBX := Lib.hid hbx
      have HO0 := Lib.hid (show Own .i64 3 wr.heap.size (wr.alloc (.cells #[] 3)) (.slice (some ⟨wr.heap.size, 0, none⟩) 0 0) [] from World.ownsRow_made wr #[] 0 (Nat.le_refl _) (Nat.zero_le _) rfl)
      have HE0 := Lib.hid (hEls.below hbx)
      have HRW := Lib.hid (Since.cell hbx hrow)
      have hrow2 := HRW.out
      clear hER hnj hsn hEls hbx
      go_wp2_with (first
        | (at_builtin; refine push_all rfl _ _ 22 rfl .i64 3 8 Try.underlying22 HI0.out (by decide) wr.heap.size (.slice (some ⟨wr.heap.size, 0, none⟩) 0 0) [] (.slice aj nj cj) R rfl rfl HO0.out HE0.out HBX.out.size (by simp; omega) ?_; intro a2 n2 c2 w2 hn2 hO2 hB2; have hBx := Lib.hid (HBX.out.trans hB2.out); have hO3 := hO2.out; rw [List.nil_append] at hO3; have HO3 := Lib.hid hO3; clear hO3 hO2 hB2)
        | (at_builtin; refine push_sep rfl _ _ rfl w.heap.size (.slice ao no co) (P.take k) R (.slice a2 n2 c2) _ rfl _ rfl rfl hS.out hB.out.size hBx.out (by rw [List.length_take]; omega) HO3.out ?_; intro a4 n4 c4 w4 hn4 hS4 hB4))
      go_roundw
      case rel => exact ⟨k + 1, by omega, by go_num, a4, n4, c4, rfl, Lib.hid (by rw [hn4.out, List.length_take, HN.out]; omega), Lib.hid (by rw [HSN.out]; exact hS4.out), Lib.hid (Below.trans (Since.step hB.out hBx.out) hB4.out)⟩
      case measure => simp [intOf]; omega
    · have hki : ¬ (k : Int) < n := by omega
      have hkn : k = n := by omega
      subst hkn
      have hS1 := hS.out
      rw [List.take_of_length_le (by rw [HN.out]; omega)] at hS1
      have HS := Lib.hid hS1
      clear hS1 hS
      by_cases h0 : k = 0
      · have hd : ((no : Int) == 0) = true := by rw [hno.out, h0]; rfl
        clear h0
        go_wp2
        go_ret
        exact ⟨[[a3]], _, _, _, rfl, by simp, Lib.hid (fun l hl => by simp at hl; subst hl; exact RowOK.one (by omega) HW3.out), rfl, Lib.hid (one_le wr a3 _ _ _ (by simp)), Lib.hid ((hB.out.alloc hB.out.size _).alloc (by have := hB.out.size; simp; omega) _)⟩
      · have hd : ((no : Int) == 0) = false := by rw [hno.out]; exact beq_eq_false_iff_ne.2 (by omega)
        have hno2 := hno.out
        subst hno2
        have k1 := KA1.out (no : Int) wr (by omega) (by omega)
        obtain ⟨i, hi, hin⟩ := around_nat a1 no (by omega)
        rw [hi] at k1
        have K1 := Lib.hid k1
        have hii : (i : Int) < no := by omega
        obtain ⟨g, x, rfl, hgw, hnc, hcg, hfg, hEi, hne, hiP, -⟩ := LSep.at HS.out i hin
        have HCG := Lib.hid hcg
        have HFG := Lib.hid hfg
        have HEI := Lib.hid hEi
        have HNE := Lib.hid hne
        clear k1 hi KA1 hcg hfg hEi hne hno
        have hq : q = 0 ∨ q = 1 ∨ q = 2 ∨ q = 3 ∨ q = 4 := by omega
        clear hr2
        rcases hq with rfl | rfl | rfl | rfl | rfl
        · have hrok := row_ok HM.out i
          have hrl := hrok.1
          generalize Tx.row P i = R at *
          have HRK := Lib.hid hrok
          clear hrok
          obtain ⟨ai, ci, rfl⟩ := HEI.out.shape
          generalize hrn : R.length = ln at *
          have HRN := Lib.hid hrn
          have hBs := hB.out.size
          clear hrn
          go_wp2_with fail
          refine (K1.out).mono ?_
          rintro e w' ⟨rfl, rfl⟩
          go_wp2_with fail
          refine (KA2.out _).mono ?_
          rintro e w' ⟨rfl, rfl⟩
          have hcg := HCG.out
          go_wp2_with (at_builtin; (refine wpList_append_own_at _ rfl _ _ 22 rfl w.heap.size 3 i0 (.int .i64 0) 1 8 Try.underlying22 HI.out HZ.out HZ1.out HZ2.out rfl (by decide) (.slice ai ln ci) ln (R.map (Value.int .i64)) rfl (by have := HEI.out.alloc (.cells #[.int .i64 a3] 3); rw [HRN.out] at this; exact this) ⟨wr.heap.size, 0, none⟩ 1 1 [.int .i64 a3] rfl rfl (one_new _ _ _) (by simp [Value.oneCell']) (by unfold maxLen; omega) (by omega) (by simp; omega) ?_); intro v' w1 hO' hG hiff hatb; clear hiff; go_loud (have hO2 : Own .i64 3 w.heap.size w1 v' (R ++ [a3]) := (by unfold Own; rw [List.length_append, List.map_append, HRN.out]; exact hO'); clear hO'; obtain ⟨av, nv, cv, rfl, hnv, HO2⟩ := Own.slice hO2; obtain ⟨s1, s2, s3, s4⟩ := spoil_one HS.out hin hBs hgw HCG.out HFG.out HNE.out HEI.out hG hO2 hatb; have S3 := Lib.hid s3; have S4 := Lib.hid s4; clear hG hO2 hatb s3 s4))
          go_ret
          exact ⟨P.set i (R ++ [a3]), _, _, _, rfl, by rw [List.length_set, HN.out]; exact hP, Lib.hid (mem_set_le (fun l hl => (HM.out l hl).mono (by omega)) (HRK.out.append (RowOK.one (m := 1) (by omega) HW3.out))), Lib.hid (by rw [List.length_set, HN.out]), S3, Lib.hid (Below.trans hB.out S4.out)⟩
        · have k3 := KA3.out ((no : Int) + 1) wr (by omega) (by omega)
          have HZW : Hid ((Lit.int .i64 (aroundI a3 ((no : Int) + 1))).wf = true) := by have := aroundI_range a3 ((no : Int) + 1) (by omega); exact wf_range (by omega)
          generalize aroundI a3 ((no : Int) + 1) = z at *
          have K3 := Lib.hid k3
          clear k3
          have hBx := (Below.refl wr.heap.size wr).alloc (Nat.le_refl _) (.cells #[.int .i64 z] 3)
          have hcx := Since.cell hBx HCG.out
          have hfx := (hBx.frozen (p := ⟨g, i, none⟩) hgw).trans HFG.out
          have hsn := spoil_new HS.out hin hB.out.size hgw HCG.out hBx (ein_new wr 3 z)
          rw [World.setCell_alloc_past _ _ _ _ hgw] at hsn
          have HSN := Lib.hid hsn
          clear hBx hsn
          go_wp2_with fail
          refine (K1.out).mono ?_
          rintro e w' ⟨rfl, rfl⟩
          go_wp2_with fail
          refine (KA2.out _).mono ?_
          rintro e w' ⟨rfl, rfl⟩
          go_wp2_with fail
          refine (K3.out).mono ?_
          rintro e w' ⟨rfl, rfl⟩
          go_wp2
          go_ret
          exact ⟨P.set i [z], _, _, _, rfl, by rw [List.length_set, HN.out]; exact hP, Lib.hid (mem_set_le (fun l hl => (HM.out l hl).mono (by omega)) (RowOK.one (by omega) HZW.out)), Lib.hid (by rw [List.length_set, HN.out]), Lib.hid HSN.out.1, Lib.hid (Below.trans hB.out HSN.out.2)⟩
        · have hrok := row_ok HM.out i
          have hrl := hrok.1
          generalize Tx.row P i = R at *
          have HRK := Lib.hid hrok
          clear hrok
          obtain ⟨ai, ci, rfl⟩ := HEI.out.shape
          generalize hrn : R.length = ln at *
          have HRN := Lib.hid hrn
          have hBs := hB.out.size
          have k3 := fun W => KA3.out (no : Int) W (by omega) (by omega)
          have HZW : Hid ((Lit.int .i64 (aroundI a3 (no : Int))).wf = true) := by have := aroundI_range a3 (no : Int) (by omega); exact wf_range (by omega)
          generalize aroundI a3 (no : Int) = z at *
          have K3 := Lib.hid k3
          have hmade := fun W : World => (show Own .i64 3 W.heap.size (W.alloc (.cells #[.int .i64 z] 3)) (.slice (some ⟨W.heap.size, 0, none⟩) 1 1) [z] from own_one W _ z)
          have HMADE := Lib.hid hmade
          have HEE := Lib.hid HEI.out.els
          have hcg := HCG.out
          clear hrn k3 hmade
          go_wp2_with fail
          refine (K1.out).mono ?_
          rintro e w' ⟨rfl, rfl⟩
          go_wp2_with fail
          refine (KA2.out _).mono ?_
          rintro e w' ⟨rfl, rfl⟩
          go_upto_region 15 with (fail)
          have hS0 : Since wr wr := Below.refl _ _
          have hSd : Since wr wr.drew := Below.drew hS0
          have hSa := Since.step hSd ((Below.refl wr.drew.heap.size wr.drew).alloc (Nat.le_refl _) (.cells #[.int .i64 z] 3))
          have h8 : 8 ≤ 8 := Nat.le_refl _
          have hlen1 : [z].length + R.length ≤ 1000000000000 := by have := HRN.out; simp; omega
          have hfg := HFG.out
          go_region_law (first
            | (go_simp; refine (K3.out _).mono ?_; rintro e w' ⟨rfl, rfl⟩; dsimp only)
            | (refine step_all rfl (.tmp 70) (.tmp 74) 22 rfl .i64 3 8 Try.underlying22 Try.infoI64 h8 wr.heap.size (.slice (some ⟨wr.heap.size, 0, none⟩) 1 1) [z] (.slice ai ln ci) R rfl rfl (HMADE.out wr.drew) (HEE.out.below hSa) (Below.size hSa) hlen1 ?_; intro a4 n4 c4 w4 hn4 hO4 hB4; have hB4' : Since wr w4 := Below.trans hSa hB4.out; have hcg4 := Since.cell hB4' hcg; have hfg4 := (Below.frozen hB4' (p := ⟨g, i, none⟩) hgw).trans hfg))
          all_goals
            have hsn := spoil_new HS.out hin hBs hgw HCG.out hB4' hO4.out.ein
            have HSN := Lib.hid hsn
            clear hsn
            go_wp2
            go_ret
            exact ⟨P.set i ([z] ++ R), _, _, _, rfl, by rw [List.length_set, HN.out]; exact hP, Lib.hid (mem_set_le (fun l hl => (HM.out l hl).mono (by omega)) (((RowOK.one (m := 1) (by omega) HZW.out).append HRK.out).mono (by omega))), Lib.hid (by rw [List.length_set, HN.out]), Lib.hid HSN.out.1, Lib.hid (Below.trans hB.out HSN.out.2)⟩
        · have k3 := fun W => KA3.out 3 W (by decide) (by decide)
          have hr3 := aroundI_range a3 3 (by decide)
          generalize aroundI a3 3 = t at *
          have K3 := Lib.hid k3
          have HR3 := Lib.hid hr3
          clear k3 hr3 HCG HFG HEI HNE
          go_wp2_with fail
          refine (K1.out).mono ?_
          rintro e w' ⟨rfl, rfl⟩
          go_wp2_with fail
          refine (KA2.out _).mono ?_
          rintro e w' ⟨rfl, rfl⟩
          go_wp2
          rename World => wo
          go_loopw [9] (fun v wr => ∃ ao nq co Q, v = .slice ao nq co ∧ Hid (nq = Q.length) ∧ nq ≤ 100 ∧ Hid (∀ l ∈ Q, RowOK (m + 1) l) ∧ Hid (LSep w.heap.size wr (.slice ao nq co) Q) ∧ Hid (Below w.heap.size w wr)) (fun v _ => 70 - lenOf v)
          case atStart => exact ⟨some ⟨g, 0, none⟩, no, co, P, rfl, Lib.hid HN.out.symm, hP, Lib.hid fun l hl => (HM.out l hl).mono (by omega), HS, hB⟩
          case round =>
            obtain ⟨aq, nq, cq, Q, rfl, hnq, hq, hm3, hS3, hB3⟩ := hrel
            obtain ⟨r1, r2⟩ := HR3.out
            by_cases hlt : (nq : Int) < 63 + t
            · have hld : decide ((nq : Int) < 63 + t) = true := decide_eq_true hlt
              have HO1 := Lib.hid (own_one wr 3 ((nq : Int) - 1))
              have HB1 := Lib.hid ((Below.refl wr.heap.size wr).alloc (Nat.le_refl _) (.cells #[.int .i64 ((nq : Int) - 1)] 3))
              go_wp2_with fail
              refine (K3.out _).mono ?_
              rintro e w' ⟨rfl, rfl⟩
              go_wp2_with (at_builtin; refine push_sep rfl _ _ rfl w.heap.size (.slice aq nq cq) Q [(nq : Int) - 1] (.slice (some ⟨wr.heap.size, 0, none⟩) 1 1) _ rfl (wr.heap.size + 1) (by simp) rfl hS3.out hB3.out.size HB1.out (by rw [← hnq.out]; omega) HO1.out ?_; intro a4 n4 c4 w4 hn4 hS4 hB4)
              go_roundw
              case rel => exact ⟨a4, n4, c4, Q ++ [[(nq : Int) - 1]], rfl, Lib.hid (by rw [List.length_append]; exact hn4.out), by rw [hn4.out, ← hnq.out]; omega, Lib.hid (mem_snoc_le hm3.out (RowOK.one (by omega) (wf_range (by omega)))), hS4, Lib.hid (Below.trans (Since.step hB3.out HB1.out) hB4.out)⟩
              case measure => simp [lenOf]; have h1 := hn4.out; have h2 := hnq.out; omega
            · have hld : decide ((nq : Int) < 63 + t) = false := decide_eq_false hlt
              go_wp2_with fail
              refine (K3.out _).mono ?_
              rintro e w' ⟨rfl, rfl⟩
              go_wp2
              go_ret
              exact ⟨Q, _, _, _, rfl, by rw [← hnq.out]; exact hq, hm3, hnq, Lib.hid hS3.out.le, hB3⟩
        · go_wp2_with fail
          refine (K1.out).mono ?_
          rintro e w' ⟨rfl, rfl⟩
          go_wp2_with fail
          refine (KA2.out _).mono ?_
          rintro e w' ⟨rfl, rfl⟩
          go_wp2
          go_ret
          exact ⟨P.take i, _, _, _, rfl, by rw [List.length_take]; omega, Lib.hid (fun l hl => (HM.out l (List.mem_of_mem_take hl)).mono (by omega)), Lib.hid (by rw [List.length_take]; omega), Lib.hid (LE.take HS.out.le i hin), hB⟩

end Go.Proofs.Ytidnllddhhllcaa
