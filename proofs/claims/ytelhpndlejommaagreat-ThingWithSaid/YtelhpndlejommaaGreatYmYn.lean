import Derived.Test.YtelhpndlejommaaGreatYc
import Derived.Test.YtelhpndlejommaaGreatYf
/- The reference's Good: whether a ratio can be a value. -/
namespace Go.Proofs.YtelhpndlejommaaGreat
open Go.RowKit Go.Shelf

set_option maxHeartbeats 400000 in
theorem rdivisor_any (a b : Int) (w : World) (h1 : 0 ≤ a ∧ a ≤ 1099511627776) (h2 : 0 ≤ b ∧ b ≤ 1099511627776) :
    Calls Tryz.prog 104 #[.int .i64 a, .int .i64 b] w fun e w' => e = .returned (.int .i64 (Qm.g a b)) ∧ Below w.heap.size w w' := by
  obtain ⟨ha, ha'⟩ := h1
  obtain ⟨hb, hb'⟩ := h2
  go_enter Tryz.func104, Tryz.ntmps104
  go_wp2
  go_loopw [0, 1] (fun x y w' => ∃ p q : Int, x = .int .i64 p ∧ y = .int .i64 q ∧ Hid (Qm.g p q = Qm.g a b) ∧ 0 ≤ p ∧ p ≤ 1099511627776 ∧ 0 ≤ q ∧ q ≤ 1099511627776 ∧ Hid (Below w.heap.size w w')) (fun _ y _ => (intOf y).natAbs)
  case atStart => exact ⟨a, b, rfl, rfl, Lib.hid rfl, ha, ha', hb, hb', Lib.hid (Below.refl _ _)⟩
  case round =>
    obtain ⟨p, q, rfl, rfl, hg, hp, hp', hq, hq', hB⟩ := hrel
    by_cases h0 : q = 0
    · subst h0
      have hg2 : Qm.g a b = p := by rw [← hg.out, Qm.g_zero, if_neg (by omega)]
      have HG := Lib.hid hg2.symm
      clear hg2
      go_wp2
      go_ret
      exact ⟨ret_int HG.out, hB.out⟩
    · have h0' : q > 0 := by omega
      have hr0 : p.tmod q = p % q := Int.tmod_eq_emod_of_nonneg hp
      have hl1 : 0 ≤ p % q := Int.emod_nonneg _ h0
      have hl : p % q < q := Int.emod_lt_of_pos _ h0'
      have hs : Hid (Qm.g q (p % q) = Qm.g a b) := Lib.hid (by rw [← hr0, Qm.g_step]; exact hg.out)
      clear hg
      go_wp2
      go_roundw
      case rel => exact ⟨q, p % q, rfl, by first | rfl | rw [hr0] | simp [hr0], hs, hq, hq', hl1, by omega, hB⟩
      case measure => (simp [intOf]; omega)

theorem g_negl (n d : Int) : Qm.g (-n) d = Qm.g n d := by unfold Qm.g; simp

/-- Whether a ratio can be a value. -/
def okV (n d : Int) : Bool := decide (Qm.Ok n d ∧ d ≤ 65536)

theorem okV_f {n d : Int} (h : d < 1 ∨ d > 65536 ∨ n < -1099511627776 ∨ n > 1099511627776) : okV n d = false := by
  unfold okV
  rw [decide_eq_false_iff_not]
  rintro ⟨⟨h1, h2, h3, h4, h5⟩, h6⟩
  omega

theorem okV_g {n d : Int} (h1 : 1 ≤ d) (h2 : d ≤ 65536) (h3 : -1099511627776 ≤ n) (h4 : n ≤ 1099511627776) : okV n d = (Qm.g n d == 1) := by
  unfold okV
  by_cases h : Qm.g n d = 1
  · rw [decide_eq_true ⟨⟨h1, by omega, h3, h4, h⟩, h2⟩, h]; rfl
  · rw [decide_eq_false fun hh => h hh.1.2.2.2.2]
    exact (beq_eq_false_iff_ne.2 h).symm

set_option maxHeartbeats 2000000 in
set_option maxRecDepth 100000 in
theorem rgood_any (n d : Int) (w : World) (hn : I64 n) (hd : I64 d) :
    Calls Tryz.prog 70 #[.agg #[.int .i64 n, .int .i64 d]] w fun e w' => e = .returned (.bool (okV n d)) ∧ Below w.heap.size w w' := by
  obtain ⟨hn1, hn2⟩ := hn
  obtain ⟨hd1, hd2⟩ := hd
  have HB0 := Lib.hid ((Below.refl w.heap.size w).alloc (Nat.le_refl _) (.cells #[.int .i64 n, .int .i64 d] 44))
  by_cases c1 : d < 1
  · have HF := Lib.hid (okV_f (n := n) (.inl c1))
    go_enter Tryz.func70, Tryz.ntmps70
    go_wp2
    go_ret
    exact ⟨by rw [HF.out]; rfl, HB0.out⟩
  · by_cases c2 : d > 65536
    · have HF := Lib.hid (okV_f (n := n) (.inr (.inl c2)))
      go_enter Tryz.func70, Tryz.ntmps70
      go_wp2
      go_ret
      exact ⟨by rw [HF.out]; rfl, HB0.out⟩
    · by_cases c3 : n < -1099511627776
      · have HF := Lib.hid (okV_f (d := d) (.inr (.inr (.inl c3))))
        go_enter Tryz.func70, Tryz.ntmps70
        go_wp2
        go_ret
        exact ⟨by rw [HF.out]; rfl, HB0.out⟩
      · by_cases c4 : n > 1099511627776
        · have HF := Lib.hid (okV_f (d := d) (.inr (.inr (.inr c4))))
          go_enter Tryz.func70, Tryz.ntmps70
          go_wp2
          go_ret
          exact ⟨by rw [HF.out]; rfl, HB0.out⟩
        · have HF := Lib.hid (okV_g (n := n) (d := d) (by omega) (by omega) (by omega) (by omega))
          have hw : IntKind.i64.wrap (-n) = -n := IntWalk.i64_in _ (by omega)
          have kd := fun (m : Int) (h : m = n ∨ m = -n) (h0 : 0 ≤ m) (W : World) => rdivisor_any m d W ⟨h0, by omega⟩ ⟨by omega, by omega⟩
          have kg : ∀ m : Int, (m = n ∨ m = -n) → Qm.g m d = Qm.g n d := fun m h => by
            rcases h with rfl | rfl
            · rfl
            · exact g_negl n d
          have KG := Lib.hid kg
          by_cases c5 : 0 ≤ n
          · have KD := Lib.hid fun W => kd n (.inl rfl) c5 W
            clear kd kg
            have c6 : -n ≤ n := by omega
            have c7 : max n (-n) = n := by omega
            go_enter Tryz.func70, Tryz.ntmps70
            go_wp2_with fail
            refine (KD.out _).mono ?_
            rintro e w1 ⟨rfl, hB1⟩
            go_wp2
            go_ret
            exact ⟨by rw [HF.out]; rfl, HB0.out.trans (hB1.mono (by simp))⟩
          · have KD := Lib.hid fun W => kd (-n) (.inr rfl) (by omega) W
            clear kd kg
            have c6 : n ≤ -n := by omega
            have c7 : max n (-n) = -n := by omega
            go_enter Tryz.func70, Tryz.ntmps70
            go_wp2_with fail
            refine (KD.out _).mono ?_
            rintro e w1 ⟨rfl, hB1⟩
            go_wp2
            go_ret
            exact ⟨by rw [HF.out, ← KG.out (-n) (.inr rfl)]; rfl, HB0.out.trans (hB1.mono (by simp))⟩

end Go.Proofs.YtelhpndlejommaaGreat

/- The reference's formed and Valid. -/
namespace Go.Proofs.YtelhpndlejommaaGreat
open Go.RowKit Go.Shelf

def FormedK (m : Nat) : Prop := ∀ (u : Th), u.size ≤ m → u.wf → ∀ (x y z : Value) (W : World), TAt W.heap.size W u x y z → Calls Tryz.prog 44 #[.agg #[x, y, z]] W fun e w' => e = .returned (.bool u.goodB) ∧ Below W.heap.size W w'

theorem okV_true {n d : Int} : okV n d = true ↔ Qm.Ok n d ∧ d ≤ 65536 := by unfold okV; exact decide_eq_true_iff

theorem drewN_since (w : World) (n : Nat) : Since w (w.drewN n) := below_drewN (Below.refl _ _) n

theorem box_drewN {N : Nat} {vs : List Value} {w : World} (h : BoxL N vs w) (n : Nat) : BoxL N vs (w.drewN n) := h.keep (drewN_since w n)

set_option maxHeartbeats 16000000 in
set_option maxRecDepth 100000 in
theorem formed_step (m : Nat) (hm : m ≤ 1000000) (KP : Hid (FormedK m)) : FormedK (m + 1) := by
  intro t ht hwf a b c w h
  obtain ⟨a1, c1, a2, c2, a3, c3, rfl, rfl, rfl, hC, hV, hP, hL1, hL2⟩ := h.shape
  have HB0 := Lib.hid ((Below.refl w.heap.size w).alloc (Nat.le_refl _) (.cells #[.slice a1 t.cs.length c1, .slice a2 t.vs.length c2, .slice a3 t.ps.length c3] 27))
  have XA := Lib.hid (BoxL.made w #[.slice a1 t.cs.length c1, .slice a2 t.vs.length c2, .slice a3 t.ps.length c3] 27)
  have hge := t.good_eq
  obtain ⟨⟨⟨-, hcl⟩, hwv, hvl⟩, hwp⟩ := t.wf_eq.1 hwf
  have hsm : Th.sizes t.ps ≤ m := by have := t.size_eq; omega
  have hpl := Th.sizes_len t.ps
  have KS := Lib.hid fun (u : Th) (hu : u ∈ t.ps) (x y z : Value) W (hh : TAt W.heap.size W u x y z) => KP.out u (Nat.le_trans (Th.sizes_mem hu) hsm) (hwp u hu) x y z W hh
  have KG := Lib.hid fun (v : Va) (hv : v ∈ t.vs) W => rgood_any v.n v.d W (hwv v hv).2.1 (hwv v hv).2.2
  have HC := Lib.hid fun W (hB : Below w.heap.size w W) => hC.low hL1 hB
  have HV := Lib.hid fun W (hB : Below w.heap.size w W) => hV.low hL2 hB
  have HP := Lib.hid fun W (hB : Below w.heap.size w W) => hP.low hB
  have hg1 : (¬ Inc 64 t.cs → t.goodB = false) := fun hn => Th.goodB_f fun hg => hn (hge.1 hg).1.1
  have hg2 : (∀ v ∈ t.vs, ¬ v.ok → t.goodB = false) := fun v hv hn => Th.goodB_f fun hg => hn ((hge.1 hg).1.2.1 v hv)
  have hg3 : (¬ Inc 32 (t.vs.map Va.t) → t.goodB = false) := fun hn => Th.goodB_f fun hg => hn (hge.1 hg).1.2.2
  have hg4 : (∀ u ∈ t.ps, u.goodB = false → t.goodB = false) := fun u hu hn => Th.goodB_f fun hg => by rw [Th.goodB_t ((hge.1 hg).2 u hu)] at hn; cases hn
  have hg5 : Inc 64 t.cs → (∀ v ∈ t.vs, v.ok) → Inc 32 (t.vs.map Va.t) → (∀ u ∈ t.ps, u.goodB = true) → t.goodB = true := fun h1 h2 h3 h4 => Th.goodB_t (hge.2 ⟨⟨h1, h2, h3⟩, fun u hu => Th.goodB_iff.1 (h4 u hu)⟩)
  have HG1 := Lib.hid hg1
  have HG2 := Lib.hid hg2
  have HG3 := Lib.hid hg3
  have HG4 := Lib.hid hg4
  have HG5 := Lib.hid hg5
  generalize t.goodB = T at *
  generalize t.ps = ps at *
  generalize t.cs = cs at *
  generalize t.vs = vs at *
  have hn1 : cs.length ≤ 1000000 := hcl
  have hn2 : vs.length ≤ 1000000 := hvl
  have hn3 : ps.length ≤ 1000000 := by omega
  generalize hc1 : cs.length = n1 at *
  generalize hc2 : vs.length = n2 at *
  generalize hc3 : ps.length = n3 at *
  have HN1 := Lib.hid hc1
  have HN2 := Lib.hid hc2
  have HN3 := Lib.hid hc3
  clear h hC hV hP hge hwv hwp hwf hsm hvl hcl hpl hg1 hg2 hg3 hg4 hg5 hc1 hc2 hc3 KP hL1 hL2
  go_enter Tryz.func44, Tryz.ntmps44
  go_wp2
  go_loopw [3] (fun x wr => ∃ k : Nat, k ≤ n1 ∧ x = .int .i64 k ∧ Hid (Inc 64 (cs.take k)) ∧ Hid (BoxL w.heap.size [.slice a1 n1 c1, .slice a2 n2 c2, .slice a3 n3 c3] wr) ∧ Hid (Below w.heap.size w wr)) (fun x _ => n1 - (intOf x).toNat)
  case atStart => exact ⟨0, by omega, rfl, Lib.hid (Inc.nil _), XA, HB0⟩
  case round =>
    obtain ⟨k, hk, rfl, hI, hX, hB⟩ := hrel
    obtain ⟨r0, r1, r2, -, -, -, r3⟩ := hX.out.open3
    have i3 : IntKind.i64.wrap ((k : Int) + 1) = (k : Int) + 1 := IntWalk.i64_in _ (by omega)
    by_cases hlt : k < n1
    · have i1 : (k : Int) < n1 := by omega
      have hEw := HC.out wr hB.out
      have hpr := fun (h0 : 0 < k) => hEw.at (k - 1) (by omega)
      obtain ⟨b, off, rfl, q0⟩ := hEw.at k hlt
      have hx : cs[k]? = some (cs[k]?.getD 0) := by rw [List.getElem?_eq_getElem (by have := HN1.out; omega)]; rfl
      have hge := lastI_ge hI.out (by have := HN1.out; omega)
      have hla : k = 0 → lastI cs k = -1 := fun h => by unfold lastI; rw [if_pos h]
      have hlb : 0 < k → lastI cs k = cs[k - 1]?.getD 0 := fun h => by unfold lastI; rw [if_neg (by omega)]
      generalize cs[k]?.getD 0 = x at *
      by_cases h1 : x < 0
      · have HF := Lib.hid (HG1.out (Inc.fail hx (.inl (by omega))))
        clear hx hpr hge hla hlb hEw
        go_wp2
        go_ret
        exact ⟨ret_bool HF.out.symm, hB.out⟩
      · by_cases h2 : x > 63
        · have HF := Lib.hid (HG1.out (Inc.fail hx (.inr (by omega))))
          clear hx hpr hge hla hlb hEw
          go_wp2
          go_ret
          exact ⟨ret_bool HF.out.symm, hB.out⟩
        · by_cases h3 : 0 < k
          · obtain ⟨b', off', e', p0⟩ := hpr h3
            cases e'
            have hlb := hlb h3
            generalize cs[k - 1]?.getD 0 = y at *
            have j0 : (k : Int) > 0 := by omega
            have j1 : IntKind.i64.wrap ((k : Int) - 1) = (k : Int) - 1 := IntWalk.i64_in _ (by omega)
            have j2 : ((k : Int) - 1).toNat = k - 1 := by omega
            have j3 : 0 ≤ (k : Int) - 1 := by omega
            have j4 : (k : Int) - 1 < n1 := by omega
            by_cases h4 : x ≤ y
            · have HF := Lib.hid (HG1.out (Inc.fail hx (.inl (by omega))))
              clear hx hpr hge hla hlb hEw
              go_wp2
              go_ret
              exact ⟨ret_bool HF.out.symm, hB.out⟩
            · have HI : Hid (Inc 64 (cs.take (k + 1))) := Lib.hid (hI.out.snoc hx (by omega) (by omega))
              clear hx hpr hge hla hlb hEw hI
              go_wp2
              go_roundw
              case rel => exact ⟨k + 1, by omega, by go_num, HI, hX, hB⟩
              case measure => simp [intOf]; omega
          · have j0 : ¬ (k : Int) > 0 := by omega
            have HI : Hid (Inc 64 (cs.take (k + 1))) := Lib.hid (hI.out.snoc hx (by rw [hla (by omega)]; omega) (by omega))
            clear hx hpr hge hla hlb hEw hI
            go_wp2
            go_roundw
            case rel => exact ⟨k + 1, by omega, by go_num, HI, hX, hB⟩
            case measure => simp [intOf]; omega
    · have i1 : ¬ (k : Int) < n1 := by omega
      have HC1 : Hid (Inc 64 cs) := Lib.hid (by have := hI.out; rwa [List.take_of_length_le (by rw [HN1.out]; omega)] at this)
      clear hI HG1 HC
      go_wp2
      clear r0 r1 r2 r3
      rename World => wo
      go_loopw [5] (fun x wr => ∃ k : Nat, k ≤ n2 ∧ x = .int .i64 k ∧ Hid ((∀ v ∈ vs.take k, v.ok) ∧ Inc 32 ((vs.map Va.t).take k)) ∧ Hid (BoxL w.heap.size [.slice a1 n1 c1, .slice a2 n2 c2, .slice a3 n3 c3] wr) ∧ Hid (Below w.heap.size w wr)) (fun x _ => n2 - (intOf x).toNat)
      case atStart => exact ⟨0, by omega, rfl, Lib.hid ⟨(fun v hv => by simp at hv), Inc.nil _⟩, hX, hB⟩
      case round =>
        clear hX hB i3 i1
        obtain ⟨j, hj, rfl, hI, hX, hB⟩ := hrel
        obtain ⟨r0, r1, r2, -, -, -, r3⟩ := hX.out.open3
        have i3 : IntKind.i64.wrap ((j : Int) + 1) = (j : Int) + 1 := IntWalk.i64_in _ (by omega)
        by_cases hlt : j < n2
        · have i1 : (j : Int) < n2 := by omega
          obtain ⟨v, hv⟩ : ∃ v, vs[j]? = some v := ⟨vs[j]'(by rw [HN2.out]; exact hlt), List.getElem?_eq_getElem _⟩
          have hEw := HV.out wr hB.out
          obtain ⟨g, rfl, -⟩ := hEw.get hlt
          obtain ⟨q0, q1, q2, hgs⟩ := va_at hEw hv
          have hmem := List.mem_of_getElem? hv
          have KGv := Lib.hid (KG.out v hmem)
          have HG2v := Lib.hid (HG2.out v hmem)
          have hts : (vs.map Va.t)[j]? = some v.t := by rw [List.getElem?_map, hv]; rfl
          have hjl : j ≤ (vs.map Va.t).length := by rw [List.length_map, HN2.out]; exact hj
          have hge := lastI_ge hI.out.2 hjl
          have hla : j = 0 → lastI (vs.map Va.t) j = -1 := fun h => by unfold lastI; rw [if_pos h]
          have hlb : 0 < j → lastI (vs.map Va.t) j = ((vs.map Va.t)[j - 1]?).getD 0 := fun h => by unfold lastI; rw [if_neg (by omega)]
          have hbad := fun h => HG3.out (Inc.fail hts h)
          have hok : v.ok → lastI (vs.map Va.t) j < v.t → v.t < 32 → (∀ u ∈ vs.take (j + 1), u.ok) ∧ Inc 32 ((vs.map Va.t).take (j + 1)) := fun h1 h2 h3 => ⟨fun u hu => by
            rw [List.take_add_one, hv, List.mem_append] at hu
            rcases hu with hu | hu
            · exact hI.out.1 u hu
            · simp at hu
              subst hu
              exact h1, hI.out.2.snoc hts h2 h3⟩
          have hprev : 0 < j → ∃ y : Va, vs[j - 1]? = some y ∧ ((vs.map Va.t)[j - 1]?).getD 0 = y.t := fun h0 => by
            obtain ⟨y, hy⟩ : ∃ y, vs[j - 1]? = some y := ⟨vs[j - 1]'(by rw [HN2.out]; omega), List.getElem?_eq_getElem _⟩
            exact ⟨y, hy, by rw [List.getElem?_map, hy]; rfl⟩
          generalize lastI (vs.map Va.t) j = la at *
          have HOK := Lib.hid hok
          have XV := Lib.hid (BoxL.made wr #[.int .i64 v.t, .int .i64 v.n, .int .i64 v.d] 46)
          have hvok : okV v.n v.d = true → v.ok := fun h => okV_true.1 h
          have hvbad : okV v.n v.d = false → T = false := fun h => HG2v.out fun hk => by rw [show okV v.n v.d = true from okV_true.2 hk] at h; cases h
          generalize okV v.n v.d = G at *
          have HVO := Lib.hid hvok
          have HEW := Lib.hid hEw
          clear hmem hts hok hvok HG2v hI hjl hEw
          obtain ⟨vt, vn, vd⟩ := v
          simp only at *
          go_wp2_with fail
          refine (KGv.out _).mono ?_
          rintro e w2 ⟨rfl, hr⟩
          have HB2 := Lib.hid (hB.out.trans ((below_new hr).mono hB.out.size))
          have HX2 := Lib.hid (hX.out.keep (below_new hr))
          have XV2 := Lib.hid (XV.out.keep hr)
          have HE2 := Lib.hid (HEW.out.below (below_new hr))
          clear hr XV hX hB HEW q0 q1 q2 r0 r1 r2 r3
          obtain ⟨s0, s1, s2, -, -, -, s3⟩ := XV2.out.open3
          obtain ⟨r0, r1, r2, -, -, -, r3⟩ := HX2.out.open3
          have k0 : j ≤ n2 := hj
          have k1 : (j : Int) ≤ (n2 : Int) := by omega
          cases G
          case false =>
            have HF := Lib.hid (hvbad rfl)
            clear hvbad hge hla hlb hbad hprev HVO HOK hv
            go_wp2_with fail
            go_quiet (fail)
            go_wp2
            go_ret
            exact ⟨ret_bool HF.out.symm, below_drewN HB2.out _⟩
          case true =>
            have HVK := Lib.hid (HVO.out rfl)
            clear hvbad HVO
            by_cases h1 : vt < 0
            · have HF := Lib.hid (hbad (.inl (by omega)))
              have d1 : decide (vt < 0) = true := decide_eq_true h1
              clear hge hla hlb hbad hprev HOK hv
              go_wp2_with fail
              go_quiet (fail)
              go_wp2
              go_ret
              exact ⟨ret_bool HF.out.symm, below_drewN HB2.out _⟩
            · have d1 : decide (vt < 0) = false := decide_eq_false h1
              by_cases h2 : vt > 31
              · have HF := Lib.hid (hbad (.inr (by omega)))
                have d2 : decide (vt > 31) = true := decide_eq_true h2
                clear hge hla hlb hbad hprev HOK hv
                go_wp2_with fail
                go_quiet (fail)
                go_wp2
                go_ret
                exact ⟨ret_bool HF.out.symm, below_drewN HB2.out _⟩
              · have d2 : decide (vt > 31) = false := decide_eq_false h2
                by_cases h3 : 0 < j
                · obtain ⟨y, hy, hyt⟩ := hprev h3
                  have hlb := hlb h3
                  rw [hyt] at hlb
                  obtain ⟨p0, -, -, -⟩ := va_at HE2.out hy
                  have d3 : decide (0 < j) = true := decide_eq_true h3
                  have d3' : decide ((j : Int) > 0) = true := decide_eq_true (by omega)
                  have n1' : (j : Int) - 1 < n2 := by omega
                  have n2' : 0 ≤ (j : Int) - 1 := by omega
                  have n5 : (1 : Int) ≤ (j : Int) := by omega
                  have n8 : 1 ≤ j := by omega
                  have n3' : ((j : Int) - 1).toNat = j - 1 := by omega
                  have n4 : IntKind.i64.wrap ((j : Int) - 1) = (j : Int) - 1 := IntWalk.i64_in _ (by omega)
                  obtain ⟨yt, yn, yd⟩ := y
                  simp only at *
                  by_cases h4 : vt ≤ yt
                  · have HF := Lib.hid (hbad (.inl (by omega)))
                    have d4 : decide (vt ≤ yt) = true := decide_eq_true h4
                    clear hge hla hlb hbad hprev HOK hv hy hyt
                    go_wp2_with fail
                    go_quiet (fail)
                    go_wp2
                    go_ret
                    exact ⟨ret_bool HF.out.symm, below_drewN HB2.out _⟩
                  · have d4 : decide (vt ≤ yt) = false := decide_eq_false h4
                    have HI := Lib.hid (HOK.out HVK.out (by omega) (by omega))
                    clear hge hla hlb hbad hprev HOK hv hy hyt
                    go_wp2_with fail
                    go_quiet (fail)
                    go_wp2
                    go_roundw
                    case rel => exact ⟨j + 1, by omega, by go_num, HI, box_drewN HX2.out _, below_drewN HB2.out _⟩
                    case measure => simp [intOf]; omega
                · have d3 : decide (0 < j) = false := decide_eq_false h3
                  have d3' : decide ((j : Int) > 0) = false := decide_eq_false (by omega)
                  have HI := Lib.hid (HOK.out HVK.out (by rw [hla (by omega)]; omega) (by omega))
                  clear hge hla hlb hbad hprev HOK hv
                  go_wp2_with fail
                  go_quiet (fail)
                  go_wp2
                  go_roundw
                  case rel => exact ⟨j + 1, by omega, by go_num, HI, box_drewN HX2.out _, below_drewN HB2.out _⟩
                  case measure => simp [intOf]; omega
        · have i1 : ¬ (j : Int) < n2 := by omega
          have HI2 : Hid ((∀ v ∈ vs, v.ok) ∧ Inc 32 (vs.map Va.t)) := Lib.hid (by
            have := hI.out
            rwa [List.take_of_length_le (by rw [HN2.out]; omega), List.take_of_length_le (by rw [List.length_map, HN2.out]; omega)] at this)
          clear hI HG2 HG3 HV KG
          go_wp2
          clear r0 r1 r2 r3
          rename World => wo2
          go_loopw [8] (fun x wr => ∃ k : Nat, k ≤ n3 ∧ x = .int .i64 k ∧ Hid (∀ u ∈ ps.take k, u.goodB = true) ∧ Hid (BoxL w.heap.size [.slice a1 n1 c1, .slice a2 n2 c2, .slice a3 n3 c3] wr) ∧ Hid (Below w.heap.size w wr)) (fun x _ => n3 - (intOf x).toNat)
          case atStart => exact ⟨0, by omega, rfl, Lib.hid (fun v hv => by simp at hv), hX, hB⟩
          case round =>
            clear hX hB i3 i1
            obtain ⟨q, hq, rfl, hI, hX, hB⟩ := hrel
            obtain ⟨r0, r1, r2, -, -, -, r3⟩ := hX.out.open3
            have i3 : IntKind.i64.wrap ((q : Int) + 1) = (q : Int) + 1 := IntWalk.i64_in _ (by omega)
            by_cases hlt : q < n3
            · have i1 : (q : Int) < n3 := by omega
              obtain ⟨g, u, rfl, hgB, hgs, hcap, hu, x, y, z, q0, q1, q2, hT⟩ := (HP.out wr hB.out).get hlt
              obtain ⟨xa, xc, ya, yc, za, zc, rfl, rfl, rfl, -⟩ := hT.shape
              have hum := List.mem_of_getElem? hu
              have hT0 := TAt.mono hB.out.size u hT
              have K := Lib.hid (KS.out u hum _ _ _ wr hT0)
              have hgf := HG4.out u hum
              have hgt : u.goodB = true → ∀ v ∈ ps.take (q + 1), v.goodB = true := fun h v hv => by
                rw [List.take_add_one, hu, List.mem_append] at hv
                rcases hv with hv | hv
                · exact hI.out v hv
                · simp at hv
                  subst hv
                  exact h
              generalize u.goodB = Gu at *
              generalize u.cs.length = m1 at *
              generalize u.vs.length = m2 at *
              generalize u.ps.length = m3 at *
              clear hT hT0 hum hu hI
              cases Gu
              case false =>
                have HF := Lib.hid (hgf rfl)
                clear hgf hgt
                go_wp2_with fail
                refine (K.out).mono ?_
                rintro e w2 ⟨rfl, hr⟩
                have HB2 := Lib.hid (hB.out.trans (hr.mono hB.out.size))
                clear hr
                go_wp2
                go_ret
                exact ⟨ret_bool HF.out.symm, HB2.out⟩
              case true =>
                have HI := Lib.hid (hgt rfl)
                clear hgf hgt
                go_wp2_with fail
                refine (K.out).mono ?_
                rintro e w2 ⟨rfl, hr⟩
                have HB2 := Lib.hid (hB.out.trans (hr.mono hB.out.size))
                have HX2 := Lib.hid (hX.out.keep hr)
                clear hr hX r0 r1 r2 r3
                go_wp2
                go_roundw
                case rel => exact ⟨q + 1, by omega, by go_num, HI, HX2, HB2⟩
                case measure => simp [intOf]; omega
            · have i1 : ¬ (q : Int) < n3 := by omega
              have HT : Hid (T = true) := Lib.hid (HG5.out HC1.out HI2.out.1 HI2.out.2 (by have := hI.out; rwa [List.take_of_length_le (by rw [HN3.out]; omega)] at this))
              clear hI
              go_wp2
              go_ret
              exact ⟨ret_bool HT.out.symm, hB.out⟩

theorem formed_all : ∀ m : Nat, m ≤ 1000000 → FormedK m
  | 0, _ => fun u hu => by have := u.size_pos; omega
  | m + 1, h => formed_step m (by omega) (Lib.hid (formed_all m (by omega)))

end Go.Proofs.YtelhpndlejommaaGreat

