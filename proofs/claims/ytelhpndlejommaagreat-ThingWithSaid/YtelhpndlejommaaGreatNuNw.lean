import Derived.Test.YtelhpndlejommaaGreatNsNt
import Derived.Test.YtelhpndlejommaaGreatYj
import Derived.Laws.OwnMore
import Derived.Lib.SliceRun
import Derived.Lib.SlicesCompact
import Derived.Test.YtelhpndlejommaaGreatYk
/- slices.Compact at values. -/
namespace Go.Proofs.YtelhpndlejommaaGreat
open Go.RowKit Go.Shelf

theorem eqR_run (b c e f : Int) (w : World) : Sem.run Tryz.prog (Op.equalIn 9999 44 (.agg #[.int .i64 b, .int .i64 c]) (.agg #[.int .i64 e, .int .i64 f])) w = .ok (b == e && c == f) w := by
  have hS2 : Tryz.prog.underlying 44 = some (.struct (Tryz.prog.fieldsOf 44)) := by kernel_rfl
  have hp2 : Tryz.prog.stoodInHeld 44 = false := by kernel_rfl
  have u3 := Tryz.underlying3
  have a3 := Tryz.isAgg3
  have z3 := Tryz.sizeOf3
  rw [show (9999 : Nat) = 9998 + 1 from rfl, run_equalIn_agg w 9998 44 _ _ hS2 hp2]
  simp only [Program.fieldsOf, Tryz.underlying44]
  clear hS2 hp2
  go_simp
  by_cases h2 : b = e <;> by_cases h3 : c = f <;> simp [h2, h3]

theorem eqL_run (x y : Va) (w : World) : Sem.run Tryz.prog (Op.equalIn 10000 46 (.agg #[.int .i64 x.t, .int .i64 x.n, .int .i64 x.d]) (.agg #[.int .i64 y.t, .int .i64 y.n, .int .i64 y.d])) w = .ok (decide (x = y)) w := by
  have hS : Tryz.prog.underlying 46 = some (.struct (Tryz.prog.fieldsOf 46)) := by kernel_rfl
  have hp : Tryz.prog.stoodInHeld 46 = false := by kernel_rfl
  have u3 := Tryz.underlying3
  have a3 := Tryz.isAgg3
  have z3 := Tryz.sizeOf3
  have a4 := Tryz.isAgg44
  have z4 := Tryz.sizeOf44
  obtain ⟨a, b, c⟩ := x
  obtain ⟨d, e, f⟩ := y
  simp only
  have hd : decide ((⟨a, b, c⟩ : Va) = ⟨d, e, f⟩) = (a == d && (b == e && c == f)) := by
    by_cases h1 : a = d <;> by_cases h2 : b = e <;> by_cases h3 : c = f <;> simp [h1, h2, h3]
  have hr := fun w => eqR_run b c e f w
  rw [hd, show (10000 : Nat) = 9999 + 1 from rfl, run_equalIn_agg w 9999 46 _ _ hS hp]
  simp only [Program.fieldsOf, Tryz.underlying46]
  clear hS hp hd
  go_simp
  by_cases h1 : a = d <;> by_cases h2 : b = e <;> by_cases h3 : c = f <;> simp [h1, h2, h3]

/-- 'clear' of values: their cells hold zeros. -/
theorem clear3_run (w : World) (ty : TypeId) (b o n c : Nat) (hn : 0 < n) (hc : ∀ j, j < n * 3 → (w.cell? ⟨b, o + j, none⟩).isSome = true) (hf : ∀ j, j < n * 3 → w.frozen? ⟨b, o + j, none⟩ = false) :
    Sem.run Tryz.prog (Builtin.clear_ #[25] ty #[.slice (some ⟨b, o, none⟩) n c]) w = .ok (.tuple #[]) (w.setCells b o (List.replicate (n * 3) (.int .i64 0))) := by
  have hzc : (Builtin.zeroCells #[Value.int .i64 0, .int .i64 0, .int .i64 0] n).toList = List.replicate (n * 3) (.int .i64 0) := by
    apply List.ext_getElem
    · simp [Builtin.zeroCells]
    · intro i h1 h2
      simp only [Builtin.zeroCells, Array.getElem_toList, Array.getElem_map, Array.getElem_range, List.getElem_replicate]
      show (#[Value.int .i64 0, .int .i64 0, .int .i64 0] : Array Value)[i % 3]! = _
      have h3 : i % 3 < 3 := Nat.mod_lt _ (by decide)
      generalize i % 3 = q at *
      match q, h3 with
      | 0, _ => rfl
      | 1, _ => rfl
      | 2, _ => rfl
  have hst := run_storeCells_cells (P := Tryz.prog) b o (List.replicate (n * 3) (.int .i64 0)) 0 w (by simpa using hc) (by simpa using hf) (by intro v hv'; rw [List.eq_of_mem_replicate hv']; rfl)
  simp only [Nat.add_zero] at hst
  have hv := Tryz.zeroValue46
  have ht := Tryz.underlying25
  obtain ⟨m, rfl⟩ : ∃ m, n = m + 1 := ⟨n - 1, by omega⟩
  have hcl : (Value.agg #[Value.int .i64 0, .int .i64 0, .int .i64 0]).cells = #[Value.int .i64 0, .int .i64 0, .int .i64 0] := rfl
  simp [Builtin.clear_, run_underlying ht, hv, hcl, hzc, hst]

/-- A row that is cut is still the call's own. -/
theorem own_cut {α : Type} {R : RowOf α} {E : TypeId} {B g n c m : Nat} {w : World} {xs : List α} (h : ROwn R E B w (.slice (some ⟨g, 0, none⟩) n c) xs) (hm : m ≤ n) : ROwn R E B w (.slice (some ⟨g, 0, none⟩) m c) (xs.take m) := by
  have hn := h.els.len
  obtain ⟨hf, ⟨hv, _⟩ | ⟨g', cap', cur, hv, hg, hh, hcap, hmax, hsz, htk⟩⟩ := h
  · cases hv
  cases hv
  have hl : (xs.take m).length = m := by rw [List.length_take]; omega
  have e : xs.flatMap R.cells = (xs.take m).flatMap R.cells ++ (xs.drop m).flatMap R.cells := by rw [← List.flatMap_append, List.take_append_drop]
  have hfl : ((xs.take m).flatMap R.cells).length = m * R.k := by rw [R.flat, hl]
  unfold ROwn
  rw [hl]
  refine ⟨hfl, .inr ⟨g, c, cur, rfl, hg, hh, by omega, hmax, hsz, ?_⟩⟩
  have h1 : (cur.toList.take (xs.length * R.k)).take (m * R.k) = ((xs.take m).flatMap R.cells ++ (xs.drop m).flatMap R.cells).take (m * R.k) := by rw [htk, e]
  rw [List.take_take, Nat.min_eq_left (Nat.mul_le_mul_right _ (by omega)), List.take_left' hfl] at h1
  exact h1

/-- Stores behind the end of a row leave it. -/
theorem own_high {α : Type} {R : RowOf α} {E : TypeId} {B g n c : Nat} {xs : List α} : ∀ (vs : List Value) (o : Nat) (w : World), ROwn R E B w (.slice (some ⟨g, 0, none⟩) n c) xs → n * R.k ≤ o → ROwn R E B (w.setCells g o vs) (.slice (some ⟨g, 0, none⟩) n c) xs
  | [], _, _, h, _ => h
  | v :: vs, o, w, h, ho => by
    refine own_high vs (o + 1) _ ?_ (by omega)
    have hn := h.els.len
    subst hn
    have h1 := (World.ownsRow.stored h o v).1
    rw [List.set_eq_of_length_le (by rw [R.flat]; exact ho)] at h1
    exact h1

theorem pf_cells {g n c n' c' : Nat} : ∀ (vs : List Value) (o : Nat) (w w' : World), PF (.slice (some ⟨g, 0, none⟩) n c) w w' (.slice (some ⟨g, 0, none⟩) n' c') → PF (.slice (some ⟨g, 0, none⟩) n c) w (w'.setCells g o vs) (.slice (some ⟨g, 0, none⟩) n' c')
  | [], _, _, _, h => h
  | v :: vs, o, w, w', h => by
    refine pf_cells vs (o + 1) w _ ⟨⟨by rw [World.size_setCell]; exact h.1.1, fun b hb hl => ?_⟩, h.2⟩
    exact (Below.heap_setCell _ _ _ _ (fun (e : b = g) => hb (by rw [e]; rfl))).trans (h.1.2 b hb hl)

theorem below_cells {B g : Nat} (hg : B ≤ g) : ∀ (vs : List Value) (o : Nat) (w w' : World), Below B w w' → Below B w (w'.setCells g o vs)
  | [], _, _, _, h => h
  | v :: vs, o, w, _, h => below_cells hg vs (o + 1) w _ (h.setCell (p := ⟨g, o, none⟩) hg v)

/-- A value stored into a row of the call's own. -/
theorem ROwn.setV {E : TypeId} {B : Nat} {w : World} {g n c : Nat} {rs : List Va} (h : ROwn RVa E B w (.slice (some ⟨g, 0, none⟩) n c) rs) (j : Nat) (hj : j < rs.length) (r : Va) :
    ROwn RVa E B (((w.setCell ⟨g, j * 3, none⟩ (.int .i64 r.t)).setCell ⟨g, j * 3 + 1, none⟩ (.int .i64 r.n)).setCell ⟨g, j * 3 + 2, none⟩ (.int .i64 r.d)) (.slice (some ⟨g, 0, none⟩) n c) (rs.set j r) := by
  have hn := h.els.len
  subst hn
  have h1 := (World.ownsRow.stored h (j * 3) (.int .i64 r.t)).1
  have h2 := (World.ownsRow.stored h1 (j * 3 + 1) (.int .i64 r.n)).1
  have h3 := (World.ownsRow.stored h2 (j * 3 + 2) (.int .i64 r.d)).1
  unfold ROwn
  rw [← row_set RVa (fun x => .int .i64 x.t) (fun x => .int .i64 x.n) (fun x => .int .i64 x.d) (fun _ => rfl) rs j r hj, List.length_set]
  exact h3

/-- The row under way. -/
structure CV (B g n c : Nat) (w wr : World) (l : List Va) : Prop where
  own : ROwn RVa 46 B wr (.slice (some ⟨g, 0, none⟩) n c) l
  pf : PF (.slice (some ⟨g, 0, none⟩) n c) w wr (.slice (some ⟨g, 0, none⟩) n c)
  bl : Below B w wr
  hg : B ≤ g

theorem CV.drewN {B g n c : Nat} {w wr : World} {l : List Va} (h : CV B g n c w wr l) (q : Nat) : CV B g n c w (wr.drewN q) l :=
  ⟨h.own.below (below_drewN (Below.refl _ _) q), h.pf, below_drewN h.bl q, h.hg⟩

theorem CV.put {B g n c : Nat} {w wr : World} {l : List Va} (h : CV B g n c w wr l) {j : Nat} (hj : j < l.length) (r : Va) :
    CV B g n c w (((wr.setCell ⟨g, j * 3, none⟩ (.int .i64 r.t)).setCell ⟨g, j * 3 + 1, none⟩ (.int .i64 r.n)).setCell ⟨g, j * 3 + 2, none⟩ (.int .i64 r.d)) (l.set j r) :=
  ⟨h.own.setV j hj r, pf_cells [.int .i64 r.t, .int .i64 r.n, .int .i64 r.d] (j * 3) w wr h.pf, below_cells h.hg [.int .i64 r.t, .int .i64 r.n, .int .i64 r.d] (j * 3) w wr h.bl, h.hg⟩

theorem CV.fin {B g n c m : Nat} {w wr : World} {l : List Va} (h : CV B g n c w wr l) (hm : m ≤ n) {o : Nat} (ho : m * 3 ≤ o) (vs : List Value) {ys : List Va} (hy : l.take m = ys) : CutOut RVa 46 B (.slice (some ⟨g, 0, none⟩) n c) ys w (.returned (.slice (some ⟨g, 0, none⟩) m c)) (wr.setCells g o vs) := by
  refine ⟨_, _, _, rfl, Lib.hid ?_, Lib.hid ?_, Lib.hid (below_cells h.hg vs o w wr h.bl)⟩
  · rw [← hy]
    exact own_high vs o wr (own_cut h.own hm) ho
  · exact pf_cells vs o w wr ⟨h.pf.1, fun g' e => h.pf.2 g' (by rw [← e]; rfl)⟩

end Go.Proofs.YtelhpndlejommaaGreat

/- slices.Compact at values: the walk. -/
namespace Go.Proofs.YtelhpndlejommaaGreat
open Go.RowKit Go.Shelf

theorem arr_get (d : Array Va) {j : Nat} (h : j < d.size) : d.toList[j]? = some d[j]! := by
  rw [Array.getElem?_toList, Array.getElem?_eq_getElem h, getElem!_pos d j h]

set_option maxHeartbeats 8000000 in
set_option maxRecDepth 100000 in
theorem compV_some (B g n cap : Nat) (xs : List Va) (w : World) (hO : ROwn RVa 46 B w (.slice (some ⟨g, 0, none⟩) n cap) xs) (hl : n ≤ 1000000) :
    Calls Tryz.prog 39 #[.slice (some ⟨g, 0, none⟩) n cap] w (CutOut RVa 46 B (.slice (some ⟨g, 0, none⟩) n cap) (Lib.compact xs) w) := by
  have hn : n = xs.length := hO.els.len
  have hcap : n ≤ cap := by
    obtain ⟨_, ⟨hv, _⟩ | ⟨_, _, _, hv, _, _, hc, _⟩⟩ := hO
    · cases hv
    · cases hv; omega
  have hg : B ≤ g := (hO.lt g rfl).1
  obtain ⟨d, hd⟩ : ∃ d, d = xs.toArray := ⟨_, rfl⟩
  have hds : d.size = n := by rw [hd, hn]; simp
  have hdl : d.toList = xs := by rw [hd]
  have hC : CV B g n cap w w d.toList := ⟨by rw [hdl]; exact hO, PF.refl _ _, Below.refl _ _, hg⟩
  have hcx : Lib.compact xs = Lib.compactUpTo d n := by rw [hd, hn]; rfl
  have hAll : (∀ j, j < n → Lib.keeps d j = true) → d.toList = Lib.compactUpTo d n := fun h => by
    rw [← hds, Lib.compactUpTo_all d d.size (by rw [hds]; exact h), Lib.range_map_get]
  rw [hcx]
  have HC := Lib.hid hC
  have HA := Lib.hid hAll
  have HDS := Lib.hid hds
  have HG := Lib.hid hg
  clear hO hn hds hdl hC hcx hAll hd hg xs
  by_cases h2 : n < 2
  · have i2 : (n : Int) < 2 := by omega
    have hfin := (CV.fin HC.out (Nat.le_refl n) (Nat.le_refl (n * 3)) [] (ys := Lib.compactUpTo d n) (by rw [List.take_of_length_le (by rw [Array.length_toList, HDS.out]; exact Nat.le_refl _)]; exact HA.out fun j hj => Lib.keeps_lt_one d j (by omega)))
    have HF := Lib.hid hfin
    clear hfin
    go_enter Tryz.func39, Tryz.ntmps39
    go_wp2
    go_ret
    exact HF.out
  · have i2 : ¬ (n : Int) < 2 := by omega
    have HK1 : Hid (∀ j, j < 1 → Lib.keeps d j = true) := Lib.hid (Lib.keeps_lt_one d)
    go_enter Tryz.func39, Tryz.ntmps39
    go_wp2
    go_loopw [3] (fun s3 wr => ∃ k : Nat, 1 ≤ k ∧ k ≤ n ∧ s3 = .int .i64 k ∧ Hid (∀ j, j < k → Lib.keeps d j = true) ∧ Hid (CV B g n cap w wr d.toList)) (fun s3 _ => n - (intOf s3).toNat)
    case atStart => exact ⟨1, Nat.le_refl _, by omega, rfl, HK1, HC⟩
    case round =>
      obtain ⟨k, hk1, hk, rfl, hall, hV⟩ := hrel
      clear HK1
      by_cases hlt : k < n
      · have i1 : (k : Int) < n := by omega
        obtain ⟨q, hq⟩ : ∃ q : Nat, k = q + 1 := ⟨k - 1, by omega⟩
        have i3 : IntKind.i64.wrap ((k : Int) - 1) = (q : Int) := by rw [IntWalk.i64_in _ (by omega)]; omega
        have i4 : (q : Int) < n := by omega
        have i5 : (0 : Int) ≤ (q : Int) := by omega
        have i6 : (0 : Int) ≤ (k : Int) := by omega
        have i7 : q < n := by omega
        obtain ⟨x, hx⟩ : ∃ x, x = d[k]! := ⟨_, rfl⟩
        obtain ⟨y, hy⟩ : ∃ y, y = d[q]! := ⟨_, rfl⟩
        obtain ⟨p0, p1, p2, -⟩ := va_at hV.out.own.els (by rw [arr_get d (by rw [HDS.out]; exact hlt), ← hx])
        obtain ⟨r0, r1, r2, -⟩ := va_at hV.out.own.els (by rw [arr_get d (by rw [HDS.out]; exact i7), ← hy])
        have HXY : Hid (x = d[k]! ∧ y = d[k - 1]!) := Lib.hid ⟨hx, by rw [hy, hq]; rfl⟩
        have HQ := Lib.hid hq
        clear hx hy hq
        by_cases hxy : x = y
        · have HKN := Lib.hid (Lib.keeps_neg (d := d) (m := k) (by omega) (by rw [← HXY.out.1, ← HXY.out.2]; exact hxy))
          subst hxy
          have heq := fun w => eqL_run x x w
          rw [decide_eq_true rfl] at heq
          obtain ⟨xt, xn, xd⟩ := x
          simp only at p0 p1 p2 r0 r1 r2 heq
          have e1 : (0 : Int) ≤ (k : Int) := by omega
          have e2 : (k : Int) ≤ (cap : Int) := by omega
          have e3 : ((k : Int)).toNat = k := by omega
          have e4 : k ≤ cap := by omega
          have e5 : (k : Int) ≤ (n : Int) := by omega
          have e6 : ¬ cap = k := by omega
          have HCI : Hid (Lib.CompInv d (k + 1) k d) := Lib.hid (Lib.CompInv.start hall.out HKN.out)
          clear hall HKN HXY
          go_wp2_with fail
          go_quiet (fail)
          go_upto_region 8 with (fail)
          have HV1 := Lib.hid (hV.out.drewN nq)
          generalize wr.drewN nq = wq at *
          obtain ⟨m, hm⟩ : ∃ m, m = n - k := ⟨_, rfl⟩
          rw [← hm]
          have HM := Lib.hid hm
          have hm1 : 1 ≤ m := by omega
          have hm2 : m ≤ n := by omega
          clear hm heq p0 p1 p2 r0 r1 r2 hV
          go_wp2
          rename World => wo
          go_loopw [3, 5] (fun s3 s5 wr => ∃ (kk k2 : Nat) (dk : Array Va), s3 = .int .i64 kk ∧ s5 = .int .i64 k2 ∧ 1 ≤ k2 ∧ k2 ≤ m ∧ Hid (Lib.CompInv d (k + k2) kk dk) ∧ Hid (CV B g n cap w wr dk.toList)) (fun _ s5 _ => m - (intOf s5).toNat)
          case atStart => exact ⟨k, 1, d, rfl, rfl, Nat.le_refl _, hm1, HCI, HV1⟩
          case round =>
            obtain ⟨kk, k2, dk, rfl, rfl, hk2, hkm, hI, hV⟩ := hrel
            clear HCI HV1
            have hkk := hI.out.lt
            have hds2 : dk.size = n := hI.out.size.trans HDS.out
            have HD2 := Lib.hid hds2
            clear hds2
            by_cases hlt2 : k2 < m
            · have j1 : (k2 : Int) < m := by omega
              obtain ⟨q2, hq2⟩ : ∃ q2 : Nat, k2 = q2 + 1 := ⟨k2 - 1, by omega⟩
              have j3 : IntKind.i64.wrap ((k2 : Int) - 1) = (q2 : Int) := by rw [IntWalk.i64_in _ (by omega)]; omega
              have j4 : (q2 : Int) < m := by omega
              have j5 : (0 : Int) ≤ (q2 : Int) := by omega
              have j6 : (0 : Int) ≤ (k2 : Int) := by omega
              have j7 : q2 < m := by omega
              have hkn : k + k2 < n := by have := HM.out; omega
              obtain ⟨x, hx⟩ : ∃ x, x = d[k + k2]! := ⟨_, rfl⟩
              obtain ⟨y, hy⟩ : ∃ y, y = d[k + k2 - 1]! := ⟨_, rfl⟩
              obtain ⟨p0, p1, p2, -⟩ := va_at hV.out.own.els (j := k + k2) (v := x) (by rw [arr_get dk (by rw [HD2.out]; exact hkn), hI.out.high (k + k2) (by omega), ← hx])
              obtain ⟨r0, r1, r2, -⟩ := va_at hV.out.own.els (j := k + q2) (v := y) (by rw [arr_get dk (by rw [HD2.out]; omega), hI.out.high (k + q2) (by omega), hy]; congr 2; omega)
              rw [Nat.add_mul] at p0 p1 p2 r0 r1 r2
              have HXY : Hid (x = d[k + k2]! ∧ y = d[k + k2 - 1]!) := Lib.hid ⟨hx, hy⟩
              clear hx hy hq2
              by_cases hxy : x = y
              · have HKN := Lib.hid (Lib.keeps_neg (d := d) (m := k + k2) (by omega) (by rw [← HXY.out.1, ← HXY.out.2]; exact hxy))
                have HI2 : Hid (Lib.CompInv d (k + (k2 + 1)) kk dk) := Lib.hid (hI.out.skip HKN.out)
                subst hxy
                have heq := fun w => eqL_run x x w
                rw [decide_eq_true rfl] at heq
                obtain ⟨xt, xn, xd⟩ := x
                simp only at p0 p1 p2 r0 r1 r2 heq
                clear HKN HXY
                go_wp2_with fail
                go_quiet (fail)
                have HV2 := Lib.hid (hV.out.drewN nq)
                go_wp2
                go_roundw
                case rel => exact ⟨kk, k2 + 1, dk, rfl, by go_num, by omega, by omega, HI2, HV2⟩
                case measure => simp [intOf]; omega
              · have HKP := Lib.hid (Lib.keeps_pos (d := d) (m := k + k2) (by rw [← HXY.out.1, ← HXY.out.2]; exact hxy))
                have hkkn : kk < n := by omega
                have HI2 : Hid (Lib.CompInv d (k + (k2 + 1)) (kk + 1) (dk.setIfInBounds kk x)) := Lib.hid (by have := hI.out.keep (by rw [HDS.out]; exact hkn) HKP.out; rw [← HXY.out.1] at this; exact this)
                have HV2 := Lib.hid fun q => by have := (hV.out.drewN q).put (j := kk) (by rw [Array.length_toList, HD2.out]; exact hkkn) x; rwa [← Array.toList_setIfInBounds] at this
                have heq := fun w => eqL_run x y w
                rw [decide_eq_false hxy] at heq
                obtain ⟨o0, o1, o2, -⟩ := va_at hV.out.own.els (j := kk) (v := dk[kk]!) (arr_get dk (by rw [HD2.out]; exact hkkn))
                have f0 := ROwn.frozen hV.out.own (kk * 3)
                have f1 := ROwn.frozen hV.out.own (kk * 3 + 1)
                have f2 := ROwn.frozen hV.out.own (kk * 3 + 2)
                obtain ⟨xt, xn, xd⟩ := x
                obtain ⟨yt, yn, yd⟩ := y
                simp only at p0 p1 p2 r0 r1 r2 heq HV2
                have g1 : (kk : Int) < n := by omega
                have g2 : (0 : Int) ≤ (kk : Int) := by omega
                clear HKP HXY hxy
                go_wp2_with fail
                go_quiet (fail)
                have HV3 := Lib.hid (HV2.out nq)
                go_wp2
                go_roundw
                case rel => exact ⟨kk + 1, k2 + 1, _, by go_num, by go_num, by omega, by omega, HI2, HV3⟩
                case measure => simp [intOf]; omega
            · have j1 : ¬ (k2 : Int) < m := by omega
              have hend : k + k2 = n := by have := HM.out; omega
              have hI2 := hI.out
              rw [hend, ← HDS.out] at hI2
              have hkkn : kk < n := by omega
              have hcl := fun ty => clear3_run wr ty g (kk * 3) (n - kk) (cap - kk) (by omega) (fun j hj => by
                have hq : (kk * 3 + j) / 3 < n := by omega
                obtain ⟨b, e, hb, hc, hat⟩ := hV.out.own.els.get (j := 0) (by omega)
                cases e
                have hx := arr_get dk (j := (kk * 3 + j) / 3) (by rw [HD2.out]; exact hq)
                have hm3 : (kk * 3 + j) % 3 < 3 := Nat.mod_lt _ (by decide)
                have hl3 : (RVa.cells dk[(kk * 3 + j) / 3]!).length = 3 := RVa.len _
                have := hat _ _ hx ((kk * 3 + j) % 3) _ (List.getElem?_eq_getElem (by rw [hl3]; exact hm3))
                have e3 : (kk * 3 + j) / 3 * RVa.k + (kk * 3 + j) % 3 = kk * 3 + j := by show _ * 3 + _ = _; omega
                rw [e3] at this
                rw [this]; rfl) (fun j hj => ROwn.frozen hV.out.own _)
              have hfin := CV.fin hV.out (m := kk) (by omega) (o := kk * 3) (Nat.le_refl _) (List.replicate ((n - kk) * 3) (.int .i64 0)) (ys := Lib.compactUpTo d n) (by
                rw [← HDS.out]
                apply List.ext_getElem?
                intro j
                by_cases hj : j < kk
                · rw [List.getElem?_take_of_lt hj, hI2.low j hj, arr_get dk (by rw [HD2.out]; omega)]
                · rw [List.getElem?_take_eq_none (by omega), List.getElem?_eq_none (by rw [hI2.len]; omega)])
              have HF := Lib.hid hfin
              have e1 : (0 : Int) ≤ (kk : Int) := by omega
              have e2 : (kk : Int) ≤ (cap : Int) := by omega
              have e3 : ((kk : Int)).toNat = kk := by omega
              have e4 : kk ≤ cap := by omega
              have e5 : (kk : Int) ≤ (n : Int) := by omega
              have e6 : ¬ cap = kk := by omega
              clear hfin hI2 hV hI hend hkk
              go_wp2
              go_ret
              exact HF.out
        · have HKP := Lib.hid (Lib.keeps_pos (d := d) (m := k) (by rw [← HXY.out.1, ← HXY.out.2]; exact hxy))
          have HALL : Hid (∀ j, j < k + 1 → Lib.keeps d j = true) := Lib.hid fun j hj => by
            by_cases e : j = k
            · subst e; exact HKP.out
            · exact hall.out j (by omega)
          have heq := fun w => eqL_run x y w
          rw [decide_eq_false hxy] at heq
          obtain ⟨xt, xn, xd⟩ := x
          obtain ⟨yt, yn, yd⟩ := y
          simp only at p0 p1 p2 r0 r1 r2 heq
          clear HKP HXY hxy hall
          go_wp2_with fail
          go_quiet (fail)
          have HV2 := Lib.hid (hV.out.drewN nq)
          go_wp2
          go_roundw
          case rel => exact ⟨k + 1, by omega, by omega, by go_num, HALL, HV2⟩
          case measure => simp [intOf]; omega
      · have i1 : ¬ (k : Int) < n := by omega
        have hkn : k = n := by omega
        have hfin := (CV.fin hV.out (Nat.le_refl n) (Nat.le_refl (n * 3)) [] (ys := Lib.compactUpTo d n) (by rw [List.take_of_length_le (by rw [Array.length_toList, HDS.out]; exact Nat.le_refl _)]; exact HA.out (by rw [← hkn]; exact hall.out)))
        have HF := Lib.hid hfin
        clear hfin hall hV hkn
        go_wp2
        go_ret
        exact HF.out

theorem compV_any (B : Nat) (sv : Value) (xs : List Va) (w : World) (hO : ROwn RVa 46 B w sv xs) (hl : xs.length ≤ 1000000) :
    Calls Tryz.prog 39 #[sv] w (CutOut RVa 46 B sv (Lib.compact xs) w) := by
  rcases own_cases hO with ⟨rfl, rfl⟩ | ⟨g, cap, rfl⟩
  · have HF : Hid (CutOut RVa 46 B (.slice none 0 0) (Lib.compact []) w (.returned (.slice none 0 0)) w) := Lib.hid ⟨_, _, _, rfl, Lib.hid hO, Lib.hid (PF.refl _ _), Lib.hid (Below.refl _ _)⟩
    clear hO
    go_enter Tryz.func39, Tryz.ntmps39
    go_wp2
    go_ret
    exact HF.out
  · exact compV_some B g _ cap xs w hO hl

end Go.Proofs.YtelhpndlejommaaGreat

