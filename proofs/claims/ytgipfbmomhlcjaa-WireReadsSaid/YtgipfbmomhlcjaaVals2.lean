/- The walk of Vals. -/
import Derived.Test.YtgipfbmomhlcjaaVals
import Derived.RegionTactic
namespace Go.Proofs.Ytgipfbmomhlcjaa
open Go.RowKit Go.Shelf

/-- One element appended to a slice of the call's own, as a step of a region that draws its order. -/
theorem step_push {P : Program} {ops : Array Oper} {o : Oper} {act : Act} {K : Act → World → Prop} {Q : Exit → Act → World → Prop} {E : Prop} {w : World} (hgd : o.guard = none) (s x : Operand) (t : TypeId)
    (ho : o.op = .call { callee := .builtin .append, args := #[s, x], argTypes := #[t, t] }) (k : IntKind) (e : TypeId) (bytes : Nat) (ht : P.underlying t = some (.slice e))
    (info : (P.info? e).map (fun i => (i.zero, i.size, i.bytes)) = some (some (.int k 0), 1, bytes)) (hby : bytes ≤ 8) (B : Nat) (v : Value) (zs : List Int) (ad : Addr) (z : Int)
    (hs : act.eval s = v) (hx : act.eval x = .slice (some ad) 1 1) (hc : w.cell? ad = some (.int k z)) (hown : Own k e B w v zs) (hB : B ≤ w.heap.size) (hl : zs.length ≤ 1000000000000)
    (h : ∀ a n c w', Hid (n = zs.length + 1) → Hid (Own k e B w' (.slice a n c) (zs ++ [z])) → Hid (Below B w w') → K (act.put o.dst (.slice a n c)) w') :
    if Region.wanted o (yielded ops act.tmps) = true then Oper.wp P o act w K Q else E := by
  have hw : Region.wanted o (yielded ops act.tmps) = true := by simp [Region.wanted, hgd]
  rw [if_pos hw]
  obtain ⟨i0, hi, hz0, hz1, hz2⟩ := info_parts info
  have hmul : (zs.length + 1) * bytes ≤ (zs.length + 1) * 8 := Nat.mul_le_mul_left _ hby
  refine wp_append_own w s x t ho B e i0 (.int k 0) 1 bytes ht hi hz0 hz1 hz2 rfl (by decide) v zs.length _ hs hown ad 1 1 [.int k z] hx rfl ?_ (by simp [Value.oneCell']) (by unfold maxLen; omega) (by omega) hB ?_
  · intro j u hu
    match j with
    | 0 =>
      simp at hu
      subst hu
      simpa [Addr.add] using hc
    | j + 1 => simp at hu
  · intro v' w1 hown' hgrow _
    obtain ⟨a, n, c, rfl, hn, hO⟩ := Own.slice (Own.more hown')
    refine h a n c w1 ?_ hO ((Below.refl B w).grown hgrow hB fun j hj => hown.lt j hj)
    have := hn.out
    rw [List.length_append] at this
    exact this

/-- The values are good, and small. -/
def Small (ts : List VT) : Prop := ∀ t ∈ ts, t.1.Good ∧ t.1.b.length ≤ 9 ∧ t.1.l.length ≤ 4

theorem small_snoc {ts : List VT} {t : VT} (h : Small ts) (hg : t.1.Good) (hb : t.1.b.length ≤ 9) (hl : t.1.l.length ≤ 4) : Small (ts ++ [t]) := fun u hu => by
  rcases List.mem_append.1 hu with hu | hu
  · exact h u hu
  · simp at hu
    subst hu
    exact ⟨hg, hb, hl⟩

theorem nums_nil : Nums [] := fun _ hz => nomatch hz

theorem good0 {u : Nat} (hu : u < 18446744073709551616) : (⟨0, u, 0, [], []⟩ : V).Good where
  kind := Nat.zero_le _
  u := hu
  n := by show -9223372036854775808 ≤ (0 : Int) ∧ (0 : Int) ≤ 9223372036854775807; omega
  byt := Hm.byt_nil
  bl := Nat.zero_le _
  nums := nums_nil
  ll := Nat.zero_le _
  u0 := fun h => absurd rfl h
  n0 := fun _ _ => rfl
  n1 := fun _ => .inl rfl
  b0 := fun _ _ => rfl
  l0 := fun _ => rfl

theorem good1 {n : Int} (hn : -9223372036854775808 ≤ n ∧ n ≤ 9223372036854775807) : (⟨1, 0, n, [], []⟩ : V).Good where
  kind := Nat.le_of_ble_eq_true rfl
  u := Nat.le_of_ble_eq_true rfl
  n := hn
  byt := Hm.byt_nil
  bl := Nat.zero_le _
  nums := nums_nil
  ll := Nat.zero_le _
  u0 := fun _ => rfl
  n0 := fun h _ => absurd rfl h
  n1 := fun h => nomatch h
  b0 := fun _ _ => rfl
  l0 := fun _ => rfl

theorem good2 {n : Int} (hn : n = 0 ∨ n = 1) : (⟨2, 0, n, [], []⟩ : V).Good where
  kind := Nat.le_of_ble_eq_true rfl
  u := Nat.le_of_ble_eq_true rfl
  n := by show -9223372036854775808 ≤ n ∧ n ≤ 9223372036854775807; omega
  byt := Hm.byt_nil
  bl := Nat.zero_le _
  nums := nums_nil
  ll := Nat.zero_le _
  u0 := fun _ => rfl
  n0 := fun _ h => absurd rfl h
  n1 := fun _ => hn
  b0 := fun _ _ => rfl
  l0 := fun _ => rfl

theorem good34 {k : Nat} (hk : k = 3 ∨ k = 4) {b : List Int} (hb : Hm.Byt b) (hl : b.length ≤ 1000) : (⟨k, 0, 0, b, []⟩ : V).Good where
  kind := by show k ≤ 5; omega
  u := Nat.le_of_ble_eq_true rfl
  n := by show -9223372036854775808 ≤ (0 : Int) ∧ (0 : Int) ≤ 9223372036854775807; omega
  byt := hb
  bl := hl
  nums := nums_nil
  ll := Nat.zero_le _
  u0 := fun _ => rfl
  n0 := fun _ _ => rfl
  n1 := fun _ => .inl rfl
  b0 := fun h3 h4 => absurd hk (fun h => h.elim h3 h4)
  l0 := fun _ => rfl

theorem good5 {l : List Int} (hn : Nums l) (hl : l.length ≤ 1000) : (⟨5, 0, 0, [], l⟩ : V).Good where
  kind := Nat.le_refl _
  u := Nat.le_of_ble_eq_true rfl
  n := by show -9223372036854775808 ≤ (0 : Int) ∧ (0 : Int) ≤ 9223372036854775807; omega
  byt := Hm.byt_nil
  bl := Nat.zero_le _
  nums := hn
  ll := hl
  u0 := fun _ => rfl
  n0 := fun _ _ => rfl
  n1 := fun _ => .inl rfl
  b0 := fun _ _ => rfl
  l0 := fun h => absurd rfl h

theorem tdiv6 {z : Int} (h : -9223372036854775808 ≤ z ∧ z ≤ 9223372036854775807) : -9223372036854775808 ≤ z.tdiv 6 ∧ z.tdiv 6 ≤ 9223372036854775807 := by
  by_cases h0 : 0 ≤ z
  · rw [Int.tdiv_eq_ediv_of_nonneg h0]
    omega
  · have e : z.tdiv 6 = -((-z).tdiv 6) := by rw [Int.neg_tdiv, Int.neg_neg]
    rw [e, Int.tdiv_eq_ediv_of_nonneg (by omega)]
    omega

theorem five_set3 {W : World} {b : Nat} {k u n : Int} {bv lv bv' : Value} {T : TypeId} (h : W.heap[b]? = some (.cells (five k u n bv lv) T (0, 0))) : (W.setCell ⟨b, 3, none⟩ bv').heap[b]? = some (.cells (five k u n bv' lv) T (0, 0)) := by
  simp [World.setCell, Array.getElem?_modify, h, five]

theorem five_set4 {W : World} {b : Nat} {k u n : Int} {bv lv lv' : Value} {T : TypeId} (h : W.heap[b]? = some (.cells (five k u n bv lv) T (0, 0))) : (W.setCell ⟨b, 4, none⟩ lv').heap[b]? = some (.cells (five k u n bv lv') T (0, 0)) := by
  simp [World.setCell, Array.getElem?_modify, h, five]

theorem below_new'' {B : Nat} {w w1 : World} {o : Obj} (hB : B ≤ w.heap.size) (h : Below B (w.alloc o) w1) : Below B w w1 := ((Below.refl B w).alloc hB o).trans h

theorem shr_u64 (z : Int) (n : Nat) : ∃ U : Nat, IntKind.u64.wrap z / 2 ^ n = (U : Int) ∧ U < 18446744073709551616 := by
  have h : 0 ≤ IntKind.u64.wrap z ∧ IntKind.u64.wrap z < 18446744073709551616 := by rw [IntKind.wrap_u64]; omega
  obtain ⟨x, hx⟩ := Int.eq_ofNat_of_zero_le h.1
  refine ⟨x / 2 ^ n, by rw [hx, Int.natCast_ediv, Int.natCast_pow]; rfl, ?_⟩
  exact Nat.lt_of_le_of_lt (Nat.div_le_self _ _) (by omega)

theorem shr_i64 {z : Int} (h : -9223372036854775808 ≤ z ∧ z ≤ 9223372036854775807) (n : Nat) : -9223372036854775808 ≤ z / 2 ^ n ∧ z / 2 ^ n ≤ 9223372036854775807 := by
  have hp : (1 : Int) ≤ 2 ^ n := by
    have : (0 : Int) < 2 ^ n := Int.pow_pos (by decide)
    omega
  by_cases h0 : 0 ≤ z
  · have h1 := Int.ediv_nonneg h0 (by omega : (0 : Int) ≤ 2 ^ n)
    have h2 := Int.ediv_le_self (2 ^ n : Int) h0
    omega
  · have h1 : z / 2 ^ n < 0 := Int.ediv_neg_of_neg_of_pos (by omega) (by omega)
    have h2 : z ≤ z / 2 ^ n := by
      rw [Int.le_ediv_iff_mul_le (by omega)]
      have : z * 2 ^ n ≤ z * 1 := Int.mul_le_mul_of_nonpos_left (by omega) hp
      omega
    omega

/-- What Vals leaves. -/
def MadeVals (w : World) (x : Ending) (w' : World) : Prop := ∃ a n c ts, x = .returned (.slice a n c) ∧ Hid (VOwn w.heap.size w' (.slice a n c) ts) ∧ Hid (Small ts) ∧ Hid (n = ts.length) ∧ n ≤ 8 ∧ Hid (Below w.heap.size w w')

theorem u8_range (z : Int) : 0 ≤ IntKind.u8.wrap z ∧ IntKind.u8.wrap z < 256 := by
  rw [IntKind.wrap_u8']
  omega

theorem box_later {b : Nat} {w w6 : World} {x o : Obj} (h : w.heap[b]? = some x) (hB : Below (b + 1) (w.alloc o).drew w6) : w6.heap[b]? = some x :=
  (hB.block b (Nat.lt_succ_self _)).trans (heap_old o h)

theorem alloc_drew {B : Nat} {w w6 : World} {o : Obj} (hB : B ≤ w.heap.size) (h : Below B (w.alloc o).drew w6) : Below B w w6 := (((Below.refl B w).alloc hB o).drew).trans h

theorem own_alloc_drew {k : IntKind} {E : TypeId} {B : Nat} {w : World} {sv : Value} {zs : List Int} (h : Own k E B w sv zs) (o : Obj) : Own k E B (w.alloc o).drew sv zs := h.below (((Below.refl _ w).alloc (Nat.le_refl _) o).drew)

theorem size_alloc_drew {B : Nat} {w : World} {o : Obj} (h : B ≤ w.heap.size) : B ≤ (w.alloc o).drew.heap.size := by
  show B ≤ (w.alloc o).heap.size
  simp
  omega

theorem nums_snoc {l : List Int} {z : Int} (h : Nums l) (hz : -9223372036854775808 ≤ z ∧ z ≤ 9223372036854775807) : Nums (l ++ [z]) := fun y hy => by
  rcases List.mem_append.1 hy with hy | hy
  · exact h y hy
  · simp at hy
    subst hy
    exact i64_wf hz

theorem off_of_far {B N : Nat} {w : World} {v sv : Value} {ts : List VT} (hV : VOwn B w v ts) (hf : Far N sv) (hN : w.heap.size ≤ N) : ∀ g, v.ownBlock = some g → Off g sv := fun g hg =>
  hf.off (Nat.lt_of_lt_of_le (World.ownsRow.lt hV.1 g hg).2 hN)

set_option maxRecDepth 100000 in
set_option maxHeartbeats 8000000 in
theorem vals_any (a : Option Addr) (len cap : Nat) (zs : List Int) (w : World) (h : Els .i64 w (.slice a len cap) zs) (hw : Nums zs) (hlen : len ≤ 9223372036854775807) :
    Calls Try.prog 11 #[.slice a len cap] w (MadeVals w) := by
  have HH := Lib.hid h
  have HW := Lib.hid hw
  clear h hw
  go_enter Try.func11, Try.ntmps11
  go_wp2_with fail
  go_loopw [3, 4] (fun v i wr => ∃ k : Nat, ∃ ao : Option Addr, ∃ no co : Nat, ∃ ts : List VT, k ≤ len ∧ k ≤ 8 ∧ i = .int .i64 k ∧ v = .slice ao no co ∧ Hid (ts.length = k) ∧ Hid (no = k) ∧ Hid (VOwn w.heap.size wr (.slice ao no co) ts) ∧ Hid (Small ts) ∧ Hid (Below w.heap.size w wr)) (fun _ i _ => 8 - (intOf i).toNat)
  case atStart => exact ⟨0, none, 0, 0, [], by omega, by omega, rfl, rfl, rfl, rfl, VOwn.nil _ _, (fun t ht => by cases ht), Below.refl _ _⟩
  case round =>
    obtain ⟨k, ao, no, co, ts, hk, hk8, rfl, rfl, hlt, hno, hV, hS, hB⟩ := hrel
    by_cases hgo : k < len ∧ k < 8
    · obtain ⟨hk1, hk2⟩ := hgo
      obtain ⟨b, off, rfl, hcx⟩ := (HH.out.below hB.out).at k hk1
      have hbl := block_there hcx
      simp only at hbl
      have hz := wf_at HW.out k
      have hz1 := i64_wf hz
      have hz2 : (Lit.int .i64 ((zs[k]?.getD 0).tdiv 6)).wf = true := i64_wf (tdiv6 hz)
      have hk2' : (k : Int) < 8 := by omega
      have K1 := fun W => around_any (zs[k]?.getD 0) 6 W (by decide) (by decide) hz1
      have K2 := fun W => around_any ((zs[k]?.getD 0).tdiv 6) 63 W (by decide) (by decide) hz2
      obtain ⟨kd, hkd, hkd6⟩ := around_nat (zs[k]?.getD 0) 6 (by decide)
      obtain ⟨nd, hnd, hnd6⟩ := around_nat ((zs[k]?.getD 0).tdiv 6) 63 (by decide)
      have hkd' : aroundI (zs[k]?.getD 0) 6 = (kd : Int) := hkd
      have hnd' : aroundI ((zs[k]?.getD 0).tdiv 6) 63 = (nd : Int) := hnd
      rw [hkd'] at K1
      rw [hnd'] at K2
      have K1h := Lib.hid K1
      have K2h := Lib.hid K2
      clear K1 K2 hkd hnd hkd' hnd' hz1 hz2
      go_wp2_with fail
      refine (K1h.out _).mono ?_
      rintro e w' ⟨rfl, rfl⟩
      go_wp2_with fail
      refine (K2h.out _).mono ?_
      rintro e w' ⟨rfl, rfl⟩
      obtain ⟨wo, rfl⟩ : ∃ wo : World, wo = wr := ⟨_, rfl⟩
      have one1 : ∀ x : V, ∀ t ∈ [((x, .slice none 0 0, .slice none 0 0) : VT)], t.2.1.oneCell' = true ∧ t.2.2.oneCell' = true := fun x t ht => by
        simp at ht
        subst ht
        exact ⟨rfl, rfl⟩
      have hne1 : ∀ x : V, x.b = [] → x.l = [] → ∀ W : World, ∀ t ∈ [((x, .slice none 0 0, .slice none 0 0) : VT)], Els .u8 W t.2.1 t.1.b ∧ Els .i64 W t.2.2 t.1.l ∧ ∀ g, (Value.slice ao no co).ownBlock = some g → Off g t.2.1 ∧ Off g t.2.2 := fun x hb hl W t ht => by
        simp at ht
        subst ht
        refine ⟨?_, ?_, fun g _ => ⟨.inl (.inl rfl), .inl (.inl rfl)⟩⟩
        · show Els .u8 W _ x.b
          rw [hb]
          exact emp_els _ _
        · show Els .i64 W _ x.l
          rw [hl]
          exact emp_els _ _
      have O1 := Lib.hid one1
      have N1 := Lib.hid hne1
      clear one1 hne1
      by_cases d0 : kd = 0
      · subst d0
        obtain ⟨U, hU, hU2⟩ := shr_u64 (zs[k]?.getD 0) nd
        have HU2 := Lib.hid hU2
        clear hU2
        go_wp2_with (at_builtin; refine push_vals rfl _ _ rfl w.heap.size (.slice ao no co) ts [((⟨0, U, 0, [], []⟩ : V), Value.slice none 0 0, Value.slice none 0 0)] _ _ rfl rfl _ (by simp) rfl (hV.out.below ((Below.refl _ wo).alloc (Nat.le_refl _) _)) (by have := hB.out.size; simp; omega) (by have := hlt.out; simp; omega) (O1.out _) (N1.out _ rfl rfl _) ?_; intro an nn cn wn hnn hVn hBn)
        go_roundw
        case rel => exact ⟨k + 1, an, nn, cn, ts ++ [((⟨0, U, 0, [], []⟩ : V), Value.slice none 0 0, Value.slice none 0 0)], by omega, by omega, by go_num, rfl, (by show _ = _; rw [List.length_append, hlt.out]; rfl), (by show _ = _; rw [hnn.out, List.length_append, hlt.out]; rfl), hVn.out, small_snoc hS.out (good0 HU2.out) (Nat.zero_le _) (Nat.zero_le _), hB.out.trans (below_new'' hB.out.size hBn.out)⟩
        case measure => simp [intOf]; omega
      by_cases d1 : kd = 1
      · subst d1
        have hR := shr_i64 hz nd
        have HR := Lib.hid hR
        clear hR d0
        go_wp2_with (at_builtin; refine push_vals rfl _ _ rfl w.heap.size (.slice ao no co) ts [((⟨1, 0, zs[k]?.getD 0 / 2 ^ nd, [], []⟩ : V), Value.slice none 0 0, Value.slice none 0 0)] _ _ rfl rfl _ (by simp) rfl (hV.out.below ((Below.refl _ wo).alloc (Nat.le_refl _) _)) (by have := hB.out.size; simp; omega) (by have := hlt.out; simp; omega) (O1.out _) (N1.out _ rfl rfl _) ?_; intro an nn cn wn hnn hVn hBn)
        go_roundw
        case rel => exact ⟨k + 1, an, nn, cn, ts ++ [((⟨1, 0, zs[k]?.getD 0 / 2 ^ nd, [], []⟩ : V), Value.slice none 0 0, Value.slice none 0 0)], by omega, by omega, by go_num, rfl, (by show _ = _; rw [List.length_append, hlt.out]; rfl), (by show _ = _; rw [hnn.out, List.length_append, hlt.out]; rfl), hVn.out, small_snoc hS.out (good1 HR.out) (Nat.zero_le _) (Nat.zero_le _), hB.out.trans (below_new'' hB.out.size hBn.out)⟩
        case measure => simp [intOf]; omega
      by_cases d2 : kd = 2
      · subst d2
        clear d0 d1
        go_wp2_with (at_builtin; refine push_vals rfl _ _ rfl w.heap.size (.slice ao no co) ts [((⟨2, 0, (nd : Int) % 2, [], []⟩ : V), Value.slice none 0 0, Value.slice none 0 0)] _ _ rfl rfl _ (by simp) rfl (hV.out.below ((Below.refl _ wo).alloc (Nat.le_refl _) _)) (by have := hB.out.size; simp; omega) (by have := hlt.out; simp; omega) (O1.out _) (N1.out _ rfl rfl _) ?_; intro an nn cn wn hnn hVn hBn)
        go_roundw
        case rel => exact ⟨k + 1, an, nn, cn, ts ++ [((⟨2, 0, (nd : Int) % 2, [], []⟩ : V), Value.slice none 0 0, Value.slice none 0 0)], by omega, by omega, by go_num, rfl, (by show _ = _; rw [List.length_append, hlt.out]; rfl), (by show _ = _; rw [hnn.out, List.length_append, hlt.out]; rfl), hVn.out, small_snoc hS.out (good2 (by omega)) (Nat.zero_le _) (Nat.zero_le _), hB.out.trans (below_new'' hB.out.size hBn.out)⟩
        case measure => simp [intOf]; omega
      by_cases d3 : kd = 3
      · subst d3
        clear d0 d1 d2
        have hnd10 : nd % 10 ≤ 9 := by omega
        have HH1 := Lib.hid (HH.out.below hB.out)
        go_wp2_with fail
        go_loopw [8] (fun v wi => ∃ j : Nat, ∃ bs : List Int, ∃ a n c, j ≤ nd % 10 ∧ v = .int .i64 j ∧ Hid (bs.length = j ∧ Hm.Byt bs) ∧ Hid (wi.heap[wo.heap.size]? = some (.cells (five 3 0 0 (.slice a n c) (.slice none 0 0)) 28 (0, 0))) ∧ Hid (Own .u8 5 (wo.heap.size + 1) wi (.slice a n c) bs) ∧ Hid (Below wo.heap.size wo wi)) (fun v _ => 9 - (intOf v).toNat)
        case atStart => exact ⟨0, [], none, 0, 0, Nat.zero_le _, rfl, ⟨rfl, Hm.byt_nil⟩, heap_new wo _, World.ownsRow_nil _ _ _ _, (Below.refl _ wo).alloc (Nat.le_refl _) _⟩
        case round =>
          obtain ⟨j, bs, a5, n5, c5, hj, rfl, hbs, hb7, hO, hBi⟩ := hrel
          obtain ⟨e0, e1, e2, e3, e4, ef⟩ := five_cells hb7.out
          have hci := (hBi.out.cell (p := ⟨b, off + k, none⟩) hbl).trans hcx
          have hz7 := lt_of_block hb7.out
          by_cases hjl : j < nd % 10
          · go_wp2_with fail
            go_region_law (refine step_push (by rfl) _ _ 24 (by rfl) .u8 5 1 Try.underlying24 Try.infoU8 (by decide) (wo.heap.size + 1) (.slice a5 n5 c5) bs _ _ (by rfl) (by rfl) (cell_new_l _ _ _).1 (own_alloc_drew hO.out _) (size_alloc_drew (by omega)) (by have := hbs.out.1; omega) ?_; intro a6 n6 c6 w6 hn6 hO6 hB6; have hb8 := Lib.hid (box_later hb7.out hB6.out); obtain ⟨_, _, _, e8, _, f8⟩ := five_cells hb8.out)
            all_goals
              go_wp2_with fail
              go_roundw
              case rel => exact ⟨j + 1, bs ++ [_], a6, n6, c6, by omega, by go_num, ⟨by rw [List.length_append, hbs.out.1]; rfl, Hm.byt_append hbs.out.2 (Hm.byt_cons (u8_range _) Hm.byt_nil)⟩, five_set3 hb8.out, ownsRow_setCell_below hO6.out (Nat.lt_succ_self _) _, (hBi.out.trans ((alloc_drew hz7 hB6.out).mono (Nat.le_succ _))).setCell (Nat.le_refl _) _⟩
              case measure => simp [intOf]; omega
          · have hjge : nd % 10 ≤ j := by omega
            have hbl9 : bs.length ≤ 9 := by have := hbs.out.1; omega
            have HBL9 := Lib.hid hbl9
            clear hjl hbl9
            go_wp2_with (at_builtin; refine push_vals rfl _ _ rfl w.heap.size (.slice ao no co) ts [((⟨3, 0, 0, bs, []⟩ : V), Value.slice a5 n5 c5, Value.slice none 0 0)] _ _ rfl rfl _ rfl rfl (hV.out.below hBi.out) (Nat.le_trans hB.out.size hBi.out.size) (by have := hlt.out; simp; omega) (fun t ht => by simp at ht; subst ht; exact ⟨rfl, rfl⟩) (fun t ht => by simp at ht; subst ht; exact ⟨hO.out.els, emp_els _ _, fun g hg => ⟨off_of_far hV.out (own_far hO.out) (Nat.le_succ _) g hg, .inl (.inl rfl)⟩⟩) ?_; intro an nn cn wn hnn hVn hBn)
            go_roundw
            case rel => exact ⟨k + 1, an, nn, cn, ts ++ [((⟨3, 0, 0, bs, []⟩ : V), Value.slice a5 n5 c5, Value.slice none 0 0)], by omega, by omega, by go_num, rfl, (by show _ = _; rw [List.length_append, hlt.out]; rfl), (by show _ = _; rw [hnn.out, List.length_append, hlt.out]; rfl), hVn.out, small_snoc hS.out (good34 (by omega) hbs.out.2 (by have := HBL9.out; omega)) HBL9.out (Nat.zero_le _), (hB.out.trans (hBi.out.mono hB.out.size)).trans hBn.out⟩
            case measure => simp [intOf]; omega
      by_cases d4 : kd = 4
      · subst d4
        clear d0 d1 d2 d3
        have hnd10 : nd % 10 ≤ 9 := by omega
        have HH1 := Lib.hid (HH.out.below hB.out)
        go_wp2_with fail
        go_loopw [8] (fun v wi => ∃ j : Nat, ∃ bs : List Int, ∃ a n c, j ≤ nd % 10 ∧ v = .int .i64 j ∧ Hid (bs.length = j ∧ Hm.Byt bs) ∧ Hid (wi.heap[wo.heap.size]? = some (.cells (five 4 0 0 (.slice a n c) (.slice none 0 0)) 28 (0, 0))) ∧ Hid (Own .u8 5 (wo.heap.size + 1) wi (.slice a n c) bs) ∧ Hid (Below wo.heap.size wo wi)) (fun v _ => 9 - (intOf v).toNat)
        case atStart => exact ⟨0, [], none, 0, 0, Nat.zero_le _, rfl, ⟨rfl, Hm.byt_nil⟩, heap_new wo _, World.ownsRow_nil _ _ _ _, (Below.refl _ wo).alloc (Nat.le_refl _) _⟩
        case round =>
          obtain ⟨j, bs, a5, n5, c5, hj, rfl, hbs, hb7, hO, hBi⟩ := hrel
          obtain ⟨e0, e1, e2, e3, e4, ef⟩ := five_cells hb7.out
          have hci := (hBi.out.cell (p := ⟨b, off + k, none⟩) hbl).trans hcx
          have hz7 := lt_of_block hb7.out
          by_cases hjl : j < nd % 10
          · go_wp2_with fail
            go_region_law (refine step_push (by rfl) _ _ 24 (by rfl) .u8 5 1 Try.underlying24 Try.infoU8 (by decide) (wo.heap.size + 1) (.slice a5 n5 c5) bs _ _ (by rfl) (by rfl) (cell_new_l _ _ _).1 (own_alloc_drew hO.out _) (size_alloc_drew (by omega)) (by have := hbs.out.1; omega) ?_; intro a6 n6 c6 w6 hn6 hO6 hB6; have hb8 := Lib.hid (box_later hb7.out hB6.out); obtain ⟨_, _, _, e8, _, f8⟩ := five_cells hb8.out)
            all_goals
              go_wp2_with fail
              go_roundw
              case rel => exact ⟨j + 1, bs ++ [_], a6, n6, c6, by omega, by go_num, ⟨by rw [List.length_append, hbs.out.1]; rfl, Hm.byt_append hbs.out.2 (Hm.byt_cons (u8_range _) Hm.byt_nil)⟩, five_set3 hb8.out, ownsRow_setCell_below hO6.out (Nat.lt_succ_self _) _, (hBi.out.trans ((alloc_drew hz7 hB6.out).mono (Nat.le_succ _))).setCell (Nat.le_refl _) _⟩
              case measure => simp [intOf]; omega
          · have hjge : nd % 10 ≤ j := by omega
            have hbl9 : bs.length ≤ 9 := by have := hbs.out.1; omega
            have HBL9 := Lib.hid hbl9
            clear hjl hbl9
            go_wp2_with (at_builtin; refine push_vals rfl _ _ rfl w.heap.size (.slice ao no co) ts [((⟨4, 0, 0, bs, []⟩ : V), Value.slice a5 n5 c5, Value.slice none 0 0)] _ _ rfl rfl _ rfl rfl (hV.out.below hBi.out) (Nat.le_trans hB.out.size hBi.out.size) (by have := hlt.out; simp; omega) (fun t ht => by simp at ht; subst ht; exact ⟨rfl, rfl⟩) (fun t ht => by simp at ht; subst ht; exact ⟨hO.out.els, emp_els _ _, fun g hg => ⟨off_of_far hV.out (own_far hO.out) (Nat.le_succ _) g hg, .inl (.inl rfl)⟩⟩) ?_; intro an nn cn wn hnn hVn hBn)
            go_roundw
            case rel => exact ⟨k + 1, an, nn, cn, ts ++ [((⟨4, 0, 0, bs, []⟩ : V), Value.slice a5 n5 c5, Value.slice none 0 0)], by omega, by omega, by go_num, rfl, (by show _ = _; rw [List.length_append, hlt.out]; rfl), (by show _ = _; rw [hnn.out, List.length_append, hlt.out]; rfl), hVn.out, small_snoc hS.out (good34 (by omega) hbs.out.2 (by have := HBL9.out; omega)) HBL9.out (Nat.zero_le _), (hB.out.trans (hBi.out.mono hB.out.size)).trans hBn.out⟩
            case measure => simp [intOf]; omega
      · obtain rfl : kd = 5 := by omega
        clear d0 d1 d2 d3 d4
        have hnd10 : nd % 5 ≤ 4 := by omega
        have HH1 := Lib.hid (HH.out.below hB.out)
        go_wp2_with fail
        go_loopw [9] (fun v wi => ∃ j : Nat, ∃ bs : List Int, ∃ a n c, j ≤ nd % 5 ∧ v = .int .i64 j ∧ Hid (bs.length = j ∧ Nums bs) ∧ Hid (wi.heap[wo.heap.size]? = some (.cells (five 5 0 0 (.slice none 0 0) (.slice a n c)) 28 (0, 0))) ∧ Hid (Own .i64 3 (wo.heap.size + 1) wi (.slice a n c) bs) ∧ Hid (Below wo.heap.size wo wi)) (fun v _ => 4 - (intOf v).toNat)
        case atStart => exact ⟨0, [], none, 0, 0, Nat.zero_le _, rfl, ⟨rfl, nums_nil⟩, heap_new wo _, World.ownsRow_nil _ _ _ _, (Below.refl _ wo).alloc (Nat.le_refl _) _⟩
        case round =>
          obtain ⟨j, bs, a5, n5, c5, hj, rfl, hbs, hb7, hO, hBi⟩ := hrel
          obtain ⟨e0, e1, e2, e3, e4, ef⟩ := five_cells hb7.out
          have hci := (hBi.out.cell (p := ⟨b, off + k, none⟩) hbl).trans hcx
          have hz7 := lt_of_block hb7.out
          by_cases hjl : j < nd % 5
          · go_wp2_with fail
            go_region_law (refine step_push (by rfl) _ _ 22 (by rfl) .i64 3 8 Try.underlying22 Try.infoI64 (by decide) (wo.heap.size + 1) (.slice a5 n5 c5) bs _ _ (by rfl) (by rfl) (cell_new_l _ _ _).1 (own_alloc_drew hO.out _) (size_alloc_drew (by omega)) (by have := hbs.out.1; omega) ?_; intro a6 n6 c6 w6 hn6 hO6 hB6; have hb8 := Lib.hid (box_later hb7.out hB6.out); obtain ⟨_, _, _, _, e8, f8⟩ := five_cells hb8.out)
            all_goals
              go_wp2_with fail
              go_roundw
              case rel => exact ⟨j + 1, bs ++ [_], a6, n6, c6, by omega, by go_num, ⟨by rw [List.length_append, hbs.out.1]; rfl, nums_snoc hbs.out.2 (shr_i64 hz _)⟩, five_set4 hb8.out, ownsRow_setCell_below hO6.out (Nat.lt_succ_self _) _, (hBi.out.trans ((alloc_drew hz7 hB6.out).mono (Nat.le_succ _))).setCell (Nat.le_refl _) _⟩
              case measure => simp [intOf]; omega
          · have hjge : nd % 5 ≤ j := by omega
            have hbl9 : bs.length ≤ 4 := by have := hbs.out.1; omega
            have HBL9 := Lib.hid hbl9
            clear hjl hbl9
            go_wp2_with (at_builtin; refine push_vals rfl _ _ rfl w.heap.size (.slice ao no co) ts [((⟨5, 0, 0, [], bs⟩ : V), Value.slice none 0 0, Value.slice a5 n5 c5)] _ _ rfl rfl _ rfl rfl (hV.out.below hBi.out) (Nat.le_trans hB.out.size hBi.out.size) (by have := hlt.out; simp; omega) (fun t ht => by simp at ht; subst ht; exact ⟨rfl, rfl⟩) (fun t ht => by simp at ht; subst ht; exact ⟨emp_els _ _, hO.out.els, fun g hg => ⟨.inl (.inl rfl), off_of_far hV.out (own_far hO.out) (Nat.le_succ _) g hg⟩⟩) ?_; intro an nn cn wn hnn hVn hBn)
            go_roundw
            case rel => exact ⟨k + 1, an, nn, cn, ts ++ [((⟨5, 0, 0, [], bs⟩ : V), Value.slice none 0 0, Value.slice a5 n5 c5)], by omega, by omega, by go_num, rfl, (by show _ = _; rw [List.length_append, hlt.out]; rfl), (by show _ = _; rw [hnn.out, List.length_append, hlt.out]; rfl), hVn.out, small_snoc hS.out (good5 hbs.out.2 (by have := HBL9.out; omega)) (Nat.zero_le _) HBL9.out, (hB.out.trans (hBi.out.mono hB.out.size)).trans hBn.out⟩
            case measure => simp [intOf]; omega
    · have hkk : k = len ∨ k = 8 := by omega
      rcases hkk with rfl | rfl
      · clear hgo
        go_wp2_with fail
        go_ret
        exact ⟨_, _, _, ts, rfl, hV.out, hS.out, (by show _ = _; rw [hno.out, hlt.out]), (by rw [hno.out]; exact hk8), hB.out⟩
      · clear hgo
        by_cases hl8 : 8 < len
        · go_wp2_with fail
          go_ret
          exact ⟨_, _, _, ts, rfl, hV.out, hS.out, (by show _ = _; rw [hno.out, hlt.out]), (by rw [hno.out]; exact hk8), hB.out⟩
        · obtain rfl : len = 8 := by omega
          go_wp2_with fail
          go_ret
          exact ⟨_, _, _, ts, rfl, hV.out, hS.out, (by show _ = _; rw [hno.out, hlt.out]), (by rw [hno.out]; exact hk8), hB.out⟩

end Go.Proofs.Ytgipfbmomhlcjaa
