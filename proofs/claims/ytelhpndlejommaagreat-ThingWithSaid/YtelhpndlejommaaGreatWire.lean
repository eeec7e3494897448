/- What the methods of wire.Writer do to the writer's box. -/
import Derived.Test.YtelhpndlejommaaGreatProg
import Derived.Test.YtelhpndlejommaaGreatSmall
import Derived.Test.YtelhpndlejommaaGreatWmath
import Derived.OneCell
import Derived.WalkSpells
import Derived.Outline
import Derived.Lib.AppendStr
namespace Go.Proofs.YtelhpndlejommaaGreat
open Go.RowKit Go.Shelf

theorem strCells_bs (s : ByteArray) : Lib.strCells s = (Hm.bs s).map (Value.int .u8) := by
  rw [Lib.strCells, Hm.bs, List.map_map]
  rfl

/-- A readable slice appended to a slice of the call's own: the law at the operation. -/
theorem push_all {P : Program} {ops : Array Oper} {rest : List Oper} {o : Oper} {act : Act} {Q : Exit → Act → World → Prop} {w : World} (hgd : o.guard = none) (s x : Operand) (t : TypeId)
    (ho : o.op = .call { callee := .builtin .append, args := #[s, x], argTypes := #[t, t] }) (k : IntKind) (e : TypeId) (bytes : Nat) (ht : P.underlying t = some (.slice e))
    (info : (P.info? e).map (fun i => (i.zero, i.size, i.bytes)) = some (some (.int k 0), 1, bytes)) (hby : bytes ≤ 8) (B : Nat) (v : Value) (zs : List Int) (sv : Value) (ys : List Int)
    (hs : act.eval s = v) (hx : act.eval x = sv) (hown : Own k e B w v zs) (hE : Els k w sv ys) (hB : B ≤ w.heap.size) (hl : zs.length + ys.length ≤ 1000000000000)
    (h : ∀ a n c w', Hid (n = zs.length + ys.length) → Hid (Own k e B w' (.slice a n c) (zs ++ ys)) → Hid (Below B w w') → wpList P ops Q rest (act.put o.dst (.slice a n c)) w') :
    wpList P ops Q (o :: rest) act w := by
  obtain ⟨i0, hi, hz0, hz1, hz2⟩ := info_parts info
  have fin : ∀ v' w', Own k e B w' v' (zs ++ ys) → Below B w w' → wpList P ops Q rest (act.put o.dst v') w' := by
    intro v' w' hO hb
    obtain ⟨a, n, c, rfl, hn, hO⟩ := Own.slice hO
    refine h a n c w' ?_ hO hb
    have := hn.out
    rw [List.length_append] at this
    exact this
  have some' : ∀ (ad : Addr) (c : Nat), sv = .slice (some ad) ys.length c → (∀ j u, (ys.map (Value.int k))[j]? = some u → w.cell? (ad.add j) = some u) → wpList P ops Q (o :: rest) act w := by
    intro ad c hsv hcells
    subst hsv
    have hmul : (zs.length + ys.length) * bytes ≤ (zs.length + ys.length) * 8 := Nat.mul_le_mul_left _ hby
    refine wpList_append_own _ hgd s x t ho B e i0 (.int k 0) 1 bytes ht hi hz0 hz1 hz2 rfl (by decide) v zs.length _ hs hown ad ys.length c (ys.map (Value.int k)) hx (by simp) hcells (ints_oneCell k ys) (by unfold maxLen; omega) (by omega) hB ?_
    intro v' w1 hown' hgrow _
    refine fin v' w1 ?_ ((Below.refl B w).grown hgrow hB fun j hj => hown.lt j hj)
    unfold Own
    rw [List.length_append, List.map_append]
    exact hown'
  rcases hE with ⟨rfl | ⟨ad, c, rfl⟩, rfl⟩ | ⟨b, off, cap, hb, rfl, hle, hc⟩
  · refine wpList_append_own_none hgd s x t ho B e i0 1 ht hi v zs.length _ hs hown hx ?_
    exact fin v w (by rw [List.append_nil]; exact hown) (Below.refl B w)
  · exact some' ad c rfl (by simp)
  · refine some' ⟨b, off, none⟩ cap rfl ?_
    have := news_at (k := k) (w := w) (b := b) (off := off) (zs := ys) (Nat.le_refl _) hc
    rw [List.take_length] at this
    exact this

/-- A string appended to a slice of bytes of the call's own: the law at the operation. -/
theorem push_str {P : Program} {ops : Array Oper} {rest : List Oper} {o : Oper} {act : Act} {Q : Exit → Act → World → Prop} {w : World} (hgd : o.guard = none) (s x : Operand) (t u : TypeId)
    (ho : o.op = .call { callee := .builtin .append, args := #[s, x], argTypes := #[t, u] }) (e : TypeId) (ht : P.underlying t = some (.slice e)) (hu : P.underlying u = some .string)
    (info : (P.info? e).map (fun i => (i.zero, i.size, i.bytes)) = some (some (.int .u8 0), 1, 1)) (B : Nat) (v : Value) (zs : List Int) (str : ByteArray)
    (hs : act.eval s = v) (hx : act.eval x = .string str) (hown : Own .u8 e B w v zs) (hB : B ≤ w.heap.size) (hl : zs.length + str.size ≤ 1000000000000)
    (h : ∀ a n c w', Hid (n = zs.length + str.size) → Hid (Own .u8 e B w' (.slice a n c) (zs ++ Hm.bs str)) → Hid (Below B w w') → wpList P ops Q rest (act.put o.dst (.slice a n c)) w') :
    wpList P ops Q (o :: rest) act w := by
  obtain ⟨i0, hi, hz0, hz1, hz2⟩ := info_parts info
  refine Lib.wpList_append_own_string _ hgd s x t u ho B e i0 ht hu hi hz0 hz1 hz2 v zs.length _ hs hown str hx (by unfold maxLen; omega) (by omega) hB ?_
  intro v' w1 hown' hgrow _
  have hO : Own .u8 e B w1 v' (zs ++ Hm.bs str) := by
    unfold Own
    rw [List.length_append, List.map_append, Hm.bs_length, ← strCells_bs]
    exact hown'
  obtain ⟨a, n, c, rfl, hn, hO⟩ := Own.slice hO
  refine h a n c w1 ?_ hO ((Below.refl B w).grown hgrow hB fun j hj => hown.lt j hj)
  have := hn.out
  rw [List.length_append, Hm.bs_length] at this
  exact this

/-- Block p is a box of one cell that holds a slice of the call's own, from block B on, with the bytes zs. -/
def Wr (p B : Nat) (w : World) (zs : List Int) : Prop :=
  ∃ v T, p < B ∧ B ≤ w.heap.size ∧ w.heap[p]? = some (.cells #[v] T (0, 0)) ∧ Own .u8 5 B w v zs

/-- What the walk wants of it. -/
theorem Wr.open {p B : Nat} {w : World} {zs : List Int} (h : Wr p B w zs) :
    ∃ a n c, w.cell? ⟨p, 0, none⟩ = some (.slice a n c) ∧ w.frozen? ⟨p, 0, none⟩ = false ∧ Hid (n = zs.length) ∧ Hid (Own .u8 5 B w (.slice a n c) zs) := by
  obtain ⟨v, T, hp, hB, hb, hO⟩ := h
  obtain ⟨a, n, c, rfl, hn, hO⟩ := hO.slice
  exact ⟨a, n, c, cell_of_one hb, free_of_one hb, hn, hO⟩

theorem Wr.lt {p B : Nat} {w : World} {zs : List Int} (h : Wr p B w zs) : p < B ∧ B ≤ w.heap.size := by
  obtain ⟨v, T, hp, hB, _⟩ := h
  exact ⟨hp, hB⟩

/-- A step that leaves the blocks from p on as they were. -/
theorem Wr.keep {p B : Nat} {w w' : World} {zs : List Int} (h : Wr p B w zs) (hs : w.heap.size ≤ w'.heap.size) (hk : ∀ k, p ≤ k → k < w.heap.size → w'.heap[k]? = w.heap[k]?) : Wr p B w' zs := by
  obtain ⟨v, T, hp, hB, hb, hx, hO⟩ := h
  refine ⟨v, T, hp, by omega, (hk p (Nat.le_refl _) (by omega)).trans hb, hx, ?_⟩
  rcases hO with hv | ⟨g, cap, cur, hv, hg, hc, hr⟩
  · exact .inl hv
  · exact .inr ⟨g, cap, cur, hv, hg, (hk g (by omega) (Array.getElem?_eq_some_iff.1 hc).1).trans hc, hr⟩

theorem Wr.below {p B : Nat} {w w' : World} {zs : List Int} (h : Wr p B w zs) (hB : Below w.heap.size w w') : Wr p B w' zs :=
  h.keep hB.size fun k _ hk => hB.block k hk

/-- A step that leaves all but later blocks of the call's own as they were, and then the store. -/
theorem Wr.put {p B : Nat} {w w' : World} {zs ys : List Int} {v : Value} (h : Wr p B w zs) (hB : Below B w w') (hO : Own .u8 5 B w' v ys) : Wr p B (w'.setCell ⟨p, 0, none⟩ v) ys := by
  obtain ⟨u, T, hp, hb0, hb, _⟩ := h
  refine ⟨v, T, hp, ?_, one_setCell ((hB.block p hp).trans hb), ownsRow_setCell_below hO hp v⟩
  have := hB.size
  simp [World.setCell]
  omega

theorem Wr.there {p B : Nat} {w w' : World} {zs : List Int} (h : Wr p B w zs) (hB : Below B w w') {v : Value} (hc : w.cell? ⟨p, 0, none⟩ = some v) (hf : w.frozen? ⟨p, 0, none⟩ = false) :
    w'.cell? ⟨p, 0, none⟩ = some v ∧ w'.frozen? ⟨p, 0, none⟩ = false :=
  ⟨(hB.cell (p := ⟨p, 0, none⟩) h.lt.1).trans hc, (hB.frozen (p := ⟨p, 0, none⟩) h.lt.1).trans hf⟩

/-- A new writer. -/
theorem Wr.new (w : World) (T : TypeId) : Wr w.heap.size (w.heap.size + 1) (w.alloc (.cells #[.slice none 0 0] T)) [] :=
  ⟨_, T, Nat.lt_succ_self _, by simp, World.alloc_heap_new w _, World.ownsRow_nil _ _ _ _⟩

theorem below_put {p B : Nat} {w w' : World} {v : Value} (hp : p ≤ B) (hB : Below B w w') : Below p w (w'.setCell ⟨p, 0, none⟩ v) := (hB.mono hp).setCell (Nat.le_refl _) v

theorem xor_i64_zero (a : Int) : bits .xor .i64 a 0 = IntKind.i64.wrap a := by
  show IntKind.i64.wrap ((BitVec.ofInt 64 a ^^^ BitVec.ofInt 64 0).toNat : Int) = _
  have h1 : BitVec.ofInt 64 0 = 0#64 := rfl
  rw [h1, BitVec.xor_zero, BitVec.toNat_ofInt, IntKind.wrap_i64, IntKind.wrap_i64]
  omega

theorem xor_i64_ones (a : Int) : bits .xor .i64 a (-1) = IntKind.i64.wrap (-a - 1) := by
  show IntKind.i64.wrap ((BitVec.ofInt 64 a ^^^ BitVec.ofInt 64 (-1)).toNat : Int) = _
  have h1 : BitVec.ofInt 64 (-1) = BitVec.allOnes 64 := by decide
  rw [h1, BitVec.xor_allOnes, BitVec.toNat_not, BitVec.toNat_ofInt, IntKind.wrap_i64, IntKind.wrap_i64]
  omega

/-- The zigzag form as the writer computes it. -/
theorem zig_spelt (n : Int) (h : -9223372036854775808 ≤ n ∧ n ≤ 9223372036854775807) : IntKind.u64.wrap (bits .xor .i64 (wrap64 (n * 2)) (n / 9223372036854775808)) = (Hm.zig n : Int) := by
  by_cases h0 : n < 0
  · have e : n / 9223372036854775808 = -1 := by omega
    rw [e, xor_i64_ones, IntKind.wrap_i64, IntKind.wrap_u64, Hm.zig, if_pos h0]
    unfold wrap64
    omega
  · have e : n / 9223372036854775808 = 0 := by omega
    rw [e, xor_i64_zero, IntKind.wrap_i64, IntKind.wrap_u64, Hm.zig, if_neg h0]
    unfold wrap64
    omega

/-- And back, as the reader does. -/
theorem and_one (z : Nat) (h : z < 18446744073709551616) : bits .and .u64 (z : Int) 1 = ((z % 2 : Nat) : Int) := by
  rw [show (1 : Int) = ((1 : Nat) : Int) from rfl, bits_and_u64_nat _ _ h (by decide), nat_mask1]

theorem unzig_spelt (z : Nat) (h : z < 18446744073709551616) : bits .xor .i64 ((z : Int) / 2) (-((z % 2 : Nat) : Int)) = Hm.unzig z := by
  rcases Nat.mod_two_eq_zero_or_one z with e | e
  · rw [e, Int.natCast_zero, Int.neg_zero, xor_i64_zero, IntKind.wrap_i64, Hm.unzig, if_neg (by omega)]
    omega
  · rw [e, show -((1 : Nat) : Int) = -1 from rfl, xor_i64_ones, IntKind.wrap_i64, Hm.unzig, if_pos e]
    omega

/-- The slice leads to a block below p, or it has no elements. -/
def LowEls (p : Nat) (sv : Value) : Prop := Emp sv ∨ ∃ b off n cap, b < p ∧ sv = .slice (some ⟨b, off, none⟩) n cap

theorem Els.low {k : IntKind} {p : Nat} {w w' : World} {sv : Value} {zs : List Int} (h : Els k w sv zs) (hl : LowEls p sv) (hB : Below p w w') : Els k w' sv zs := by
  rcases h with ⟨he, hz⟩ | ⟨b, off, cap, hb, rfl, hle, hc⟩
  · exact .inl ⟨he, hz⟩
  · have hb2 := Nat.lt_of_lt_of_le hb hB.size
    rcases hl with he | ⟨b2, off2, n2, cap2, hlt, he⟩
    · refine .inr ⟨b, off, cap, hb2, rfl, hle, ?_⟩
      intro j hj
      rcases he with he | ⟨x, c2, he⟩
      · cases he
      · simp only [Value.slice.injEq] at he
        omega
    · cases he
      exact .inr ⟨b, off, cap, hb2, rfl, hle, fun j hj => (hB.cell (p := ⟨b, off + j, none⟩) hlt).trans (hc j hj)⟩

theorem LowEls.mono {p q : Nat} {sv : Value} (h : LowEls p sv) (hp : p ≤ q) : LowEls q sv := by
  rcases h with h | ⟨b, off, n, cap, hb, h⟩
  · exact .inl h
  · exact .inr ⟨b, off, n, cap, by omega, h⟩

theorem Els.lows {k : IntKind} {w : World} {sv : Value} {zs : List Int} (h : Els k w sv zs) : LowEls w.heap.size sv := by
  rcases h with ⟨he, hz⟩ | ⟨b, off, cap, hb, rfl, hle, hc⟩
  · exact .inl he
  · exact .inr ⟨b, off, _, cap, hb, rfl⟩

theorem below_new' {w w1 : World} {o : Obj} (h : Below w.heap.size (w.alloc o) w1) : Below w.heap.size w w1 := ((Below.refl _ w).alloc (Nat.le_refl _) o).trans h

theorem or128 (m : Nat) : bits .or .u8 ((m : Int) % 256) 128 = ((m % 128 + 128 : Nat) : Int) := by
  have e : ((m : Int) % 256) = ((m % 256 : Nat) : Int) := by omega
  rw [e, show (128 : Int) = ((128 : Nat) : Int) from rfl, u8_or_nat _ _ (by omega) (by omega)]
  have h : m % 256 ||| 128 = m % 128 + 128 := by
    have h1 : m % 256 = m % 128 + 128 * (m / 128 % 2) := by omega
    rcases Nat.mod_two_eq_zero_or_one (m / 128) with h2 | h2
    · rw [h1, h2, Nat.mul_zero, Nat.add_zero, Nat.or_comm, nat_join 7 128 (m % 128) (by decide) (by omega)]
      omega
    · rw [h1, h2, Nat.mul_one, Nat.or_comm]
      have h3 := nat_join 7 128 (m % 128) (by decide) (by omega)
      have h4 : m % 128 + 128 = 128 ||| m % 128 := by rw [h3]; omega
      rw [h4, ← Nat.or_assoc, Nat.or_self]
  rw [h]

set_option maxRecDepth 100000 in
set_option maxHeartbeats 1000000 in
theorem wuint_any (p B n : Nat) (zs : List Int) (w : World) (hn : n < 18446744073709551616) (hz : zs.length ≤ 100000000000) (h : Wr p B w zs) :
    Calls Tryz.prog 108 #[.pointer (some ⟨p, 0, none⟩), .int .u64 n] w fun e w' => e = .returned (.tuple #[]) ∧ Wr p B w' (zs ++ Hm.uv n) ∧ Below p w w' := by
  have HH := Lib.hid h
  have hl := Hm.uv_len hn
  have HL := Lib.hid hl
  have HI := Lib.hid Tryz.infoU8
  have HN := Lib.hid hn
  have HZ := Lib.hid hz
  clear h hl hn hz
  go_enter Tryz.func108, Tryz.ntmps108
  go_wp2
  go_loopw [1] (fun v wr => ∃ m : Nat, ∃ acc : List Int, Hid (m < 18446744073709551616) ∧ v = .int .u64 m ∧ Hid (acc ++ Hm.uv m = Hm.uv n) ∧ Hid (Wr p B wr (zs ++ acc)) ∧ Hid (Below p w wr)) (fun v _ => (intOf v).toNat)
  case atStart => exact ⟨n, [], HN, rfl, rfl, by rw [List.append_nil]; exact HH.out, Below.refl _ _⟩
  case round =>
    obtain ⟨m, acc, hm, rfl, hacc, hW, hB⟩ := hrel
    have hlen := Lib.hid (show (zs ++ acc).length ≤ 1000000000000 by have h1 := congrArg List.length hacc.out; have h2 := HL.out; have h3 := HZ.out; rw [List.length_append] at h1 ⊢; omega)
    obtain ⟨a, l, c, hc, hf, hln, hO⟩ := hW.out.open
    have hpB := hW.out.lt
    obtain ⟨hpB, hBw⟩ := hpB
    by_cases hlt : 128 ≤ m
    · have hlt2 : (128 : Int) ≤ m := by omega
      go_wp2_with (at_builtin; refine push_own rfl _ _ 49 rfl .u8 5 1 Tryz.underlying49 HI.out (by decide) B (.slice a l c) (zs ++ acc) _ _ rfl rfl hO.out hBw (by have := hlen.out; omega) ?_; intro a2 n2 c2 w2 hn2 hO2 hB2; obtain ⟨hc2, hf2⟩ := hW.out.there hB2.out hc hf)
      go_roundw
      case rel => exact ⟨m / 128, acc ++ [((m % 128 + 128 : Nat) : Int)], (by have := hm.out; show _ < _; omega), by go_num, (by show _ = _; rw [List.append_assoc, List.singleton_append, ← Hm.uv_big hlt]; exact hacc.out), (by have := hW.out.put hB2.out hO2.out; rw [or128, List.append_assoc] at this; exact this), hB.out.trans (below_put (by omega) hB2.out)⟩
      case measure => simp [intOf]; omega
    · have hlt2 : (m : Int) < 128 := by omega
      go_wp2_with (at_builtin; refine push_own rfl _ _ 49 rfl .u8 5 1 Tryz.underlying49 HI.out (by decide) B (.slice a l c) (zs ++ acc) _ _ rfl rfl hO.out hBw (by have := hlen.out; omega) ?_; intro a2 n2 c2 w2 hn2 hO2 hB2; obtain ⟨hc2, hf2⟩ := hW.out.there hB2.out hc hf)
      go_end0
      have hO3 := hO2.out
      have e8 : (m : Int) % 256 = (m : Int) := by omega
      have e2 := hacc.out
      rw [Hm.uv_small (by omega)] at e2
      refine ⟨rfl, ?_, hB.out.trans (below_put (by omega) hB2.out)⟩
      rw [← e2]
      first | rw [e8] at hO3 | skip
      rw [List.append_assoc] at hO3
      exact hW.out.put hB2.out hO3

theorem wclone_nil (w : World) :
    Calls Tryz.prog 74 #[.slice none 0 0] w fun e w' => Makes .u8 5 [] w e w' := by
  have q22 : ∀ (w : World) (a : Option Addr) (n c n' c' : Nat), (binOp .eql 49 (.slice a n c) (.slice none n' c')).run Tryz.prog w = .ok (.bool a.isNone) w := fun w a n c n' c' => Lib.run_eql_slice_nil w _ _ a n c n' c' Tryz.underlying49
  go_enter Tryz.func74, Tryz.ntmps74
  go_wp2
  go_ret
  exact makes_of (World.ownsRow_nil _ _ _ _) (Below.refl _ _)

theorem wclone_some (x : Addr) (n c : Nat) (zs : List Int) (w : World) (hz : zs.length ≤ 100000000000) (h : Els .u8 w (.slice (some x) n c) zs) :
    Calls Tryz.prog 74 #[.slice (some x) n c] w fun e w' => Makes .u8 5 zs w e w' := by
  have q22 : ∀ (w : World) (a : Option Addr) (n c n' c' : Nat), (binOp .eql 49 (.slice a n c) (.slice none n' c')).run Tryz.prog w = .ok (.bool a.isNone) w := fun w a n c n' c' => Lib.run_eql_slice_nil w _ _ a n c n' c' Tryz.underlying49
  have HI := Lib.hid Tryz.infoU8
  have HZ := Lib.hid hz
  have HE := Lib.hid h
  clear h hz
  go_enter Tryz.func74, Tryz.ntmps74
  go_wp2_with (at_builtin; go_loud (refine push_all rfl _ _ 49 rfl .u8 5 1 Tryz.underlying49 HI.out (by decide) w.heap.size _ [] _ zs rfl rfl (World.ownsRow_made w #[] 0 (Nat.le_refl _) (Nat.zero_le _) rfl) (HE.out.below ((Below.refl _ w).alloc (Nat.le_refl _) _)) (by simp) (by have := HZ.out; simp; omega) ?_); intro a2 n2 c2 w2 hn2 hO2 hB2)
  go_ret
  exact makes_of hO2.out (below_new' hB2.out)

theorem wclone_any (sv : Value) (zs : List Int) (w : World) (hz : zs.length ≤ 100000000000) (h : Els .u8 w sv zs) :
    Calls Tryz.prog 74 #[sv] w fun e w' => Makes .u8 5 zs w e w' := by
  obtain ⟨a, c, rfl⟩ := h.shape
  cases a with
  | some x => exact wclone_some x _ c zs w hz h
  | none =>
    rcases h with ⟨he, rfl⟩ | ⟨b, off, cap, hb, he, hl, hc⟩
    · rcases he with he | ⟨x, cap, he⟩
      · cases he
        exact wclone_nil w
      · cases he
    · cases he

set_option maxRecDepth 100000 in
set_option maxHeartbeats 1000000 in
theorem wint_any (p B : Nat) (n : Int) (zs : List Int) (w : World) (hn : -9223372036854775808 ≤ n ∧ n ≤ 9223372036854775807) (hz : zs.length ≤ 90000000000) (h : Wr p B w zs) :
    Calls Tryz.prog 73 #[.pointer (some ⟨p, 0, none⟩), .int .i64 n] w fun e w' => e = .returned (.tuple #[]) ∧ Wr p B w' (zs ++ Hm.uv (Hm.zig n)) ∧ Below p w w' := by
  have K := Lib.hid (wuint_any p B (Hm.zig n) zs w (Hm.zig_lt hn) (by omega) h)
  rw [← zig_spelt n hn] at K
  obtain ⟨hn1, hn2⟩ := hn
  clear h hz
  go_enter Tryz.func73, Tryz.ntmps73
  go_wp2_with fail
  (with_reducible refine K.out.mono ?_)
  rintro e w1 ⟨rfl, hW1, hB1⟩
  have HW := Lib.hid hW1
  have HB := Lib.hid hB1
  clear hW1 hB1
  go_wp2_with fail
  go_end0
  exact ⟨rfl, HW.out, HB.out⟩

/-- Done: a copy of what has been written. -/
theorem wdone_any (p B : Nat) (zs : List Int) (w : World) (hz : zs.length ≤ 90000000000) (h : Wr p B w zs) :
    Calls Tryz.prog 55 #[.pointer (some ⟨p, 0, none⟩)] w fun e w' => Makes .u8 5 zs w e w' := by
  obtain ⟨a, l, c, hc, hf, hln, hO⟩ := h.open
  have K := Lib.hid (wclone_any _ zs w (by omega) hO.out.els)
  clear h hz
  go_enter Tryz.func55, Tryz.ntmps55
  go_wp2_with fail
  (with_reducible refine K.out.mono ?_)
  rintro e w1 ⟨a1, n1, c1, rfl, HN1, O1, hB1⟩
  go_wp2_with fail
  go_ret
  exact ⟨_, _, _, rfl, HN1, O1, hB1⟩

end Go.Proofs.YtelhpndlejommaaGreat


