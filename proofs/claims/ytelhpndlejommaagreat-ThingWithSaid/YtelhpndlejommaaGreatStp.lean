/- Steps of regions that draw their order; tables of bytes. -/
import Derived.Test.YtelhpndlejommaaGreatRead3
import Derived.Test.YtelhpndlejommaaGreatBox
import Derived.Test.YtelhpndlejommaaGreatWpure
import Derived.Test.YtelhpndlejommaaGreatWg
namespace Go.Proofs.YtelhpndlejommaaGreat
open Go.RowKit Go.Shelf

/-- A readable slice appended to a slice of the call's own, as a step of a region that draws its order. -/
theorem step_all {P : Program} {ops : Array Oper} {o : Oper} {act : Act} {K : Act → World → Prop} {Q : Exit → Act → World → Prop} {E : Prop} {w : World} (hgd : o.guard = none) (s x : Operand) (t : TypeId)
    (ho : o.op = .call { callee := .builtin .append, args := #[s, x], argTypes := #[t, t] }) (k : IntKind) (e : TypeId) (bytes : Nat) (ht : P.underlying t = some (.slice e))
    (info : (P.info? e).map (fun i => (i.zero, i.size, i.bytes)) = some (some (.int k 0), 1, bytes)) (hby : bytes ≤ 8) (B : Nat) (v : Value) (zs : List Int) (sv : Value) (ys : List Int)
    (hs : act.eval s = v) (hx : act.eval x = sv) (hown : Own k e B w v zs) (hE : Els k w sv ys) (hB : B ≤ w.heap.size) (hl : zs.length + ys.length ≤ 1000000000000)
    (h : ∀ a n c w', Hid (n = zs.length + ys.length) → Hid (Own k e B w' (.slice a n c) (zs ++ ys)) → Hid (Below B w w') → K (act.put o.dst (.slice a n c)) w') :
    if Region.wanted o (yielded ops act.tmps) = true then Oper.wp P o act w K Q else E := by
  have hw : Region.wanted o (yielded ops act.tmps) = true := by simp [Region.wanted, hgd]
  rw [if_pos hw]
  obtain ⟨i0, hi, hz0, hz1, hz2⟩ := info_parts info
  have fin : ∀ v' w', Own k e B w' v' (zs ++ ys) → Below B w w' → K (act.put o.dst v') w' := by
    intro v' w' hO hb
    obtain ⟨a, n, c, rfl, hn, hO⟩ := Own.slice hO
    refine h a n c w' ?_ hO hb
    have := hn.out
    rw [List.length_append] at this
    exact this
  have some' : ∀ (ad : Addr) (c : Nat), sv = .slice (some ad) ys.length c → (∀ j u, (ys.map (Value.int k))[j]? = some u → w.cell? (ad.add j) = some u) → Oper.wp P o act w K Q := by
    intro ad c hsv hcells
    subst hsv
    have hmul : (zs.length + ys.length) * bytes ≤ (zs.length + ys.length) * 8 := Nat.mul_le_mul_left _ hby
    refine wp_append_own w s x t ho B e i0 (.int k 0) 1 bytes ht hi hz0 hz1 hz2 rfl (by decide) v zs.length _ hs hown ad ys.length c (ys.map (Value.int k)) hx (by simp) hcells (ints_oneCell k ys) (by unfold maxLen; omega) (by omega) hB ?_
    intro v' w1 hown' hgrow _
    refine fin v' w1 ?_ ((Below.refl B w).grown hgrow hB fun j hj => hown.lt j hj)
    unfold Own
    rw [List.length_append, List.map_append]
    exact hown'
  rcases hE with ⟨rfl | ⟨ad, c, rfl⟩, rfl⟩ | ⟨b, off, cap, hb, rfl, hle, hc⟩
  · have hrun := run_append_owned_none (P := P) (w := w) B t o.type e i0 1 ht hi v zs.length _ hown
    unfold Oper.wp
    simp [execOp, ho, resolve, invoke, builtin, hs, hx, hrun, Result.andThen]
    exact fin v w (by rw [List.append_nil]; exact hown) (Below.refl B w)
  · exact some' ad c rfl (by simp)
  · refine some' ⟨b, off, none⟩ cap rfl ?_
    have := news_at (k := k) (w := w) (b := b) (off := off) (zs := ys) (Nat.le_refl _) hc
    rw [List.take_length] at this
    exact this

/-- One element appended to a slice of the call's own, as a step of a region that draws its order. -/
theorem step_one {P : Program} {ops : Array Oper} {o : Oper} {act : Act} {K : Act → World → Prop} {Q : Exit → Act → World → Prop} {E : Prop} {w : World} (hgd : o.guard = none) (s x : Operand) (t : TypeId)
    (ho : o.op = .call { callee := .builtin .append, args := #[s, x], argTypes := #[t, t] }) (k : IntKind) (e : TypeId) (bytes : Nat) (ht : P.underlying t = some (.slice e))
    (info : (P.info? e).map (fun i => (i.zero, i.size, i.bytes)) = some (some (.int k 0), 1, bytes)) (hby : bytes ≤ 8) (B : Nat) (v : Value) (zs : List Int) (ad : Addr) (z : Int)
    (hs : act.eval s = v) (hx : act.eval x = .slice (some ad) 1 1) (hc : w.cell? ad = some (.int k z)) (hown : Own k e B w v zs) (hB : B ≤ w.heap.size) (hl : zs.length ≤ 1000000000000)
    (h : ∀ a n c w', Hid (n = zs.length + 1) → Hid (Own k e B w' (.slice a n c) (zs ++ [z])) → Hid (Below B w w') → K (act.put o.dst (.slice a n c)) w') :
    if Region.wanted o (yielded ops act.tmps) = true then Oper.wp P o act w K Q else E := by
  have hw : Region.wanted o (yielded ops act.tmps) = true := by simp [Region.wanted, hgd]
  rw [if_pos hw]
  obtain ⟨i0, hi, hz0, hz1, hz2⟩ := info_parts info
  have hmul : (zs.length + 1) * bytes ≤ (zs.length + 1) * 8 := Nat.mul_le_mul_left _ hby
  refine wp_append_own w s x t ho B e i0 (.int k 0) 1 bytes ht hi hz0 hz1 hz2 rfl (by decide) v zs.length _ hs hown ad 1 1 [.int k z] hx rfl ?_ (by simp [Value.oneCell']) (by unfold maxLen; omega) (by omega) hB ?_
  · intro j u hu
    match j with
    | 0 =>
      simp at hu
      subst hu
      simpa [Addr.add] using hc
    | j + 1 => simp at hu
  · intro v' w1 hown' hgrow _
    obtain ⟨a, n, c, rfl, hn, hO⟩ := Own.slice (Own.more hown')
    refine h a n c w1 ?_ hO ((Below.refl B w).grown hgrow hB fun j hj => hown.lt j hj)
    have := hn.out
    rw [List.length_append] at this
    exact this

theorem cell_new_d (w : World) (v : Value) (t : TypeId) : ((w.alloc (.cells #[v] t)).drew).cell? ⟨w.heap.size, 0, none⟩ = some v := (cell_new_l w v t).1

theorem byt_snoc {zs : List Int} {z : Int} (h : Hm.Byt zs) (hz : 0 ≤ z ∧ z < 256) : Hm.Byt (zs ++ [z]) := Hm.byt_append h (Hm.byt_cons hz Hm.byt_nil)

theorem since_of {w W : World} (h : Below w.heap.size w W) : Since w W := h

/-- A table of four slices of bytes. -/
def BTab (w : World) (v : Value) (W : World) : Prop := ∃ G, v = .slice (some ⟨G, 0, none⟩) 4 4 ∧ Since w W ∧ ∀ k, k < 4 → ∃ a n c zs, W.cell? ⟨G, k, none⟩ = some (.slice a n c) ∧ Els .u8 W (.slice a n c) zs ∧ Hm.Byt zs ∧ zs.length ≤ 5000

/-- A slice of good bytes. -/
def GoodB (W : World) (v : Value) : Prop := ∃ zs, Els .u8 W v zs ∧ Hm.Byt zs ∧ zs.length ≤ 5000

theorem GoodB.below {w W : World} {v : Value} (h : GoodB w v) (hB : Below w.heap.size w W) : GoodB W v := by
  obtain ⟨zs, h1, h2, h3⟩ := h
  exact ⟨zs, h1.below hB, h2, h3⟩

theorem btab_of {w W : World} {a b c d : Value} (T : TypeId) (hW : Since w W) (ha : GoodB W a) (hb : GoodB W b) (hc : GoodB W c) (hd : GoodB W d) (g : Nat) (hg : W.heap.size = g) : BTab w (.slice (some ⟨g, 0, none⟩) 4 4) (W.alloc (.cells #[a, b, c, d] T)) := by
  subst hg
  have hB := (Below.refl W.heap.size W).alloc (Nat.le_refl _) (.cells #[a, b, c, d] T)
  have hn := heap_new W (.cells #[a, b, c, d] T)
  have one : ∀ v : Value, GoodB W v → ∃ a' n' c' zs, v = .slice a' n' c' ∧ Els .u8 (W.alloc (.cells #[a, b, c, d] T)) (.slice a' n' c') zs ∧ Hm.Byt zs ∧ zs.length ≤ 5000 := fun v h => by
    obtain ⟨zs, h1, h2, h3⟩ := h
    obtain ⟨x, y, rfl⟩ := h1.shape
    exact ⟨x, _, y, zs, rfl, h1.below hB, h2, h3⟩
  refine ⟨W.heap.size, rfl, Since.step hW hB, fun k hk => ?_⟩
  match k with
  | 0 => obtain ⟨x, y, z, zs, rfl, h⟩ := one a ha; exact ⟨x, y, z, zs, by unfold World.cell?; simp only [hn]; rfl, h⟩
  | 1 => obtain ⟨x, y, z, zs, rfl, h⟩ := one b hb; exact ⟨x, y, z, zs, by unfold World.cell?; simp only [hn]; rfl, h⟩
  | 2 => obtain ⟨x, y, z, zs, rfl, h⟩ := one c hc; exact ⟨x, y, z, zs, by unfold World.cell?; simp only [hn]; rfl, h⟩
  | 3 => obtain ⟨x, y, z, zs, rfl, h⟩ := one d hd; exact ⟨x, y, z, zs, by unfold World.cell?; simp only [hn]; rfl, h⟩
  | n + 4 => omega

theorem els_cut {k : IntKind} {w : World} {b off n c m : Nat} {zs : List Int} (h : Els k w (.slice (some ⟨b, off, none⟩) n c) zs) (hm : m ≤ n) (h1 : 1 ≤ n) : Els k w (.slice (some ⟨b, off, none⟩) m c) (zs.take m) := by
  have hn := h.len
  rcases h with ⟨_, hz⟩ | ⟨b', off', cap, hb, he, hl, hc⟩
  · subst hz; simp at hn; omega
  · cases he
    refine .inr ⟨b, off, c, hb, ?_, ?_, fun j hj => ?_⟩
    · rw [List.length_take, Nat.min_eq_left (by omega)]
    · rw [List.length_take]; omega
    · rw [List.length_take] at hj
      rw [hc j (by omega), List.getElem?_take_of_lt (by omega)]

/-- The same, at the operation itself. -/
theorem wp_all {P : Program} {o : Oper} {act : Act} {K : Act → World → Prop} {Q : Exit → Act → World → Prop} {w : World} (hgd : o.guard = none) (s x : Operand) (t : TypeId)
    (ho : o.op = .call { callee := .builtin .append, args := #[s, x], argTypes := #[t, t] }) (k : IntKind) (e : TypeId) (bytes : Nat) (ht : P.underlying t = some (.slice e))
    (info : (P.info? e).map (fun i => (i.zero, i.size, i.bytes)) = some (some (.int k 0), 1, bytes)) (hby : bytes ≤ 8) (B : Nat) (v : Value) (zs : List Int) (sv : Value) (ys : List Int)
    (hs : act.eval s = v) (hx : act.eval x = sv) (hown : Own k e B w v zs) (hE : Els k w sv ys) (hB : B ≤ w.heap.size) (hl : zs.length + ys.length ≤ 1000000000000)
    (h : ∀ a n c w', Hid (n = zs.length + ys.length) → Hid (Own k e B w' (.slice a n c) (zs ++ ys)) → Hid (Below B w w') → K (act.put o.dst (.slice a n c)) w') :
    Oper.wp P o act w K Q := by
  have := step_all (ops := #[]) (E := False) (K := K) (Q := Q) hgd s x t ho k e bytes ht info hby B v zs sv ys hs hx hown hE hB hl h
  rwa [if_pos (by simp [Region.wanted, hgd])] at this

/-- The same, with what it leaves alone. -/
theorem wp_all_f {P : Program} {o : Oper} {act : Act} {K : Act → World → Prop} {Q : Exit → Act → World → Prop} {w : World} (s x : Operand) (t : TypeId)
    (ho : o.op = .call { callee := .builtin .append, args := #[s, x], argTypes := #[t, t] }) (k : IntKind) (e : TypeId) (bytes : Nat) (ht : P.underlying t = some (.slice e))
    (info : (P.info? e).map (fun i => (i.zero, i.size, i.bytes)) = some (some (.int k 0), 1, bytes)) (hby : bytes ≤ 8) (B : Nat) (v : Value) (zs : List Int) (sv : Value) (ys : List Int)
    (hs : act.eval s = v) (hx : act.eval x = sv) (hown : Own k e B w v zs) (hE : Els k w sv ys) (hB : B ≤ w.heap.size) (hl : zs.length + ys.length ≤ 1000000000000)
    (h : ∀ a n c w', Hid (n = zs.length + ys.length) → Hid (Own k e B w' (.slice a n c) (zs ++ ys)) → Hid (Below B w w') → Hid (∀ F : Nat → Prop, (∀ k, F k → k < w.heap.size) → Far F v → KeepF F w w' ∧ Far F (.slice a n c)) → K (act.put o.dst (.slice a n c)) w') :
    Oper.wp P o act w K Q := by
  obtain ⟨i0, hi, hz0, hz1, hz2⟩ := info_parts info
  have fin : ∀ v' w', Own k e B w' v' (zs ++ ys) → Below B w w' → (∀ F : Nat → Prop, (∀ k, F k → k < w.heap.size) → Far F v → KeepF F w w' ∧ Far F v') → K (act.put o.dst v') w' := by
    intro v' w' hO hb hk
    obtain ⟨a, n, c, rfl, hn, hO⟩ := Own.slice hO
    refine h a n c w' ?_ hO hb hk
    have := hn.out
    rw [List.length_append] at this
    exact this
  have some' : ∀ (ad : Addr) (c : Nat), sv = .slice (some ad) ys.length c → (∀ j u, (ys.map (Value.int k))[j]? = some u → w.cell? (ad.add j) = some u) → Oper.wp P o act w K Q := by
    intro ad c hsv hcells
    subst hsv
    have hmul : (zs.length + ys.length) * bytes ≤ (zs.length + ys.length) * 8 := Nat.mul_le_mul_left _ hby
    obtain ⟨v', w1, hr, hown', hgrow, _, hat⟩ := run_append_own_at (P := P) w B t o.type e i0 (.int k 0) 1 bytes ht hi hz0 hz1 hz2 rfl (by decide) v zs.length _ hown ad ys.length c (ys.map (Value.int k)) (by simp) hcells (ints_oneCell k ys) (by unfold maxLen; omega) (by omega) hB
    unfold Oper.wp execOp
    simp only [ho, resolve, invoke, builtin, Sem.run_bind, Sem.run_pure, Result.andThen_ok, List.map_toArray, List.map_cons, List.map_nil, hs, hx, hr]
    refine fin v' w1 ?_ ((Below.refl B w).grown hgrow hB fun j hj => hown.lt j hj) (fun F hF hv => far_grown hF hv hgrow hat)
    unfold Own
    rw [List.length_append, List.map_append]
    exact hown'
  rcases hE with ⟨rfl | ⟨ad, c, rfl⟩, rfl⟩ | ⟨b, off, cap, hb, rfl, hle, hc⟩
  · have hrun := run_append_owned_none (P := P) (w := w) B t o.type e i0 1 ht hi v zs.length _ hown
    unfold Oper.wp
    simp [execOp, ho, resolve, invoke, builtin, hs, hx, hrun, Result.andThen]
    exact fin v w (by rw [List.append_nil]; exact hown) (Below.refl B w) (fun F _ hv => ⟨KeepF.refl F w, hv⟩)
  · exact some' ad c rfl (by simp)
  · refine some' ⟨b, off, none⟩ cap rfl ?_
    have := news_at (k := k) (w := w) (b := b) (off := off) (zs := ys) (Nat.le_refl _) hc
    rw [List.take_length] at this
    exact this

/-- A slice in a block that stays. -/
theorem Els.keepF {k : IntKind} {F : Nat → Prop} {w w' : World} {b n c : Nat} {zs : List Int} (h : Els k w (.slice (some ⟨b, 0, none⟩) n c) zs) (hF : F b) (hK : KeepF F w w') : Els k w' (.slice (some ⟨b, 0, none⟩) n c) zs := by
  rcases h with h | ⟨b', off, cap, hb, he, hl, hc⟩
  · exact .inl h
  · have hb2 := hb
    have he2 := he
    simp only [Value.slice.injEq, Option.some.injEq, Addr.mk.injEq] at he2
    obtain ⟨⟨rfl, rfl, _⟩, _, _⟩ := he2
    exact .inr ⟨b, 0, cap, Nat.lt_of_lt_of_le hb hK.1, he, hl, fun j hj => (cell_of_block (hK.2 b hF hb) _).trans (hc j hj)⟩

/-- A new slice of no bytes, its block a letter. -/
theorem own_at {k : IntKind} (w : World) (E : TypeId) (B g : Nat) (hg : w.heap.size = g) (hB : B ≤ w.heap.size) : Own k E B (w.alloc (.cells #[] E)) (.slice (some ⟨g, 0, none⟩) 0 0) [] := by
  subst hg
  refine ⟨by simp, .inr ⟨w.heap.size, 0, _, rfl, hB, heap_new w _, Nat.le_refl _, by unfold maxLen; omega, by simp, ?_⟩⟩
  simp

/-- A new slice of one byte, its block a letter. -/
theorem els_one (w : World) (c : Int) (T : TypeId) (g : Nat) (hg : w.heap.size = g) : Els .u8 (w.alloc (.cells #[.int .u8 c] T)) (.slice (some ⟨g, 0, none⟩) 1 1) [c] := by
  subst hg
  exact Els.new .u8 w T [c]

/-- A new slice of no bytes. -/
theorem own_none {k : IntKind} (w : World) (E : TypeId) (B : Nat) (hB : B ≤ w.heap.size) : Own k E B (w.alloc (.cells #[] E)) (.slice (some ⟨w.heap.size, 0, none⟩) 0 0) [] := by
  refine ⟨by simp, .inr ⟨w.heap.size, 0, _, rfl, hB, heap_new w _, Nat.le_refl _, by unfold maxLen; omega, by simp, ?_⟩⟩
  simp

/-- A slice of bytes made a string. -/
theorem conv8_zero (w : World) (a : Option Addr) (c : Nat) : (convert 49 9 (.slice a 0 c)).run Tryz.prog w = .ok (.string ByteArray.empty) w := by
  rw [run_convert_bytes_string w _ _ _ _ 0 c Tryz.underlying49 Tryz.underlying5 Tryz.underlying9]
  cases a <;> simp [Conv.bytesToString, loadCells]
  all_goals rfl

theorem conv8 {w : World} {a : Option Addr} {n c : Nat} {xs : List Int} (h : Els .u8 w (.slice a n c) xs) :
    (convert 49 9 (.slice a n c)).run Tryz.prog w = .ok (.string (strOfNums xs)) w := by
  rcases h with ⟨he, rfl⟩ | ⟨b, off, cap, hb, he, hl, hc⟩
  · obtain ⟨a, cap, he⟩ := he.shape
    cases he
    exact conv8_zero w _ _
  · cases he
    exact run_convert_bytes_arg w 49 5 Tryz.underlying49 Tryz.underlying5 b off _ _ xs rfl (fun i hi => by rw [hc i hi, List.getD_eq_getElem?_getD]) 9 Tryz.underlying9

/-- What is left of a slice behind an index. -/
theorem els_rest {k : IntKind} {w : World} {b off n c m : Nat} {zs : List Int} (h : Els k w (.slice (some ⟨b, off, none⟩) n c) zs) (hm : m ≤ n) (h1 : 1 ≤ n) : Els k w (.slice (some ⟨b, off + m, none⟩) (n - m) (c - m)) (zs.drop m) := by
  have hn := h.len
  rcases h with ⟨_, hz⟩ | ⟨b', off', cap, hb, he, hl, hc⟩
  · subst hz; simp at hn; omega
  · cases he
    refine .inr ⟨b, off + m, c - m, hb, ?_, ?_, fun j hj => ?_⟩
    · rw [List.length_drop]
    · rw [List.length_drop]; omega
    · rw [List.length_drop] at hj
      rw [Nat.add_assoc, hc (m + j) (by omega), List.getElem?_drop]

end Go.Proofs.YtelhpndlejommaaGreat
