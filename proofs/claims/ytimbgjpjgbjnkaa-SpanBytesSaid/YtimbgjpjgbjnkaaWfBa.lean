import Derived.Test.YtimbgjpjgbjnkaaWvalsWpure
import Derived.Maps.AppendAt
import Derived.Test.YtimbgjpjgbjnkaaBoxSp2
import Derived.Test.YtimbgjpjgbjnkaaCdBz
/- The writer's contracts, with blocks that it leaves alone. -/
namespace Go.Proofs.Ytimbgjpjgbjnkaa
open Go.RowKit Go.Shelf

/-- A value does not lie in these blocks. -/
def Far (F : Nat → Prop) (v : Value) : Prop := ∀ g, v.ownBlock = some g → ¬ F g

/-- These blocks stay as they are. -/
def KeepF (F : Nat → Prop) (w w' : World) : Prop := w.heap.size ≤ w'.heap.size ∧ ∀ k, F k → k < w.heap.size → w'.heap[k]? = w.heap[k]?

theorem KeepF.refl (F : Nat → Prop) (w : World) : KeepF F w w := ⟨Nat.le_refl _, fun _ _ _ => rfl⟩

theorem KeepF.trans {F : Nat → Prop} {a b c : World} (h : KeepF F a b) (k : KeepF F b c) : KeepF F a c :=
  ⟨Nat.le_trans h.1 k.1, fun j hj hl => (k.2 j hj (Nat.lt_of_lt_of_le hl h.1)).trans (h.2 j hj hl)⟩

theorem KeepF.mono {F G : Nat → Prop} {a b : World} (h : KeepF F a b) (hg : ∀ k, G k → F k) : KeepF G a b := ⟨h.1, fun k hk => h.2 k (hg k hk)⟩

theorem KeepF.of_below {F : Nat → Prop} {a b : World} (h : Below a.heap.size a b) : KeepF F a b := ⟨h.size, fun k _ hl => h.block k hl⟩

theorem KeepF.set {F : Nat → Prop} {a b : World} {p o : Nat} {v : Value} (h : KeepF F a b) (hp : ¬ F p) : KeepF F a (b.setCell ⟨p, o, none⟩ v) :=
  ⟨by rw [World.size_setCell]; exact h.1, fun k hk hl => (Below.heap_setCell _ _ _ _ (fun (e : k = p) => hp (e ▸ hk))).trans (h.2 k hk hl)⟩

theorem BoxL.keepF {W w1 : World} {N : Nat} {vs : List Value} {F : Nat → Prop} (h : BoxL N vs W) (hF : F N) (hb : KeepF F W w1) : BoxL N vs w1 := by
  have hk := hb.2 N hF h.1
  refine ⟨Nat.lt_of_lt_of_le h.1 hb.1, fun k x hx => ?_⟩
  obtain ⟨h1, h2⟩ := h.2 k x hx
  exact ⟨(cell_of_block hk k).trans h1, by rw [← h2]; unfold World.frozen?; simp only [hk]⟩

/-- One element appended to a slice of the call's own: the law at the operation, with what it leaves alone. -/
theorem push_own_f {P : Program} {ops : Array Oper} {rest : List Oper} {o : Oper} {act : Act} {Q : Exit → Act → World → Prop} {w : World} (hgd : o.guard = none) (s x : Operand) (t : TypeId)
    (ho : o.op = .call { callee := .builtin .append, args := #[s, x], argTypes := #[t, t] }) (k : IntKind) (e : TypeId) (bytes : Nat) (ht : P.underlying t = some (.slice e))
    (info : (P.info? e).map (fun i => (i.zero, i.size, i.bytes)) = some (some (.int k 0), 1, bytes)) (hby : bytes ≤ 8) (B : Nat) (v : Value) (zs : List Int) (z : Int) (T : TypeId)
    (hs : act.eval s = v) (hx : act.eval x = .slice (some ⟨w.heap.size, 0, none⟩) 1 1) (hown : Own k e B w v zs) (hB : B ≤ w.heap.size) (hl : zs.length ≤ 1000000000000)
    (h : ∀ a n c w', Hid (n = zs.length + 1) → Hid (Own k e B w' (.slice a n c) (zs ++ [z])) → Hid (Below B w w') → Hid (∀ F : Nat → Prop, (∀ k, F k → k < w.heap.size) → Far F v → KeepF F w w' ∧ Far F (.slice a n c)) → wpList P ops Q rest (act.put o.dst (.slice a n c)) w') :
    wpList P ops Q (o :: rest) act (w.alloc (.cells #[.int k z] T)) := by
  obtain ⟨i0, hi, hz0, hz1, hz2⟩ := info_parts info
  refine wpList_append_own_at _ hgd s x t ho B e i0 (.int k 0) 1 bytes ht hi hz0 hz1 hz2 rfl (by decide) v zs.length _ hs (hown.alloc _) ⟨w.heap.size, 0, none⟩ 1 1 [.int k z] hx rfl (one_new _ _ _) (by simp [Value.oneCell']) (by unfold maxLen; omega) ?_ (by simp; omega) ?_
  · have : (zs.length + 1) * bytes ≤ (zs.length + 1) * 8 := Nat.mul_le_mul_left _ hby
    omega
  · intro v' w1 hown' hgrow _ hat
    obtain ⟨a, n, c, rfl, hn, hO⟩ := Own.slice (Own.more hown')
    refine h a n c w1 ?_ hO (((Below.refl B w).alloc hB _).grown hgrow (by simp; omega) fun j hj => hown.lt j hj) ?_
    · have := hn.out
      rw [List.length_append] at this
      exact this
    · intro F hF hv
      have hsz := hgrow.size
      simp only [World.size_alloc] at hsz
      refine ⟨⟨by omega, fun j hj hl => ?_⟩, fun g hg hFg => ?_⟩
      · exact (hgrow.block j (by simp; omega) (fun e => hv j e.symm hj)).trans (Below.heap_alloc _ _ _ hl)
      · rcases hat with e | e
        · rw [e] at hg; exact hv g hg hFg
        · rw [e] at hg
          injection hg with hg
          have := hF g hFg
          simp at hg
          omega

/-- A writer in box p, with blocks that it leaves alone. -/
def WrF (F : Nat → Prop) (p B : Nat) (w : World) (zs : List Int) : Prop :=
  ∃ v T, p < B ∧ B ≤ w.heap.size ∧ w.heap[p]? = some (.cells #[v] T (0, 0)) ∧ Own .u8 5 B w v zs ∧ ¬ F p ∧ Far F v

theorem WrF.wr {F : Nat → Prop} {p B : Nat} {w : World} {zs : List Int} (h : WrF F p B w zs) : Wr p B w zs := by
  obtain ⟨v, T, h1, h2, h3, h4, _⟩ := h
  exact ⟨v, T, h1, h2, h3, h4⟩

theorem WrF.open {F : Nat → Prop} {p B : Nat} {w : World} {zs : List Int} (h : WrF F p B w zs) :
    ∃ a n c, w.cell? ⟨p, 0, none⟩ = some (.slice a n c) ∧ w.frozen? ⟨p, 0, none⟩ = false ∧ Hid (n = zs.length) ∧ Hid (Own .u8 5 B w (.slice a n c) zs) ∧ Hid (¬ F p ∧ Far F (.slice a n c)) := by
  obtain ⟨v, T, hp, hB, hb, hO, hF⟩ := h
  obtain ⟨a, n, c, rfl, hn, hO⟩ := hO.slice
  exact ⟨a, n, c, cell_of_one hb, free_of_one hb, hn, hO, hF⟩

theorem WrF.put {F : Nat → Prop} {p B : Nat} {w w' : World} {zs ys : List Int} {v : Value} (h : WrF F p B w zs) (hB : Below B w w') (hO : Own .u8 5 B w' v ys) (hv : Far F v) : WrF F p B (w'.setCell ⟨p, 0, none⟩ v) ys := by
  obtain ⟨v0, T0, h1, h2, h3, h4, hp, _⟩ := h
  obtain ⟨v2, T, k1, k2, k3, k4⟩ := Wr.put ⟨v0, T0, h1, h2, h3, h4⟩ hB hO
  obtain ⟨u, T', -, -, e, -⟩ := (⟨v0, T0, h1, h2, h3, h4⟩ : Wr p B w zs)
  have hc := cell_of_one k3
  have hl : p < w'.heap.size := by have := hB.size; omega
  have e2 : (w'.setCell ⟨p, 0, none⟩ v).heap[p]? = some (.cells #[v] T0 (0, 0)) := one_setCell ((hB.block p h1).trans h3)
  rw [e2] at k3
  injection k3 with k3
  injection k3 with k3
  injection k3 with k3
  simp only [List.cons.injEq, and_true] at k3
  subst k3
  exact ⟨v, T0, k1, k2, e2, k4, hp, hv⟩

theorem WrF.new (w : World) (T : TypeId) {F : Nat → Prop} (hF : ∀ k, F k → k < w.heap.size) : WrF F w.heap.size (w.heap.size + 1) (w.alloc (.cells #[.slice none 0 0] T)) [] :=
  ⟨_, T, Nat.lt_succ_self _, by simp, World.alloc_heap_new w _, World.ownsRow_nil _ _ _ _, fun h => by have := hF _ h; omega, fun g hg => by cases hg⟩

/-- A new block that is to be left alone. -/
theorem WrF.under {F : Nat → Prop} {p B : Nat} {w : World} {zs : List Int} (h : WrF F p B w zs) (o : Obj) : WrF (fun k => F k ∨ k = w.heap.size) p B (w.alloc o) zs := by
  obtain ⟨v, T, h1, h2, h3, h4, hp, hv⟩ := h
  obtain ⟨v2, T2, k1, k2, k3, k4⟩ := Wr.below (⟨v, T, h1, h2, h3, h4⟩ : Wr p B w zs) ((Below.refl _ _).alloc (Nat.le_refl _) o)
  have hl : p < w.heap.size := (Array.getElem?_eq_some_iff.1 h3).1
  rw [Below.heap_alloc _ _ _ hl, h3] at k3
  injection k3 with k3
  injection k3 with k3
  injection k3 with k3
  simp only [List.cons.injEq, and_true] at k3
  subst k3
  refine ⟨v, T, k1, k2, (Below.heap_alloc _ _ _ hl).trans h3, k4, fun h => ?_, fun g hg hFg => ?_⟩
  · rcases h with h | h
    · exact hp h
    · omega
  · rcases hFg with h | h
    · exact hv g hg h
    · have := (World.ownsRow.lt h4 g hg).2
      omega

theorem WrF.mono {F G : Nat → Prop} {p B : Nat} {w : World} {zs : List Int} (h : WrF F p B w zs) (hg : ∀ k, G k → F k) : WrF G p B w zs := by
  obtain ⟨v, T, h1, h2, h3, h4, hp, hv⟩ := h
  exact ⟨v, T, h1, h2, h3, h4, fun h => hp (hg _ h), fun g e h => hv g e (hg _ h)⟩

theorem WrF.below {F : Nat → Prop} {p B : Nat} {w w' : World} {zs : List Int} (h : WrF F p B w zs) (hB : Below w.heap.size w w') : WrF F p B w' zs := by
  obtain ⟨v, T, h1, h2, h3, h4, hp, hv⟩ := h
  obtain ⟨v2, T2, k1, k2, k3, k4⟩ := Wr.below (⟨v, T, h1, h2, h3, h4⟩ : Wr p B w zs) hB
  have hl : p < w.heap.size := (Array.getElem?_eq_some_iff.1 h3).1
  rw [hB.block p hl, h3] at k3
  injection k3 with k3
  injection k3 with k3
  injection k3 with k3
  simp only [List.cons.injEq, and_true] at k3
  subst k3
  exact ⟨v, T, k1, k2, (hB.block p hl).trans h3, k4, hp, hv⟩

/-- What a method of the writer leaves. -/
def WOut (F : Nat → Prop) (p B : Nat) (zs : List Int) (w : World) (e : Ending) (w' : World) : Prop := e = .returned (.tuple #[]) ∧ Hid (WrF F p B w' zs) ∧ Hid (Below p w w') ∧ Hid (KeepF F w w')

set_option maxRecDepth 100000 in
set_option maxHeartbeats 1000000 in
theorem wuint_f (F : Nat → Prop) (p B n : Nat) (zs : List Int) (w : World) (hF : ∀ k, F k → k < w.heap.size) (hn : n < 18446744073709551616) (hz : zs.length ≤ 100000000000) (h : WrF F p B w zs) :
    Calls Try.prog 98 #[.pointer (some ⟨p, 0, none⟩), .int .u64 n] w (WOut F p B (zs ++ Hm.uv n) w) := by
  have HH := Lib.hid h
  have hl := Hm.uv_len hn
  have HL := Lib.hid hl
  have HI := Lib.hid Try.infoU8
  have HN := Lib.hid hn
  have HZ := Lib.hid hz
  have HF := Lib.hid hF
  clear h hl hn hz hF
  go_enter Try.func98, Try.ntmps98
  go_wp2
  go_loopw [1] (fun v wr => ∃ m : Nat, ∃ acc : List Int, Hid (m < 18446744073709551616) ∧ v = .int .u64 m ∧ Hid (acc ++ Hm.uv m = Hm.uv n) ∧ Hid (WrF F p B wr (zs ++ acc)) ∧ Hid (Below p w wr) ∧ Hid (KeepF F w wr)) (fun v _ => (intOf v).toNat)
  case atStart => exact ⟨n, [], HN, rfl, rfl, Lib.hid (by rw [List.append_nil]; exact HH.out), Below.refl _ _, Lib.hid (KeepF.refl _ _)⟩
  case round =>
    obtain ⟨m, acc, hm, rfl, hacc, hW, hB, hK⟩ := hrel
    have hlen := Lib.hid (show (zs ++ acc).length ≤ 1000000000000 by have h1 := congrArg List.length hacc.out; have h2 := HL.out; have h3 := HZ.out; rw [List.length_append] at h1 ⊢; omega)
    obtain ⟨a, l, c, hc, hf, hln, hO, hFF⟩ := hW.out.open
    have hpB := hW.out.wr.lt
    obtain ⟨hpB, hBw⟩ := hpB
    have HF2 : Hid (∀ k, F k → k < wr.heap.size) := fun k hk => Nat.lt_of_lt_of_le (HF.out k hk) hK.out.1
    by_cases hlt : 128 ≤ m
    · have hlt2 : (128 : Int) ≤ m := by omega
      go_wp2_with (at_builtin; refine push_own_f rfl _ _ 58 rfl .u8 5 1 Try.underlying58 HI.out (by decide) B (.slice a l c) (zs ++ acc) _ _ rfl rfl hO.out hBw (by have := hlen.out; omega) ?_; intro a2 n2 c2 w2 hn2 hO2 hB2 hK2; obtain ⟨hc2, hf2⟩ := hW.out.wr.there hB2.out hc hf)
      have hk3 := hK2.out F HF2.out hFF.out.2
      go_roundw
      case rel => exact ⟨m / 128, acc ++ [((m % 128 + 128 : Nat) : Int)], (by have := hm.out; show _ < _; omega), by go_num, (by show _ = _; rw [List.append_assoc, List.singleton_append, ← Hm.uv_big hlt]; exact hacc.out), (by have := hW.out.put hB2.out hO2.out hk3.2; rw [or128, List.append_assoc] at this; exact this), hB.out.trans (below_put (by omega) hB2.out), Lib.hid (hK.out.trans (hk3.1.set hFF.out.1))⟩
      case measure => simp [intOf]; omega
    · have hlt2 : (m : Int) < 128 := by omega
      go_wp2_with (at_builtin; refine push_own_f rfl _ _ 58 rfl .u8 5 1 Try.underlying58 HI.out (by decide) B (.slice a l c) (zs ++ acc) _ _ rfl rfl hO.out hBw (by have := hlen.out; omega) ?_; intro a2 n2 c2 w2 hn2 hO2 hB2 hK2; obtain ⟨hc2, hf2⟩ := hW.out.wr.there hB2.out hc hf)
      have hk3 := hK2.out F HF2.out hFF.out.2
      go_end0
      have hO3 := hO2.out
      have e8 : (m : Int) % 256 = (m : Int) := by omega
      have e2 := hacc.out
      rw [Hm.uv_small (by omega)] at e2
      refine ⟨rfl, ?_, hB.out.trans (below_put (by omega) hB2.out), Lib.hid (hK.out.trans (hk3.1.set hFF.out.1))⟩
      show WrF _ _ _ _ _
      rw [← e2]
      first | rw [e8] at hO3 | skip
      rw [List.append_assoc] at hO3
      exact hW.out.put hB2.out hO3 hk3.2

set_option maxRecDepth 100000 in
set_option maxHeartbeats 1000000 in
theorem wint_f (F : Nat → Prop) (p B : Nat) (n : Int) (zs : List Int) (w : World) (hF : ∀ k, F k → k < w.heap.size) (hn : -9223372036854775808 ≤ n ∧ n ≤ 9223372036854775807) (hz : zs.length ≤ 90000000000) (h : WrF F p B w zs) :
    Calls Try.prog 73 #[.pointer (some ⟨p, 0, none⟩), .int .i64 n] w (WOut F p B (zs ++ Hm.uv (Hm.zig n)) w) := by
  have K := Lib.hid (wuint_f F p B (Hm.zig n) zs w hF (Hm.zig_lt hn) (by omega) h)
  rw [← zig_spelt n hn] at K
  obtain ⟨hn1, hn2⟩ := hn
  clear h hz hF
  go_enter Try.func73, Try.ntmps73
  go_wp2_with fail
  (with_reducible refine K.out.mono ?_)
  rintro e w1 ⟨rfl, hW1, hB1, hK1⟩
  go_wp2_with fail
  go_end0
  exact ⟨rfl, hW1, hB1, hK1⟩

set_option maxRecDepth 100000 in
set_option maxHeartbeats 1000000 in
theorem wbool_f (F : Nat → Prop) (p B : Nat) (b : Bool) (zs : List Int) (w : World) (hF : ∀ k, F k → k < w.heap.size) (hz : zs.length ≤ 100000000000) (h : WrF F p B w zs) :
    Calls Try.prog 74 #[.pointer (some ⟨p, 0, none⟩), .bool b] w (WOut F p B (zs ++ [if b then 1 else 0]) w) := by
  have HI := Lib.hid Try.infoU8
  have HZ := Lib.hid hz
  have HH := Lib.hid h
  have HF := Lib.hid hF
  obtain ⟨a, l, c, hc, hf, hln, hO, hFF⟩ := h.open
  obtain ⟨hpB, hBw⟩ := h.wr.lt
  clear h hz hF
  cases b
  all_goals
    go_enter Try.func74, Try.ntmps74
    go_wp2_with (at_builtin; refine push_own_f rfl _ _ 58 rfl .u8 5 1 Try.underlying58 HI.out (by decide) B (.slice a l c) zs _ _ rfl rfl hO.out hBw (by have := HZ.out; omega) ?_; intro a2 n2 c2 w2 hn2 hO2 hB2 hK2; obtain ⟨hc2, hf2⟩ := HH.out.wr.there hB2.out hc hf)
    have hk3 := hK2.out F HF.out hFF.out.2
    go_end0
    exact ⟨rfl, HH.out.put hB2.out hO2.out hk3.2, below_put (by omega) hB2.out, Lib.hid (hk3.1.set hFF.out.1)⟩

end Go.Proofs.Ytimbgjpjgbjnkaa

/- Appends to a slice of the call's own, with blocks that they leave alone. -/
namespace Go.Proofs.Ytimbgjpjgbjnkaa
open Go.RowKit Go.Shelf

theorem far_grown {F : Nat → Prop} {w w1 : World} {v v' : Value} (hF : ∀ k, F k → k < w.heap.size) (hv : Far F v) (hgrow : w.grownBy w1 v.ownBlock) (hat : v'.ownBlock = v.ownBlock ∨ v'.ownBlock = some w.heap.size) : KeepF F w w1 ∧ Far F v' := by
  refine ⟨⟨hgrow.size, fun j hj hl => hgrow.block j hl (fun e => hv j e.symm hj)⟩, fun g hg hFg => ?_⟩
  rcases hat with e | e
  · rw [e] at hg; exact hv g hg hFg
  · rw [e] at hg
    injection hg with hg
    have := hF g hFg
    omega

/-- A readable slice appended to a slice of the call's own: the law at the operation, with what it leaves alone. -/
theorem push_all_f {P : Program} {ops : Array Oper} {rest : List Oper} {o : Oper} {act : Act} {Q : Exit → Act → World → Prop} {w : World} (hgd : o.guard = none) (s x : Operand) (t : TypeId)
    (ho : o.op = .call { callee := .builtin .append, args := #[s, x], argTypes := #[t, t] }) (k : IntKind) (e : TypeId) (bytes : Nat) (ht : P.underlying t = some (.slice e))
    (info : (P.info? e).map (fun i => (i.zero, i.size, i.bytes)) = some (some (.int k 0), 1, bytes)) (hby : bytes ≤ 8) (B : Nat) (v : Value) (zs : List Int) (sv : Value) (ys : List Int)
    (hs : act.eval s = v) (hx : act.eval x = sv) (hown : Own k e B w v zs) (hE : Els k w sv ys) (hB : B ≤ w.heap.size) (hl : zs.length + ys.length ≤ 1000000000000)
    (h : ∀ a n c w', Hid (n = zs.length + ys.length) → Hid (Own k e B w' (.slice a n c) (zs ++ ys)) → Hid (Below B w w') → Hid (∀ F : Nat → Prop, (∀ k, F k → k < w.heap.size) → Far F v → KeepF F w w' ∧ Far F (.slice a n c)) → wpList P ops Q rest (act.put o.dst (.slice a n c)) w') :
    wpList P ops Q (o :: rest) act w := by
  obtain ⟨i0, hi, hz0, hz1, hz2⟩ := info_parts info
  have fin : ∀ v' w', Own k e B w' v' (zs ++ ys) → Below B w w' → (∀ F : Nat → Prop, (∀ k, F k → k < w.heap.size) → Far F v → KeepF F w w' ∧ Far F v') → wpList P ops Q rest (act.put o.dst v') w' := by
    intro v' w' hO hb hk
    obtain ⟨a, n, c, rfl, hn, hO⟩ := Own.slice hO
    refine h a n c w' ?_ hO hb hk
    have := hn.out
    rw [List.length_append] at this
    exact this
  have some' : ∀ (ad : Addr) (c : Nat), sv = .slice (some ad) ys.length c → (∀ j u, (ys.map (Value.int k))[j]? = some u → w.cell? (ad.add j) = some u) → wpList P ops Q (o :: rest) act w := by
    intro ad c hsv hcells
    subst hsv
    have hmul : (zs.length + ys.length) * bytes ≤ (zs.length + ys.length) * 8 := Nat.mul_le_mul_left _ hby
    refine wpList_append_own_at _ hgd s x t ho B e i0 (.int k 0) 1 bytes ht hi hz0 hz1 hz2 rfl (by decide) v zs.length _ hs hown ad ys.length c (ys.map (Value.int k)) hx (by simp) hcells (ints_oneCell k ys) (by unfold maxLen; omega) (by omega) hB ?_
    intro v' w1 hown' hgrow _ hat
    refine fin v' w1 ?_ ((Below.refl B w).grown hgrow hB fun j hj => hown.lt j hj) (fun F hF hv => far_grown hF hv hgrow hat)
    unfold Own
    rw [List.length_append, List.map_append]
    exact hown'
  rcases hE with ⟨rfl | ⟨ad, c, rfl⟩, rfl⟩ | ⟨b, off, cap, hb, rfl, hle, hc⟩
  · refine wpList_append_own_none hgd s x t ho B e i0 1 ht hi v zs.length _ hs hown hx ?_
    exact fin v w (by rw [List.append_nil]; exact hown) (Below.refl B w) (fun F hF hv => ⟨KeepF.refl F w, hv⟩)
  · exact some' ad c rfl (by simp)
  · refine some' ⟨b, off, none⟩ cap rfl ?_
    have := news_at (k := k) (w := w) (b := b) (off := off) (zs := ys) (Nat.le_refl _) hc
    rw [List.take_length] at this
    exact this

/-- What a call that makes a slice of numbers leaves: it leaves alone what lay. -/
theorem Makes.keep {k : IntKind} {E : TypeId} {zs : List Int} {w w' : World} {e : Ending} (h : Makes k E zs w e w') : ∃ a n c, e = .returned (.slice a n c) ∧ Els k w' (.slice a n c) zs ∧ Below w.heap.size w w' := by
  obtain ⟨a, n, c, rfl, hn, hO, hB⟩ := h
  exact ⟨a, n, c, rfl, hO.out.els, hB.out⟩

end Go.Proofs.Ytimbgjpjgbjnkaa

/- Encode of package span. -/
namespace Go.Proofs.Ytimbgjpjgbjnkaa
open Go.RowKit Go.Shelf

theorem iv8_at {w : World} {b n c : Nat} {L : List Iv} {j : Nat} {x : Iv} (h : REls RIv w (.slice (some ⟨b, 0, none⟩) n c) L) (hx : L[j]? = some x) :
    w.cell? ⟨b, j * 8, none⟩ = some (.int .i64 x.a) ∧ w.cell? ⟨b, j * 8 + 1, none⟩ = some (.int .i64 x.b) ∧ w.cell? ⟨b, j * 8 + 2, none⟩ = some (.int .i64 x.c) ∧ w.cell? ⟨b, j * 8 + 3, none⟩ = some (.int .i64 x.d) ∧ w.cell? ⟨b, j * 8 + 4, none⟩ = some (.bool x.p) ∧ w.cell? ⟨b, j * 8 + 5, none⟩ = some (.bool x.q) ∧ w.cell? ⟨b, j * 8 + 6, none⟩ = some (.bool x.r) ∧ w.cell? ⟨b, j * 8 + 7, none⟩ = some (.bool x.s) := by
  have hn := h.len
  have hj : j < n := by rw [hn]; exact (List.getElem?_eq_some_iff.1 hx).1
  obtain ⟨b', e, hb, hc, hat⟩ := h.get hj
  cases e
  have g := fun i u hu => hat j x hx i u hu
  exact ⟨g 0 _ rfl, g 1 _ rfl, g 2 _ rfl, g 3 _ rfl, g 4 _ rfl, g 5 _ rfl, g 6 _ rfl, g 7 _ rfl⟩

theorem ivL_take {xs : List Iv} (h : ∀ x ∈ xs, x.wf) (k : Nat) : (ivC.encL (xs.take k)).length ≤ 44 * xs.length := by
  have h1 := ivL_len (xs.take k) fun x hx => h x (List.mem_of_mem_take hx)
  have : (xs.take k).length ≤ xs.length := by rw [List.length_take]; omega
  omega

/-- Blocks that are left alone: one. -/
def OneB (N : Nat) (k : Nat) : Prop := k = N
def NoB (_ : Nat) : Prop := False

set_option maxHeartbeats 8000000 in
set_option maxRecDepth 100000 in
theorem bencode_any (sv : Value) (xs : List Iv) (w : World) (h : REls RIv w sv xs) (hwf : ∀ x ∈ xs, x.wf) (hl : xs.length ≤ 100000) :
    Calls Try.prog 36 #[sv] w (Makes .u8 5 (encS xs) w) := by
  obtain ⟨a, cap, rfl⟩ := h.shape
  have hz : (Hm.uv (Hm.zig (xs.length : Int))).length ≤ 10 := Hm.uv_len (Hm.zig_lt (by omega))
  have k1 := fun (W : World) (T : TypeId) => wint_f NoB w.heap.size (w.heap.size + 1) (xs.length : Int) [] (w.alloc (.cells #[.slice none 0 0] T)) (fun k hk => hk.elim) (by omega) (by simp) (WrF.new w T (fun k hk => hk.elim))
  have k3 := fun (W : World) (zs : List Int) (hzs : zs.length ≤ 10000000) (hW : WrF NoB w.heap.size (w.heap.size + 1) W zs) => wdone_any w.heap.size (w.heap.size + 1) zs W (by omega) hW.wr
  have htl := fun k => ivL_take hwf k
  have hfin : ∀ k, xs.length ≤ k → Hm.uv (Hm.zig (xs.length : Int)) ++ ivC.encL (xs.take k) = encS xs := fun k hk => by rw [List.take_of_length_le hk]; rfl
  generalize encS xs = EN at *
  generalize hu : Hm.uv (Hm.zig (xs.length : Int)) = U at *
  rw [List.nil_append] at k1
  have HE := Lib.hid h
  have HWF := Lib.hid hwf
  have K1 := Lib.hid k1
  have K3 := Lib.hid k3
  have HTL := Lib.hid htl
  have HFIN := Lib.hid hfin
  have HZ := Lib.hid hz
  generalize hn : xs.length = n at *
  have HN := Lib.hid hn
  clear h hwf k1 k3 htl hfin hu hz hn
  go_enter Try.func36, Try.ntmps36
  go_wp2_with fail
  refine (K1.out w _).mono ?_
  rintro e w1 ⟨rfl, hW1, hB1, hK1⟩
  have HB1 := Lib.hid (below_new' hB1.out)
  clear hB1 hK1 K1
  go_wp2
  go_loopw [11] (fun i wr => ∃ k : Nat, k ≤ n ∧ i = .int .i64 k ∧ Hid (WrF NoB w.heap.size (w.heap.size + 1) wr (U ++ ivC.encL (xs.take k))) ∧ Hid (Below w.heap.size w wr)) (fun i _ => n - (intOf i).toNat)
  case atStart => exact ⟨0, Nat.zero_le _, rfl, Lib.hid (by rw [List.take_zero]; unfold Codec.encL; simpa using hW1.out), HB1⟩
  case round =>
    obtain ⟨k, hk, rfl, hW, hB⟩ := hrel
    by_cases hlt : k < n
    · have hki : (k : Int) < n := by omega
      obtain ⟨x, hx⟩ : ∃ x, xs[k]? = some x := ⟨_, List.getElem?_eq_getElem (by rw [HN.out]; exact hlt)⟩
      have hEw := HE.out.below hB.out
      obtain ⟨g, rfl, -⟩ := hEw.get hlt
      obtain ⟨t0, t1, t2, t3, t4, t5, t6, t7⟩ := iv8_at hEw hx
      have hxw := HWF.out x (List.mem_of_getElem? hx)
      have hsn := ivC.encL_snoc hx
      have hxl := ivC_len hxw
      rw [ivC_enc] at hsn hxl
      have hyl : (U ++ ivC.encL (xs.take k)).length ≤ 5000000 := by rw [List.length_append]; have := HTL.out k; have := HZ.out; omega
      obtain ⟨xa, xb, xc, xd, xp, xq, xr, xs'⟩ := x
      simp only at t0 t1 t2 t3 t4 t5 t6 t7 hsn hxl
      have hfin2 : U ++ ivC.encL (xs.take (k + 1)) = U ++ ivC.encL (xs.take k) ++ Hm.uv (Hm.zig xa) ++ Hm.uv (Hm.zig xb) ++ Hm.uv (Hm.zig xc) ++ Hm.uv (Hm.zig xd) ++ [if xp then 1 else 0] ++ [if xq then 1 else 0] ++ [if xr then 1 else 0] ++ [if xs' then 1 else 0] := by rw [hsn]; simp only [List.append_assoc]
      have hF2 := Lib.hid hfin2
      generalize U ++ ivC.encL (xs.take k) = Y0 at *
      have hW0 := (hW.out.under (.cells #[.int .i64 xa, .int .i64 xb, .int .i64 xc, .int .i64 xd, .bool xp, .bool xq, .bool xr, .bool xs'] 27)).mono (G := OneB wr.heap.size) (fun k hk => .inr hk)
      have hX0 := BoxL.made wr #[.int .i64 xa, .int .i64 xb, .int .i64 xc, .int .i64 xd, .bool xp, .bool xq, .bool xr, .bool xs'] 27
      have hB0 := hB.out.alloc hB.out.size (.cells #[.int .i64 xa, .int .i64 xb, .int .i64 xc, .int .i64 xd, .bool xp, .bool xq, .bool xr, .bool xs'] 27)
      obtain ⟨W0, hW0e⟩ : ∃ W0, W0 = wr.alloc (.cells #[.int .i64 xa, .int .i64 xb, .int .i64 xc, .int .i64 xd, .bool xp, .bool xq, .bool xr, .bool xs'] 27) := ⟨_, rfl⟩
      rw [← hW0e] at hW0 hX0 hB0
      have hFW : ∀ W, KeepF (OneB wr.heap.size) W0 W → ∀ k, OneB wr.heap.size k → k < W.heap.size := fun W hK k hk => by
        have h1 : k = wr.heap.size := hk
        have h2 := hX0.1
        have h3 := hK.1
        omega
      have HFW := Lib.hid hFW
      have HX := Lib.hid hX0
      have HB0 := Lib.hid hB0
      have HW_0 := Lib.hid hW0
      have HK_0 : Hid (KeepF (OneB wr.heap.size) W0 W0) := Lib.hid (KeepF.refl _ _)
      have HXW := Lib.hid hxw
      have HYL := Lib.hid hyl
      have HXL := Lib.hid hxl
      have HON : Hid (OneB wr.heap.size wr.heap.size) := Lib.hid rfl
      clear hx hEw hxw hsn hxl hyl hfin2 hW0 hX0 hB0 hFW hW hB
      go_upto_region 6 with (fail)
      rw [← hW0e]
      generalize wr.heap.size = N at *
      clear hW0e t0 t1 t2 t3 t4 t5 t6 t7
      obtain ⟨x0, x1, x2, x3, x4, x5, x6, x7, -⟩ := (HX.out.keepF HON.out HK_0.out).open8
      have k10 := wint_f (OneB N) w.heap.size (w.heap.size + 1) xa _ W0 (HFW.out _ HK_0.out) HXW.out.1 (by have := HYL.out; have := HXL.out; simp only [List.length_append, List.length_singleton] at *; omega) HW_0.out
      have KC := Lib.hid k10
      clear k10
      go_wp2_with fail
      refine (KC.out).mono ?_
      rintro e W1 ⟨rfl, HW_1, HB_, HK_⟩
      have HK_1 := Lib.hid (HK_0.out.trans HK_.out)
      have HB1' := Lib.hid (Below.trans HB0.out HB_.out)
      have HB1 := HB1'
      clear HB1'
      clear KC HB_ HK_ HK_0 HW_0 x0 x1 x2 x3 x4 x5 x6 x7 HB0
      obtain ⟨x0, x1, x2, x3, x4, x5, x6, x7, -⟩ := (HX.out.keepF HON.out HK_1.out).open8
      have k11 := wint_f (OneB N) w.heap.size (w.heap.size + 1) xb _ W1 (HFW.out _ HK_1.out) HXW.out.2.1 (by have := HYL.out; have := HXL.out; simp only [List.length_append, List.length_singleton] at *; omega) HW_1.out
      have KC := Lib.hid k11
      clear k11
      go_wp2_with fail
      refine (KC.out).mono ?_
      rintro e W2 ⟨rfl, HW_2, HB_, HK_⟩
      have HK_2 := Lib.hid (HK_1.out.trans HK_.out)
      have HB2 := Lib.hid (Below.trans HB1.out HB_.out)
      clear KC HB_ HK_ HK_1 HW_1 x0 x1 x2 x3 x4 x5 x6 x7 HB1
      obtain ⟨x0, x1, x2, x3, x4, x5, x6, x7, -⟩ := (HX.out.keepF HON.out HK_2.out).open8
      have k12 := wint_f (OneB N) w.heap.size (w.heap.size + 1) xc _ W2 (HFW.out _ HK_2.out) HXW.out.2.2.1 (by have := HYL.out; have := HXL.out; simp only [List.length_append, List.length_singleton] at *; omega) HW_2.out
      have KC := Lib.hid k12
      clear k12
      go_wp2_with fail
      refine (KC.out).mono ?_
      rintro e W3 ⟨rfl, HW_3, HB_, HK_⟩
      have HK_3 := Lib.hid (HK_2.out.trans HK_.out)
      have HB3 := Lib.hid (Below.trans HB2.out HB_.out)
      clear KC HB_ HK_ HK_2 HW_2 x0 x1 x2 x3 x4 x5 x6 x7 HB2
      obtain ⟨x0, x1, x2, x3, x4, x5, x6, x7, -⟩ := (HX.out.keepF HON.out HK_3.out).open8
      have k13 := wint_f (OneB N) w.heap.size (w.heap.size + 1) xd _ W3 (HFW.out _ HK_3.out) HXW.out.2.2.2 (by have := HYL.out; have := HXL.out; simp only [List.length_append, List.length_singleton] at *; omega) HW_3.out
      have KC := Lib.hid k13
      clear k13
      go_wp2_with fail
      refine (KC.out).mono ?_
      rintro e W4 ⟨rfl, HW_4, HB_, HK_⟩
      have HK_4 := Lib.hid (HK_3.out.trans HK_.out)
      have HB4 := Lib.hid (Below.trans HB3.out HB_.out)
      clear KC HB_ HK_ HK_3 HW_3 x0 x1 x2 x3 x4 x5 x6 x7 HB3
      obtain ⟨x0, x1, x2, x3, x4, x5, x6, x7, -⟩ := (HX.out.keepF HON.out HK_4.out).open8
      have k14 := wbool_f (OneB N) w.heap.size (w.heap.size + 1) xp _ W4 (HFW.out _ HK_4.out) (by have := HYL.out; have := HXL.out; simp only [List.length_append, List.length_singleton] at *; omega) HW_4.out
      have KC := Lib.hid k14
      clear k14
      go_wp2_with fail
      refine (KC.out).mono ?_
      rintro e W5 ⟨rfl, HW_5, HB_, HK_⟩
      have HK_5 := Lib.hid (HK_4.out.trans HK_.out)
      have HB5 := Lib.hid (Below.trans HB4.out HB_.out)
      clear KC HB_ HK_ HK_4 HW_4 x0 x1 x2 x3 x4 x5 x6 x7 HB4
      obtain ⟨x0, x1, x2, x3, x4, x5, x6, x7, -⟩ := (HX.out.keepF HON.out HK_5.out).open8
      have k15 := wbool_f (OneB N) w.heap.size (w.heap.size + 1) xq _ W5 (HFW.out _ HK_5.out) (by have := HYL.out; have := HXL.out; simp only [List.length_append, List.length_singleton] at *; omega) HW_5.out
      have KC := Lib.hid k15
      clear k15
      go_wp2_with fail
      refine (KC.out).mono ?_
      rintro e W6 ⟨rfl, HW_6, HB_, HK_⟩
      have HK_6 := Lib.hid (HK_5.out.trans HK_.out)
      have HB6 := Lib.hid (Below.trans HB5.out HB_.out)
      clear KC HB_ HK_ HK_5 HW_5 x0 x1 x2 x3 x4 x5 x6 x7 HB5
      obtain ⟨x0, x1, x2, x3, x4, x5, x6, x7, -⟩ := (HX.out.keepF HON.out HK_6.out).open8
      have k16 := wbool_f (OneB N) w.heap.size (w.heap.size + 1) xr _ W6 (HFW.out _ HK_6.out) (by have := HYL.out; have := HXL.out; simp only [List.length_append, List.length_singleton] at *; omega) HW_6.out
      have KC := Lib.hid k16
      clear k16
      go_wp2_with fail
      refine (KC.out).mono ?_
      rintro e W7 ⟨rfl, HW_7, HB_, HK_⟩
      have HK_7 := Lib.hid (HK_6.out.trans HK_.out)
      have HB7 := Lib.hid (Below.trans HB6.out HB_.out)
      clear KC HB_ HK_ HK_6 HW_6 x0 x1 x2 x3 x4 x5 x6 x7 HB6
      obtain ⟨x0, x1, x2, x3, x4, x5, x6, x7, -⟩ := (HX.out.keepF HON.out HK_7.out).open8
      have k17 := wbool_f (OneB N) w.heap.size (w.heap.size + 1) xs' _ W7 (HFW.out _ HK_7.out) (by have := HYL.out; have := HXL.out; simp only [List.length_append, List.length_singleton] at *; omega) HW_7.out
      have KC := Lib.hid k17
      clear k17
      go_wp2_with fail
      refine (KC.out).mono ?_
      rintro e W8 ⟨rfl, HW_8, HB_, HK_⟩
      have HK_8 := Lib.hid (HK_7.out.trans HK_.out)
      have HB8 := Lib.hid (Below.trans HB7.out HB_.out)
      clear KC HB_ HK_ HK_7 HW_7 x0 x1 x2 x3 x4 x5 x6 x7 HB7
      have HWZ : Hid (WrF NoB w.heap.size (w.heap.size + 1) W8 (U ++ ivC.encL (xs.take (k + 1)))) := Lib.hid (by rw [hF2.out]; exact HW_8.out.mono fun k hk => hk.elim)
      clear HW_8 HK_8
      go_wp2
      go_roundw
      case rel => exact ⟨k + 1, by omega, by go_num, HWZ, HB8⟩
      case measure => simp [intOf]; omega
    · have hki : ¬ (k : Int) < n := by omega
      have k5 := K3.out wr _ (by rw [List.length_append]; have := HTL.out k; have := HZ.out; omega) hW.out
      rw [HFIN.out k (by omega)] at k5
      have K5 := Lib.hid k5
      clear k5
      go_wp2_with fail
      refine (K5.out).mono ?_
      rintro e w2 ⟨a2, n2, c2, rfl, HN2, O2, B2⟩
      go_wp2
      go_ret
      exact ⟨a2, n2, c2, rfl, HN2, Lib.hid (own_baseR O2.out hB.out.size), Lib.hid (Since.step hB.out B2.out)⟩

end Go.Proofs.Ytimbgjpjgbjnkaa

