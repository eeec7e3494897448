/- Appends to a slice of the call's own, with blocks that they leave alone. -/
import Derived.Test.YtelhpndlejommaaGreatWf
namespace Go.Proofs.YtelhpndlejommaaGreat
open Go.RowKit Go.Shelf

theorem far_grown {F : Nat → Prop} {w w1 : World} {v v' : Value} (hF : ∀ k, F k → k < w.heap.size) (hv : Far F v) (hgrow : w.grownBy w1 v.ownBlock) (hat : v'.ownBlock = v.ownBlock ∨ v'.ownBlock = some w.heap.size) : KeepF F w w1 ∧ Far F v' := by
  refine ⟨⟨hgrow.size, fun j hj hl => hgrow.block j hl (fun e => hv j e.symm hj)⟩, fun g hg hFg => ?_⟩
  rcases hat with e | e
  · rw [e] at hg; exact hv g hg hFg
  · rw [e] at hg
    injection hg with hg
    have := hF g hFg
    omega

/-- A readable slice appended to a slice of the call's own: the law at the operation, with what it leaves alone. -/
theorem push_all_f {P : Program} {ops : Array Oper} {rest : List Oper} {o : Oper} {act : Act} {Q : Exit → Act → World → Prop} {w : World} (hgd : o.guard = none) (s x : Operand) (t : TypeId)
    (ho : o.op = .call { callee := .builtin .append, args := #[s, x], argTypes := #[t, t] }) (k : IntKind) (e : TypeId) (bytes : Nat) (ht : P.underlying t = some (.slice e))
    (info : (P.info? e).map (fun i => (i.zero, i.size, i.bytes)) = some (some (.int k 0), 1, bytes)) (hby : bytes ≤ 8) (B : Nat) (v : Value) (zs : List Int) (sv : Value) (ys : List Int)
    (hs : act.eval s = v) (hx : act.eval x = sv) (hown : Own k e B w v zs) (hE : Els k w sv ys) (hB : B ≤ w.heap.size) (hl : zs.length + ys.length ≤ 1000000000000)
    (h : ∀ a n c w', Hid (n = zs.length + ys.length) → Hid (Own k e B w' (.slice a n c) (zs ++ ys)) → Hid (Below B w w') → Hid (∀ F : Nat → Prop, (∀ k, F k → k < w.heap.size) → Far F v → KeepF F w w' ∧ Far F (.slice a n c)) → wpList P ops Q rest (act.put o.dst (.slice a n c)) w') :
    wpList P ops Q (o :: rest) act w := by
  obtain ⟨i0, hi, hz0, hz1, hz2⟩ := info_parts info
  have fin : ∀ v' w', Own k e B w' v' (zs ++ ys) → Below B w w' → (∀ F : Nat → Prop, (∀ k, F k → k < w.heap.size) → Far F v → KeepF F w w' ∧ Far F v') → wpList P ops Q rest (act.put o.dst v') w' := by
    intro v' w' hO hb hk
    obtain ⟨a, n, c, rfl, hn, hO⟩ := Own.slice hO
    refine h a n c w' ?_ hO hb hk
    have := hn.out
    rw [List.length_append] at this
    exact this
  have some' : ∀ (ad : Addr) (c : Nat), sv = .slice (some ad) ys.length c → (∀ j u, (ys.map (Value.int k))[j]? = some u → w.cell? (ad.add j) = some u) → wpList P ops Q (o :: rest) act w := by
    intro ad c hsv hcells
    subst hsv
    have hmul : (zs.length + ys.length) * bytes ≤ (zs.length + ys.length) * 8 := Nat.mul_le_mul_left _ hby
    refine wpList_append_own_at _ hgd s x t ho B e i0 (.int k 0) 1 bytes ht hi hz0 hz1 hz2 rfl (by decide) v zs.length _ hs hown ad ys.length c (ys.map (Value.int k)) hx (by simp) hcells (ints_oneCell k ys) (by unfold maxLen; omega) (by omega) hB ?_
    intro v' w1 hown' hgrow _ hat
    refine fin v' w1 ?_ ((Below.refl B w).grown hgrow hB fun j hj => hown.lt j hj) (fun F hF hv => far_grown hF hv hgrow hat)
    unfold Own
    rw [List.length_append, List.map_append]
    exact hown'
  rcases hE with ⟨rfl | ⟨ad, c, rfl⟩, rfl⟩ | ⟨b, off, cap, hb, rfl, hle, hc⟩
  · refine wpList_append_own_none hgd s x t ho B e i0 1 ht hi v zs.length _ hs hown hx ?_
    exact fin v w (by rw [List.append_nil]; exact hown) (Below.refl B w) (fun F hF hv => ⟨KeepF.refl F w, hv⟩)
  · exact some' ad c rfl (by simp)
  · refine some' ⟨b, off, none⟩ cap rfl ?_
    have := news_at (k := k) (w := w) (b := b) (off := off) (zs := ys) (Nat.le_refl _) hc
    rw [List.take_length] at this
    exact this

/-- What a call that makes a slice of numbers leaves: it leaves alone what lay. -/
theorem Makes.keep {k : IntKind} {E : TypeId} {zs : List Int} {w w' : World} {e : Ending} (h : Makes k E zs w e w') : ∃ a n c, e = .returned (.slice a n c) ∧ Els k w' (.slice a n c) zs ∧ Below w.heap.size w w' := by
  obtain ⟨a, n, c, rfl, hn, hO, hB⟩ := h
  exact ⟨a, n, c, rfl, hO.out.els, hB.out⟩

end Go.Proofs.YtelhpndlejommaaGreat
