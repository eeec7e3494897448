/- Rows: a whole slice appended to a slice of the call's own, empty ones too. -/
import Derived.Test.YtimbgjpjgbjnkaaRow
namespace Go.Proofs.Ytimbgjpjgbjnkaa
open Go.RowKit

/-- A slice of elements appended to a slice of the call's own: the law at the operation. -/
theorem push_els {P : Program} {ops : Array Oper} {rest : List Oper} {o : Oper} {act : Act} {Q : Exit → Act → World → Prop} {w : World} (hgd : o.guard = none) (s x : Operand) (t : TypeId)
    (ho : o.op = .call { callee := .builtin .append, args := #[s, x], argTypes := #[t, t] }) {α : Type} (R : RowOf α) (e : TypeId) (bytes : Nat) (z : Value) (ht : P.underlying t = some (.slice e))
    (info : (P.info? e).map (fun i => (i.zero, i.size, i.bytes)) = some (some z, R.k, bytes)) (hzc : z.cells.size = R.k) (hby : bytes ≤ 1000) (B : Nat) (v : Value) (xs ns : List α) (sv : Value)
    (hs : act.eval s = v) (hx : act.eval x = sv) (hown : ROwn R e B w v xs) (hE : REls R w sv ns) (hB : B ≤ w.heap.size) (hl : xs.length + ns.length ≤ 1000000000)
    (h : ∀ a n c w', Hid (n = xs.length + ns.length) → Hid (ROwn R e B w' (.slice a n c) (xs ++ ns)) → Hid (Below B w w') → wpList P ops Q rest (act.put o.dst (.slice a n c)) w') :
    wpList P ops Q (o :: rest) act w := by
  obtain ⟨i0, hi, hz0, hz1, hz2⟩ := info_parts info
  have fin : ∀ v' w', ROwn R e B w' v' (xs ++ ns) → Below B w w' → wpList P ops Q rest (act.put o.dst v') w' := by
    intro v' w' hO hb
    obtain ⟨a, n, c, rfl, hn, hO⟩ := hO.slice
    refine h a n c w' ?_ hO hb
    have := hn.out
    rw [List.length_append] at this
    exact this
  have some' : ∀ (ad : Addr) (c : Nat), sv = .slice (some ad) ns.length c → (∀ j u, (ns.flatMap R.cells)[j]? = some u → w.cell? (ad.add j) = some u) → wpList P ops Q (o :: rest) act w := by
    intro ad c hsv hcells
    subst hsv
    refine wpList_append_own_at _ hgd s x t ho B e i0 z R.k bytes ht hi hz0 hz1 hz2 hzc R.pos v xs.length _ hs hown ad ns.length c (ns.flatMap R.cells) hx (R.flat ns) hcells ?_ (by unfold maxLen; omega) ?_ hB ?_
    · intro u hu
      obtain ⟨t, _, hu⟩ := List.mem_flatMap.1 hu
      exact R.one t u hu
    · have : (xs.length + ns.length) * bytes ≤ (xs.length + ns.length) * 1000 := Nat.mul_le_mul_left _ hby
      omega
    · intro v' w1 hO hG _ _
      refine fin v' w1 ?_ ((Below.refl B w).grown hG hB fun j hj => (World.ownsRow.lt hown j hj).1)
      unfold ROwn
      rw [List.length_append, List.flatMap_append]
      exact hO
  rcases hE with ⟨rfl | ⟨ad, c, rfl⟩, rfl⟩ | ⟨b, cap, hb, rfl, hle, hc⟩
  · refine wpList_append_own_none hgd s x t ho B e i0 R.k ht hi v xs.length _ hs hown hx ?_
    exact fin v w (by rw [List.append_nil]; exact hown) (Below.refl B w)
  · exact some' ad c rfl (by simp)
  · refine some' ⟨b, 0, none⟩ cap rfl fun j u hu => ?_
    have h2 := REls.flat (w := w) (.inr ⟨b, cap, hb, rfl, hle, hc⟩ : REls R w (.slice (some ⟨b, 0, none⟩) ns.length cap) ns) j u hu
    have e : (⟨b, 0, none⟩ : Addr).add j = ⟨b, 0 + j, none⟩ := by by_cases h : j = 0 <;> simp [Addr.add, h]
    rw [e]
    exact h2

/-- A new slice without elements. -/
theorem ROwn.fresh {α : Type} (R : RowOf α) (E : TypeId) (w : World) : ROwn R E w.heap.size (w.alloc (.cells #[] E)) (.slice (some ⟨w.heap.size, 0, none⟩) 0 0) [] := ROwn.new R E w [] #[] rfl (by unfold maxLen; simp)

end Go.Proofs.Ytimbgjpjgbjnkaa
