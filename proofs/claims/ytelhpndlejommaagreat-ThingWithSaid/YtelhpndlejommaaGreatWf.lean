/- The writer's contracts, with blocks that it leaves alone. -/
import Derived.Test.YtelhpndlejommaaGreatWpure
import Derived.Maps.AppendAt
import Derived.Test.YtelhpndlejommaaGreatBoxl
namespace Go.Proofs.YtelhpndlejommaaGreat
open Go.RowKit Go.Shelf

/-- A value does not lie in these blocks. -/
def Far (F : Nat → Prop) (v : Value) : Prop := ∀ g, v.ownBlock = some g → ¬ F g

/-- These blocks stay as they are. -/
def KeepF (F : Nat → Prop) (w w' : World) : Prop := w.heap.size ≤ w'.heap.size ∧ ∀ k, F k → k < w.heap.size → w'.heap[k]? = w.heap[k]?

theorem KeepF.refl (F : Nat → Prop) (w : World) : KeepF F w w := ⟨Nat.le_refl _, fun _ _ _ => rfl⟩

theorem KeepF.trans {F : Nat → Prop} {a b c : World} (h : KeepF F a b) (k : KeepF F b c) : KeepF F a c :=
  ⟨Nat.le_trans h.1 k.1, fun j hj hl => (k.2 j hj (Nat.lt_of_lt_of_le hl h.1)).trans (h.2 j hj hl)⟩

theorem KeepF.mono {F G : Nat → Prop} {a b : World} (h : KeepF F a b) (hg : ∀ k, G k → F k) : KeepF G a b := ⟨h.1, fun k hk => h.2 k (hg k hk)⟩

theorem KeepF.of_below {F : Nat → Prop} {a b : World} (h : Below a.heap.size a b) : KeepF F a b := ⟨h.size, fun k _ hl => h.block k hl⟩

theorem KeepF.set {F : Nat → Prop} {a b : World} {p o : Nat} {v : Value} (h : KeepF F a b) (hp : ¬ F p) : KeepF F a (b.setCell ⟨p, o, none⟩ v) :=
  ⟨by rw [World.size_setCell]; exact h.1, fun k hk hl => (Below.heap_setCell _ _ _ _ (fun (e : k = p) => hp (e ▸ hk))).trans (h.2 k hk hl)⟩

theorem BoxL.keepF {W w1 : World} {N : Nat} {vs : List Value} {F : Nat → Prop} (h : BoxL N vs W) (hF : F N) (hb : KeepF F W w1) : BoxL N vs w1 := by
  have hk := hb.2 N hF h.1
  refine ⟨Nat.lt_of_lt_of_le h.1 hb.1, fun k x hx => ?_⟩
  obtain ⟨h1, h2⟩ := h.2 k x hx
  exact ⟨(cell_of_block hk k).trans h1, by rw [← h2]; unfold World.frozen?; simp only [hk]⟩

/-- One element appended to a slice of the call's own: the law at the operation, with what it leaves alone. -/
theorem push_own_f {P : Program} {ops : Array Oper} {rest : List Oper} {o : Oper} {act : Act} {Q : Exit → Act → World → Prop} {w : World} (hgd : o.guard = none) (s x : Operand) (t : TypeId)
    (ho : o.op = .call { callee := .builtin .append, args := #[s, x], argTypes := #[t, t] }) (k : IntKind) (e : TypeId) (bytes : Nat) (ht : P.underlying t = some (.slice e))
    (info : (P.info? e).map (fun i => (i.zero, i.size, i.bytes)) = some (some (.int k 0), 1, bytes)) (hby : bytes ≤ 8) (B : Nat) (v : Value) (zs : List Int) (z : Int) (T : TypeId)
    (hs : act.eval s = v) (hx : act.eval x = .slice (some ⟨w.heap.size, 0, none⟩) 1 1) (hown : Own k e B w v zs) (hB : B ≤ w.heap.size) (hl : zs.length ≤ 1000000000000)
    (h : ∀ a n c w', Hid (n = zs.length + 1) → Hid (Own k e B w' (.slice a n c) (zs ++ [z])) → Hid (Below B w w') → Hid (∀ F : Nat → Prop, (∀ k, F k → k < w.heap.size) → Far F v → KeepF F w w' ∧ Far F (.slice a n c)) → wpList P ops Q rest (act.put o.dst (.slice a n c)) w') :
    wpList P ops Q (o :: rest) act (w.alloc (.cells #[.int k z] T)) := by
  obtain ⟨i0, hi, hz0, hz1, hz2⟩ := info_parts info
  refine wpList_append_own_at _ hgd s x t ho B e i0 (.int k 0) 1 bytes ht hi hz0 hz1 hz2 rfl (by decide) v zs.length _ hs (hown.alloc _) ⟨w.heap.size, 0, none⟩ 1 1 [.int k z] hx rfl (one_new _ _ _) (by simp [Value.oneCell']) (by unfold maxLen; omega) ?_ (by simp; omega) ?_
  · have : (zs.length + 1) * bytes ≤ (zs.length + 1) * 8 := Nat.mul_le_mul_left _ hby
    omega
  · intro v' w1 hown' hgrow _ hat
    obtain ⟨a, n, c, rfl, hn, hO⟩ := Own.slice (Own.more hown')
    refine h a n c w1 ?_ hO (((Below.refl B w).alloc hB _).grown hgrow (by simp; omega) fun j hj => hown.lt j hj) ?_
    · have := hn.out
      rw [List.length_append] at this
      exact this
    · intro F hF hv
      have hsz := hgrow.size
      simp only [World.size_alloc] at hsz
      refine ⟨⟨by omega, fun j hj hl => ?_⟩, fun g hg hFg => ?_⟩
      · exact (hgrow.block j (by simp; omega) (fun e => hv j e.symm hj)).trans (Below.heap_alloc _ _ _ hl)
      · rcases hat with e | e
        · rw [e] at hg; exact hv g hg hFg
        · rw [e] at hg
          injection hg with hg
          have := hF g hFg
          simp at hg
          omega

/-- A writer in box p, with blocks that it leaves alone. -/
def WrF (F : Nat → Prop) (p B : Nat) (w : World) (zs : List Int) : Prop :=
  ∃ v T, p < B ∧ B ≤ w.heap.size ∧ w.heap[p]? = some (.cells #[v] T (0, 0)) ∧ Own .u8 5 B w v zs ∧ ¬ F p ∧ Far F v

theorem WrF.wr {F : Nat → Prop} {p B : Nat} {w : World} {zs : List Int} (h : WrF F p B w zs) : Wr p B w zs := by
  obtain ⟨v, T, h1, h2, h3, h4, _⟩ := h
  exact ⟨v, T, h1, h2, h3, h4⟩

theorem WrF.open {F : Nat → Prop} {p B : Nat} {w : World} {zs : List Int} (h : WrF F p B w zs) :
    ∃ a n c, w.cell? ⟨p, 0, none⟩ = some (.slice a n c) ∧ w.frozen? ⟨p, 0, none⟩ = false ∧ Hid (n = zs.length) ∧ Hid (Own .u8 5 B w (.slice a n c) zs) ∧ Hid (¬ F p ∧ Far F (.slice a n c)) := by
  obtain ⟨v, T, hp, hB, hb, hO, hF⟩ := h
  obtain ⟨a, n, c, rfl, hn, hO⟩ := hO.slice
  exact ⟨a, n, c, cell_of_one hb, free_of_one hb, hn, hO, hF⟩

theorem WrF.put {F : Nat → Prop} {p B : Nat} {w w' : World} {zs ys : List Int} {v : Value} (h : WrF F p B w zs) (hB : Below B w w') (hO : Own .u8 5 B w' v ys) (hv : Far F v) : WrF F p B (w'.setCell ⟨p, 0, none⟩ v) ys := by
  obtain ⟨v0, T0, h1, h2, h3, h4, hp, _⟩ := h
  obtain ⟨v2, T, k1, k2, k3, k4⟩ := Wr.put ⟨v0, T0, h1, h2, h3, h4⟩ hB hO
  obtain ⟨u, T', -, -, e, -⟩ := (⟨v0, T0, h1, h2, h3, h4⟩ : Wr p B w zs)
  have hc := cell_of_one k3
  have hl : p < w'.heap.size := by have := hB.size; omega
  have e2 : (w'.setCell ⟨p, 0, none⟩ v).heap[p]? = some (.cells #[v] T0 (0, 0)) := one_setCell ((hB.block p h1).trans h3)
  rw [e2] at k3
  injection k3 with k3
  injection k3 with k3
  injection k3 with k3
  simp only [List.cons.injEq, and_true] at k3
  subst k3
  exact ⟨v, T0, k1, k2, e2, k4, hp, hv⟩

theorem WrF.new (w : World) (T : TypeId) {F : Nat → Prop} (hF : ∀ k, F k → k < w.heap.size) : WrF F w.heap.size (w.heap.size + 1) (w.alloc (.cells #[.slice none 0 0] T)) [] :=
  ⟨_, T, Nat.lt_succ_self _, by simp, World.alloc_heap_new w _, World.ownsRow_nil _ _ _ _, fun h => by have := hF _ h; omega, fun g hg => by cases hg⟩

/-- A new block that is to be left alone. -/
theorem WrF.under {F : Nat → Prop} {p B : Nat} {w : World} {zs : List Int} (h : WrF F p B w zs) (o : Obj) : WrF (fun k => F k ∨ k = w.heap.size) p B (w.alloc o) zs := by
  obtain ⟨v, T, h1, h2, h3, h4, hp, hv⟩ := h
  obtain ⟨v2, T2, k1, k2, k3, k4⟩ := Wr.below (⟨v, T, h1, h2, h3, h4⟩ : Wr p B w zs) ((Below.refl _ _).alloc (Nat.le_refl _) o)
  have hl : p < w.heap.size := (Array.getElem?_eq_some_iff.1 h3).1
  rw [Below.heap_alloc _ _ _ hl, h3] at k3
  injection k3 with k3
  injection k3 with k3
  injection k3 with k3
  simp only [List.cons.injEq, and_true] at k3
  subst k3
  refine ⟨v, T, k1, k2, (Below.heap_alloc _ _ _ hl).trans h3, k4, fun h => ?_, fun g hg hFg => ?_⟩
  · rcases h with h | h
    · exact hp h
    · omega
  · rcases hFg with h | h
    · exact hv g hg h
    · have := (World.ownsRow.lt h4 g hg).2
      omega

theorem WrF.mono {F G : Nat → Prop} {p B : Nat} {w : World} {zs : List Int} (h : WrF F p B w zs) (hg : ∀ k, G k → F k) : WrF G p B w zs := by
  obtain ⟨v, T, h1, h2, h3, h4, hp, hv⟩ := h
  exact ⟨v, T, h1, h2, h3, h4, fun h => hp (hg _ h), fun g e h => hv g e (hg _ h)⟩

theorem WrF.below {F : Nat → Prop} {p B : Nat} {w w' : World} {zs : List Int} (h : WrF F p B w zs) (hB : Below w.heap.size w w') : WrF F p B w' zs := by
  obtain ⟨v, T, h1, h2, h3, h4, hp, hv⟩ := h
  obtain ⟨v2, T2, k1, k2, k3, k4⟩ := Wr.below (⟨v, T, h1, h2, h3, h4⟩ : Wr p B w zs) hB
  have hl : p < w.heap.size := (Array.getElem?_eq_some_iff.1 h3).1
  rw [hB.block p hl, h3] at k3
  injection k3 with k3
  injection k3 with k3
  injection k3 with k3
  simp only [List.cons.injEq, and_true] at k3
  subst k3
  exact ⟨v, T, k1, k2, (hB.block p hl).trans h3, k4, hp, hv⟩

/-- What a method of the writer leaves. -/
def WOut (F : Nat → Prop) (p B : Nat) (zs : List Int) (w : World) (e : Ending) (w' : World) : Prop := e = .returned (.tuple #[]) ∧ Hid (WrF F p B w' zs) ∧ Hid (Below p w w') ∧ Hid (KeepF F w w')

set_option maxRecDepth 100000 in
set_option maxHeartbeats 1000000 in
theorem wuint_f (F : Nat → Prop) (p B n : Nat) (zs : List Int) (w : World) (hF : ∀ k, F k → k < w.heap.size) (hn : n < 18446744073709551616) (hz : zs.length ≤ 100000000000) (h : WrF F p B w zs) :
    Calls Tryz.prog 108 #[.pointer (some ⟨p, 0, none⟩), .int .u64 n] w (WOut F p B (zs ++ Hm.uv n) w) := by
  have HH := Lib.hid h
  have hl := Hm.uv_len hn
  have HL := Lib.hid hl
  have HI := Lib.hid Tryz.infoU8
  have HN := Lib.hid hn
  have HZ := Lib.hid hz
  have HF := Lib.hid hF
  clear h hl hn hz hF
  go_enter Tryz.func108, Tryz.ntmps108
  go_wp2
  go_loopw [1] (fun v wr => ∃ m : Nat, ∃ acc : List Int, Hid (m < 18446744073709551616) ∧ v = .int .u64 m ∧ Hid (acc ++ Hm.uv m = Hm.uv n) ∧ Hid (WrF F p B wr (zs ++ acc)) ∧ Hid (Below p w wr) ∧ Hid (KeepF F w wr)) (fun v _ => (intOf v).toNat)
  case atStart => exact ⟨n, [], HN, rfl, rfl, Lib.hid (by rw [List.append_nil]; exact HH.out), Below.refl _ _, Lib.hid (KeepF.refl _ _)⟩
  case round =>
    obtain ⟨m, acc, hm, rfl, hacc, hW, hB, hK⟩ := hrel
    have hlen := Lib.hid (show (zs ++ acc).length ≤ 1000000000000 by have h1 := congrArg List.length hacc.out; have h2 := HL.out; have h3 := HZ.out; rw [List.length_append] at h1 ⊢; omega)
    obtain ⟨a, l, c, hc, hf, hln, hO, hFF⟩ := hW.out.open
    have hpB := hW.out.wr.lt
    obtain ⟨hpB, hBw⟩ := hpB
    have HF2 : Hid (∀ k, F k → k < wr.heap.size) := fun k hk => Nat.lt_of_lt_of_le (HF.out k hk) hK.out.1
    by_cases hlt : 128 ≤ m
    · have hlt2 : (128 : Int) ≤ m := by omega
      go_wp2_with (at_builtin; refine push_own_f rfl _ _ 49 rfl .u8 5 1 Tryz.underlying49 HI.out (by decide) B (.slice a l c) (zs ++ acc) _ _ rfl rfl hO.out hBw (by have := hlen.out; omega) ?_; intro a2 n2 c2 w2 hn2 hO2 hB2 hK2; obtain ⟨hc2, hf2⟩ := hW.out.wr.there hB2.out hc hf)
      have hk3 := hK2.out F HF2.out hFF.out.2
      go_roundw
      case rel => exact ⟨m / 128, acc ++ [((m % 128 + 128 : Nat) : Int)], (by have := hm.out; show _ < _; omega), by go_num, (by show _ = _; rw [List.append_assoc, List.singleton_append, ← Hm.uv_big hlt]; exact hacc.out), (by have := hW.out.put hB2.out hO2.out hk3.2; rw [or128, List.append_assoc] at this; exact this), hB.out.trans (below_put (by omega) hB2.out), Lib.hid (hK.out.trans (hk3.1.set hFF.out.1))⟩
      case measure => simp [intOf]; omega
    · have hlt2 : (m : Int) < 128 := by omega
      go_wp2_with (at_builtin; refine push_own_f rfl _ _ 49 rfl .u8 5 1 Tryz.underlying49 HI.out (by decide) B (.slice a l c) (zs ++ acc) _ _ rfl rfl hO.out hBw (by have := hlen.out; omega) ?_; intro a2 n2 c2 w2 hn2 hO2 hB2 hK2; obtain ⟨hc2, hf2⟩ := hW.out.wr.there hB2.out hc hf)
      have hk3 := hK2.out F HF2.out hFF.out.2
      go_end0
      have hO3 := hO2.out
      have e8 : (m : Int) % 256 = (m : Int) := by omega
      have e2 := hacc.out
      rw [Hm.uv_small (by omega)] at e2
      refine ⟨rfl, ?_, hB.out.trans (below_put (by omega) hB2.out), Lib.hid (hK.out.trans (hk3.1.set hFF.out.1))⟩
      show WrF _ _ _ _ _
      rw [← e2]
      first | rw [e8] at hO3 | skip
      rw [List.append_assoc] at hO3
      exact hW.out.put hB2.out hO3 hk3.2

set_option maxRecDepth 100000 in
set_option maxHeartbeats 1000000 in
theorem wint_f (F : Nat → Prop) (p B : Nat) (n : Int) (zs : List Int) (w : World) (hF : ∀ k, F k → k < w.heap.size) (hn : -9223372036854775808 ≤ n ∧ n ≤ 9223372036854775807) (hz : zs.length ≤ 90000000000) (h : WrF F p B w zs) :
    Calls Tryz.prog 73 #[.pointer (some ⟨p, 0, none⟩), .int .i64 n] w (WOut F p B (zs ++ Hm.uv (Hm.zig n)) w) := by
  have K := Lib.hid (wuint_f F p B (Hm.zig n) zs w hF (Hm.zig_lt hn) (by omega) h)
  rw [← zig_spelt n hn] at K
  obtain ⟨hn1, hn2⟩ := hn
  clear h hz hF
  go_enter Tryz.func73, Tryz.ntmps73
  go_wp2_with fail
  (with_reducible refine K.out.mono ?_)
  rintro e w1 ⟨rfl, hW1, hB1, hK1⟩
  go_wp2_with fail
  go_end0
  exact ⟨rfl, hW1, hB1, hK1⟩

set_option maxRecDepth 100000 in
set_option maxHeartbeats 1000000 in
theorem wints_f (F : Nat → Prop) (p B : Nat) (a : Option Addr) (n c : Nat) (ys zs : List Int) (w : World) (hF : ∀ k, F k → k < w.heap.size) (hz : zs.length ≤ 80000000000) (hs : ys.length ≤ 1000000) (hwf : ∀ z ∈ ys, (Lit.int .i64 z).wf = true) (hE : Els .i64 w (.slice a n c) ys) (h : WrF F p B w zs) (hlow : LowEls p (.slice a n c)) :
    Calls Tryz.prog 72 #[.pointer (some ⟨p, 0, none⟩), .slice a n c] w (WOut F p B (zs ++ (Hm.uv ys.length ++ encs ys)) w) := by
  have hln0 := hE.len
  subst hln0
  have HZ := Lib.hid hz
  have HL := Lib.hid (Hm.uv_len (n := ys.length) (by omega))
  have HE := Lib.hid hE
  have HWF := Lib.hid hwf
  have HLO := Lib.hid hlow
  have HF := Lib.hid hF
  have K := Lib.hid (wuint_f F p B ys.length zs w hF (by omega) (by omega) h)
  clear h hz hE hlow hwf hF
  obtain ⟨m, hm⟩ : ∃ m, m = ys.length := ⟨_, rfl⟩
  rw [← hm] at hs K ⊢
  have HM := Lib.hid hm
  clear hm
  go_enter Tryz.func72, Tryz.ntmps72
  go_wp2_with fail
  (with_reducible refine K.out.mono ?_)
  rintro e w1 ⟨rfl, hW1, hB1, hK1⟩
  go_wp2_with fail
  go_loopw [13] (fun v wr => ∃ k : Nat, k ≤ m ∧ v = .int .i64 k ∧ Hid (WrF F p B wr (zs ++ (Hm.uv m ++ encs (ys.take k)))) ∧ Hid (Below p w wr) ∧ Hid (KeepF F w wr)) (fun v _ => m - (intOf v).toNat)
  case atStart => exact ⟨0, Nat.zero_le _, rfl, by show WrF _ _ _ _ _; simpa [encs] using hW1.out, hB1, hK1⟩
  case round =>
    obtain ⟨k, hk, rfl, hW, hB, hK⟩ := hrel
    by_cases hlt : k < m
    · have hE2 := HE.out.low HLO.out hB.out
      rw [← HM.out] at hE2
      obtain ⟨b, off, rfl, hcx⟩ := hE2.at k hlt
      have hx := wf_at HWF.out k
      have hst := Lib.hid (take_snoc' ys k (by rw [← HM.out]; exact hlt))
      have hlen : (zs ++ (Hm.uv m ++ encs (ys.take k))).length ≤ 90000000000 := by
        have h1 := HZ.out
        have h2 := HL.out
        have h3 := encs_len (ys.take k) fun z hz => HWF.out z (List.mem_of_mem_take hz)
        have h4 : (ys.take k).length ≤ m := by rw [List.length_take]; have := HM.out; omega
        rw [← HM.out] at h2
        rw [List.length_append, List.length_append]
        omega
      have K2 := Lib.hid (wint_f F p B (ys[k]?.getD 0) _ wr (fun k hk => Nat.lt_of_lt_of_le (HF.out k hk) hK.out.1) hx hlen hW.out)
      clear hE2 hlen hx
      go_wp2_with fail
      (with_reducible refine K2.out.mono ?_)
      rintro e w2 ⟨rfl, hW2, hB2, hK2⟩
      have HB2 := Lib.hid (hB.out.trans hB2.out)
      have HK2 := Lib.hid (hK.out.trans hK2.out)
      go_wp2_with fail
      go_roundw
      case rel => exact ⟨k + 1, by omega, by go_num, by show WrF _ _ _ _ _; rw [hst.out, encs_snoc]; simpa only [List.append_assoc] using hW2.out, HB2, HK2⟩
      case measure => simp [intOf]; omega
    · have hge : k = m := by omega
      subst hge
      go_wp2_with fail
      go_end0
      refine ⟨rfl, ?_, hB, hK⟩
      have := hW.out
      rw [HM.out, List.take_length, ← HM.out] at this
      exact Lib.hid this

end Go.Proofs.YtelhpndlejommaaGreat
