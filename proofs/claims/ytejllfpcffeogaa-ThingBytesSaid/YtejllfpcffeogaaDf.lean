/- What the law ThingBytes wants of bytes: the writer's Raw, tables of bytes, Decode of an encoding and of any bytes. -/
import Derived.Test.YtejllfpcffeogaaDe
import Derived.Test.YtejllfpcffeogaaDb
import Derived.Test.YtejllfpcffeogaaDd
import Derived.Test.YtejllfpcffeogaaCe
import Derived.Test.YtejllfpcffeogaaStp
import Derived.Test.YtejllfpcffeogaaZe
namespace Go.Proofs.Ytejllfpcffeogaa
open Go.RowKit Go.Shelf

theorem grown_at {p B : Nat} {a b : World} (h : a.grownBy b (some p)) (hB : B ≤ p) (hs : B ≤ a.heap.size) : Below B a b := (Below.refl B a).grown h hs (fun k e => by cases e; exact hB)

/-- A new writer, after a call that leaves it alone. -/
theorem WrF.fresh {w2 w4 : World} {T : TypeId} {F : Nat → Prop} (hB : Since (w2.alloc (.cells #[.slice none 0 0] T)) w4) (hF : ¬ F w2.heap.size) : WrF F w2.heap.size (w2.heap.size + 1) w4 [] :=
  ⟨.slice none 0 0, T, Nat.lt_succ_self _, by have := hB.size; simp at this; omega, (hB.block _ (by simp)).trans (World.alloc_heap_new w2 _), World.ownsRow_nil _ _ _ _, hF, fun g hg => by cases hg⟩

set_option maxRecDepth 100000 in
set_option maxHeartbeats 1000000 in
theorem wraw_f (F : Nat → Prop) (p B B0 : Nat) (a : Option Addr) (n c : Nat) (ys zs : List Int) (w : World) (hF : ∀ k, F k → k < w.heap.size) (hz : zs.length ≤ 90000000000) (hs : ys.length ≤ 1000000) (hE : Own .u8 5 B0 w (.slice a n c) ys) (h : WrF F p B w zs) (hf : ∀ g, (Value.slice a n c).ownBlock = some g → F g) :
    Calls Try.prog 23 #[.pointer (some ⟨p, 0, none⟩), .slice a n c] w (WOut F p B (zs ++ (Hm.uv ys.length ++ ys)) w) := by
  have HI := Lib.hid Try.infoU8
  have HZ := Lib.hid hz
  have HS := Lib.hid hs
  have HF := Lib.hid hF
  have HFF := Lib.hid hf
  have hln0 := hE.els.len
  subst hln0
  have HL := Lib.hid (Hm.uv_len (n := ys.length) (by omega))
  have HE := Lib.hid hE
  have K := Lib.hid (wuint_f F p B ys.length zs w hF (by omega) (by omega) h)
  clear h hz hE hF hf
  go_enter Try.func23, Try.ntmps23
  go_wp2_with fail
  (with_reducible refine K.out.mono ?_)
  rintro e w1 ⟨rfl, hW1, hB1, hK1⟩
  have HE1 := Lib.hid (own_keepF HE.out (hK1.out.mono HFF.out))
  obtain ⟨a1, l1, c1, hc, hfz, hln, hO, hFar⟩ := hW1.out.open
  obtain ⟨hpB, hBw⟩ := hW1.out.wr.lt
  go_wp2_with (at_builtin; refine push_all_f rfl _ _ 39 rfl .u8 5 1 Try.underlying39 HI.out (by decide) B (.slice a1 l1 c1) (zs ++ Hm.uv ys.length) (.slice a ys.length c) ys rfl rfl hO.out HE1.out.els hBw (by have h1 := HZ.out; have h2 := HS.out; have h3 := HL.out; rw [List.length_append]; omega) ?_; intro a2 n2 c2 w2 hn2 hO2 hB2 hK2; obtain ⟨hc2, hf2⟩ := hW1.out.wr.there hB2.out hc hfz)
  have hk3 := hK2.out F (fun k hk => Nat.lt_of_lt_of_le (HF.out k hk) hK1.out.1) hFar.out.2
  go_end0
  refine ⟨rfl, ?_, Lib.hid (hB1.out.trans (below_put (by omega) hB2.out)), Lib.hid (hK1.out.trans (hk3.1.set hFar.out.1))⟩
  rw [← List.append_assoc]
  exact Lib.hid (hW1.out.put hB2.out hO2.out hk3.2)

/-- A new slice of one byte. -/
theorem own_one (w : World) (E : TypeId) (B g : Nat) (c : Int) (hg : w.heap.size = g) (hB : B ≤ w.heap.size) : Own .u8 E B (w.alloc (.cells #[.int .u8 c] E)) (.slice (some ⟨g, 0, none⟩) 1 1) [c] := by
  subst hg
  refine ⟨by simp, .inr ⟨w.heap.size, 1, _, rfl, hB, heap_new w _, Nat.le_refl _, by unfold maxLen; omega, by simp, ?_⟩⟩
  simp

/-- Slices of the call's own, one made after the other, lie apart. -/
theorem own_apart {k : IntKind} {E E2 : TypeId} {B B2 : Nat} {w w2 : World} {v v2 : Value} {zs zs2 : List Int} (h : Own k E B w v zs) (hB : w.heap.size ≤ B2) (h2 : Own k E2 B2 w2 v2 zs2) : ∀ g, v.ownBlock = some g → v2.ownBlock ≠ some g := fun g hg hg2 => by
  have h3 := (World.ownsRow.lt h g hg).2
  have h4 := (World.ownsRow.lt h2 g hg2).1
  omega

/-- An append leaves alone a slice that lies apart. -/
theorem own_past {E : TypeId} {B5 : Nat} {w w' : World} {v va vn : Value} {zs : List Int} (hO : Own .u8 E B5 w v zs) (hK : ∀ F : Nat → Prop, (∀ k, F k → k < w.heap.size) → Far F va → KeepF F w w' ∧ Far F vn) (hf : ∀ g, v.ownBlock = some g → va.ownBlock ≠ some g) : Own .u8 E B5 w' v zs ∧ (∀ g, v.ownBlock = some g → vn.ownBlock ≠ some g) := by
  have h := hK (fun g => v.ownBlock = some g) (fun k hk => (World.ownsRow.lt hO k hk).2) (fun g hg hf2 => hf g hf2 hg)
  exact ⟨own_keepF hO h.1, fun g hg h2 => h.2 g h2 hg⟩

theorem sym_apart {v v2 : Value} (h : ∀ g, v.ownBlock = some g → v2.ownBlock ≠ some g) : ∀ g, v2.ownBlock = some g → v.ownBlock ≠ some g := fun g h1 h2 => h g h2 h1

/-- A slice of good bytes. -/
def GoodT (W : World) (v : Value) : Prop := ∃ zs, Els .u8 W v zs ∧ Hm.Byt zs ∧ zs.length ≤ 1000000

theorem GoodT.below {w W : World} {v : Value} (h : GoodT w v) (hB : Below w.heap.size w W) : GoodT W v := by
  obtain ⟨zs, h1, h2, h3⟩ := h
  exact ⟨zs, h1.below hB, h2, h3⟩

/-- A table of four slices of bytes. -/
def TTab (w : World) (v : Value) (W : World) : Prop := ∃ G, v = .slice (some ⟨G, 0, none⟩) 4 4 ∧ Since w W ∧ ∀ k, k < 4 → ∃ a n c zs, W.cell? ⟨G, k, none⟩ = some (.slice a n c) ∧ Els .u8 W (.slice a n c) zs ∧ Hm.Byt zs ∧ zs.length ≤ 1000000

theorem ttab_of {w W : World} {a b c d : Value} (T : TypeId) (hW : Since w W) (ha : GoodT W a) (hb : GoodT W b) (hc : GoodT W c) (hd : GoodT W d) (g : Nat) (hg : W.heap.size = g) : TTab w (.slice (some ⟨g, 0, none⟩) 4 4) (W.alloc (.cells #[a, b, c, d] T)) := by
  subst hg
  have hB := (Below.refl W.heap.size W).alloc (Nat.le_refl _) (.cells #[a, b, c, d] T)
  have hn := heap_new W (.cells #[a, b, c, d] T)
  have one : ∀ v : Value, GoodT W v → ∃ a' n' c' zs, v = .slice a' n' c' ∧ Els .u8 (W.alloc (.cells #[a, b, c, d] T)) (.slice a' n' c') zs ∧ Hm.Byt zs ∧ zs.length ≤ 1000000 := fun v h => by
    obtain ⟨zs, h1, h2, h3⟩ := h
    obtain ⟨x, y, rfl⟩ := h1.shape
    exact ⟨x, _, y, zs, rfl, h1.below hB, h2, h3⟩
  refine ⟨W.heap.size, rfl, Since.step hW hB, fun k hk => ?_⟩
  match k with
  | 0 => obtain ⟨x, y, z, zs, rfl, h⟩ := one a ha; exact ⟨x, y, z, zs, by unfold World.cell?; simp only [hn]; rfl, h⟩
  | 1 => obtain ⟨x, y, z, zs, rfl, h⟩ := one b hb; exact ⟨x, y, z, zs, by unfold World.cell?; simp only [hn]; rfl, h⟩
  | 2 => obtain ⟨x, y, z, zs, rfl, h⟩ := one c hc; exact ⟨x, y, z, zs, by unfold World.cell?; simp only [hn]; rfl, h⟩
  | 3 => obtain ⟨x, y, z, zs, rfl, h⟩ := one d hd; exact ⟨x, y, z, zs, by unfold World.cell?; simp only [hn]; rfl, h⟩
  | n + 4 => omega

/-- The empty thing. -/
theorem tat_nil (B : Nat) (w : World) : TAt B w (.mk [] [] []) (.slice none 0 0) (.slice none 0 0) (.slice none 0 0) :=
  TAt.of els_nil (.inl (.inl rfl)) (.inl ⟨.inl rfl, rfl⟩) (.inl (.inl rfl)) (.inl ⟨.inl rfl, rfl⟩)

theorem nil_wf : (Th.mk [] [] []).wf := (Th.wf_eq _).2 ⟨⟨⟨(fun z hz => by cases hz), Nat.zero_le _⟩, (fun z hz => by cases hz), Nat.zero_le _⟩, (fun z hz => by cases hz)⟩

/-- What Decode of an encoding leaves. -/
def DecSelf (V : Int) (t : Th) (w : World) (e : Ending) (w' : World) : Prop :=
  (V = 0 ∧ ∃ r : Tr, e = .returned (.tuple #[.agg #[.slice r.a1 r.n1 r.c1, .slice r.a2 r.n2 r.c2, .slice r.a3 r.n3 r.c3], .int .i64 0]) ∧ Hid (TAt w'.heap.size w' t (.slice r.a1 r.n1 r.c1) (.slice r.a2 r.n2 r.c2) (.slice r.a3 r.n3 r.c3)) ∧ Hid (Below w.heap.size w w')) ∨
  (V ≠ 0 ∧ e = .returned (.tuple #[.agg #[.slice none 0 0, .slice none 0 0, .slice none 0 0], .int .i64 2]) ∧ Hid (Below w.heap.size w w'))

theorem tdecode_self (sv : Value) (t : Th) (w : World) (hl : Els .u8 w sv t.enc) (hw : t.wf) (hwt : t.wt ≤ 50000) : Calls Try.prog 28 #[sv] w (DecSelf (validT t) t w) :=
  (tdecode_any sv _ w hl (Th.enc_byt t) (by have := Th.enc_len t hw (by omega); omega)).mono fun e w' hp => by
    by_cases hv : validT t = 0
    · have hd := decT_self hw hv
      rcases hp with ⟨u, r, h1, h2, h3, h4⟩ | ⟨h1, h2, h3⟩
      · rw [hd] at h1
        injection h1 with h1
        subst h1
        exact .inl ⟨hv, r, h2, h3, h4⟩
      · rw [hd] at h1; cases h1
    · have hd := decT_bad hw (by omega) hv
      rcases hp with ⟨u, r, h1, h2, h3, h4⟩ | ⟨h1, h2, h3⟩
      · rw [hd] at h1; cases h1
      · exact .inr ⟨hv, h2, h3⟩

/-- What Decode of any bytes leaves. -/
def DecAny (b : List Int) (w : World) (e : Ending) (w' : World) : Prop :=
  (∃ (u : Th) (r : Tr), b = u.enc ∧ validT u = 0 ∧ u.wf ∧ e = .returned (.tuple #[.agg #[.slice r.a1 r.n1 r.c1, .slice r.a2 r.n2 r.c2, .slice r.a3 r.n3 r.c3], .int .i64 0]) ∧ Hid (TAt w'.heap.size w' u (.slice r.a1 r.n1 r.c1) (.slice r.a2 r.n2 r.c2) (.slice r.a3 r.n3 r.c3)) ∧ Hid (Below w.heap.size w w')) ∨
  (e = .returned (.tuple #[.agg #[.slice none 0 0, .slice none 0 0, .slice none 0 0], .int .i64 2]) ∧ Hid (Below w.heap.size w w'))

theorem tdecode_bytes (sv : Value) (b : List Int) (w : World) (hl : Els .u8 w sv b) (hb : Hm.Byt b) (hlen : b.length ≤ 1000000) : Calls Try.prog 28 #[sv] w (DecAny b w) :=
  (tdecode_any sv _ w hl hb hlen).mono fun e w' hp => by
    rcases hp with ⟨u, r, h1, h2, h3, h4⟩ | ⟨h1, h2, h3⟩
    · obtain ⟨q1, q2, q3⟩ := decT_one hb hlen h1
      exact .inl ⟨u, r, q1, q2, q3, h2, h3, h4⟩
    · exact .inr ⟨h2, h3⟩

/-- Encode of a valid thing. -/
theorem tenc_valid (t : Th) (hv : validT t = 0) (hwf : t.wf) (a b c : Value) (w : World) (h : TAt w.heap.size w t a b c) : Calls Try.prog 21 #[.agg #[a, b, c]] w fun e w' => ∃ x n y, e = .returned (.tuple #[.slice x n y, .int .i64 0]) ∧ Hid (n = t.enc.length) ∧ Hid (Own .u8 5 w.heap.size w' (.slice x n y) t.enc) ∧ Hid (Below w.heap.size w w') :=
  (tenc_any t (by have := (valid_parts hv).1; omega) hwf a b c w h).mono fun e w' hp => by
    rcases hp with ⟨_, x, n, y, h1, h2, h3, h4⟩ | ⟨h1, _⟩
    · exact ⟨x, n, y, h1, h2, h3, h4⟩
    · exact absurd hv h1

open Classical in
theorem same_self (t : Th) (ht : t.wf) (hs : t.size ≤ 1000000) (a b c a' b' c' : Value) (w : World) (hT : TAt w.heap.size w t a b c) (hU : TAt w.heap.size w t a' b' c') :
    Calls Try.prog 29 #[.agg #[a, b, c], .agg #[a', b', c']] w fun e w' => e = .returned (.bool true) ∧ Below w.heap.size w w' := by
  have h := rsame_any t t ⟨ht, hs⟩ ⟨ht, hs⟩ a b c a' b' c' w hT hU
  rwa [decide_eq_true rfl] at h

theorem sameB_self (sv sv2 : Value) (zs : List Int) (w : World) (h1 : Els .u8 w sv zs) (h2 : Els .u8 w sv2 zs) (hll : zs.length ≤ 1000000) :
    Calls Try.prog 22 #[sv, sv2] w fun e w' => e = .returned (.bool true) ∧ Below w.heap.size w w' := by
  have h := sameB_any sv sv2 zs zs w h1 h2 hll
  rwa [decide_eq_true rfl] at h

theorem tenc_nil (w : World) : Calls Try.prog 21 #[.agg #[.slice none 0 0, .slice none 0 0, .slice none 0 0]] w fun e w' => ∃ x n y er, e = .returned (.tuple #[.slice x n y, .int .i64 er]) ∧ Hid (Below w.heap.size w w') :=
  (tenc_any (.mk [] [] []) (by simp [Th.size, Th.sizes]) nil_wf _ _ _ w (tat_nil _ _)).mono fun e w' hp => by
    rcases hp with ⟨_, x, n, y, h1, h2, h3, h4⟩ | ⟨_, h1, h2⟩
    · exact ⟨x, n, y, 0, h1, h4⟩
    · exact ⟨none, 0, 0, _, h1, h2⟩

end Go.Proofs.Ytejllfpcffeogaa
