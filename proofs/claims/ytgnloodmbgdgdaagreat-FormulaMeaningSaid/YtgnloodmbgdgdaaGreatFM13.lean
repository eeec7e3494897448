import Derived.Test.YtgnloodmbgdgdaaGreatFM12
import Derived.Test.YtgnloodmbgdgdaaGreatFM09
import Derived.Maps.AppendAt
import Derived.Test.YtgnloodmbgdgdaaGreatFM01
import Derived.Test.YtgnloodmbgdgdaaGreatFM10
namespace Go.Proofs.YtgnloodmbgdgdaaGreat
open Go.RowKit Go.Shelf
def Save (p : Nat) (A B : World) : Prop := A.heap.size ≤ B.heap.size ∧ ∀ b, b < A.heap.size → b ≠ p → B.heap[b]? = A.heap[b]?
theorem Save.refl (p : Nat) (A : World) : Save p A A := ⟨Nat.le_refl _, fun _ _ _ => rfl⟩
theorem Save.trans {p : Nat} {A B C : World} (h : Save p A B) (k : Save p B C) : Save p A C :=
 ⟨Nat.le_trans h.1 k.1, fun b hb hp => (k.2 b (Nat.lt_of_lt_of_le hb h.1) hp).trans (h.2 b hb hp)⟩
theorem Save.alloc {p : Nat} {A B : World} (h : Save p A B) (o : Obj) : Save p A (B.alloc o) :=
 ⟨Nat.le_trans h.1 (by simp), fun b hb hp => (Below.heap_alloc B o b (Nat.lt_of_lt_of_le hb h.1)).trans (h.2 b hb hp)⟩
theorem Save.set {p o : Nat} {A B : World} {v : Value} (h : Save p A B) : Save p A (B.setCell ⟨p, o, none⟩ v) :=
 ⟨by simpa [World.setCell] using h.1, fun b hb hp => (Below.heap_setCell _ _ _ _ hp).trans (h.2 b hb hp)⟩
theorem BoxL.save {p N : Nat} {A B : World} {vs : List Value} (h : BoxL N vs A) (hN : N ≠ p) (hS : Save p A B) : BoxL N vs B := by
 have e := hS.2 N h.1 hN
 refine ⟨Nat.lt_of_lt_of_le h.1 hS.1, fun i v hv => ?_⟩
 obtain ⟨h1, h2⟩ := h.2 i v hv
 constructor
 ·rw [← h1]; unfold World.cell?; rw [e]
 ·rw [← h2]; unfold World.frozen?; rw [e]
def VBox (P V : Nat) (k : Int) (W : World) : Prop := P ≠ V ∧ BoxL P [.int .i64 k] W ∧ BoxL V [.func (.func 153) #[] #[.pointer (some ⟨P, 0, none⟩), .pointer (some ⟨V, 0, none⟩)]] W
theorem VBox.alloc {P V : Nat} {k : Int} {W : World} (h : VBox P V k W) (o : Obj) : VBox P V k (W.alloc o) := ⟨h.1, h.2.1.under o, h.2.2.under o⟩
def VisPost (s dp : Nat) (l k B P V : Nat) (W : World) (e : Ending) (w' : World) : Prop :=
 ∃ (q : Bool) (k' : Nat), e = .returned (.bool q) ∧ Hid ((q = true → k' = k + s ∧ k' ≤ 96 ∧ l + dp ≤ 9) ∧ (q = false → 96 < k + s ∨ 9 < l + dp)) ∧ Hid (VBox P V (k' : Int) w') ∧ Hid (Save P W w') ∧ Hid (Below B W w')
def VisitT (m : Nat) : Prop := ∀ (u : Th), u.size ≤ m → ∀ (l k B P V : Nat) (x y z : Value) (W : World), l ≤ 9 → k ≤ 96 → B ≤ P → B ≤ V → VBox P V (k : Int) W → TAt B W u x y z →
 Calls Tryz.prog 153 #[.agg #[x, y, z], .int .i64 (l : Int), .pointer (some ⟨P, 0, none⟩), .pointer (some ⟨V, 0, none⟩)] W (VisPost u.size u.deep l k B P V W)
set_option maxHeartbeats 2000000 in
set_option maxRecDepth 100000 in
theorem vis1_any (m : Nat) (KV : Hid (VisitT m)) (u : Th) (hu : u.size ≤ m) (l k B P V N : Nat) (x y z : Value) (W : World) (hl : l ≤ 8) (hk : k ≤ 96) (hBP : B ≤ P) (hBV : B ≤ V) (hV : VBox P V (k : Int) W) (hN : BoxL N [.int .i64 (l : Int)] W) (hB : B ≤ W.heap.size) (h : TAt B W u x y z) :
  Calls Tryz.prog 154 #[.agg #[x, y, z], .pointer (some ⟨V, 0, none⟩), .pointer (some ⟨N, 0, none⟩)] W fun e w' => ∃ q : Bool, VisPost u.size u.deep (l + 1) k B P V W (.returned (.bool (!q))) w' ∧ e = .returned (.bool q) := by
 obtain ⟨a1, c1, a2, c2, a3, c3, rfl, rfl, rfl, -⟩ := h.shape
 have hab := fun o : Obj => (Below.refl B W).alloc hB o
 have K := Lib.hid fun o => KV.out u hu (l + 1) k B P V _ _ _ (W.alloc o) (by omega) hk hBP hBV (hV.alloc o) (TAt.low (hab o) u h)
 have HAB := Lib.hid hab
 obtain ⟨-, hp, hv⟩ := hV
 obtain ⟨v0, v1, v2⟩ := hv.open1
 obtain ⟨n0, n1, n2⟩ := hN.open1
 have i1 : IntKind.i64.wrap ((l : Int) + 1) = ((l + 1 : Nat) : Int) := by rw [IntWalk.i64_in _ (by omega)]; omega
 generalize u.size = us at *
 generalize u.deep = ud at *
 generalize u.cs.length = m1 at *
 generalize u.vs.length = m2 at *
 generalize u.ps.length = m3 at *
 clear h KV hu hp hv hN hab
 go_enter Tryz.func154, Tryz.ntmps154
 go_wp2_with fail
 refine (K.out _).mono ?_
 rintro e w2 ⟨q, k', rfl, hq, hVb, hS, hBB⟩
 have HS := Lib.hid ((Save.alloc (Save.refl P W) (.cells #[.slice a1 m1 c1, .slice a2 m2 c2, .slice a3 m3 c3] 41)).trans hS.out)
 have HB2 := Lib.hid ((HAB.out _).trans hBB.out)
 clear hS hBB
 go_wp2
 go_ret
 exact ⟨!q, ⟨q, k', by simp, hq, hVb, HS, HB2⟩, rfl⟩
def IdxV (s dp : Nat) (l k B P V : Nat) (W : World) (e : Ending) (w' : World) : Prop :=
 ∃ (v : Int) (k' : Nat), e = .returned (.int .i64 v) ∧ Hid ((v = -1 ∧ k' = k + s ∧ k' ≤ 96 ∧ l + dp ≤ 9) ∨ (0 ≤ v ∧ (96 < k + s ∨ 9 < l + dp))) ∧ Hid (VBox P V (k' : Int) w') ∧ Hid (Save P W w') ∧ Hid (Below B W w')
set_option maxHeartbeats 4000000 in
set_option maxRecDepth 100000 in
theorem idxv_any (m : Nat) (hm : m ≤ 1000000) (KV : Hid (VisitT m)) (sv : Value) (ts : List Th) (l k0 B P V N : Nat) (w : World) (hl : l ≤ 8) (hk : k0 ≤ 96) (hBP : B ≤ P) (hBV : B ≤ V) (hV : VBox P V (k0 : Int) w) (hN : BoxL N [.int .i64 (l : Int)] w) (hNP : N ≠ P) (hB : B ≤ w.heap.size) (h : Ps B w sv ts) (hs : Th.sizes ts ≤ m) :
  Calls Tryz.prog 159 #[sv, .func (.func 154) #[] #[.pointer (some ⟨V, 0, none⟩), .pointer (some ⟨N, 0, none⟩)]] w (IdxV (Th.sizes ts) (Th.deeps ts) (l + 1) k0 B P V w) := by
 obtain ⟨a, cap, rfl⟩ := h.shape
 have HP := Lib.hid h
 have hl6 := Th.sizes_len ts
 have HST := Lib.hid fun (j : Nat) => Th.sizes_take ts j
 have HDT : Hid (∀ (j : Nat) (u : Th), ts[j]? = some u → u.deep ≤ Th.deeps ts) := Lib.hid fun j u hu => by
  have h1 := Th.deeps_append (ts.take (j + 1)) (ts.drop (j + 1))
  rw [List.take_append_drop, Th.deeps_snoc hu] at h1
  omega
 have HSS : Hid (∀ (j : Nat) (u : Th), ts[j]? = some u → Th.sizes (ts.take j) + u.size ≤ Th.sizes ts) := Lib.hid fun j u hu => by
  have h1 := Th.sizes_take ts (j + 1)
  rw [Th.sizes_snoc hu] at h1
  exact h1
 have K1 := Lib.hid fun (u : Th) (hu : u ∈ ts) (k : Nat) (hk : k ≤ 96) x y z W (hV : VBox P V (k : Int) W) (hN : BoxL N [.int .i64 (l : Int)] W) (hB : B ≤ W.heap.size) (hh : TAt B W u x y z) => vis1_any m KV u (sizes_le hs hu) l k B P V N x y z W hl hk hBP hBV hV hN hB hh
 have HV0 := Lib.hid hV
 have HN0 := Lib.hid hN
 have HBW := Lib.hid hB
 generalize hn : ts.length = n at *
 have HN := Lib.hid hn
 have hn6 : n ≤ 1000000 := by omega
 have HNP := Lib.hid hNP
 clear h hs hn KV hV hN hl6 hB hNP
 go_enter Tryz.func159, Tryz.ntmps159
 go_wp2
 go_loopw [8] (fun x wr => ∃ j k : Nat, j ≤ n ∧ x = .int .i64 j ∧ k ≤ 96 ∧ Hid (k = k0 + Th.sizes (ts.take j)) ∧ Hid (l + 1 + Th.deeps (ts.take j) ≤ 9) ∧ Hid (VBox P V (k : Int) wr) ∧ Hid (Save P w wr) ∧ Hid (Below B w wr)) (fun x _ => n - (intOf x).toNat)
 case atStart => exact ⟨0, k0, by omega, rfl, hk, Lib.hid (by simp [Th.sizes]), Lib.hid (by simp [Th.deeps]; omega), HV0, Save.refl _ _, Below.refl _ _⟩
 case round =>
  obtain ⟨j, k, hj, rfl, hk96, hkk, hdd, hVb, hS, hB⟩ := hrel
  by_cases hlt : j < n
  ·have i1 : (j : Int) < n := by omega
   obtain ⟨g, u, rfl, hgB, hgs, hcap, hu, x, y, z, q0, q1, q2, hT⟩ := (HP.out.low hB.out).get hlt
   have hmem := List.mem_of_getElem? hu
   have K := Lib.hid (K1.out u hmem k hk96 x y z wr hVb.out (HN0.out.save HNP.out hS.out) (Nat.le_trans HBW.out hB.out.size) hT)
   have hsn := Th.sizes_snoc hu
   have hdn := Th.deeps_snoc hu
   have hss := HSS.out j u hu
   have hds := HDT.out j u hu
   have HSN := Lib.hid hsn
   have HDN := Lib.hid hdn
   have HSS1 := Lib.hid hss
   have HDS1 := Lib.hid hds
   generalize u.size = us at *
   generalize u.deep = ud at *
   clear hT hu hmem hsn hdn hss hds
   go_wp2_with fail
   refine (K.out).mono ?_
   rintro e w1 ⟨q, ⟨nq, k', he, hq, hV1, hS1, hB1⟩, rfl⟩
   have hnq : nq = !q := by
    simp only [Ending.returned.injEq, Value.bool.injEq] at he
    exact he.symm
   subst hnq
   have HS2 := Lib.hid (hS.out.trans hS1.out)
   have HB2 := Lib.hid (hB.out.trans hB1.out)
   clear he hS1 hB1 hS hB hVb
   cases q
   case false =>
    obtain ⟨e1, e2, e3⟩ := hq.out.1 rfl
    have HK : Hid (k' = k0 + Th.sizes (ts.take (j + 1))) := Lib.hid (by rw [HSN.out, e1, hkk.out]; omega)
    have HD : Hid (l + 1 + Th.deeps (ts.take (j + 1)) ≤ 9) := Lib.hid (by rw [HDN.out]; have := hdd.out; omega)
    clear hq hkk hdd e1 e3
    go_wp2
    go_roundw
    case rel => exact ⟨j + 1, k', by omega, by go_num, e2, HK, HD, hV1, HS2, HB2⟩
    case measure => simp [intOf]; omega
   case true =>
    have HF : Hid (96 < k0 + Th.sizes ts ∨ 9 < l + 1 + Th.deeps ts) := Lib.hid (by
     have h1 := hq.out.2 rfl
     have h2 := HSS1.out
     have h3 := HDS1.out
     have h4 := hkk.out
     omega)
    clear hq hkk hdd
    go_wp2
    go_ret
    exact ⟨j, k', rfl, Lib.hid (.inr ⟨by omega, HF.out⟩), hV1, HS2, HB2⟩
  ·have i1 : ¬ (j : Int) < n := by omega
   have h1 := hkk.out
   have h2 := hdd.out
   rw [List.take_of_length_le (by rw [HN.out]; omega)] at h1 h2
   have HA := Lib.hid h1
   have HB := Lib.hid h2
   clear hkk hdd h1 h2
   go_wp2
   go_ret
   exact ⟨-1, k, rfl, Lib.hid (.inl ⟨rfl, HA.out, hk96, HB.out⟩), hVb, hS, hB⟩
def ConV (s dp : Nat) (l k B P V : Nat) (W : World) (e : Ending) (w' : World) : Prop :=
 ∃ (q : Bool) (k' : Nat), e = .returned (.bool q) ∧ Hid ((q = false → k' = k + s ∧ k' ≤ 96 ∧ l + dp ≤ 9) ∧ (q = true → 96 < k + s ∨ 9 < l + dp)) ∧ Hid (VBox P V (k' : Int) w') ∧ Hid (Save P W w') ∧ Hid (Below B W w')
set_option maxHeartbeats 2000000 in
set_option maxRecDepth 100000 in
theorem conv_any (m : Nat) (hm : m ≤ 1000000) (KV : Hid (VisitT m)) (sv : Value) (ts : List Th) (l k0 B P V N : Nat) (w : World) (hl : l ≤ 8) (hk : k0 ≤ 96) (hBP : B ≤ P) (hBV : B ≤ V) (hV : VBox P V (k0 : Int) w) (hN : BoxL N [.int .i64 (l : Int)] w) (hNP : N ≠ P) (hB : B ≤ w.heap.size) (h : Ps B w sv ts) (hs : Th.sizes ts ≤ m) :
  Calls Tryz.prog 106 #[sv, .func (.func 154) #[] #[.pointer (some ⟨V, 0, none⟩), .pointer (some ⟨N, 0, none⟩)]] w (ConV (Th.sizes ts) (Th.deeps ts) (l + 1) k0 B P V w) := by
 have k1 := Lib.hid (idxv_any m hm KV sv ts l k0 B P V N w hl hk hBP hBV hV hN hNP hB h hs)
 obtain ⟨a, cap, rfl⟩ := h.shape
 generalize Th.sizes ts = ss at *
 generalize Th.deeps ts = sd at *
 generalize ts.length = n at *
 clear h hs KV hV hN
 go_enter Tryz.func106, Tryz.ntmps106
 go_wp2_with fail
 refine (k1.out).mono ?_
 rintro e w1 ⟨v, k', rfl, hv, hV1, hS1, hB1⟩
 by_cases hv0 : 0 ≤ v
 ·have HQ : Hid (96 < k0 + ss ∨ 9 < l + 1 + sd) := Lib.hid (by
   rcases hv.out with ⟨h1, _⟩ | ⟨_, h2⟩
   ·omega
   ·exact h2)
  clear hv
  go_wp2
  go_ret
  exact ⟨true, k', rfl, Lib.hid ⟨fun hh => (by cases hh), fun _ => HQ.out⟩, hV1, hS1, hB1⟩
 ·have HQ : Hid (k' = k0 + ss ∧ k' ≤ 96 ∧ l + 1 + sd ≤ 9) := Lib.hid (by
   rcases hv.out with ⟨_, h1⟩ | ⟨h2, _⟩
   ·exact h1
   ·omega)
  clear hv
  go_wp2
  go_ret
  exact ⟨false, k', ret_bool (decide_eq_false (by omega)), Lib.hid ⟨fun _ => HQ.out, fun hh => (by cases hh)⟩, hV1, hS1, hB1⟩
end Go.Proofs.YtgnloodmbgdgdaaGreat
namespace Go.Proofs.YtgnloodmbgdgdaaGreat
open Go.RowKit Go.Shelf
def Far (F : Nat → Prop) (v : Value) : Prop := ∀ g, v.ownBlock = some g → ¬ F g
def KeepF (F : Nat → Prop) (w w' : World) : Prop := w.heap.size ≤ w'.heap.size ∧ ∀ k, F k → k < w.heap.size → w'.heap[k]? = w.heap[k]?
theorem KeepF.refl (F : Nat → Prop) (w : World) : KeepF F w w := ⟨Nat.le_refl _, fun _ _ _ => rfl⟩
theorem KeepF.trans {F : Nat → Prop} {a b c : World} (h : KeepF F a b) (k : KeepF F b c) : KeepF F a c :=
 ⟨Nat.le_trans h.1 k.1, fun j hj hl => (k.2 j hj (Nat.lt_of_lt_of_le hl h.1)).trans (h.2 j hj hl)⟩
theorem KeepF.mono {F G : Nat → Prop} {a b : World} (h : KeepF F a b) (hg : ∀ k, G k → F k) : KeepF G a b := ⟨h.1, fun k hk => h.2 k (hg k hk)⟩
theorem KeepF.of_below {F : Nat → Prop} {a b : World} (h : Below a.heap.size a b) : KeepF F a b := ⟨h.size, fun k _ hl => h.block k hl⟩
theorem KeepF.set {F : Nat → Prop} {a b : World} {p o : Nat} {v : Value} (h : KeepF F a b) (hp : ¬ F p) : KeepF F a (b.setCell ⟨p, o, none⟩ v) :=
 ⟨by rw [World.size_setCell]; exact h.1, fun k hk hl => (Below.heap_setCell _ _ _ _ (fun (e : k = p) => hp (e ▸ hk))).trans (h.2 k hk hl)⟩
theorem BoxL.keepF {W w1 : World} {N : Nat} {vs : List Value} {F : Nat → Prop} (h : BoxL N vs W) (hF : F N) (hb : KeepF F W w1) : BoxL N vs w1 := by
 have hk := hb.2 N hF h.1
 refine ⟨Nat.lt_of_lt_of_le h.1 hb.1, fun k x hx => ?_⟩
 obtain ⟨h1, h2⟩ := h.2 k x hx
 exact ⟨(cell_of_block hk k).trans h1, by rw [← h2]; unfold World.frozen?; simp only [hk]⟩
def WrF (F : Nat → Prop) (p B : Nat) (w : World) (zs : List Int) : Prop :=
 ∃ v T, p < B ∧ B ≤ w.heap.size ∧ w.heap[p]? = some (.cells #[v] T (0, 0)) ∧ Own .u8 5 B w v zs ∧ ¬ F p ∧ Far F v
theorem WrF.wr {F : Nat → Prop} {p B : Nat} {w : World} {zs : List Int} (h : WrF F p B w zs) : Wr p B w zs := by
 obtain ⟨v, T, h1, h2, h3, h4, _⟩ := h
 exact ⟨v, T, h1, h2, h3, h4⟩
theorem WrF.open {F : Nat → Prop} {p B : Nat} {w : World} {zs : List Int} (h : WrF F p B w zs) :
  ∃ a n c, w.cell? ⟨p, 0, none⟩ = some (.slice a n c) ∧ w.frozen? ⟨p, 0, none⟩ = false ∧ Hid (n = zs.length) ∧ Hid (Own .u8 5 B w (.slice a n c) zs) ∧ Hid (¬ F p ∧ Far F (.slice a n c)) := by
 obtain ⟨v, T, hp, hB, hb, hO, hF⟩ := h
 obtain ⟨a, n, c, rfl, hn, hO⟩ := hO.slice
 exact ⟨a, n, c, cell_of_one hb, free_of_one hb, hn, hO, hF⟩
theorem WrF.put {F : Nat → Prop} {p B : Nat} {w w' : World} {zs ys : List Int} {v : Value} (h : WrF F p B w zs) (hB : Below B w w') (hO : Own .u8 5 B w' v ys) (hv : Far F v) : WrF F p B (w'.setCell ⟨p, 0, none⟩ v) ys := by
 obtain ⟨v0, T0, h1, h2, h3, h4, hp, _⟩ := h
 obtain ⟨v2, T, k1, k2, k3, k4⟩ := Wr.put ⟨v0, T0, h1, h2, h3, h4⟩ hB hO
 obtain ⟨u, T', -, -, e, -⟩ := (⟨v0, T0, h1, h2, h3, h4⟩ : Wr p B w zs)
 have hc := cell_of_one k3
 have hl : p < w'.heap.size := by have := hB.size; omega
 have e2 : (w'.setCell ⟨p, 0, none⟩ v).heap[p]? = some (.cells #[v] T0 (0, 0)) := one_setCell ((hB.block p h1).trans h3)
 rw [e2] at k3
 injection k3 with k3
 injection k3 with k3
 injection k3 with k3
 simp only [List.cons.injEq, and_true] at k3
 subst k3
 exact ⟨v, T0, k1, k2, e2, k4, hp, hv⟩
theorem WrF.new (w : World) (T : TypeId) {F : Nat → Prop} (hF : ∀ k, F k → k < w.heap.size) : WrF F w.heap.size (w.heap.size + 1) (w.alloc (.cells #[.slice none 0 0] T)) [] :=
 ⟨_, T, Nat.lt_succ_self _, by simp, World.alloc_heap_new w _, World.ownsRow_nil _ _ _ _, fun h => by have := hF _ h; omega, fun g hg => by cases hg⟩
theorem WrF.under {F : Nat → Prop} {p B : Nat} {w : World} {zs : List Int} (h : WrF F p B w zs) (o : Obj) : WrF (fun k => F k ∨ k = w.heap.size) p B (w.alloc o) zs := by
 obtain ⟨v, T, h1, h2, h3, h4, hp, hv⟩ := h
 obtain ⟨v2, T2, k1, k2, k3, k4⟩ := Wr.below (⟨v, T, h1, h2, h3, h4⟩ : Wr p B w zs) ((Below.refl _ _).alloc (Nat.le_refl _) o)
 have hl : p < w.heap.size := (Array.getElem?_eq_some_iff.1 h3).1
 rw [Below.heap_alloc _ _ _ hl, h3] at k3
 injection k3 with k3
 injection k3 with k3
 injection k3 with k3
 simp only [List.cons.injEq, and_true] at k3
 subst k3
 refine ⟨v, T, k1, k2, (Below.heap_alloc _ _ _ hl).trans h3, k4, fun h => ?_, fun g hg hFg => ?_⟩
 ·rcases h with h | h
  ·exact hp h
  ·omega
 ·rcases hFg with h | h
  ·exact hv g hg h
  ·have := (World.ownsRow.lt h4 g hg).2
   omega
theorem WrF.mono {F G : Nat → Prop} {p B : Nat} {w : World} {zs : List Int} (h : WrF F p B w zs) (hg : ∀ k, G k → F k) : WrF G p B w zs := by
 obtain ⟨v, T, h1, h2, h3, h4, hp, hv⟩ := h
 exact ⟨v, T, h1, h2, h3, h4, fun h => hp (hg _ h), fun g e h => hv g e (hg _ h)⟩
theorem WrF.below {F : Nat → Prop} {p B : Nat} {w w' : World} {zs : List Int} (h : WrF F p B w zs) (hB : Below w.heap.size w w') : WrF F p B w' zs := by
 obtain ⟨v, T, h1, h2, h3, h4, hp, hv⟩ := h
 obtain ⟨v2, T2, k1, k2, k3, k4⟩ := Wr.below (⟨v, T, h1, h2, h3, h4⟩ : Wr p B w zs) hB
 have hl : p < w.heap.size := (Array.getElem?_eq_some_iff.1 h3).1
 rw [hB.block p hl, h3] at k3
 injection k3 with k3
 injection k3 with k3
 injection k3 with k3
 simp only [List.cons.injEq, and_true] at k3
 subst k3
 exact ⟨v, T, k1, k2, (hB.block p hl).trans h3, k4, hp, hv⟩
end Go.Proofs.YtgnloodmbgdgdaaGreat
namespace Go.Proofs.YtgnloodmbgdgdaaGreat
open Go.RowKit Go.Shelf
def ClO {α : Type} (R : RowOf α) (E : TypeId) (xs : List α) (W : World) (e : Ending) (w' : World) : Prop :=
 ∃ a n c, e = .returned (.slice a n c) ∧ Hid (ROwn R E W.heap.size w' (.slice a n c) xs) ∧ Hid (Below W.heap.size W w')
theorem RFl.since' {α : Type} {R : RowOf α} {w w' : World} {sv : Value} {ns : List α} (h : RFl R w sv ns) (hs : Since w w') : RFl R w' sv ns := by
 rcases h with h | ⟨b, off, cap, e, hc⟩
 ·exact .inl h
 ·exact .inr ⟨b, off, cap, e, fun j u hu => Since.cell hs (hc j u hu)⟩
theorem rfl_shape {α : Type} {R : RowOf α} {w : World} {sv : Value} {ns : List α} (h : RFl R w sv ns) : (sv = .slice none 0 0 ∧ ns = []) ∨ ∃ x n c, sv = .slice (some x) n c := by
 rcases h with ⟨he | ⟨x, c, he⟩, hn⟩ | ⟨b, off, cap, e, -⟩
 ·exact .inl ⟨he, hn⟩
 ·exact .inr ⟨x, 0, c, he⟩
 ·exact .inr ⟨_, _, _, e⟩
end Go.Proofs.YtgnloodmbgdgdaaGreat
