import Derived.Test.YtgnloodmbgdgdaaGreatFB34
import Derived.Test.YtgnloodmbgdgdaaGreatFB33
import Derived.Test.YtgnloodmbgdgdaaGreatFB17
import Derived.Test.YtgnloodmbgdgdaaGreatFB29
namespace Go.Proofs.YtgnloodmbgdgdaaGreat
open Go.RowKit Go.Shelf Go.Sort
def OkF (f : Fo) : Prop := f.size ≤ 1000000 ∧ f.wf
instance : DecidableEq Fo := fun a b => decidable_of_iff (fcmp a b = 0) fcmp_ord.eq_iff
theorem FSr.since {S : Nat → Prop} {V V' : World} {x : Fo} {r : Fr} (h : FSr S V x r) (hb : Since V V') (hS : ∀ b, S b → b < V.heap.size) : FSr S V' x r := by
 have h2 := FSr.keep (S' := S) h ⟨hb.size, fun b hb2 _ => hb.block b (hS b hb2)⟩ fun _ _ h => h
 exact ⟨h2.1, h2.2.1, FS.mono (fun _ h => h.1) _ h2.2.2⟩
theorem wcmp_fr {S : Nat → Prop} {V : World} {x y : Fo} {r s : Fr} (hx : FSr S V x r) (hy : FSr S V y s) (hS : ∀ b, S b → b < V.heap.size) (ox : OkF x) (oy : OkF y) :
  Calls Tryz.prog 42 #[r.v, s.v] V fun e w' => e = .returned (.int .i64 (fcmp x y)) ∧ W.Below V.heap.size V w' := by
 unfold Fr.v
 rw [← hx.1, ← hx.2.1, ← hy.1, ← hy.2.1]
 exact W.fcmp_any x y ox.1 oy.1 ox.2 oy.2 _ _ _ _ V (FS.fat hS _ hx.2.2) (FS.fat hS _ hy.2.2)
set_option maxHeartbeats 4000000 in
set_option maxRecDepth 100000 in
theorem equalF_any {S : Nat → Prop} {V : World} {x y : Fo} {r s : Fr} (hx : FSr S V x r) (hy : FSr S V y s) (hS : ∀ b, S b → b < V.heap.size) (ox : OkF x) (oy : OkF y) :
  Calls Tryz.prog 167 #[r.v, s.v] V fun e w' => e = .returned (.bool (decide (x = y))) ∧ Since V w' := by
 obtain ⟨V1, hV1⟩ : ∃ V1, V1 = V.alloc (.cells #[.int .i64 r.op, .int .i64 r.n, .slice r.a2 r.n2 r.c2, .slice r.a3 r.n3 r.c3] 29) := ⟨_, rfl⟩
 have hS1 : Since V V1 := by rw [hV1]; exact Since.alloc (since_r _) _
 have hz1 : V1.heap.size = V.heap.size + 1 := by rw [hV1, World.size_alloc]
 have hX1 : BoxL V.heap.size [.int .i64 r.op, .int .i64 r.n, .slice r.a2 r.n2 r.c2, .slice r.a3 r.n3 r.c3] V1 := by rw [hV1]; exact BoxL.made V _ _
 obtain ⟨V2, hV2⟩ : ∃ V2, V2 = V1.alloc (.cells #[.int .i64 s.op, .int .i64 s.n, .slice s.a2 s.n2 s.c2, .slice s.a3 s.n3 s.c3] 29) := ⟨_, rfl⟩
 have hS2 : Since V1 V2 := by rw [hV2]; exact Since.alloc (since_r _) _
 have hX := hX1.keep hS2
 have hY : BoxL (V.heap.size + 1) [.int .i64 s.op, .int .i64 s.n, .slice s.a2 s.n2 s.c2, .slice s.a3 s.n3 s.c3] V2 := by rw [hV2, ← hz1]; exact BoxL.made V1 _ _
 have hSs := Since.step hS1 hS2
 have KQ := Lib.hid (wcmp_fr (hx.since hSs hS) (hy.since hSs hS) (fun b hb => Nat.lt_of_lt_of_le (hS b hb) hSs.size) ox oy)
 have hq : (fcmp x y = 0 ∧ decide (x = y) = true) ∨ ((fcmp x y == 0) = false ∧ decide (x = y) = false) := by
  by_cases h : x = y
  ·exact .inl ⟨fcmp_ord.eq_iff.2 h, decide_eq_true h⟩
  ·refine .inr ⟨?_, decide_eq_false h⟩
   rw [beq_eq_false_iff_ne]
   exact fun e => h (fcmp_ord.eq_iff.1 e)
 generalize decide (x = y) = q at *
 generalize fcmp x y = c at *
 obtain ⟨x0, x1, x2, x3, -⟩ := hX.open4
 obtain ⟨y0, y1, y2, y3, -⟩ := hY.open4
 have HS := Lib.hid hSs
 obtain ⟨op, n, a2, n2, c2, a3, n3, c3⟩ := r
 obtain ⟨op', n', a2', n2', c2', a3', n3', c3'⟩ := s
 simp only [Fr.v] at *
 clear hX1 hX hY hS1 hS2 hSs hz1 hx hy hS ox oy
 rcases hq with ⟨rfl, rfl⟩ | ⟨hc, rfl⟩
 all_goals
  go_enter Tryz.func167, Tryz.ntmps167
  go_upto_region 1 with (fail)
  rw [← hV1, ← hV2]
  clear hV1 hV2
  go_wp2_with fail
  refine KQ.out.mono ?_
  rintro e w3 ⟨rfl, hr⟩
  have HB := Lib.hid (Since.step HS.out hr.toBelow)
  clear hr x0 x1 x2 x3 y0 y1 y2 y3
  go_wp2
  go_ret
  exact ⟨rfl, HB.out⟩
structure TF (S : Nat → Prop) (g : Nat) (w : World) where
 r : Fr
 f : Fo
 h : FSr (fun k => (S k ∧ k ≠ g) ∧ k < w.heap.size) w f r
 ok : OkF f
def RTF (S : Nat → Prop) (g : Nat) (w : World) : RowOf (TF S g w) where
 cells x := RFo.cells x.r
 k := 4
 len _ := rfl
 one x v h := RFo.one x.r v h
 pos := by decide
theorem tf_list (S : Nat → Prop) (g : Nat) (w : World) : ∀ (rs : List Fr) (ps : List Fo), rs.length = ps.length → (∀ (j : Nat) (r : Fr) (t : Fo), rs[j]? = some r → ps[j]? = some t → FSr (fun k => (S k ∧ k ≠ g) ∧ k < w.heap.size) w t r ∧ OkF t) →
  ∃ xs : List (TF S g w), xs.map (fun x => x.r) = rs ∧ xs.map (fun x => x.f) = ps
 | [], [], _, _ => ⟨[], rfl, rfl⟩
 | [], _ :: _, h, _ => by simp at h
 | _ :: _, [], h, _ => by simp at h
 | r :: rs, p :: ps, h, hT => by
  obtain ⟨xs, h1, h2⟩ := tf_list S g w rs ps (by simpa using h) fun j r t hr ht => hT (j + 1) r t (by simpa using hr) (by simpa using ht)
  exact ⟨⟨r, p, (hT 0 r p rfl rfl).1, (hT 0 r p rfl rfl).2⟩ :: xs, by rw [List.map_cons, h1], by rw [List.map_cons, h2]⟩
theorem tf_flat {S : Nat → Prop} {g : Nat} {w : World} (xs : List (TF S g w)) : xs.flatMap (RTF S g w).cells = (xs.map fun x => x.r).flatMap RFo.cells := by
 induction xs with
 | nil => rfl
 | cons x xs ih => rw [List.flatMap_cons, ih]; rfl
theorem tf_own {S : Nat → Prop} {g : Nat} {w V : World} {E : TypeId} {B : Nat} {sv : Value} {xs : List (TF S g w)} : ROwn (RTF S g w) E B V sv xs ↔ ROwn RFo E B V sv (xs.map fun x => x.r) := by
 unfold ROwn
 rw [tf_flat, List.length_map]
 exact Iff.rfl
theorem sortF_any (B : Nat) (sv : Value) (S : Nat → Prop) (rs : List Fr) (ps : List Fo) (w : World) (hO : ROwn RFo 29 B w sv rs) (hL : LieF S w rs ps) (hS : ∀ k, S k → sv.ownBlock ≠ some k) (hok : ∀ p ∈ ps, OkF p) (hl : ps.length ≤ 1000000000) :
  Calls Tryz.prog 168 #[sv, .func (.func 42) #[] #[]] w fun e w' => ∃ rs' ps', RowOut RFo 29 B sv rs' w e w' ∧ LieF S w rs' ps' ∧ ps'.Perm ps ∧ ps'.Pairwise fun x y => fcmp x y ≤ 0 := by
 have hrl := hL.1
 rcases own_cases hO with ⟨rfl, rfl⟩ | ⟨g, cap, rfl⟩
 ·have h := AnyF.slices_SortFunc_none Tryz.sortL none 0 (.func (.func 42) #[] #[]) w
  change Calls Tryz.prog 168 _ _ _ at h
  refine h.mono fun e w' ⟨he, hw⟩ => ?_
  subst hw
  have hp : ps = [] := List.eq_nil_of_length_eq_zero (by simpa using hrl.symm)
  subst hp
  exact ⟨[], [], ⟨he, hO, PF.refl _ _, Below.refl _ _⟩, hL, List.Perm.refl _, List.Pairwise.nil⟩
 ·by_cases h0 : rs = []
  ·subst h0
   have h := AnyF.slices_SortFunc_none Tryz.sortL (some ⟨g, 0, none⟩) cap (.func (.func 42) #[] #[]) w
   change Calls Tryz.prog 168 _ _ _ at h
   refine h.mono fun e w' ⟨he, hw⟩ => ?_
   subst hw
   have hp : ps = [] := List.eq_nil_of_length_eq_zero (by simpa using hrl.symm)
   subst hp
   exact ⟨[], [], ⟨he, hO, PF.refl _ _, Below.refl _ _⟩, hL, List.Perm.refl _, List.Pairwise.nil⟩
  ·have hSg : ∀ k, S k → k ≠ g := fun k hk e => hS k hk (by rw [e]; rfl)
   obtain ⟨xs, hx1, hx2⟩ := tf_list S g w rs ps hrl fun j r t hr ht => ⟨by
    have h2 := hL.2 j r t hr ht
    exact ⟨h2.1, h2.2.1, FS.mono (fun k hk => ⟨⟨hk.1, hSg k hk.1⟩, hk.2⟩) _ h2.2.2⟩, hok t (List.mem_of_getElem? ht)⟩
   have hxl : xs.length = rs.length := by rw [← hx1, List.length_map]
   have hne : xs ≠ [] := fun e => h0 (by rw [← hx1, e]; rfl)
   haveI : Inhabited (TF S g w) := ⟨xs.head hne⟩
   have hO2 : ROwn (RTF S g w) 29 B w (.slice (some ⟨g, 0, none⟩) xs.length cap) xs := by rw [tf_own, hx1, hxl]; exact hO
   obtain ⟨h1, h2, h3⟩ := row_sorted (RTF S g w) hO2
   have eg : ∀ args w, (callFunc 42 args).run Tryz.prog w = .ok (.enter 42 args) w := enters_of Tryz.func42 (by kernel_rfl) rfl
   have hcmp : CmpLays Tryz.prog 42 #[] (RTF S g w).cells 4 (fun a b => fcmp a.f b.f) g 0 xs.toArray.size w := fun m os dk hdk x y => by
    obtain ⟨-, k2, -⟩ := h3 dk m os (by simpa using hdk)
    have kk : KeepS (fun k => (S k ∧ k ≠ g) ∧ k < w.heap.size) w (sortWorldK (RTF S g w).cells (RTF S g w).k w g 0 m dk os) := ⟨k2.1.1, fun b hb hl => k2.1.2 b (fun e => hb.1.2 (by injection e with e; exact e.symm)) hl⟩
    have t1 := FSr.keep (S' := fun _ => True) x.h kk (fun _ _ _ => trivial)
    have t2 := FSr.keep (S' := fun _ => True) y.h kk (fun _ _ _ => trivial)
    exact (wcmp_fr t1 t2 (fun b hb => hb.2) x.ok y.ok).mono fun e w' h => ⟨h.1, h.2.grows⟩
   have hcon := AnyQ.slices_SortFunc Tryz.sortL 4 Tryz.isAgg29 Tryz.sizeOf29 (RTF S g w).cells (fun _ => rfl) (RTF S g w).one (fun a b => fcmp a.f b.f) (swo_of fcmp_ord fun a : TF S g w => a.f) 42 #[] g 0 cap xs.toArray w eg hcmp h1 h2 (by simp; omega)
   change Calls Tryz.prog 168 _ _ _ at hcon
   have hs : xs.toArray.size = xs.length := by simp
   rw [hs, hxl] at hcon
   refine hcon.mono fun e w' ⟨he, d', q, os, hp, hsd, hw⟩ => ?_
   subst hw
   obtain ⟨p1, p2⟩ := perm_of (by rw [hs, hxl]; exact hp)
   obtain ⟨r1, r2, r3⟩ := h3 d' q os p1
   have hpd := sorted_pair fcmp_ord (fun a : TF S g w => a.f) p1 (by rw [hxl]; exact hsd)
   rw [hxl] at r1 r2
   refine ⟨d'.toList.map (fun x : TF S g w => x.r), d'.toList.map (fun x : TF S g w => x.f), ⟨he, (show ROwn RFo 29 B (sortWorldK (RTF S g w).cells (RTF S g w).k w g 0 q d' os) (.slice (some ⟨g, 0, none⟩) rs.length cap) (d'.toList.map fun x : TF S g w => x.r) from tf_own.1 r1), r2, r3⟩, ⟨by rw [List.length_map, List.length_map], fun j r t hr ht => ?_⟩, by rw [← hx2]; exact p2.map _, List.pairwise_map.2 hpd⟩
   rw [List.getElem?_map] at ht hr
   obtain ⟨x, hx, rfl⟩ := Option.map_eq_some_iff.1 hr
   rw [hx] at ht
   cases ht
   exact ⟨x.h.1, x.h.2.1, FS.mono (fun k hk => ⟨hk.1.1, hk.2⟩) _ x.h.2.2⟩
end Go.Proofs.YtgnloodmbgdgdaaGreat
namespace Go.Proofs.YtgnloodmbgdgdaaGreat
open Go.RowKit Go.Shelf Go.Sort
def zer4 (n : Nat) : List Value := (Builtin.zeroCells #[Value.int .i64 0, .int .i64 0, .slice none 0 0, .slice none 0 0] n).toList
theorem clear4_run (w : World) (ty : TypeId) (b o n c : Nat) (hn : 0 < n) (hc : ∀ j, j < n * 4 → (w.cell? ⟨b, o + j, none⟩).isSome = true) (hf : ∀ j, j < n * 4 → w.frozen? ⟨b, o + j, none⟩ = false) :
  Sem.run Tryz.prog (Builtin.clear_ #[23] ty #[.slice (some ⟨b, o, none⟩) n c]) w = .ok (.tuple #[]) (w.setCells b o (zer4 n)) := by
 have hst := run_storeCells_cells (P := Tryz.prog) b o (zer4 n) 0 w (by simpa [zer4, Builtin.zeroCells] using hc) (by simpa [zer4, Builtin.zeroCells] using hf) (by
  intro v hv
  obtain ⟨i, hi, rfl⟩ := List.getElem_of_mem hv
  simp only [zer4, Builtin.zeroCells, Array.getElem_toList, Array.getElem_map, Array.getElem_range]
  show ((#[Value.int .i64 0, .int .i64 0, .slice none 0 0, .slice none 0 0] : Array Value)[i % 4]!).oneCell' = true
  have h3 : i % 4 < 4 := Nat.mod_lt _ (by decide)
  generalize i % 4 = q at *
  match q, h3 with
  | 0, _ => rfl
  | 1, _ => rfl
  | 2, _ => rfl
  | 3, _ => rfl)
 simp only [Nat.add_zero] at hst
 have hv := Tryz.zeroValue29
 have ht := Tryz.underlying23
 obtain ⟨m, rfl⟩ : ∃ m, n = m + 1 := ⟨n - 1, by omega⟩
 have hcl : (Value.agg #[Value.int .i64 0, .int .i64 0, .slice none 0 0, .slice none 0 0]).cells = #[Value.int .i64 0, .int .i64 0, .slice none 0 0, .slice none 0 0] := rfl
 unfold zer4 at hst ⊢
 simp [Builtin.clear_, run_underlying ht, hv, hcl, hst]
structure CF (S : Nat → Prop) (B g n c : Nat) (w wr : World) (l : List Fo) : Prop where
 rows : ∃ rs, ROwn RFo 29 B wr (.slice (some ⟨g, 0, none⟩) n c) rs ∧ LieF S w rs l
 pf : PF (.slice (some ⟨g, 0, none⟩) n c) w wr (.slice (some ⟨g, 0, none⟩) n c)
 bl : Below B w wr
 hg : B ≤ g
theorem CF.since {S : Nat → Prop} {B g n c : Nat} {w wr w' : World} {l : List Fo} (h : CF S B g n c w wr l) (hs : Since wr w') : CF S B g n c w w' l := by
 obtain ⟨⟨rs, h1, h2⟩, h3, h4, h5⟩ := h
 refine ⟨⟨rs, h1.below hs, h2⟩, ⟨⟨Nat.le_trans h3.1.1 hs.size, fun b hb hl => (hs.block b (Nat.lt_of_lt_of_le hl h3.1.1)).trans (h3.1.2 b hb hl)⟩, h3.2⟩, h4.trans (Below.mono hs ?_), h5⟩
 exact Nat.le_trans h5 (Nat.le_of_lt (h1.lt g rfl).2)
theorem CF.size {S : Nat → Prop} {B g n c : Nat} {w wr : World} {l : List Fo} (h : CF S B g n c w wr l) : l.length = n := by
 obtain ⟨⟨rs, h1, h2⟩, -⟩ := h
 rw [← h2.1, ← h1.els.len]
theorem CF.pick {S : Nat → Prop} {B g n c : Nat} {w wr : World} {l : List Fo} (h : CF S B g n c w wr l) (hS : ∀ k, S k → k ≠ g) {j : Nat} {x : Fo} (hx : l[j]? = some x) :
  ∃ r : Fr, wr.cell? ⟨g, j * 4, none⟩ = some (.int .i64 r.op) ∧ wr.cell? ⟨g, j * 4 + 1, none⟩ = some (.int .i64 r.n) ∧ wr.cell? ⟨g, j * 4 + 2, none⟩ = some (.slice r.a2 r.n2 r.c2) ∧ wr.cell? ⟨g, j * 4 + 3, none⟩ = some (.slice r.a3 r.n3 r.c3) ∧ FSr (fun k => S k ∧ k < wr.heap.size) wr x r ∧ FSr (fun k => S k ∧ k < w.heap.size) w x r := by
 obtain ⟨⟨rs, h1, h2⟩, h3, -, -⟩ := h
 have hj : j < rs.length := by rw [h2.1]; exact (List.getElem?_eq_some_iff.1 hx).1
 have hr : rs[j]? = some rs[j] := List.getElem?_eq_getElem hj
 have ht := h2.2 j _ x hr hx
 have hn := h1.els.len
 obtain ⟨b, e, hb, hc, hat⟩ := h1.els.get (j := j) (by omega)
 cases e
 have q := fun i u hu => hat j _ hr i u hu
 refine ⟨rs[j], q 0 _ rfl, q 1 _ rfl, q 2 _ rfl, q 3 _ rfl, ?_, ht⟩
 have h4 := FSr.keep (S' := S) ht ⟨h3.1.1, fun b hb hl => h3.1.2 b (fun e => hS b hb.1 (by injection e with e; exact e.symm)) hl⟩ (fun _ _ h => h.1)
 exact h4
theorem CF.frozen {S : Nat → Prop} {B g n c : Nat} {w wr : World} {l : List Fo} (h : CF S B g n c w wr l) (j : Nat) : wr.frozen? ⟨g, j, none⟩ = false := by
 obtain ⟨⟨rs, h1, h2⟩, -⟩ := h
 have hn := h1.els.len
 subst hn
 exact World.ownsRow.frozenAt h1 j
theorem CF.cells {S : Nat → Prop} {B g n c : Nat} {w wr : World} {l : List Fo} (h : CF S B g n c w wr l) (j : Nat) (hj : j < n * 4) : (wr.cell? ⟨g, j, none⟩).isSome = true := by
 obtain ⟨⟨rs, h1, h2⟩, -⟩ := h
 have hn := h1.els.len
 have hq : j / 4 < n := by omega
 obtain ⟨b, e, hb, hc, hat⟩ := h1.els.get (j := 0) (by omega)
 cases e
 have hx : rs[j / 4]? = some rs[j / 4] := List.getElem?_eq_getElem (by omega)
 have hl : (RFo.cells rs[j / 4]).length = 4 := RFo.len _
 have hm : j % 4 < 4 := Nat.mod_lt _ (by decide)
 have := hat _ _ hx (j % 4) _ (List.getElem?_eq_getElem (by rw [hl]; exact hm))
 have e3 : j / 4 * RFo.k + j % 4 = j := by show _ * 4 + _ = _; omega
 rw [e3] at this
 rw [this]; rfl
theorem CF.put {S : Nat → Prop} {B g n c : Nat} {w wr : World} {l : List Fo} (h : CF S B g n c w wr l) {j : Nat} (hj : j < n) {r : Fr} {t : Fo} (hT : FSr (fun k => S k ∧ k < w.heap.size) w t r) :
  CF S B g n c w ((((wr.setCell ⟨g, j * 4, none⟩ (.int .i64 r.op)).setCell ⟨g, j * 4 + 1, none⟩ (.int .i64 r.n)).setCell ⟨g, j * 4 + 2, none⟩ (.slice r.a2 r.n2 r.c2)).setCell ⟨g, j * 4 + 3, none⟩ (.slice r.a3 r.n3 r.c3)) (l.set j t) := by
 obtain ⟨⟨rs, h1, h2⟩, h3, h4, h5⟩ := h
 have hn := h1.els.len
 exact ⟨⟨rs.set j r, h1.set4 j (by omega) r, h2.set hT j⟩, pf_cells [.int .i64 r.op, .int .i64 r.n, .slice r.a2 r.n2 r.c2, .slice r.a3 r.n3 r.c3] (j * 4) w wr h3, below_cells h5 [.int .i64 r.op, .int .i64 r.n, .slice r.a2 r.n2 r.c2, .slice r.a3 r.n3 r.c3] (j * 4) w wr h4, h5⟩
def CutF4 (S : Nat → Prop) (B : Nat) (sv : Value) (ps : List Fo) (w : World) (e : Ending) (w' : World) : Prop :=
 ∃ a n c rs, e = .returned (.slice a n c) ∧ Hid (ROwn RFo 29 B w' (.slice a n c) rs) ∧ Hid (LieF S w rs ps) ∧ Hid (PF sv w w' (.slice a n c)) ∧ Hid (Below B w w')
theorem LieF.take {S : Nat → Prop} {w : World} {rs : List Fr} {ks : List Fo} (h : LieF S w rs ks) (m : Nat) : LieF S w (rs.take m) (ks.take m) := by
 refine ⟨by rw [List.length_take, List.length_take, h.1], fun j r t hr ht => ?_⟩
 rw [List.getElem?_take] at hr ht
 split at hr
 ·next hj => rw [if_pos hj] at ht; exact h.2 j r t hr ht
 ·cases hr
theorem CF.fin {S : Nat → Prop} {B g n c m : Nat} {w wr : World} {l : List Fo} (h : CF S B g n c w wr l) (hm : m ≤ n) {o : Nat} (ho : m * 4 ≤ o) (vs : List Value) {ys : List Fo} (hy : l.take m = ys) : CutF4 S B (.slice (some ⟨g, 0, none⟩) n c) ys w (.returned (.slice (some ⟨g, 0, none⟩) m c)) (wr.setCells g o vs) := by
 obtain ⟨⟨rs, h1, h2⟩, h3, h4, h5⟩ := h
 refine ⟨_, _, _, rs.take m, rfl, Lib.hid (own_high vs o wr (own_cut h1 hm) ho), Lib.hid ?_, Lib.hid ?_, Lib.hid (below_cells h5 vs o w wr h4)⟩
 ·rw [← hy]
  exact h2.take m
 ·exact pf_cells vs o w wr ⟨h3.1, fun g' e => h3.2 g' (by rw [← e]; rfl)⟩
instance : Inhabited Fo := ⟨alwaysF⟩
theorem arr_atF (d : Array Fo) {j : Nat} (h : j < d.size) : d.toList[j]? = some d[j]! := by
 rw [Array.getElem?_toList, Array.getElem?_eq_getElem h, getElem!_pos d j h]
set_option maxHeartbeats 8000000 in
set_option maxRecDepth 100000 in
theorem compF_some (S : Nat → Prop) (B g n cap : Nat) (rs : List Fr) (xs : List Fo) (w : World) (hO : ROwn RFo 29 B w (.slice (some ⟨g, 0, none⟩) n cap) rs) (hL : LieF S w rs xs) (hS : ∀ k, S k → k ≠ g) (hok : ∀ p ∈ xs, OkF p) (hl : n ≤ 1000000) :
  Calls Tryz.prog 169 #[.slice (some ⟨g, 0, none⟩) n cap, .func (.func 167) #[] #[]] w (CutF4 S B (.slice (some ⟨g, 0, none⟩) n cap) (Lib.compact xs) w) := by
 have hn : n = xs.length := by rw [← hL.1]; exact hO.els.len
 have hcap : n ≤ cap := by
  obtain ⟨_, ⟨hv, _⟩ | ⟨_, _, _, hv, _, _, hc, _⟩⟩ := hO
  ·cases hv
  ·cases hv; omega
 have hg : B ≤ g := (hO.lt g rfl).1
 obtain ⟨d, hd⟩ : ∃ d, d = xs.toArray := ⟨_, rfl⟩
 have hds : d.size = n := by rw [hd, hn]; simp
 have hdl : d.toList = xs := by rw [hd]
 have hC : CF S B g n cap w w d.toList := ⟨⟨rs, hO, by rw [hdl]; exact hL⟩, PF.refl _ _, Below.refl _ _, hg⟩
 have hcx : Lib.compact xs = Lib.compactUpTo d n := by rw [hd, hn]; rfl
 have hAll : (∀ j, j < n → Lib.keeps d j = true) → d.toList = Lib.compactUpTo d n := fun h => by
  rw [← hds, Lib.compactUpTo_all d d.size (by rw [hds]; exact h), Lib.range_map_get]
 have HOK : Hid (∀ j, j < n → OkF d[j]!) := Lib.hid fun j hj => by
  have := arr_atF d (j := j) (by rw [hds]; exact hj)
  rw [hdl] at this
  exact hok _ (List.mem_of_getElem? this)
 rw [hcx]
 have HC := Lib.hid hC
 have HA := Lib.hid hAll
 have HDS := Lib.hid hds
 have HSG := Lib.hid hS
 clear hO hL hS hok hn hds hdl hC hcx hAll hd hg rs xs
 by_cases h2 : n < 2
 ·have i2 : (n : Int) < 2 := by omega
  have hfin := (CF.fin HC.out (Nat.le_refl n) (Nat.le_refl (n * 4)) [] (ys := Lib.compactUpTo d n) (by rw [List.take_of_length_le (by rw [Array.length_toList, HDS.out]; exact Nat.le_refl _)]; exact HA.out fun j hj => Lib.keeps_lt_one d j (by omega)))
  have HF := Lib.hid hfin
  clear hfin
  go_enter Tryz.func169, Tryz.ntmps169
  go_wp2
  go_ret
  exact HF.out
 ·have i2 : ¬ (n : Int) < 2 := by omega
  have HK1 : Hid (∀ j, j < 1 → Lib.keeps d j = true) := Lib.hid (Lib.keeps_lt_one d)
  go_enter Tryz.func169, Tryz.ntmps169
  go_wp2
  go_loopw [5] (fun s3 wr => ∃ k : Nat, 1 ≤ k ∧ k ≤ n ∧ s3 = .int .i64 k ∧ Hid (∀ j, j < k → Lib.keeps d j = true) ∧ Hid (CF S B g n cap w wr d.toList)) (fun s3 _ => n - (intOf s3).toNat)
  case atStart => exact ⟨1, Nat.le_refl _, by omega, rfl, HK1, HC⟩
  case round =>
   obtain ⟨k, hk1, hk, rfl, hall, hV⟩ := hrel
   clear HK1
   by_cases hlt : k < n
   ·have i1 : (k : Int) < n := by omega
    obtain ⟨q, hq⟩ : ∃ q : Nat, k = q + 1 := ⟨k - 1, by omega⟩
    have i3 : IntKind.i64.wrap ((k : Int) - 1) = (q : Int) := by rw [IntWalk.i64_in _ (by omega)]; omega
    have i4 : (q : Int) < n := by omega
    have i5 : (0 : Int) ≤ (q : Int) := by omega
    have i6 : (0 : Int) ≤ (k : Int) := by omega
    have i7 : q < n := by omega
    obtain ⟨x, hx⟩ : ∃ x, x = d[k]! := ⟨_, rfl⟩
    obtain ⟨y, hy⟩ : ∃ y, y = d[q]! := ⟨_, rfl⟩
    obtain ⟨rx, p0, p1, p2, p3, hfx, -⟩ := hV.out.pick HSG.out (j := k) (x := x) (by rw [arr_atF d (by rw [HDS.out]; exact hlt), ← hx])
    obtain ⟨ry, r0, r1, r2, r3, hfy, -⟩ := hV.out.pick HSG.out (j := q) (x := y) (by rw [arr_atF d (by rw [HDS.out]; exact i7), ← hy])
    have hSd : Since wr wr.drew := since_d (since_r _)
    have KQ := Lib.hid (equalF_any (hfx.since hSd (fun b hb => hb.2)) (hfy.since hSd (fun b hb => hb.2)) (fun b hb => Nat.lt_of_lt_of_le hb.2 hSd.size) (by rw [hx]; exact HOK.out k hlt) (by rw [hy]; exact HOK.out q i7))
    have HXY : Hid (x = d[k]! ∧ y = d[k - 1]!) := Lib.hid ⟨hx, by rw [hy, hq]; rfl⟩
    obtain ⟨xo, xn, xa, xm, xc, xe, xf, xd⟩ := rx
    obtain ⟨yo, yn, ya, ym, yc, ye, yf, yd⟩ := ry
    simp only [Fr.v] at KQ p0 p1 p2 p3 r0 r1 r2 r3
    clear hx hy hq hfx hfy
    by_cases hxy : x = y
    ·have HKN := Lib.hid (Lib.keeps_neg (d := d) (m := k) (by omega) (by rw [← HXY.out.1, ← HXY.out.2]; exact hxy))
     rw [decide_eq_true hxy] at KQ
     have e1 : (0 : Int) ≤ (k : Int) := by omega
     have e2 : (k : Int) ≤ (cap : Int) := by omega
     have e3 : ((k : Int)).toNat = k := by omega
     have e4 : k ≤ cap := by omega
     have e5 : (k : Int) ≤ (n : Int) := by omega
     have e6 : ¬ cap = k := by omega
     have HCI : Hid (Lib.CompInv d (k + 1) k d) := Lib.hid (Lib.CompInv.start hall.out HKN.out)
     clear hall HKN HXY hxy
     go_wp2_with fail
     go_region_held3 (fun w' => w'.cell? ⟨g, k * 4, none⟩ = some (.int .i64 xo) ∧ w'.cell? ⟨g, k * 4 + 1, none⟩ = some (.int .i64 xn) ∧ w'.cell? ⟨g, k * 4 + 2, none⟩ = some (.slice xa xm xc) ∧ w'.cell? ⟨g, k * 4 + 3, none⟩ = some (.slice xe xf xd) ∧ w'.cell? ⟨g, q * 4, none⟩ = some (.int .i64 yo) ∧ w'.cell? ⟨g, q * 4 + 1, none⟩ = some (.int .i64 yn) ∧ w'.cell? ⟨g, q * 4 + 2, none⟩ = some (.slice ya ym yc) ∧ w'.cell? ⟨g, q * 4 + 3, none⟩ = some (.slice ye yf yd) ∧ Since wr w')
      ((with_reducible refine ⟨Since.cell ?_ p0, Since.cell ?_ p1, Since.cell ?_ p2, Since.cell ?_ p3, Since.cell ?_ r0, Since.cell ?_ r1, Since.cell ?_ r2, Since.cell ?_ r3, ?_⟩) <;> (repeat (first | with_reducible assumption | with_reducible exact since_r _ | with_reducible refine Since.alloc ?_ _ | with_reducible refine since_d ?_)))
      ((go_at_call 167; refine KQ.out.mono ?_; rintro e w' ⟨rfl, hr⟩; have hB4 : Since wr w' := Since.step hSd hr))
     have HV1 := Lib.hid (hV.out.since hB4)
     clear hB4 hr hSd p0 p1 p2 p3 r0 r1 r2 r3 hV
     go_upto_region 8 with (fail)
     obtain ⟨m, hm⟩ : ∃ m, m = n - k := ⟨_, rfl⟩
     rw [← hm]
     have HM := Lib.hid hm
     have hm1 : 1 ≤ m := by omega
     have hm2 : m ≤ n := by omega
     clear hm
     rename World => w3
     go_wp2
     go_loopw [5, 7] (fun s3 s5 wr => ∃ (kk k2 : Nat) (dk : Array Fo), s3 = .int .i64 kk ∧ s5 = .int .i64 k2 ∧ 1 ≤ k2 ∧ k2 ≤ m ∧ Hid (Lib.CompInv d (k + k2) kk dk) ∧ Hid (CF S B g n cap w wr dk.toList)) (fun _ s5 _ => m - (intOf s5).toNat)
     case atStart => exact ⟨k, 1, d, rfl, rfl, Nat.le_refl _, hm1, HCI, HV1⟩
     case round =>
      obtain ⟨kk, k2, dk, rfl, rfl, hk2, hkm, hI, hV⟩ := hrel
      clear HCI HV1
      have hkk := hI.out.lt
      have hds2 : dk.size = n := hI.out.size.trans HDS.out
      have HD2 := Lib.hid hds2
      clear hds2
      by_cases hlt2 : k2 < m
      ·have j1 : (k2 : Int) < m := by omega
       obtain ⟨q2, hq2⟩ : ∃ q2 : Nat, k2 = q2 + 1 := ⟨k2 - 1, by omega⟩
       have j3 : IntKind.i64.wrap ((k2 : Int) - 1) = (q2 : Int) := by rw [IntWalk.i64_in _ (by omega)]; omega
       have j4 : (q2 : Int) < m := by omega
       have j5 : (0 : Int) ≤ (q2 : Int) := by omega
       have j6 : (0 : Int) ≤ (k2 : Int) := by omega
       have j7 : q2 < m := by omega
       have hkn : k + k2 < n := by have := HM.out; omega
       have hkq : k + q2 < n := by omega
       obtain ⟨x, hx⟩ : ∃ x, x = d[k + k2]! := ⟨_, rfl⟩
       obtain ⟨y, hy⟩ : ∃ y, y = d[k + k2 - 1]! := ⟨_, rfl⟩
       obtain ⟨rx, p0, p1, p2, p3, hfx, hfw⟩ := hV.out.pick HSG.out (j := k + k2) (x := x) (by rw [arr_atF dk (by rw [HD2.out]; exact hkn), hI.out.high (k + k2) (by omega), ← hx])
       have hy2 : y = d[k + q2]! := by rw [hy]; congr 1; omega
       obtain ⟨ry, r0, r1, r2, r3, hfy, -⟩ := hV.out.pick HSG.out (j := k + q2) (x := y) (by rw [arr_atF dk (by rw [HD2.out]; exact hkq), hI.out.high (k + q2) (by omega), ← hy2])
       rw [Nat.add_mul] at p0 p1 p2 p3 r0 r1 r2 r3
       have hSd : Since wr wr.drew := since_d (since_r _)
       have KQ := Lib.hid (equalF_any (hfx.since hSd (fun b hb => hb.2)) (hfy.since hSd (fun b hb => hb.2)) (fun b hb => Nat.lt_of_lt_of_le hb.2 hSd.size) (by rw [hx]; exact HOK.out _ hkn) (by rw [hy2]; exact HOK.out _ hkq))
       have HXY : Hid (x = d[k + k2]! ∧ y = d[k + k2 - 1]!) := Lib.hid ⟨hx, hy⟩
       have HFW := Lib.hid hfw
       obtain ⟨xo, xn, xa, xm, xc, xe, xf, xd⟩ := rx
       obtain ⟨yo, yn, ya, ym, yc, ye, yf, yd⟩ := ry
       simp only [Fr.v] at KQ p0 p1 p2 p3 r0 r1 r2 r3
       clear hx hy hy2 hq2 hfx hfy hfw
       by_cases hxy : x = y
       ·have HKN := Lib.hid (Lib.keeps_neg (d := d) (m := k + k2) (by omega) (by rw [← HXY.out.1, ← HXY.out.2]; exact hxy))
        have HI2 : Hid (Lib.CompInv d (k + (k2 + 1)) kk dk) := Lib.hid (hI.out.skip HKN.out)
        rw [decide_eq_true hxy] at KQ
        clear HKN HXY hxy HFW
        go_wp2_with fail
        go_region_held3 (fun w' => w'.cell? ⟨g, k * 4 + k2 * 4, none⟩ = some (.int .i64 xo) ∧ w'.cell? ⟨g, k * 4 + k2 * 4 + 1, none⟩ = some (.int .i64 xn) ∧ w'.cell? ⟨g, k * 4 + k2 * 4 + 2, none⟩ = some (.slice xa xm xc) ∧ w'.cell? ⟨g, k * 4 + k2 * 4 + 3, none⟩ = some (.slice xe xf xd) ∧ w'.cell? ⟨g, k * 4 + q2 * 4, none⟩ = some (.int .i64 yo) ∧ w'.cell? ⟨g, k * 4 + q2 * 4 + 1, none⟩ = some (.int .i64 yn) ∧ w'.cell? ⟨g, k * 4 + q2 * 4 + 2, none⟩ = some (.slice ya ym yc) ∧ w'.cell? ⟨g, k * 4 + q2 * 4 + 3, none⟩ = some (.slice ye yf yd) ∧ Since wr w')
         ((with_reducible refine ⟨Since.cell ?_ p0, Since.cell ?_ p1, Since.cell ?_ p2, Since.cell ?_ p3, Since.cell ?_ r0, Since.cell ?_ r1, Since.cell ?_ r2, Since.cell ?_ r3, ?_⟩) <;> (repeat (first | with_reducible assumption | with_reducible exact since_r _ | with_reducible refine Since.alloc ?_ _ | with_reducible refine since_d ?_)))
         ((go_at_call 167; refine KQ.out.mono ?_; rintro e w' ⟨rfl, hr⟩; have hB4 : Since wr w' := Since.step hSd hr))
        have HV2 := Lib.hid (hV.out.since hB4)
        clear hB4 hr hSd p0 p1 p2 p3 r0 r1 r2 r3 hV
        go_wp2
        go_roundw
        case rel => exact ⟨kk, k2 + 1, dk, rfl, by go_num, by omega, by omega, HI2, HV2⟩
        case measure => simp [intOf]; omega
       ·have HKP := Lib.hid (Lib.keeps_pos (d := d) (m := k + k2) (by rw [← HXY.out.1, ← HXY.out.2]; exact hxy))
        have hkkn : kk < n := by omega
        have HI2 : Hid (Lib.CompInv d (k + (k2 + 1)) (kk + 1) (dk.setIfInBounds kk x)) := Lib.hid (by have := hI.out.keep (by rw [HDS.out]; exact hkn) HKP.out; rw [← HXY.out.1] at this; exact this)
        rw [decide_eq_false hxy] at KQ
        have g1 : (kk : Int) < n := by omega
        have g2 : (0 : Int) ≤ (kk : Int) := by omega
        clear HKP HXY hxy
        go_wp2_with fail
        go_region_held3 (fun w' => w'.cell? ⟨g, k * 4 + k2 * 4, none⟩ = some (.int .i64 xo) ∧ w'.cell? ⟨g, k * 4 + k2 * 4 + 1, none⟩ = some (.int .i64 xn) ∧ w'.cell? ⟨g, k * 4 + k2 * 4 + 2, none⟩ = some (.slice xa xm xc) ∧ w'.cell? ⟨g, k * 4 + k2 * 4 + 3, none⟩ = some (.slice xe xf xd) ∧ w'.cell? ⟨g, k * 4 + q2 * 4, none⟩ = some (.int .i64 yo) ∧ w'.cell? ⟨g, k * 4 + q2 * 4 + 1, none⟩ = some (.int .i64 yn) ∧ w'.cell? ⟨g, k * 4 + q2 * 4 + 2, none⟩ = some (.slice ya ym yc) ∧ w'.cell? ⟨g, k * 4 + q2 * 4 + 3, none⟩ = some (.slice ye yf yd) ∧ Since wr w')
         ((with_reducible refine ⟨Since.cell ?_ p0, Since.cell ?_ p1, Since.cell ?_ p2, Since.cell ?_ p3, Since.cell ?_ r0, Since.cell ?_ r1, Since.cell ?_ r2, Since.cell ?_ r3, ?_⟩) <;> (repeat (first | with_reducible assumption | with_reducible exact since_r _ | with_reducible refine Since.alloc ?_ _ | with_reducible refine since_d ?_)))
         ((go_at_call 167; refine KQ.out.mono ?_; rintro e w' ⟨rfl, hr⟩; have hB4 : Since wr w' := Since.step hSd hr))
        have hV2 := hV.out.since hB4
        have t0 := Since.cell hB4 p0
        have t1 := Since.cell hB4 p1
        have t2 := Since.cell hB4 p2
        have t3 := Since.cell hB4 p3
        clear hB4 hr hSd p0 p1 p2 p3 r0 r1 r2 r3 hV
        obtain ⟨ro, o0, o1, o2, o3, -, -⟩ := hV2.pick HSG.out (j := kk) (x := dk[kk]!) (arr_atF dk (by rw [HD2.out]; exact hkkn))
        have f0 := hV2.frozen (kk * 4)
        have f1 := hV2.frozen (kk * 4 + 1)
        have f2 := hV2.frozen (kk * 4 + 2)
        have f3 := hV2.frozen (kk * 4 + 3)
        have hV3 := hV2.put hkkn HFW.out
        rw [← Array.toList_setIfInBounds] at hV3
        have HV3 := Lib.hid hV3
        clear hV3 hV2 HFW
        go_wp2
        go_roundw
        case rel => exact ⟨kk + 1, k2 + 1, _, by go_num, by go_num, by omega, by omega, HI2, HV3⟩
        case measure => simp [intOf]; omega
      ·have j1 : ¬ (k2 : Int) < m := by omega
       have hend : k + k2 = n := by have := HM.out; omega
       have hI2 := hI.out
       rw [hend, ← HDS.out] at hI2
       have hkkn : kk < n := by omega
       have hcl := fun ty => clear4_run wr ty g (kk * 4) (n - kk) (cap - kk) (by omega) (fun j hj => hV.out.cells _ (by omega)) (fun j hj => hV.out.frozen _)
       have hfin := CF.fin hV.out (m := kk) (by omega) (o := kk * 4) (Nat.le_refl _) (zer4 (n - kk)) (ys := Lib.compactUpTo d n) (by
        rw [← HDS.out]
        apply List.ext_getElem?
        intro j
        by_cases hj : j < kk
        ·rw [List.getElem?_take_of_lt hj, hI2.low j hj, arr_atF dk (by rw [HD2.out]; omega)]
        ·rw [List.getElem?_take_eq_none (by omega), List.getElem?_eq_none (by rw [hI2.len]; omega)])
       have HF := Lib.hid hfin
       have e1 : (0 : Int) ≤ (kk : Int) := by omega
       have e2 : (kk : Int) ≤ (cap : Int) := by omega
       have e3 : ((kk : Int)).toNat = kk := by omega
       have e4 : kk ≤ cap := by omega
       have e5 : (kk : Int) ≤ (n : Int) := by omega
       have e6 : ¬ cap = kk := by omega
       clear hfin hI2 hV hI hend hkk
       generalize zer4 (n - kk) = zs at *
       go_wp2
       go_ret
       exact HF.out
    ·have HKP := Lib.hid (Lib.keeps_pos (d := d) (m := k) (by rw [← HXY.out.1, ← HXY.out.2]; exact hxy))
     have HALL : Hid (∀ j, j < k + 1 → Lib.keeps d j = true) := Lib.hid fun j hj => by
      by_cases e : j = k
      ·subst e; exact HKP.out
      ·exact hall.out j (by omega)
     rw [decide_eq_false hxy] at KQ
     clear HKP HXY hxy hall
     go_wp2_with fail
     go_region_held3 (fun w' => w'.cell? ⟨g, k * 4, none⟩ = some (.int .i64 xo) ∧ w'.cell? ⟨g, k * 4 + 1, none⟩ = some (.int .i64 xn) ∧ w'.cell? ⟨g, k * 4 + 2, none⟩ = some (.slice xa xm xc) ∧ w'.cell? ⟨g, k * 4 + 3, none⟩ = some (.slice xe xf xd) ∧ w'.cell? ⟨g, q * 4, none⟩ = some (.int .i64 yo) ∧ w'.cell? ⟨g, q * 4 + 1, none⟩ = some (.int .i64 yn) ∧ w'.cell? ⟨g, q * 4 + 2, none⟩ = some (.slice ya ym yc) ∧ w'.cell? ⟨g, q * 4 + 3, none⟩ = some (.slice ye yf yd) ∧ Since wr w')
      ((with_reducible refine ⟨Since.cell ?_ p0, Since.cell ?_ p1, Since.cell ?_ p2, Since.cell ?_ p3, Since.cell ?_ r0, Since.cell ?_ r1, Since.cell ?_ r2, Since.cell ?_ r3, ?_⟩) <;> (repeat (first | with_reducible assumption | with_reducible exact since_r _ | with_reducible refine Since.alloc ?_ _ | with_reducible refine since_d ?_)))
      ((go_at_call 167; refine KQ.out.mono ?_; rintro e w' ⟨rfl, hr⟩; have hB4 : Since wr w' := Since.step hSd hr))
     have HV2 := Lib.hid (hV.out.since hB4)
     clear hB4 hr hSd p0 p1 p2 p3 r0 r1 r2 r3 hV
     go_wp2
     go_roundw
     case rel => exact ⟨k + 1, by omega, by omega, by go_num, HALL, HV2⟩
     case measure => simp [intOf]; omega
   ·have i1 : ¬ (k : Int) < n := by omega
    have hkn : k = n := by omega
    have hfin := (CF.fin hV.out (Nat.le_refl n) (Nat.le_refl (n * 4)) [] (ys := Lib.compactUpTo d n) (by rw [List.take_of_length_le (by rw [Array.length_toList, HDS.out]; exact Nat.le_refl _)]; exact HA.out (by rw [← hkn]; exact hall.out)))
    have HF := Lib.hid hfin
    clear hfin hall hV hkn
    go_wp2
    go_ret
    exact HF.out
theorem compF_any (S : Nat → Prop) (B : Nat) (sv : Value) (rs : List Fr) (xs : List Fo) (w : World) (hO : ROwn RFo 29 B w sv rs) (hL : LieF S w rs xs) (hS : ∀ k, S k → sv.ownBlock ≠ some k) (hok : ∀ p ∈ xs, OkF p) (hl : xs.length ≤ 1000000) :
  Calls Tryz.prog 169 #[sv, .func (.func 167) #[] #[]] w (CutF4 S B sv (Lib.compact xs) w) := by
 rcases own_cases hO with ⟨rfl, rfl⟩ | ⟨g, cap, rfl⟩
 ·have hx : xs = [] := List.eq_nil_of_length_eq_zero (by simpa using hL.1.symm)
  subst hx
  have HF : Hid (CutF4 S B (.slice none 0 0) (Lib.compact []) w (.returned (.slice none 0 0)) w) := Lib.hid ⟨_, _, _, _, rfl, Lib.hid hO, Lib.hid hL, Lib.hid (PF.refl _ _), Lib.hid (Below.refl _ _)⟩
  clear hO
  go_enter Tryz.func169, Tryz.ntmps169
  go_wp2
  go_ret
  exact HF.out
 ·exact compF_some S B g _ cap rs xs w hO hL (fun k hk e => hS k hk (by rw [e]; rfl)) hok (by rw [hL.1]; exact hl)
theorem sorted_asc {ps qs : List Fo} (hp : qs.Perm ps) (hs : qs.Pairwise fun x y => fcmp x y ≤ 0) : Lib.compact qs = ascO fcmp ps := by
 obtain ⟨h1, h2⟩ := compact_pair (fun a b : Fo => fcmp a b ≤ 0) (fun a b c => fcmp_ord.trans a b c) (fun a b h1 h2 => fcmp_ord.zero a b (by have := fcmp_ord.anti a b; omega)) (fun a => by rw [fcmp_ord.self]; omega) qs hs
 refine ascO_one fcmp_ord (h1.imp fun {a b} h => ?_) fun x => (h2 x).trans hp.mem_iff
 have h3 := h.1
 have h4 : fcmp a b ≠ 0 := fun e => h.2 (fcmp_ord.zero a b e)
 omega
end Go.Proofs.YtgnloodmbgdgdaaGreat
