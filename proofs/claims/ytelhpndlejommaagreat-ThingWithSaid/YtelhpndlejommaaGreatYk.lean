/- The generator of things: Spoilt. -/
import Derived.Test.YtelhpndlejommaaGreatYj
namespace Go.Proofs.YtelhpndlejommaaGreat
open Go.RowKit Go.Shelf

/-- What Spoilt does of things of up to n nodes. -/
def SpoilK (n : Nat) : Prop := ∀ (t : Th), t.size ≤ n → t.wf → t.wt ≤ 100000 → ∀ (x y z : Int), I64 x → I64 y → I64 z → ∀ (S0 : Nat → Prop) (a b c : Value) (W : World), (∀ k, S0 k → k < W.heap.size) → TS S0 W t a b c →
  Calls Tryz.prog 17 #[.agg #[a, b, c], .int .i64 x, .int .i64 y, .int .i64 z] W (ThOut S0 (fun u => u.wf ∧ u.wt ≤ 2 * t.wt + 400) W)

theorem spoil_fin {S0 : Nat → Prop} {P : Th → Prop} {W w : World} {N1 N : Nat} {a1 a2 a3 : Option Addr} {n1 c1 n2 c2 n3 c3 : Nat} {cs : List Int} {vs : List Va} {rs : List Tr} {ps : List Th} (h1 : W.heap.size + 1 = N1) (h2 : W.heap.size + 2 = N) (hS0 : ∀ k, S0 k → k < W.heap.size) (hB : Below W.heap.size W w)
    (hO : OB (fun k => S0 k ∨ N ≤ k) N N w (.slice a1 n1 c1) (.slice a2 n2 c2) (.slice a3 n3 c3) cs vs rs ps) (hP : P (.mk cs vs ps)) :
    ThOut S0 P W (.returned (.agg #[.slice a1 n1 c1, .slice a2 n2 c2, .slice a3 n3 c3])) (put3 w N1 (.slice a1 n1 c1) (.slice a2 n2 c2) (.slice a3 n3 c3)) := by
  subst h1
  subst h2
  refine ⟨.mk cs vs ps, ⟨a1, n1, c1, a2, n2, c2, a3, n3, c3⟩, rfl, Lib.hid ?_, Lib.hid hP, Lib.hid ?_⟩
  · have hd := hO.done (fun k hk => .inr hk)
    exact TS.keep (put3_keep _ _ _ _ _ fun k hk => by rcases hk.1 with h | h; (have := hS0 k h; omega); omega) (S' := fun k => S0 k ∨ W.heap.size ≤ k) (fun b _ hb => by rcases hb.1 with h | h; exact .inl h; exact .inr (by omega)) _ hd
  · exact put3_below hB (by omega) _ _ _

theorem ps_rows {S0 : Nat → Prop} {W w : World} {N : Nat} {c : Value} {ps : List Th} (hP : PSl S0 W c ps) (hS0 : ∀ k, S0 k → k < W.heap.size) (hN : W.heap.size < N) (hB : Below W.heap.size W w) {va vb vc : Value} {cs : List Int} {vs : List Va} {rs' : List Tr} {ps' : List Th} (hO : OB (fun k => S0 k ∨ N ≤ k) N N w va vb vc cs vs rs' ps') :
    ∃ rs : List Tr, RFl RTh w c rs ∧ rs.length = ps.length ∧ Lie (Free (fun k => S0 k ∨ N ≤ k) N va vb vc) w rs ps := by
  obtain ⟨rs, h1, h2, h3, h4⟩ := hP.rows
  refine ⟨rs, (h1.low (h2.low hS0) hB).rfl', h3, h3, fun j r t hr ht => ?_⟩
  obtain ⟨r', hr', hT⟩ := h4 j t ht
  rw [hr] at hr'
  cases hr'
  have hT2 := TS.keep (W := w) (S' := S0) ⟨hB.size, fun b hb hl => hB.block b (hS0 b hb)⟩ (fun b _ hb => hb) t hT
  exact hO.part (w' := w) (fun k _ hk => ⟨.inl hk.1, .inl (by have := hS0 k hk.1; omega)⟩) hT2

theorem spoil_P {cs : List Int} {vs : List Va} {ps : List Th} {tw : Nat} (h1 : ∀ z ∈ cs, I64 z) (h2 : ∀ v ∈ vs, v.wf) (h3 : ∀ u ∈ ps, u.wf) (hw : 3 + cs.length + 3 * vs.length + Th.wts ps ≤ 2 * tw + 400) (ht : tw ≤ 100000) : (Th.mk cs vs ps).wf ∧ (Th.mk cs vs ps).wt ≤ 2 * tw + 400 :=
  ⟨(Th.wf_eq _).2 ⟨⟨⟨h1, by show cs.length ≤ _; omega⟩, h2, by show vs.length ≤ _; omega⟩, h3⟩, by rw [Th.wt_eq]; exact hw⟩

theorem i64_31 : I64 31 := ⟨by decide, by decide⟩
theorem i64_6 : I64 6 := ⟨by decide, by decide⟩
theorem i64_1 : I64 1 := ⟨by decide, by decide⟩

theorem ts_nil (S : Nat → Prop) (w : World) : TS S w (.mk [] [] []) (.slice none 0 0) (.slice none 0 0) (.slice none 0 0) :=
  TS.of (.inl ⟨.inl rfl, rfl⟩) (.inl (.inl rfl)) (.inl ⟨.inl rfl, rfl⟩) (.inl (.inl rfl)) (.inl ⟨.inl rfl, rfl⟩)

theorem wf_nil : (Th.mk [] [] []).wf := (Th.wf_eq _).2 ⟨⟨⟨(fun z hz => by cases hz), Nat.zero_le _⟩, (fun z hz => by cases hz), Nat.zero_le _⟩, (fun z hz => by cases hz)⟩

theorem wf_one {u : Th} (h : u.wf) : (Th.mk [] [] [u]).wf := (Th.wf_eq _).2 ⟨⟨⟨(fun z hz => by cases hz), Nat.zero_le _⟩, (fun z hz => by cases hz), Nat.zero_le _⟩, (fun z hz => by rw [List.mem_singleton.1 hz]; exact h)⟩

theorem put3_size (w : World) (N : Nat) (a b c : Value) : (put3 w N a b c).heap.size = w.heap.size := by unfold put3; simp only [World.size_setCell]

/-- One more nesting. -/
theorem nest_one {M : Nat} {w : World} {u : Th} {sv : Value} (T : TypeId) (hM : M < w.heap.size) (h : TS (fun k => M < k ∧ k < w.heap.size) w u (.slice none 0 0) (.slice none 0 0) sv) :
    TS (fun k => M < k ∧ k < ((put3 w M (.slice none 0 0) (.slice none 0 0) (.slice (some ⟨w.heap.size, 0, none⟩) 1 1)).alloc (.cells #[.slice none 0 0, .slice none 0 0, sv] T)).heap.size) ((put3 w M (.slice none 0 0) (.slice none 0 0) (.slice (some ⟨w.heap.size, 0, none⟩) 1 1)).alloc (.cells #[.slice none 0 0, .slice none 0 0, sv] T)) (.mk [] [] [u]) (.slice none 0 0) (.slice none 0 0) (.slice (some ⟨w.heap.size, 0, none⟩) 1 1) := by
  have hk1 := put3_keep (S := fun k => M < k ∧ k < w.heap.size) w M (.slice none 0 0) (.slice none 0 0) (.slice (some ⟨w.heap.size, 0, none⟩) 1 1) (fun k hk => by omega)
  have h1 := TS.keep hk1 (S' := fun k => M < k) (fun b _ hb => hb.1) u h
  have hs := put3_size w M (.slice none 0 0) (.slice none 0 0) (.slice (some ⟨w.heap.size, 0, none⟩) 1 1)
  generalize put3 w M (.slice none 0 0) (.slice none 0 0) (.slice (some ⟨w.heap.size, 0, none⟩) 1 1) = w1 at *
  have hX := BoxL.made w1 #[.slice none 0 0, .slice none 0 0, sv] T
  rw [hs] at hX
  have hk0 : KeepS (fun k => M < k ∧ k < w1.heap.size) w1 (w1.alloc (.cells #[.slice none 0 0, .slice none 0 0, sv] T)) := ⟨by simp, fun b _ hl => Below.heap_alloc _ _ _ hl⟩
  have h2 := TS.keep hk0 (S' := fun k => M < k) (fun b _ hb => hb.1) u h1
  obtain ⟨q0, q1, q2, -, -, -, hl⟩ := hX.open3
  exact TS.of (.inl ⟨.inl rfl, rfl⟩) (.inl (.inl rfl)) (.inl ⟨.inl rfl, rfl⟩) (.inl (.inl rfl)) (.inr ⟨w.heap.size, 1, ⟨hM, hl⟩, hl, rfl, Nat.le_refl _, ⟨_, _, _, q0, q1, q2, h2⟩, trivial⟩)

theorem box3_set {M : Nat} {w : World} {a b c a' b' c' : Value} (h : BoxL M [a, b, c] w) : BoxL M [a', b', c'] (put3 w M a' b' c') := ((h.set1 0 a' (by simp)).set1 1 b' (by simp)).set1 2 c' (by simp)

theorem rin_own {E : TypeId} {B : Nat} {w : World} {v : Value} {xs : List Int} (h : ROwn RIn E B w v xs) : Own .i64 E B w v xs := by
  unfold ROwn at h
  rw [rin_flat] at h
  exact h

theorem own_rin {E : TypeId} {B : Nat} {w : World} {v : Value} {xs : List Int} (h : Own .i64 E B w v xs) : ROwn RIn E B w v xs := by
  unfold ROwn
  rw [rin_flat]
  exact h

theorem PF.put (w : World) (g o n c : Nat) (u : Value) : PF (.slice (some ⟨g, 0, none⟩) n c) w (w.setCell ⟨g, o, none⟩ u) (.slice (some ⟨g, 0, none⟩) n c) :=
  ⟨⟨by rw [World.size_setCell]; exact Nat.le_refl _, fun b hb _ => Below.heap_setCell _ _ _ _ (fun (e : b = g) => hb (by rw [e]; rfl))⟩, fun _ h => .inl h⟩

/-- Classes changed in place. -/
theorem OB.upd1 {S : Nat → Prop} {B N : Nat} {w w' : World} {va vb vc : Value} {cs cs' : List Int} {vs : List Va} {rs : List Tr} {ps : List Th} (h : OB S B N w va vb vc cs vs rs ps) (hp : PF va w w' va) (hO : ROwn RIn 3 B w' va cs') : OB S B N w' va vb vc cs' vs rs ps :=
  ⟨h.there1 hp, h.hB, hO, h.ob.keepS fun g e hl => hp.1.2 g (fun e2 => h.ab g e2 e) hl, h.oc.keepS fun g e hl => hp.1.2 g (fun e2 => h.ac g e2 e) hl, h.lie.keep ⟨hp.1.1, fun b hb hl => hp.1.2 b hb.2.2.1 hl⟩ fun _ _ h => h, h.na, h.nb, h.nc, h.ab, h.ac, h.bc⟩

theorem ROwn.frozen {α : Type} {R : RowOf α} {E : TypeId} {B : Nat} {w : World} {g n c : Nat} {xs : List α} (h : ROwn R E B w (.slice (some ⟨g, 0, none⟩) n c) xs) (j : Nat) : w.frozen? ⟨g, j, none⟩ = false := by
  have hn := h.els.len
  subst hn
  exact World.ownsRow.frozenAt h j

theorem Since.adrew2 (w : World) (o : Obj) : Since w (w.drew.alloc o) := Below.alloc (Below.drew (Below.refl _ _)) (Nat.le_refl _) o

theorem tab5 {r : Nat} (hr : r < 5) {a b c d e : Int} (ha : I64 a) (hb : I64 b) (hc : I64 c) (hd : I64 d) (he : I64 e) : ∃ v, I64 v ∧ (#[Value.int .i64 a, .int .i64 b, .int .i64 c, .int .i64 d, .int .i64 e] : Array Value).toList[r]? = some (.int .i64 v) := by
  match r, hr with
  | 0, _ => exact ⟨a, ha, rfl⟩
  | 1, _ => exact ⟨b, hb, rfl⟩
  | 2, _ => exact ⟨c, hc, rfl⟩
  | 3, _ => exact ⟨d, hd, rfl⟩
  | 4, _ => exact ⟨e, he, rfl⟩

theorem tab4 {r : Nat} (hr : r < 4) {a b c d : Int} (ha : I64 a) (hb : I64 b) (hc : I64 c) (hd : I64 d) : ∃ v, I64 v ∧ (#[Value.int .i64 a, .int .i64 b, .int .i64 c, .int .i64 d] : Array Value).toList[r]? = some (.int .i64 v) := by
  match r, hr with
  | 0, _ => exact ⟨a, ha, rfl⟩
  | 1, _ => exact ⟨b, hb, rfl⟩
  | 2, _ => exact ⟨c, hc, rfl⟩
  | 3, _ => exact ⟨d, hd, rfl⟩

/-- A readable row appended to a slice of the call's own: the law at the operation itself. -/
theorem wp_row1_f {P : Program} {o : Oper} {act : Act} {K : Act → World → Prop} {Q : Exit → Act → World → Prop} {w : World} (s x : Operand) (t : TypeId)
    (ho : o.op = .call { callee := .builtin .append, args := #[s, x], argTypes := #[t, t] }) {α : Type} (R : RowOf α) (e : TypeId) (bytes : Nat) (z : Value) (ht : P.underlying t = some (.slice e))
    (info : (P.info? e).map (fun i => (i.zero, i.size, i.bytes)) = some (some z, R.k, bytes)) (hzc : z.cells.size = R.k) (hby : bytes ≤ 1000) (B : Nat) (v : Value) (xs ns : List α) (b m c0 : Nat) (hm : m = ns.length)
    (hs : act.eval s = v) (hx : act.eval x = .slice (some ⟨b, 0, none⟩) m c0) (hcell : ∀ j u, (ns.flatMap R.cells)[j]? = some u → w.cell? ⟨b, j, none⟩ = some u) (hown : ROwn R e B w v xs) (hB : B ≤ w.heap.size) (hl : xs.length + m ≤ 1000000000)
    (h : ∀ a n c w', Hid (n = xs.length + m) → Hid (ROwn R e B w' (.slice a n c) (xs ++ ns)) → Hid (Below B w w') → Hid (PF v w w' (.slice a n c)) → K (act.put o.dst (.slice a n c)) w') :
    Oper.wp P o act w K Q := by
  subst hm
  obtain ⟨i0, hi, hz0, hz1, hz2⟩ := info_parts info
  have hmul : (xs.length + ns.length) * bytes ≤ (xs.length + ns.length) * 1000 := Nat.mul_le_mul_left _ hby
  obtain ⟨v', w1, hr, hown', hgrow, _, hat⟩ := run_append_own_at (P := P) w B t o.type e i0 z R.k bytes ht hi hz0 hz1 hz2 hzc R.pos v xs.length _ hown ⟨b, 0, none⟩ ns.length c0 (ns.flatMap R.cells) (R.flat ns) (fun j u hu => by
      have e : (⟨b, 0, none⟩ : Addr).add j = ⟨b, j, none⟩ := by by_cases h : j = 0 <;> simp [Addr.add, h]
      rw [e]; exact hcell j u hu) (fun u hu => by obtain ⟨t, _, hu⟩ := List.mem_flatMap.1 hu; exact R.one t u hu) (by unfold maxLen; omega) (by omega) hB
  unfold Oper.wp execOp
  simp only [ho, resolve, invoke, builtin, Sem.run_bind, Sem.run_pure, Result.andThen_ok, List.map_toArray, List.map_cons, List.map_nil, hs, hx, hr]
  have hO' : ROwn R e B w1 v' (xs ++ ns) := by
    unfold ROwn
    rw [List.length_append, List.flatMap_append]
    exact hown'
  have hpf := PF.of_grown hgrow hat
  have hbl := (Below.refl B w).grown hgrow hB fun j hj => (World.ownsRow.lt hown j hj).1
  obtain ⟨a, n, c, rfl, hn, hO⟩ := hO'.slice
  refine h a n c w1 ?_ hO hbl hpf
  have := hn.out
  rw [List.length_append] at this
  exact this

/-- Parts changed in place. -/
theorem OB.upd3 {S : Nat → Prop} {B N : Nat} {w w' : World} {va vb vc : Value} {cs : List Int} {vs : List Va} {rs rs' : List Tr} {ps ps' : List Th} (h : OB S B N w va vb vc cs vs rs ps) (hp : PF vc w w' vc) (hO : ROwn RTh 27 B w' vc rs') (hL : Lie (Free S N va vb vc) w rs' ps') : OB S B N w' va vb vc cs vs rs' ps' :=
  ⟨h.there3 hp, h.hB, h.oa.keepS fun g e hl => hp.1.2 g (fun e2 => h.ac g e e2) hl, h.ob.keepS fun g e hl => hp.1.2 g (fun e2 => h.bc g e e2) hl, hO, hL.keep ⟨hp.1.1, fun b hb hl => hp.1.2 b hb.2.2.2.2 hl⟩ fun _ _ h => h, h.na, h.nb, h.nc, h.ab, h.ac, h.bc⟩

theorem PF.put3 (w : World) (g o1 o2 o3 n c : Nat) (u1 u2 u3 : Value) : PF (.slice (some ⟨g, 0, none⟩) n c) w (((w.setCell ⟨g, o1, none⟩ u1).setCell ⟨g, o2, none⟩ u2).setCell ⟨g, o3, none⟩ u3) (.slice (some ⟨g, 0, none⟩) n c) := by
  refine ⟨⟨by simp only [World.size_setCell]; exact Nat.le_refl _, fun b hb _ => ?_⟩, fun _ h => .inl h⟩
  have hne : b ≠ g := fun e => hb (by rw [e]; rfl)
  rw [Below.heap_setCell _ _ _ _ hne, Below.heap_setCell _ _ _ _ hne, Below.heap_setCell _ _ _ _ hne]

theorem Lie.set {S : Nat → Prop} {w : World} {rs : List Tr} {ps : List Th} (h : Lie S w rs ps) (k : Nat) {r : Tr} {t : Th} (hT : TS (fun k => S k ∧ k < w.heap.size) w t (.slice r.a1 r.n1 r.c1) (.slice r.a2 r.n2 r.c2) (.slice r.a3 r.n3 r.c3)) : Lie S w (rs.set k r) (ps.set k t) := by
  refine ⟨by simp [h.1], fun j r' t' hr ht => ?_⟩
  rw [List.getElem?_set] at hr ht
  by_cases e : k = j
  · rw [if_pos e] at hr ht
    split at hr
    · split at ht
      · cases hr; cases ht; exact hT
      · cases ht
    · cases hr
  · rw [if_neg e] at hr ht
    exact h.2 j r' t' hr ht

theorem wts_set {ps : List Th} {k : Nat} {u v : Th} (h : ps[k]? = some u) : Th.wts (ps.set k v) + u.wt = Th.wts ps + v.wt := by
  induction ps generalizing k with
  | nil => simp at h
  | cons t ts ih =>
    cases k with
    | zero =>
      simp at h
      subst h
      simp [Th.wts]
      omega
    | succ k =>
      rw [List.getElem?_cons_succ] at h
      have := ih h
      simp [Th.wts]
      omega

theorem mem_setT {P : Th → Prop} {l : List Th} (h : ∀ z ∈ l, P z) (k : Nat) {v : Th} (hv : P v) : ∀ z ∈ l.set k v, P z := fun z hz => by
  rcases List.mem_or_eq_of_mem_set hz with h1 | rfl
  · exact h z h1
  · exact hv

theorem mem_set {P : Int → Prop} {l : List Int} (h : ∀ z ∈ l, P z) (k : Nat) {v : Int} (hv : P v) : ∀ z ∈ l.set k v, P z := fun z hz => by
  rcases List.mem_or_eq_of_mem_set hz with h1 | rfl
  · exact h z h1
  · exact hv

theorem mem_app {α : Type} {P : α → Prop} {a b : List α} (h1 : ∀ z ∈ a, P z) (h2 : ∀ z ∈ b, P z) : ∀ z ∈ a ++ b, P z := fun z hz => by
  rcases List.mem_append.1 hz with h | h
  · exact h1 z h
  · exact h2 z h

theorem mem_one {α : Type} {P : α → Prop} {x : α} (h : P x) : ∀ z ∈ [x], P z := fun z hz => by rw [List.mem_singleton.1 hz]; exact h

set_option maxHeartbeats 8000000 in
set_option maxRecDepth 100000 in
theorem spoil_step (n : Nat) (K : Hid (∀ m, m < n → SpoilK m)) : SpoilK n := by
  intro t ht hwf hwt x y z hx hy hz S0 a b c W hS0 hT
  have hTA := TS.tat hS0 t hT
  obtain ⟨⟨a1, n1, c1, a2, n2, c2, a3, n3, c3⟩, rfl, rfl, rfl, hn1, hn2, hn3⟩ := hT.shape
  simp only at hn1 hn2 hn3
  obtain ⟨cs, vs, ps⟩ := t
  obtain ⟨⟨hE1, -⟩, ⟨hE2, -⟩, hP⟩ := hT.parts
  obtain ⟨-, -, -, -, -, -, -, -, -, -, -, -, hL1, hL2⟩ := hTA.shape
  have hwtl := (Th.wt_eq (.mk cs vs ps))
  have hpl := Th.wts_len ps
  have hsz := Th.size_eq (.mk cs vs ps)
  obtain ⟨⟨⟨hw1, -⟩, hw2, -⟩, hw3⟩ := (Th.wf_eq _).1 hwf
  simp only [Th.cs, Th.vs, Th.ps] at hwtl hn1 hn2 hn3 hw1 hw2 hw3 hsz
  generalize hwv : Th.wt (.mk cs vs ps) = tw at *
  obtain ⟨W2, hW2⟩ : ∃ W2, W2 = (W.alloc (.cells #[.slice a1 n1 c1, .slice a2 n2 c2, .slice a3 n3 c3] 27)).alloc (.cells #[.slice none 0 0, .slice none 0 0, .slice none 0 0] 27) := ⟨_, rfl⟩
  have hB2 : Below W.heap.size W W2 := by rw [hW2]; exact ((Below.refl _ _).alloc (Nat.le_refl _) _).alloc (by simp) _
  have hX : BoxL W.heap.size [.slice a1 n1 c1, .slice a2 n2 c2, .slice a3 n3 c3] W2 := by rw [hW2]; exact (BoxL.made W _ _).under _
  have hR : BoxL (W.heap.size + 1) [.slice none 0 0, .slice none 0 0, .slice none 0 0] W2 := by
    rw [hW2]
    have := BoxL.made (W.alloc (.cells #[.slice a1 n1 c1, .slice a2 n2 c2, .slice a3 n3 c3] 27)) #[.slice none 0 0, .slice none 0 0, .slice none 0 0] 27
    rwa [World.size_alloc] at this
  have hsz2 : W2.heap.size = W.heap.size + 1 + 1 := by rw [hW2, World.size_alloc, World.size_alloc]
  obtain ⟨W3, hW3⟩ : ∃ W3, W3 = W2.alloc (.cells #[.slice none 0 0, .slice none 0 0, .slice none 0 0] 27) := ⟨_, rfl⟩
  have hS3 : Since W2 W3 := by rw [hW3]; exact (Below.refl _ _).alloc (Nat.le_refl _) _
  have hO3 : OB (fun k => S0 k ∨ W.heap.size + 1 + 1 ≤ k) (W.heap.size + 1 + 1) (W.heap.size + 1 + 1) W3 (.slice none 0 0) (.slice none 0 0) (.slice none 0 0) [] [] [] [] := by rw [hW3, ← hsz2]; exact OB.new _ _ _ (Nat.le_refl _)
  have hBs : ∀ w, Since W2 w → Below W.heap.size W w := fun w h => hB2.trans (Below.mono h hB2.size)
  have HFN := Lib.hid fun (w : World) (P : Th → Prop) (b1 b2 b3 : Option Addr) (l1 d1 l2 d2 l3 d3 : Nat) cs' vs' rs' ps' h hS => spoil_fin (S0 := S0) (P := P) (W := W) (w := w) (N1 := W.heap.size + 1) (N := W.heap.size + 1 + 1) (a1 := b1) (a2 := b2) (a3 := b3) (n1 := l1) (c1 := d1) (n2 := l2) (c2 := d2) (n3 := l3) (c3 := d3) (cs := cs') (vs := vs') (rs := rs') (ps := ps') rfl rfl hS0 (hBs w hS) h
  have HPR := Lib.hid fun (w : World) va vb vc cs' vs' rs' ps' h hS => ps_rows (N := W.heap.size + 1 + 1) hP hS0 (by omega) (hBs w hS) (va := va) (vb := vb) (vc := vc) (cs := cs') (vs := vs') (rs' := rs') (ps' := ps') h
  have HC1 := Lib.hid fun (w : World) (hS : Since W2 w) => hE1.low hL1 (hBs w hS)
  have HC2 := Lib.hid fun (w : World) (hS : Since W2 w) => hE2.low hL2 (hBs w hS)
  have HX := Lib.hid hX
  have HNL : Hid (n1 = cs.length ∧ n2 = vs.length ∧ n3 = ps.length) := Lib.hid ⟨hn1, hn2, hn3⟩
  clear hn1 hn2 hn3
  have HR := Lib.hid hR
  have HBS := Lib.hid hBs
  have HS3 := Lib.hid hS3
  have HO3 := Lib.hid hO3
  have HSZ := Lib.hid hsz2
  have HW := Lib.hid hwtl
  have HPL := Lib.hid hpl
  have HW1 := Lib.hid hw1
  have HW2 := Lib.hid hw2
  have HW3 := Lib.hid hw3
  have HS0 := Lib.hid hS0
  have HTS := Lib.hid hP
  have hss : Th.sizes ps < n := by omega
  clear hX hR hBs hS3 hO3 hsz2 hwtl hpl hw1 hw2 hw3 hS0 hP hE1 hE2 hL1 hL2 hT hTA hwf hB2 ht hsz
  have hx1 := hx.1; have hx2 := hx.2; have hy1 := hy.1; have hy2 := hy.2; have hz1 := hz.1; have hz2 := hz.2
  clear hx hy hz
  go_enter Tryz.func17, Tryz.ntmps17
  go_upto_region 2 with (fail)
  rw [← hW2, ← hW3]
  clear hW2 hW3
  generalize hN2 : W.heap.size + 1 + 1 = N at *
  generalize hN1 : W.heap.size + 1 = N1 at *
  have HN1 := Lib.hid hN1
  have HN2 := Lib.hid hN2
  clear hN1 hN2
  obtain ⟨p0, p1, p2, -⟩ := (HX.out.keep HS3.out).open3
  obtain ⟨x0, x1, x2, f0, f1, f2, -⟩ := HO3.out.box.open3
  have hzB : N ≤ W3.heap.size := by rw [← HSZ.out]; exact HS3.out.size
  have hl1 : 0 + cs.length ≤ 1000000000 := by have := HW.out; omega
  go_upto_region 3 with (at_builtin; refine push_rows_f rfl _ _ 22 rfl RIn 3 8 _ Tryz.underlying22 Tryz.infoI64 rfl (by decide) N (.slice none 0 0) [] cs _ rfl rfl HO3.out.oa (HC1.out _ HS3.out).rfl' hzB hl1 ?_; intro an ln cn wn hnn hOn hBn hPn; obtain ⟨y0, y1, y2, g0, g1, g2, -⟩ := (HO3.out.there1 hPn.out).open3)
  have hO4 := HO3.out.set1 hPn.out hOn.out
  have hS4 : Since W2 (wn.setCell ⟨N, 0, none⟩ (.slice an ln cn)) := since_put HSZ.out HS3.out hBn.out _ _
  generalize wn.setCell ⟨N, 0, none⟩ (.slice an ln cn) = W4 at *
  have HO4 := Lib.hid hO4
  have HS4 := Lib.hid hS4
  clear hO4 hS4 p0 p1 p2 x0 x1 x2 f0 f1 f2 hzB hl1 HO3 HS3 y0 y1 y2 g0 g1 g2 hnn hOn hBn hPn
  obtain ⟨p0, p1, p2, -⟩ := (HX.out.keep HS4.out).open3
  obtain ⟨x0, x1, x2, f0, f1, f2, -⟩ := HO4.out.box.open3
  have hzB : N ≤ W4.heap.size := by rw [← HSZ.out]; exact HS4.out.size
  have hl1 : 0 + vs.length ≤ 1000000000 := by have := HW.out; omega
  go_upto_region 4 with (at_builtin; refine push_rows_f rfl _ _ 25 rfl RVa 46 24 _ Tryz.underlying25 Tryz.infoVal rfl (by decide) N (.slice none 0 0) [] vs _ rfl rfl HO4.out.ob (HC2.out _ HS4.out).rfl' hzB hl1 ?_; intro an2 ln2 cn2 wn hnn hOn hBn hPn; obtain ⟨y0, y1, y2, g0, g1, g2, -⟩ := (HO4.out.there2 hPn.out).open3)
  have hO5 := HO4.out.set2 hPn.out hOn.out
  have hS5 : Since W2 (wn.setCell ⟨N, 1, none⟩ (.slice an2 ln2 cn2)) := since_put HSZ.out HS4.out hBn.out _ _
  generalize wn.setCell ⟨N, 1, none⟩ (.slice an2 ln2 cn2) = W5 at *
  have HO5 := Lib.hid hO5
  have HS5 := Lib.hid hS5
  clear hO5 hS5 p0 p1 p2 x0 x1 x2 f0 f1 f2 hzB hl1 HO4 HS4 y0 y1 y2 g0 g1 g2 hnn hOn hBn hPn
  obtain ⟨p0, p1, p2, -⟩ := (HX.out.keep HS5.out).open3
  obtain ⟨x0, x1, x2, f0, f1, f2, -⟩ := HO5.out.box.open3
  have hzB : N ≤ W5.heap.size := by rw [← HSZ.out]; exact HS5.out.size
  obtain ⟨rs, hrf, hrl, hrL⟩ := HPR.out _ _ _ _ _ _ _ _ HO5.out HS5.out
  have hl1 : 0 + rs.length ≤ 1000000000 := by have := HW.out; have := HPL.out; omega
  have HRF := Lib.hid hrf
  have HRL := Lib.hid hrL
  have HRN := Lib.hid hrl
  clear hrf hrL hrl
  go_upto_region 5 with (at_builtin; refine push_rows_f rfl _ _ 23 rfl RTh 27 72 _ Tryz.underlying23 Tryz.infoTh rfl (by decide) N (.slice none 0 0) [] rs _ rfl rfl HO5.out.oc HRF.out hzB hl1 ?_; intro an3 ln3 cn3 wn hnn hOn hBn hPn; obtain ⟨y0, y1, y2, g0, g1, g2, -⟩ := (HO5.out.there3 hPn.out).open3)
  have hO6 := HO5.out.set3 hPn.out hOn.out HRL.out
  have hS6 : Since W2 (wn.setCell ⟨N, 2, none⟩ (.slice an3 ln3 cn3)) := since_put HSZ.out HS5.out hBn.out _ _
  have hln1 := hO6.oa.els.len
  have hln2 := hO6.ob.els.len
  have hln3 := hO6.oc.els.len
  simp only [List.nil_append] at hO6 hln1 hln2 hln3
  generalize wn.setCell ⟨N, 2, none⟩ (.slice an3 ln3 cn3) = W6 at *
  have HO6 := Lib.hid hO6
  have HS6 := Lib.hid hS6
  have HLN : Hid (ln = cs.length ∧ ln2 = vs.length ∧ ln3 = ps.length) := Lib.hid ⟨hln1, hln2, hln3.trans HRN.out⟩
  clear hO6 hS6 p0 p1 p2 x0 x1 x2 f0 f1 f2 hzB hl1 HO5 HS5 y0 y1 y2 g0 g1 g2 hnn hOn hBn hPn HPR HC2 HRF HRL hln1 hln2 hln3
  obtain ⟨x0, x1, x2, f0, f1, f2, -⟩ := HO6.out.box.open3
  have KA := Lib.hid fun (v m : Int) (W' : World) (h1 : I64 v) (h2 : 1 ≤ m) (h3 : m ≤ 1000000) => around_any v m W' h2 (by omega) (i64_wf h1)
  have hl3 : ln3 ≤ 100000 := by have := HLN.out; have := HPL.out; have := HW.out; omega
  go_cut [42] (fun s wx => ∃ b : Bool, s = .bool b ∧ (b = true → 0 < ln3) ∧ W6 = wx)
  case first =>
    by_cases h0 : 0 < ln3
    · have j0 : (ln3 : Int) > 0 := by omega
      obtain ⟨ar, har⟩ : ∃ ar, ar = aroundI x 3 := ⟨_, rfl⟩
      have ka := KA.out x 3 W6 ⟨hx1, hx2⟩ (by decide) (by decide)
      rw [← har] at ka
      clear har
      have KA3 := Lib.hid ka
      clear ka
      go_wp2_with fail
      refine KA3.out.mono ?_
      rintro e _ ⟨rfl, rfl⟩
      go_wp2
      go_meet
      exact ⟨_, rfl, fun _ => h0, rfl⟩
    · have j0 : ¬ (ln3 : Int) > 0 := by omega
      go_wp2
      go_meet
      exact ⟨_, rfl, (fun h => by cases h), rfl⟩
  case rest =>
  obtain ⟨b, rfl, hb, rfl⟩ := hcut
  cases b
  case true =>
    have h0 := hb rfl
    clear hb
    obtain ⟨q3, hq3⟩ : ∃ q, q = IntKind.i64.wrap (x.tdiv 3) := ⟨_, rfl⟩
    obtain ⟨q9, hq9⟩ : ∃ q, q = IntKind.i64.wrap (x.tdiv 9) := ⟨_, rfl⟩
    have hi3 : I64 q3 := by rw [hq3, IntKind.wrap_i64]; exact ⟨by omega, by omega⟩
    have hi9 : I64 q9 := by rw [hq9, IntKind.wrap_i64]; exact ⟨by omega, by omega⟩
    have hq3' := hq3.symm
    have hq9' := hq9.symm
    clear hq3 hq9
    obtain ⟨k, hk, hkl⟩ := around_nat q3 ln3 h0
    have ka := KA.out q3 ln3 W6 hi3 (by omega) (by omega)
    rw [hk] at ka
    have KA4 := Lib.hid ka
    clear ka hk
    obtain ⟨g3, rfl, hg3, hcap3, hrow⟩ := HO6.out.oc.els.get hkl
    have hkr : k < rs.length := by have := HLN.out.2.2; have := HRN.out; omega
    obtain ⟨r, hr⟩ : ∃ r, rs[k]? = some r := ⟨_, List.getElem?_eq_getElem hkr⟩
    obtain ⟨u, hu⟩ : ∃ u, ps[k]? = some u := ⟨_, List.getElem?_eq_getElem (by have := HRN.out; omega)⟩
    have hTu := HO6.out.lie.2 k r u hr hu
    have u0 : W6.cell? ⟨g3, k * 3, none⟩ = some (.slice r.a1 r.n1 r.c1) := hrow k r hr 0 _ rfl
    have u1 : W6.cell? ⟨g3, k * 3 + 1, none⟩ = some (.slice r.a2 r.n2 r.c2) := hrow k r hr 1 _ rfl
    have u2 : W6.cell? ⟨g3, k * 3 + 2, none⟩ = some (.slice r.a3 r.n3 r.c3) := hrow k r hr 2 _ rfl
    obtain ⟨ba, ma, da, bb, mb, db, bc, mc, dc⟩ := r
    simp only at hTu u0 u1 u2
    have hmem := List.mem_of_getElem? hu
    have hus := Th.sizes_mem hmem
    have huw := Th.wts_mem hmem
    have kq := fun (W' : World) (h : Since W6 W') => K.out u.size (by omega) u (Nat.le_refl _) (HW3.out u hmem) (by have := HW.out; omega) q9 y z hi9 ⟨hy1, hy2⟩ ⟨hz1, hz2⟩ (fun k => Free (fun k => S0 k ∨ N ≤ k) N (.slice an ln cn) (.slice an2 ln2 cn2) (.slice (some ⟨g3, 0, none⟩) ln3 cn3) k ∧ k < W'.heap.size) _ _ _ W' (fun k hk => hk.2) (TS.keep (S' := Free (fun k => S0 k ∨ N ≤ k) N (.slice an ln cn) (.slice an2 ln2 cn2) (.slice (some ⟨g3, 0, none⟩) ln3 cn3)) ⟨Below.size h, fun b _ hl => Below.block h b hl⟩ (fun b _ hb => hb.1) u hTu)
    have KQ := Lib.hid kq
    clear kq hTu hrow
    go_upto_region 7 with (refine KA4.out.mono ?_; rintro e _ ⟨rfl, rfl⟩)
    have hSd : Since W6 W6.drew := Below.drew (Below.refl _ _)
    have v0 := Since.cell hSd u0
    have v1 := Since.cell hSd u1
    have v2 := Since.cell hSd u2
    refine wp_region_noPanic ?_
    refine wp_region_held_drew (S := fun w' => w'.cell? ⟨N, 2, none⟩ = some (.slice (some ⟨g3, 0, none⟩) ln3 cn3)) (by kernel_rfl) (Since.cell hSd x2) (fun hHeld => ?_)
    refine wpAnyH_take (i := 0) (oi := ⟨some 49, Op.fieldAddr 27 (Operand.tmp 9) 2, 0, _, _, none⟩) (v := ?_) rfl (by kernel_rfl) (by kernel_rfl) (by kernel_rfl) (fun _ _ _ h => h) (Or.inl ⟨by rfl, ?_⟩) (by assumption) ?_
    rotate_left 1
    · (intro w hSw; (try dsimp only at hSw); go_simp; first | done | with_reducible rfl)
    try simp only [Act.put, List.setIfInBounds_toArray, List.set_cons_zero, List.set_cons_succ]
    refine wpAnyH_take (i := 1) (oi := ⟨some 50, Op.load 23 (Operand.tmp 49), 23, _, _, none⟩) (v := ?_) rfl (by kernel_rfl) (by kernel_rfl) (by kernel_rfl) (fun _ _ _ h => h) (Or.inl ⟨by rfl, ?_⟩) (by assumption) ?_
    rotate_left 1
    · (intro w hSw; (try dsimp only at hSw); go_simp; first | done | with_reducible rfl)
    try simp only [Act.put, List.setIfInBounds_toArray, List.set_cons_zero, List.set_cons_succ]
    refine wpAnyH_take (i := 2) (oi := ⟨some 51, Op.move (Operand.tmp 10), 3, _, _, none⟩) (v := ?_) rfl (by kernel_rfl) (by kernel_rfl) (by kernel_rfl) (fun _ _ _ h => h) (Or.inl ⟨by rfl, ?_⟩) (by assumption) ?_
    rotate_left 1
    · (intro w hSw; (try dsimp only at hSw); go_simp; first | done | with_reducible rfl)
    try simp only [Act.put, List.setIfInBounds_toArray, List.set_cons_zero, List.set_cons_succ]
    refine wpAnyH_take (i := 3) (oi := ⟨some 52, Op.fieldAddr 27 (Operand.tmp 9) 2, 0, _, _, none⟩) (v := ?_) rfl (by kernel_rfl) (by kernel_rfl) (by kernel_rfl) (fun _ _ _ h => h) (Or.inl ⟨by rfl, ?_⟩) (by assumption) ?_
    rotate_left 1
    · (intro w hSw; (try dsimp only at hSw); go_simp; first | done | with_reducible rfl)
    try simp only [Act.put, List.setIfInBounds_toArray, List.set_cons_zero, List.set_cons_succ]
    refine wpAnyH_take (i := 4) (oi := ⟨some 53, Op.load 23 (Operand.tmp 52), 23, _, _, none⟩) (v := ?_) rfl (by kernel_rfl) (by kernel_rfl) (by kernel_rfl) (fun _ _ _ h => h) (Or.inl ⟨by rfl, ?_⟩) (by assumption) ?_
    rotate_left 1
    · (intro w hSw; (try dsimp only at hSw); go_simp; first | done | with_reducible rfl)
    try simp only [Act.put, List.setIfInBounds_toArray, List.set_cons_zero, List.set_cons_succ]
    refine wpAnyH_take (i := 5) (oi := ⟨some 54, Op.move (Operand.tmp 10), 3, _, _, none⟩) (v := ?_) rfl (by kernel_rfl) (by kernel_rfl) (by kernel_rfl) (fun _ _ _ h => h) (Or.inl ⟨by rfl, ?_⟩) (by assumption) ?_
    rotate_left 1
    · (intro w hSw; (try dsimp only at hSw); go_simp; first | done | with_reducible rfl)
    try simp only [Act.put, List.setIfInBounds_toArray, List.set_cons_zero, List.set_cons_succ]
    refine wpAnyH_take (i := 6) (oi := ⟨some 55, Op.indexAddr 23 (Operand.tmp 53) (Operand.tmp 54), 0, _, _, none⟩) (v := ?_) rfl (by kernel_rfl) (by kernel_rfl) (by kernel_rfl) (fun _ _ _ h => h) (Or.inl ⟨by rfl, ?_⟩) (by assumption) ?_
    rotate_left 1
    · (intro w hSw; (try dsimp only at hSw); go_simp; first | done | with_reducible rfl)
    try simp only [Act.put, List.setIfInBounds_toArray, List.set_cons_zero, List.set_cons_succ]
    refine wpAnyH_take (i := 8) (oi := ⟨some 57, Op.move (Operand.tmp 1), 3, _, _, none⟩) (v := ?_) rfl (by kernel_rfl) (by kernel_rfl) (by kernel_rfl) (fun _ _ _ h => h) (Or.inl ⟨by rfl, ?_⟩) (by assumption) ?_
    rotate_left 1
    · (intro w hSw; (try dsimp only at hSw); go_simp; first | done | with_reducible rfl)
    try simp only [Act.put, List.setIfInBounds_toArray, List.set_cons_zero, List.set_cons_succ]
    refine wpAnyH_take (i := 9) (oi := ⟨some 58, Op.binOp BinOp.quo 3 (Operand.tmp 57) (Operand.const (Value.int IntKind.i64 9)) 3, 3, _, _, none⟩) (v := ?_) rfl (by kernel_rfl) (by kernel_rfl) (by kernel_rfl) (fun _ _ _ h => h) (Or.inl ⟨by rfl, ?_⟩) (by assumption) ?_
    rotate_left 1
    · (intro w hSw; (try dsimp only at hSw); go_simp; first | done | with_reducible rfl)
    try simp only [Act.put, List.setIfInBounds_toArray, List.set_cons_zero, List.set_cons_succ]
    refine wpAnyH_take (i := 10) (oi := ⟨some 59, Op.move (Operand.tmp 2), 3, _, _, none⟩) (v := ?_) rfl (by kernel_rfl) (by kernel_rfl) (by kernel_rfl) (fun _ _ _ h => h) (Or.inl ⟨by rfl, ?_⟩) (by assumption) ?_
    rotate_left 1
    · (intro w hSw; (try dsimp only at hSw); go_simp; first | done | with_reducible rfl)
    try simp only [Act.put, List.setIfInBounds_toArray, List.set_cons_zero, List.set_cons_succ]
    refine wpAnyH_take (i := 11) (oi := ⟨some 60, Op.move (Operand.tmp 3), 3, _, _, none⟩) (v := ?_) rfl (by kernel_rfl) (by kernel_rfl) (by kernel_rfl) (fun _ _ _ h => h) (Or.inl ⟨by rfl, ?_⟩) (by assumption) ?_
    rotate_left 1
    · (intro w hSw; (try dsimp only at hSw); go_simp; first | done | with_reducible rfl)
    try simp only [Act.put, List.setIfInBounds_toArray, List.set_cons_zero, List.set_cons_succ]
    refine wpAnyH_ready (rs := [7]) (by kernel_rfl) (by simp) ?_
    refine AllReadyH.cons (o := ⟨some 56, Op.load 27 (Operand.tmp 55), 27, _, _, none⟩) rfl (fun K hK => ?_) AllReadyH.nil
    go_simp
    go_wp2_with fail
    refine hK.out _ _ ?_ (fun hHeld => ?_)
    · exact Since.cell hSd x2
    clear hK K
    try simp only [Act.put, List.setIfInBounds_toArray, List.set_cons_zero, List.set_cons_succ]
    refine wpAnyH_ready (rs := [12]) (by kernel_rfl) (by simp) ?_
    refine AllReadyH.cons (o := ⟨some 61, Op.call { callee := Callee.value (Operand.func 17), args := #[Operand.tmp 56, Operand.tmp 58, Operand.tmp 59, Operand.tmp 60], argTypes := #[27, 3, 3, 3] }, 27, _, _, none⟩) rfl (fun K hK => ?_) AllReadyH.nil
    go_simp
    go_at_call 17
    refine (KQ.out _ hSd).mono ?_
    rintro e w7 ⟨u', ⟨ba', ma', da', bb', mb', db', bc', mc', dc'⟩, rfl, hT7, hP7, hB7⟩
    have hS7 := Since.step hSd hB7.out
    go_wp2_with fail
    refine hK.out _ _ ?_ (fun hHeld => ?_)
    · exact Since.cell hS7 x2
    clear hK K
    try simp only [Act.put, List.setIfInBounds_toArray, List.set_cons_zero, List.set_cons_succ]
    have hO7 := HO6.out.frame hS7
    have v0' := Since.cell hS7 u0
    have v1' := Since.cell hS7 u1
    have v2' := Since.cell hS7 u2
    have fz0 := hO7.oc.frozen (k * 3)
    have fz1 := hO7.oc.frozen (k * 3 + 1)
    have fz2 := hO7.oc.frozen (k * 3 + 2)
    have hp7 : TS (fun k => Free (fun k => S0 k ∨ N ≤ k) N (.slice an ln cn) (.slice an2 ln2 cn2) (.slice (some ⟨g3, 0, none⟩) ln3 cn3) k ∧ k < w7.heap.size) w7 u' (.slice ba' ma' da') (.slice bb' mb' db') (.slice bc' mc' dc') := by
      refine TS.keep (S' := Free (fun k => S0 k ∨ N ≤ k) N (.slice an ln cn) (.slice an2 ln2 cn2) (.slice (some ⟨g3, 0, none⟩) ln3 cn3)) ⟨Nat.le_refl _, fun _ _ _ => rfl⟩ (fun j hl hj => ?_) u' hT7.out
      rcases hj.1 with h | h
      · exact h.1
      · have f : ∀ g, N ≤ g ∧ g < W6.heap.size → j ≠ g := fun g hg => by have := Below.size hSd; omega
        exact ⟨.inr (by have := HO6.out.hB; have := HO6.out.box.1; have := Below.size hSd; omega), f N ⟨HO6.out.hB, HO6.out.box.1⟩, fun e => f j (HO6.out.oa.lt j e) rfl, fun e => f j (HO6.out.ob.lt j e) rfl, fun e => f j (HO6.out.oc.lt j e) rfl⟩
    have hU := hO7.upd3 (PF.put3 w7 g3 (k * 3) (k * 3 + 1) (k * 3 + 2) ln3 cn3 _ _ _) (hO7.oc.set3 k hkr ⟨ba', ma', da', bb', mb', db', bc', mc', dc'⟩) (hO7.lie.set k hp7)
    have hSU : Since W2 (((w7.setCell ⟨g3, k * 3, none⟩ (.slice ba' ma' da')).setCell ⟨g3, k * 3 + 1, none⟩ (.slice bb' mb' db')).setCell ⟨g3, k * 3 + 2, none⟩ (.slice bc' mc' dc')) := by
      have hg : W2.heap.size ≤ g3 := by rw [HSZ.out]; exact (HO6.out.oc.lt g3 rfl).1
      exact ((Below.setCell (Since.step HS6.out hS7) (p := ⟨g3, k * 3, none⟩) hg _).setCell (p := ⟨g3, k * 3 + 1, none⟩) hg _).setCell (p := ⟨g3, k * 3 + 2, none⟩) hg _
    obtain ⟨y0, y1, y2, -⟩ := hU.box.open3
    refine wpAnyH_take (i := 13) (oi := ⟨some 62, Op.indexAddr 23 (Operand.tmp 50) (Operand.tmp 51), 0, _, _, none⟩) (v := ?_) rfl (by kernel_rfl) (by kernel_rfl) (by kernel_rfl) (fun _ _ _ h => h) (Or.inl ⟨by rfl, ?_⟩) (by assumption) ?_
    rotate_left 1
    · (intro w hSw; (try dsimp only at hSw); go_simp; first | done | with_reducible rfl)
    try simp only [Act.put, List.setIfInBounds_toArray, List.set_cons_zero, List.set_cons_succ]
    refine wpAnyH_ready (rs := [14]) (by kernel_rfl) (by simp) ?_
    refine AllReadyH.cons (o := ⟨none, Op.store 27 (Operand.tmp 62) (Operand.tmp 61), 0, _, _, none⟩) rfl (fun K hK => ?_) AllReadyH.nil
    go_simp
    go_wp2_with fail
    refine hK.out _ _ ?_ (fun hHeld => ?_)
    · exact y2
    clear hK K
    try simp only [Act.put, List.setIfInBounds_toArray, List.set_cons_zero, List.set_cons_succ]
    refine wpAnyH_done (by kernel_rfl) ?_ _
    refine NoPanic.normal ?_
    obtain ⟨z0, z1, z2, zf0, zf1, zf2, -⟩ := (HR.out.keep hSU).open3
    have hP := spoil_P HW1.out HW2.out (mem_setT HW3.out k hP7.out.1) (by have := HW.out; have := wts_set (v := u') hu; have := hP7.out.2; omega) hwt
    have hfin := HFN.out _ (fun u => u.wf ∧ u.wt ≤ 2 * tw + 400) _ _ _ _ _ _ _ _ _ _ _ _ _ hU hSU hP
    unfold put3 at hfin
    have HFI := Lib.hid hfin
    clear hfin
    go_wp2
    exact bodyPost_ret (v := .agg #[.slice an ln cn, .slice an2 ln2 cn2, .slice (some ⟨g3, 0, none⟩) ln3 cn3]) (by simp [results, Tryz.results17, go_sem, z0, z1, z2]) rfl HFI.out
  case false =>
    clear hb
    obtain ⟨r, hr⟩ : ∃ r, r = aroundI y 9 := ⟨_, rfl⟩
    have hr9 := aroundI_range y 9 (by decide)
    have ka := KA.out y 9 W6 ⟨hy1, hy2⟩ (by decide) (by decide)
    rw [← hr] at ka hr9
    clear hr
    have hr9 : r = 8 ∨ r = 4 ∨ r = 5 ∨ r = 6 ∨ r = 7 ∨ r = 0 ∨ r = 1 ∨ r = 2 ∨ r = 3 := by omega
    have KA3 := Lib.hid ka
    clear ka
    obtain ⟨z0, z1, z2, zf0, zf1, zf2, -⟩ := (HR.out.keep HS6.out).open3
    have hzB : N ≤ W6.heap.size := by rw [← HSZ.out]; exact HS6.out.size
    go_upto_region 12 with (refine KA3.out.mono ?_; rintro e _ ⟨rfl, rfl⟩)
    rcases hr9 with rfl | rfl | rfl | rfl | rfl | rfl | rfl | rfl | rfl
    · -- case 8
      have hl2 : vs.length + vs.length ≤ 1000000000 := by have := HW.out; omega
      have hl1 : cs.length + cs.length ≤ 1000000000 := by have := HW.out; omega
      go_upto_region 11 with (at_builtin; refine push_rows_f rfl _ _ 25 rfl RVa 46 24 _ Tryz.underlying25 Tryz.infoVal rfl (by decide) N (.slice an2 ln2 cn2) vs vs _ rfl rfl HO6.out.ob HO6.out.ob.els.rfl' hzB hl2 ?_; intro b2 m2 d2 wn hnn hOn hBn hPn; obtain ⟨y0, y1, y2, g0, g1, g2, -⟩ := (HO6.out.there2 hPn.out).open3)
      have hO7 := HO6.out.set2 hPn.out hOn.out
      have hS7 : Since W2 (wn.setCell ⟨N, 1, none⟩ (.slice b2 m2 d2)) := since_put HSZ.out HS6.out hBn.out _ _
      generalize wn.setCell ⟨N, 1, none⟩ (.slice b2 m2 d2) = W7 at *
      have HO7 := Lib.hid hO7
      have HS7 := Lib.hid hS7
      clear hO7 hS7 x0 x1 x2 f0 f1 f2 hzB hl2 y0 y1 y2 g0 g1 g2 hnn hOn hBn hPn z0 z1 z2 zf0 zf1 zf2
      obtain ⟨x0, x1, x2, f0, f1, f2, -⟩ := HO7.out.box.open3
      have hzB : N ≤ W7.heap.size := by rw [← HSZ.out]; exact HS7.out.size
      go_upto_region 39 with (at_builtin; refine push_rows_f rfl _ _ 22 rfl RIn 3 8 _ Tryz.underlying22 Tryz.infoI64 rfl (by decide) N (.slice an ln cn) cs cs _ rfl rfl HO7.out.oa HO7.out.oa.els.rfl' hzB hl1 ?_; intro b1 m1 d1 wn hnn hOn hBn hPn; obtain ⟨y0, y1, y2, g0, g1, g2, -⟩ := (HO7.out.there1 hPn.out).open3)
      have hO8 := HO7.out.set1 hPn.out hOn.out
      have hS8 : Since W2 (wn.setCell ⟨N, 0, none⟩ (.slice b1 m1 d1)) := since_put HSZ.out HS7.out hBn.out _ _
      generalize wn.setCell ⟨N, 0, none⟩ (.slice b1 m1 d1) = W8 at *
      obtain ⟨z0, z1, z2, zf0, zf1, zf2, -⟩ := (HR.out.keep hS8).open3
      have hP := spoil_P (mem_app HW1.out HW1.out) (mem_app HW2.out HW2.out) HW3.out (by simp only [List.length_append]; have := HW.out; omega) hwt
      clear x0 x1 x2 f0 f1 f2 y0 y1 y2 g0 g1 g2
      obtain ⟨x0, x1, x2, f0, f1, f2, -⟩ := hO8.box.open3
      have hfin := HFN.out _ (fun u => u.wf ∧ u.wt ≤ 2 * tw + 400) _ _ _ _ _ _ _ _ _ _ _ _ _ hO8 hS8 (hP)
      unfold put3 at hfin
      have HFI := Lib.hid hfin
      clear hfin
      go_wp2
      exact bodyPost_ret (v := .agg #[.slice b1 m1 d1, .slice b2 m2 d2, .slice an3 ln3 cn3]) (by simp [results, Tryz.results17, go_sem, z0, z1, z2]) rfl HFI.out
    · -- case 4
      obtain ⟨q, hq⟩ : ∃ q, q = IntKind.i64.wrap (2 * z) := ⟨_, rfl⟩
      have hqi : I64 q := by rw [hq, IntKind.wrap_i64]; exact ⟨by omega, by omega⟩
      have hq' := hq.symm
      clear hq
      have hl2 : vs.length + 1 ≤ 1000000000 := by have := HW.out; omega
      go_upto_region 39 with (at_builtin; refine push_row_f rfl _ _ 25 rfl RVa 46 24 _ Tryz.underlying25 Tryz.infoVal rfl (by decide) N (.slice an2 ln2 cn2) vs [⟨31, q, 6⟩] _ _ rfl rfl _ 1 rfl rfl rfl HO6.out.ob hzB hl2 ?_; intro b2 m2 d2 wn hnn hOn hBn hPn; obtain ⟨y0, y1, y2, g0, g1, g2, -⟩ := (HO6.out.there2 hPn.out).open3)
      have hO7 := HO6.out.set2 hPn.out hOn.out
      have hS7 : Since W2 (wn.setCell ⟨N, 1, none⟩ (.slice b2 m2 d2)) := since_put HSZ.out HS6.out hBn.out _ _
      generalize wn.setCell ⟨N, 1, none⟩ (.slice b2 m2 d2) = W7 at *
      clear x0 x1 x2 f0 f1 f2 y0 y1 y2 g0 g1 g2 z0 z1 z2 zf0 zf1 zf2
      obtain ⟨z0, z1, z2, zf0, zf1, zf2, -⟩ := (HR.out.keep hS7).open3
      have hP := spoil_P HW1.out (mem_app HW2.out (mem_one (P := Va.wf) (x := ⟨31, q, 6⟩) ⟨i64_31, hqi, i64_6⟩)) HW3.out (by simp only [List.length_append, List.length_singleton]; have := HW.out; omega) hwt
      obtain ⟨x0, x1, x2, f0, f1, f2, -⟩ := hO7.box.open3
      have hfin := HFN.out _ (fun u => u.wf ∧ u.wt ≤ 2 * tw + 400) _ _ _ _ _ _ _ _ _ _ _ _ _ hO7 hS7 (hP)
      unfold put3 at hfin
      have HFI := Lib.hid hfin
      clear hfin
      go_wp2
      exact bodyPost_ret (v := .agg #[.slice an ln cn, .slice b2 m2 d2, .slice an3 ln3 cn3]) (by simp [results, Tryz.results17, go_sem, z0, z1, z2]) rfl HFI.out
    · -- case 5
      obtain ⟨k9, hk9, hk99⟩ := around_nat z 9 (by decide)
      have hk9' : aroundI z 9 = (k9 : Int) := hk9
      have kb := fun W' => KA.out z 9 W' ⟨hz1, hz2⟩ (by decide) (by decide)
      rw [hk9'] at kb
      clear hk9 hk9' KA3
      have KB := Lib.hid kb
      clear kb
      have hPS : Hid ((∀ u ∈ ps, u.wf) ∧ Th.wts ps ≤ Th.wts ps + 3 * 0 ∧ rs.length ≤ 100000 + 0) := Lib.hid ⟨HW3.out, by omega, by have := HRN.out; have := HPL.out; have := HW.out; omega⟩
      clear x0 x1 x2 f0 f1 f2 z0 z1 z2 zf0 zf1 zf2 hzB
      go_wp2
      go_loopw [11] (fun v wr => ∃ (j : Nat) (b3 : Option Addr) (m3 d3 : Nat) (rs' : List Tr) (ps' : List Th), j ≤ 90 + k9 ∧ v = .int .i64 j ∧ Hid (OB (fun k => S0 k ∨ N ≤ k) N N wr (.slice an ln cn) (.slice an2 ln2 cn2) (.slice b3 m3 d3) cs vs rs' ps') ∧ Hid ((∀ u ∈ ps', u.wf) ∧ Th.wts ps' ≤ Th.wts ps + 3 * j ∧ rs'.length ≤ 100000 + j) ∧ Hid (Since W2 wr)) (fun v _ => 90 + k9 - (intOf v).toNat)
      case atStart => exact ⟨0, _, _, _, rs, ps, by omega, rfl, HO6, hPS, HS6⟩
      case round =>
        obtain ⟨j, b3, m3, d3, rs', ps', hj, rfl, hO, hps, hS⟩ := hrel
        obtain ⟨x0, x1, x2, f0, f1, f2, -⟩ := hO.out.box.open3
        have hzB : N ≤ wr.heap.size := by rw [← HSZ.out]; exact hS.out.size
        have hl1 : rs'.length + 1 ≤ 1000000000 := by have := hps.out.2.2; omega
        have i9 : IntKind.i64.wrap (90 + (k9 : Int)) = 90 + (k9 : Int) := IntWalk.i64_in _ (by omega)
        by_cases hlt : j < 90 + k9
        · have j1 : (j : Int) < 90 + (k9 : Int) := by omega
          go_wp2_with (first | (go_at_call 18; refine (KB.out _).mono ?_; rintro e _ ⟨rfl, rfl⟩) | (at_builtin; refine push_row_f rfl _ _ 23 rfl RTh 27 72 _ Tryz.underlying23 Tryz.infoTh rfl (by decide) N (.slice b3 m3 d3) rs' [⟨none, 0, 0, none, 0, 0, none, 0, 0⟩] _ _ rfl rfl _ 1 rfl rfl rfl hO.out.oc hzB hl1 ?_; intro an' ln' cn' wn hnn hOn hBn hPn; obtain ⟨y0, y1, y2, g0, g1, g2, -⟩ := (hO.out.there3 hPn.out).open3))
          have hL := hO.out.lie.snoc (r := ⟨none, 0, 0, none, 0, 0, none, 0, 0⟩) (ts_nil _ _)
          go_roundw
          case rel => exact ⟨j + 1, an', ln', cn', _, _, by omega, by go_num, Lib.hid (hO.out.set3 hPn.out hOn.out hL), Lib.hid ⟨mem_app hps.out.1 (mem_one (P := Th.wf) wf_nil), by rw [Th.wts_append]; have := hps.out.2.1; simp [Th.wts, Th.wt]; omega, by rw [List.length_append]; have := hps.out.2.2; simp; omega⟩, Lib.hid (since_put HSZ.out hS.out hBn.out _ _)⟩
          case measure => simp [intOf]; omega
        · have j1 : ¬ (j : Int) < 90 + (k9 : Int) := by omega
          obtain ⟨z0, z1, z2, zf0, zf1, zf2, -⟩ := (HR.out.keep hS.out).open3
          have hP := spoil_P HW1.out HW2.out hps.out.1 (by have := HW.out; have := hps.out.2.1; omega) hwt
          go_upto_region 39 with (refine (KB.out _).mono ?_; rintro e _ ⟨rfl, rfl⟩)
          have hfin := HFN.out _ (fun u => u.wf ∧ u.wt ≤ 2 * tw + 400) _ _ _ _ _ _ _ _ _ _ _ _ _ hO.out hS.out (hP)
          unfold put3 at hfin
          have HFI := Lib.hid hfin
          clear hfin
          go_wp2
          exact bodyPost_ret (v := .agg #[.slice an ln cn, .slice an2 ln2 cn2, .slice b3 m3 d3]) (by simp [results, Tryz.results17, go_sem, z0, z1, z2]) rfl HFI.out
    · -- case 6
      obtain ⟨k9, hk9, hk99⟩ := around_nat z 4 (by decide)
      have hk9' : aroundI z 4 = (k9 : Int) := hk9
      have kb := fun W' => KA.out z 4 W' ⟨hz1, hz2⟩ (by decide) (by decide)
      rw [hk9'] at kb
      clear hk9 hk9' KA3
      have KB := Lib.hid kb
      clear kb
      obtain ⟨W7, hW7⟩ : ∃ W7, W7 = W6.alloc (.cells #[.slice none 0 0, .slice none 0 0, .slice none 0 0] 27) := ⟨_, rfl⟩
      have hM7 : BoxL W6.heap.size [.slice none 0 0, .slice none 0 0, .slice none 0 0] W7 := by rw [hW7]; exact BoxL.made W6 _ _
      have hS7 : Since W6 W7 := by rw [hW7]; exact (Below.refl _ _).alloc (Nat.le_refl _) _
      have HM7 := Lib.hid hM7
      have HS7 := Lib.hid hS7
      clear hM7 hS7 x0 x1 x2 f0 f1 f2 z0 z1 z2 zf0 zf1 zf2
      go_upto_region 29 with (fail)
      rw [← hW7]
      clear hW7
      go_wp2
      go_loopw [13] (fun v wr => ∃ (j : Nat) (b3 : Option Addr) (m3 d3 : Nat) (u : Th), j ≤ 5 + k9 ∧ v = .int .i64 j ∧ Hid (BoxL W6.heap.size [.slice none 0 0, .slice none 0 0, .slice b3 m3 d3] wr) ∧ Hid (TS (fun k => W6.heap.size < k ∧ k < wr.heap.size) wr u (.slice none 0 0) (.slice none 0 0) (.slice b3 m3 d3)) ∧ Hid (u.wf ∧ u.wt ≤ 3 * (j + 1)) ∧ Hid (Since W6 wr)) (fun v _ => 5 + k9 - (intOf v).toNat)
      case atStart => exact ⟨0, _, _, _, .mk [] [] [], by omega, rfl, HM7, Lib.hid (ts_nil _ _), Lib.hid ⟨wf_nil, by simp [Th.wt, Th.wts]⟩, HS7⟩
      case round =>
        obtain ⟨j, b3, m3, d3, u, hj, rfl, hM, hT, hu, hS⟩ := hrel
        clear HM7 HS7
        obtain ⟨q0, q1, q2, qf0, qf1, qf2, hq⟩ := hM.out.open3
        have i9 : IntKind.i64.wrap (5 + (k9 : Int)) = 5 + (k9 : Int) := IntWalk.i64_in _ (by omega)
        by_cases hlt : j < 5 + k9
        · have j1 : (j : Int) < 5 + (k9 : Int) := by omega
          have hS9 : Since W6 ((put3 wr W6.heap.size (.slice none 0 0) (.slice none 0 0) (.slice (some ⟨wr.heap.size, 0, none⟩) 1 1)).alloc (.cells #[.slice none 0 0, .slice none 0 0, .slice b3 m3 d3] 27)) := Since.alloc (put3_below hS.out (Nat.le_refl _) _ _ _) _
          have hM9 := (box3_set (a' := .slice none 0 0) (b' := .slice none 0 0) (c' := .slice (some ⟨wr.heap.size, 0, none⟩) 1 1) hM.out).under (.cells #[.slice none 0 0, .slice none 0 0, .slice b3 m3 d3] 27)
          have hT9 := nest_one 27 hq hT.out
          have HS9 := Lib.hid hS9
          have HM9 := Lib.hid hM9
          have HT9 := Lib.hid hT9
          clear hS9 hM9 hT9
          go_wp2_with (refine (KB.out _).mono ?_; rintro e _ ⟨rfl, rfl⟩)
          go_roundw
          case rel => exact ⟨j + 1, _, _, _, .mk [] [] [u], by omega, by go_num, HM9, HT9, Lib.hid ⟨wf_one hu.out.1, by have := hu.out.2; simp [Th.wt, Th.wts]; omega⟩, HS9⟩
          case measure => simp [intOf]; omega
        · have j1 : ¬ (j : Int) < 5 + (k9 : Int) := by omega
          have hO := HO6.out.frame hS.out
          have hS2 := Since.step HS6.out hS.out
          obtain ⟨x0, x1, x2, f0, f1, f2, -⟩ := hO.box.open3
          have hzB : N ≤ wr.heap.size := by rw [← HSZ.out]; exact hS2.size
          have hl1 : rs.length + 1 ≤ 1000000000 := by have := HRN.out; have := HPL.out; have := HW.out; omega
          have hp := HO6.out.part (w' := wr) (fun k _ hk => ⟨.inr (by have := HO6.out.hB; have := HO6.out.box.1; omega), .inr (by omega)⟩) hT.out
          have HL := Lib.hid (hO.lie.snoc (r := ⟨none, 0, 0, none, 0, 0, b3, m3, d3⟩) hp)
          have HO := Lib.hid hO
          have HS2 := Lib.hid hS2
          clear hp hO hS2
          go_upto_region 39 with (first | (refine (KB.out _).mono ?_; rintro e _ ⟨rfl, rfl⟩) | (at_builtin; refine push_row_f rfl _ _ 23 rfl RTh 27 72 _ Tryz.underlying23 Tryz.infoTh rfl (by decide) N (.slice an3 ln3 cn3) rs [⟨none, 0, 0, none, 0, 0, b3, m3, d3⟩] _ _ rfl rfl _ 1 rfl rfl rfl HO.out.oc hzB hl1 ?_; intro b4 m4 d4 wn hnn hOn hBn hPn; obtain ⟨y0, y1, y2, g0, g1, g2, -⟩ := (HO.out.there3 hPn.out).open3))
          have hO7 := HO.out.set3 hPn.out hOn.out HL.out
          have hS7 : Since W2 (wn.setCell ⟨N, 2, none⟩ (.slice b4 m4 d4)) := since_put HSZ.out HS2.out hBn.out _ _
          generalize wn.setCell ⟨N, 2, none⟩ (.slice b4 m4 d4) = W8 at *
          clear x0 x1 x2 f0 f1 f2 y0 y1 y2 g0 g1 g2
          obtain ⟨z0, z1, z2, zf0, zf1, zf2, -⟩ := (HR.out.keep hS7).open3
          have hP := spoil_P HW1.out HW2.out (mem_app HW3.out (mem_one (P := Th.wf) hu.out.1)) (by rw [Th.wts_append]; have := HW.out; have := hu.out.2; simp only [Th.wts]; omega) hwt
          obtain ⟨x0, x1, x2, f0, f1, f2, -⟩ := hO7.box.open3
          have hfin := HFN.out _ (fun u => u.wf ∧ u.wt ≤ 2 * tw + 400) _ _ _ _ _ _ _ _ _ _ _ _ _ hO7 hS7 (hP)
          unfold put3 at hfin
          have HFI := Lib.hid hfin
          clear hfin
          go_wp2
          exact bodyPost_ret (v := .agg #[.slice an ln cn, .slice an2 ln2 cn2, .slice b4 m4 d4]) (by simp [results, Tryz.results17, go_sem, z0, z1, z2]) rfl HFI.out
    · -- case 7
      clear x0 x1 x2 f0 f1 f2 z0 z1 z2 zf0 zf1 zf2 hzB
      go_wp2
      go_loopw [14] (fun v wr => ∃ (j : Nat) (cs' : List Int), j ≤ ln ∧ v = .int .i64 j ∧ Hid (OB (fun k => S0 k ∨ N ≤ k) N N wr (.slice an ln cn) (.slice an2 ln2 cn2) (.slice an3 ln3 cn3) cs' vs rs ps) ∧ Hid (cs'.length = cs.length ∧ ∀ z ∈ cs', I64 z) ∧ Hid (Since W2 wr)) (fun v _ => ln - (intOf v).toNat)
      case atStart => exact ⟨0, cs, by omega, rfl, HO6, Lib.hid ⟨rfl, HW1.out⟩, HS6⟩
      case round =>
        obtain ⟨j, cs', hj, rfl, hO, hcs, hS⟩ := hrel
        obtain ⟨x0, x1, x2, f0, f1, f2, -⟩ := hO.out.box.open3
        by_cases hlt : j < ln
        · have j1 : (j : Int) < ln := by omega
          obtain ⟨p0, p1, p2, -⟩ := (HX.out.keep hS.out).open3
          have hll : ln ≤ 100000 := by have := HLN.out.1; have := HW.out; omega
          have hown := rin_own hO.out.oa
          obtain ⟨ga, rfl, hgB, hgs, hgc, hgf⟩ := hown.open (by rw [hcs.out.1]; exact HLN.out.1) (by omega)
          obtain ⟨q, hq⟩ : ∃ q : Nat, (ln : Int) - 1 - j = (q : Int) := ⟨ln - 1 - j, by omega⟩
          have hqn : q < n1 := by have := HLN.out.1; have := HNL.out.1; omega
          obtain ⟨bb, off, rfl, hcl⟩ := (HC1.out _ hS.out).at q hqn
          have hcw : I64 (cs[q]?.getD 0) := by
            have hqc : q < cs.length := by have := HNL.out.1; omega
            rw [List.getElem?_eq_getElem hqc]; exact HW1.out _ (List.getElem_mem hqc)
          generalize cs[q]?.getD 0 = cv at *
          have e1 := hgc j hlt
          have e2 := hgf j
          generalize cs'[j]?.getD 0 = ov at *
          have i1 : IntKind.i64.wrap ((ln : Int) - 1) = (ln : Int) - 1 := IntWalk.i64_in _ (by omega)
          have i2 : IntKind.i64.wrap ((ln : Int) - 1 - j) = (q : Int) := by rw [IntWalk.i64_in _ (by omega)]; exact hq
          have hU := Lib.hid (hO.out.upd1 (PF.put wr ga j ln cn (.int .i64 cv)) (own_rin (hown.set (by rw [hcs.out.1]; exact HLN.out.1) j cv)))
          have hSU : Hid (Since W2 (wr.setCell ⟨ga, j, none⟩ (.int .i64 cv))) := Lib.hid (Below.setCell hS.out (p := ⟨ga, j, none⟩) (by have := HSZ.out; show _ ≤ ga; omega) _)
          clear hown hgc hgf
          go_upto_region 38 with (fail)
          go_region
          all_goals
            go_wp2_with fail
            go_roundw
            case rel => exact ⟨j + 1, cs'.set j cv, by omega, by go_num, Lib.hid (hU.out.frame (Below.refl _ _).drew), Lib.hid ⟨by rw [List.length_set]; exact hcs.out.1, mem_set hcs.out.2 j hcw⟩, Lib.hid (Since.step hSU.out (Below.refl _ _).drew)⟩
            case measure => simp [intOf]; omega
        · have j1 : ¬ (j : Int) < ln := by omega
          obtain ⟨z0, z1, z2, zf0, zf1, zf2, -⟩ := (HR.out.keep hS.out).open3
          have hP := spoil_P hcs.out.2 HW2.out HW3.out (by have := HW.out; have := hcs.out.1; omega) hwt
          go_upto_region 39 with (fail)
          have hfin := HFN.out _ (fun u => u.wf ∧ u.wt ≤ 2 * tw + 400) _ _ _ _ _ _ _ _ _ _ _ _ _ hO.out hS.out (hP)
          unfold put3 at hfin
          have HFI := Lib.hid hfin
          clear hfin
          go_wp2
          exact bodyPost_ret (v := .agg #[.slice an ln cn, .slice an2 ln2 cn2, .slice an3 ln3 cn3]) (by simp [results, Tryz.results17, go_sem, z0, z1, z2]) rfl HFI.out
    · -- case 0
      obtain ⟨r5, hr5, hr59⟩ := around_nat z 5 (by decide)
      have hr5' : aroundI z 5 = (r5 : Int) := hr5
      have kb := fun W' => KA.out z 5 W' ⟨hz1, hz2⟩ (by decide) (by decide)
      rw [hr5'] at kb
      clear hr5 hr5' KA3
      have KB := Lib.hid kb
      clear kb
      have h51 : (r5 : Int) < 5 := by omega
      have h52 : (0 : Int) ≤ (r5 : Int) := by omega
      have h53 : ((r5 : Int)).toNat = r5 := by omega
      obtain ⟨vz, hvz, htb⟩ := tab5 (r := r5) hr59 (a := z) (b := (-1)) (c := 0) (d := 63) (e := 64) ⟨hz1, hz2⟩ ⟨by decide, by decide⟩ ⟨by decide, by decide⟩ ⟨by decide, by decide⟩ ⟨by decide, by decide⟩
      have HVZ := Lib.hid hvz
      have hxd : W6.drew.cell? ⟨N, 0, none⟩ = some (.slice an ln cn) := Since.cell (Below.drew (Below.refl _ _)) x0
      have hxa : (W6.drew.alloc (.cells #[.int .i64 z, .int .i64 (-1), .int .i64 0, .int .i64 63, .int .i64 64] 3)).cell? ⟨N, 0, none⟩ = some (.slice an ln cn) := Since.cell (Since.adrew2 W6 _) x0
      have hxa2 : ((W6.alloc (.cells #[.int .i64 z, .int .i64 (-1), .int .i64 0, .int .i64 63, .int .i64 64] 3)).drew).cell? ⟨N, 0, none⟩ = some (.slice an ln cn) := Since.cell (Since.adrew W6 _) x0
      have hxb2 : (((W6.alloc (.cells #[.int .i64 z, .int .i64 (-1), .int .i64 0, .int .i64 63, .int .i64 64] 3)).drew).alloc (.cells #[.int .i64 vz] 3)).cell? ⟨N, 0, none⟩ = some (.slice an ln cn) := Since.cell (Since.alloc (Since.adrew W6 _) _) x0
      have hxb3 : (((W6.alloc (.cells #[.int .i64 z, .int .i64 (-1), .int .i64 0, .int .i64 63, .int .i64 64] 3)).alloc (.cells #[.int .i64 vz] 3)).drew).cell? ⟨N, 0, none⟩ = some (.slice an ln cn) := Since.cell (Below.drew (Since.alloc (Since.alloc (Below.refl _ _) _) _)) x0
      have hl72 : ((W6.alloc (.cells #[.int .i64 z, .int .i64 (-1), .int .i64 0, .int .i64 63, .int .i64 64] 3)).drew).cell? ⟨W6.heap.size, r5, none⟩ = some (.int .i64 vz) := ((BoxL.made W6 _ _).2 r5 _ htb).1
      have hl7 : (W6.drew.alloc (.cells #[.int .i64 z, .int .i64 (-1), .int .i64 0, .int .i64 63, .int .i64 64] 3)).cell? ⟨W6.heap.size, r5, none⟩ = some (.int .i64 vz) := ((BoxL.made W6.drew _ _).2 r5 _ htb).1
      have hSb : Since W6 ((W6.drew.alloc (.cells #[.int .i64 z, .int .i64 (-1), .int .i64 0, .int .i64 63, .int .i64 64] 3)).alloc (.cells #[.int .i64 vz] 3)) := Since.alloc (Since.adrew2 W6 _) _
      have hxb := Since.cell hSb x0
      have hOb := HO6.out.frame hSb
      have hzb : N ≤ ((W6.drew.alloc (.cells #[.int .i64 z, .int .i64 (-1), .int .i64 0, .int .i64 63, .int .i64 64] 3)).alloc (.cells #[.int .i64 vz] 3)).heap.size := Nat.le_trans hzB (Below.size hSb)
      have hln : cs.length + 1 ≤ 1000000000 := by have := HW.out; omega
      have hcl : ∀ j u, ([vz].flatMap RIn.cells)[j]? = some u → ((W6.drew.alloc (.cells #[.int .i64 z, .int .i64 (-1), .int .i64 0, .int .i64 63, .int .i64 64] 3)).alloc (.cells #[.int .i64 vz] 3)).cell? ⟨W6.heap.size + 1, j, none⟩ = some u := fun j u hu => by
        have hM := ((BoxL.made (W6.drew.alloc (.cells #[.int .i64 z, .int .i64 (-1), .int .i64 0, .int .i64 63, .int .i64 64] 3)) #[.int .i64 vz] 3).2 j u (by simpa [RIn] using hu)).1
        rw [World.size_alloc] at hM
        exact hM
      have HOb := Lib.hid hOb
      have HSb := Lib.hid hSb
      have HCL := Lib.hid hcl
      clear hOb hSb hcl htb hvz z0 z1 z2 zf0 zf1 zf2 f0 f1 f2
      go_upto_region 13 with (fail)
      refine wp_region_noPanic ?_
      refine wp_region_held_drew (S := fun _ => True) (by kernel_rfl) trivial (fun hHeld => ?_)
      refine wpAnyH_take (i := 0) (oi := ⟨some 80, Op.fieldAddr 27 (Operand.tmp 9) 0, 0, _, _, none⟩) (v := ?_) rfl (by kernel_rfl) (by kernel_rfl) (by kernel_rfl) (fun _ _ _ h => h) (Or.inl ⟨by rfl, ?_⟩) (by assumption) ?_
      rotate_left 1
      · (intro w hSw; (try dsimp only at hSw); go_simp; first | done | with_reducible rfl)
      try simp only [Act.put, List.setIfInBounds_toArray, List.set_cons_zero, List.set_cons_succ]
      refine wpAnyH_take (i := 2) (oi := ⟨some 82, Op.move (Operand.tmp 3), 3, _, _, none⟩) (v := ?_) rfl (by kernel_rfl) (by kernel_rfl) (by kernel_rfl) (fun _ _ _ h => h) (Or.inl ⟨by rfl, ?_⟩) (by assumption) ?_
      rotate_left 1
      · (intro w hSw; (try dsimp only at hSw); go_simp; first | done | with_reducible rfl)
      try simp only [Act.put, List.setIfInBounds_toArray, List.set_cons_zero, List.set_cons_succ]
      refine wpAnyH_take (i := 4) (oi := ⟨some 84, Op.move (Operand.tmp 3), 3, _, _, none⟩) (v := ?_) rfl (by kernel_rfl) (by kernel_rfl) (by kernel_rfl) (fun _ _ _ h => h) (Or.inl ⟨by rfl, ?_⟩) (by assumption) ?_
      rotate_left 1
      · (intro w hSw; (try dsimp only at hSw); go_simp; first | done | with_reducible rfl)
      try simp only [Act.put, List.setIfInBounds_toArray, List.set_cons_zero, List.set_cons_succ]
      refine wpAnyH_ready (rs := [1, 3, 5]) (by kernel_rfl) (by simp) ?_
      refine AllReadyH.cons (o := ⟨some 81, Op.load 22 (Operand.tmp 80), 22, _, _, none⟩) rfl (fun K hK => ?_) (AllReadyH.cons (o := ⟨some 83, Op.buildSlice 22 5 #[(0, Operand.tmp 82), (1, Operand.const (Value.int IntKind.i64 (-1))), (2, Operand.const (Value.int IntKind.i64 0)), (3, Operand.const (Value.int IntKind.i64 63)), (4, Operand.const (Value.int IntKind.i64 64))], 22, _, _, none⟩) rfl (fun K hK => ?_) (AllReadyH.cons (o := ⟨some 85, Op.call { callee := Callee.value (Operand.func 18), args := #[Operand.tmp 84, Operand.const (Value.int IntKind.i64 5)], argTypes := #[3, 3] }, 3, _, _, none⟩) rfl (fun K hK => ?_) AllReadyH.nil))
      · go_simp
        try go_wp2_with fail
        refine hK.out _ _ ?_ (fun hHeld => ?_)
        · trivial
        clear hK K
        try simp only [Act.put, List.setIfInBounds_toArray, List.set_cons_zero, List.set_cons_succ]
        refine wpAnyH_ready (rs := [3, 5]) (by kernel_rfl) (by simp) ?_
        refine AllReadyH.cons (o := ⟨some 83, Op.buildSlice 22 5 #[(0, Operand.tmp 82), (1, Operand.const (Value.int IntKind.i64 (-1))), (2, Operand.const (Value.int IntKind.i64 0)), (3, Operand.const (Value.int IntKind.i64 63)), (4, Operand.const (Value.int IntKind.i64 64))], 22, _, _, none⟩) rfl (fun K hK => ?_) (AllReadyH.cons (o := ⟨some 85, Op.call { callee := Callee.value (Operand.func 18), args := #[Operand.tmp 84, Operand.const (Value.int IntKind.i64 5)], argTypes := #[3, 3] }, 3, _, _, none⟩) rfl (fun K hK => ?_) AllReadyH.nil)
        · go_simp
          try go_wp2_with fail
          refine hK.out _ _ ?_ (fun hHeld => ?_)
          · trivial
          clear hK K
          try simp only [Act.put, List.setIfInBounds_toArray, List.set_cons_zero, List.set_cons_succ]
          refine wpAnyH_ready (rs := [5]) (by kernel_rfl) (by simp) ?_
          refine AllReadyH.cons (o := ⟨some 85, Op.call { callee := Callee.value (Operand.func 18), args := #[Operand.tmp 84, Operand.const (Value.int IntKind.i64 5)], argTypes := #[3, 3] }, 3, _, _, none⟩) rfl (fun K hK => ?_) AllReadyH.nil
          go_simp
          go_at_call 18
          refine (KB.out _).mono ?_
          rintro e _ ⟨rfl, rfl⟩
          try go_wp2_with fail
          refine hK.out _ _ ?_ (fun hHeld => ?_)
          · trivial
          clear hK K
          try simp only [Act.put, List.setIfInBounds_toArray, List.set_cons_zero, List.set_cons_succ]
          refine wpAnyH_take (i := 6) (oi := ⟨some 86, Op.indexAddr 22 (Operand.tmp 83) (Operand.tmp 85), 0, _, _, none⟩) (v := ?_) rfl (by kernel_rfl) (by kernel_rfl) (by kernel_rfl) (fun _ _ _ h => h) (Or.inl ⟨by rfl, ?_⟩) (by assumption) ?_
          rotate_left 1
          · (intro w hSw; (try dsimp only at hSw); go_simp; first | done | with_reducible rfl)
          try simp only [Act.put, List.setIfInBounds_toArray, List.set_cons_zero, List.set_cons_succ]
          refine wpAnyH_ready (rs := [7]) (by kernel_rfl) (by simp) ?_
          refine AllReadyH.cons (o := ⟨some 87, Op.load 3 (Operand.tmp 86), 3, _, _, none⟩) rfl (fun K hK => ?_) AllReadyH.nil
          go_simp
          try go_wp2_with fail
          refine hK.out _ _ ?_ (fun hHeld => ?_)
          · trivial
          clear hK K
          try simp only [Act.put, List.setIfInBounds_toArray, List.set_cons_zero, List.set_cons_succ]
          refine wpAnyH_ready (rs := [8]) (by kernel_rfl) (by simp) ?_
          refine AllReadyH.cons (o := ⟨some 88, Op.buildSlice 22 1 #[(0, Operand.tmp 87)], 22, _, _, none⟩) rfl (fun K hK => ?_) AllReadyH.nil
          go_simp
          try go_wp2_with fail
          refine hK.out _ _ ?_ (fun hHeld => ?_)
          · trivial
          clear hK K
          try simp only [Act.put, List.setIfInBounds_toArray, List.set_cons_zero, List.set_cons_succ]
          refine wpAnyH_ready (rs := [9]) (by kernel_rfl) (by simp) ?_
          refine AllReadyH.cons (o := ⟨some 89, Op.call { callee := Callee.builtin Builtin.append, args := #[Operand.tmp 81, Operand.tmp 88], argTypes := #[22, 22] }, 22, _, _, none⟩) rfl (fun K hK => ?_) AllReadyH.nil
          refine wp_row1_f (.tmp 81) (.tmp 88) 22 rfl RIn 3 8 _ Tryz.underlying22 Tryz.infoI64 rfl (by decide) N (.slice an ln cn) cs [vz] (W6.heap.size + 1) 1 1 rfl rfl rfl HCL.out HOb.out.oa hzb hln ?_
          intro ak lk ck wn hnn hOn hBn hPn
          obtain ⟨y0, y1, y2, g0, g1, g2, -⟩ := (HOb.out.there1 hPn.out).open3
          refine hK.out _ _ ?_ (fun hHeld => ?_)
          · trivial
          clear hK K
          try simp only [Act.put, List.setIfInBounds_toArray, List.set_cons_zero, List.set_cons_succ]
          refine wpAnyH_take (i := 10) (oi := ⟨some 90, Op.fieldAddr 27 (Operand.tmp 9) 0, 0, _, _, none⟩) (v := ?_) rfl (by kernel_rfl) (by kernel_rfl) (by kernel_rfl) (fun _ _ _ h => h) (Or.inl ⟨by rfl, ?_⟩) (by assumption) ?_
          rotate_left 1
          · (intro w hSw; (try dsimp only at hSw); go_simp; first | done | with_reducible rfl)
          try simp only [Act.put, List.setIfInBounds_toArray, List.set_cons_zero, List.set_cons_succ]
          refine wpAnyH_ready (rs := [11]) (by kernel_rfl) (by simp) ?_
          refine AllReadyH.cons (o := ⟨none, Op.store 22 (Operand.tmp 90) (Operand.tmp 89), 0, _, _, none⟩) rfl (fun K hK => ?_) AllReadyH.nil
          go_simp
          go_wp2_with fail
          refine hK.out _ _ ?_ (fun hHeld => ?_)
          · trivial
          clear hK K
          try simp only [Act.put, List.setIfInBounds_toArray, List.set_cons_zero, List.set_cons_succ]
          refine wpAnyH_done (by kernel_rfl) ?_ _
          refine NoPanic.normal ?_
          have hO7 := HOb.out.set1 hPn.out hOn.out
          have hS7 : Since W2 (wn.setCell ⟨N, 0, none⟩ (.slice ak lk ck)) := since_put HSZ.out (Since.step HS6.out HSb.out) hBn.out _ _
          generalize wn.setCell ⟨N, 0, none⟩ (.slice ak lk ck) = W7 at *
          clear y0 y1 y2 g0 g1 g2 x0 x1 x2
          obtain ⟨z0, z1, z2, zf0, zf1, zf2, -⟩ := (HR.out.keep hS7).open3
          have hP := spoil_P (mem_app HW1.out (mem_one (P := I64) HVZ.out)) HW2.out HW3.out (by simp only [List.length_append, List.length_singleton]; have := HW.out; omega) hwt
          obtain ⟨x0, x1, x2, f0, f1, f2, -⟩ := hO7.box.open3
          have hfin := HFN.out _ (fun u => u.wf ∧ u.wt ≤ 2 * tw + 400) _ _ _ _ _ _ _ _ _ _ _ _ _ hO7 hS7 (hP)
          unfold put3 at hfin
          have HFI := Lib.hid hfin
          clear hfin
          go_wp2
          exact bodyPost_ret (v := .agg #[.slice ak lk ck, .slice an2 ln2 cn2, .slice an3 ln3 cn3]) (by simp [results, Tryz.results17, go_sem, z0, z1, z2]) rfl HFI.out
        · go_simp
          go_at_call 18
          refine (KB.out _).mono ?_
          rintro e _ ⟨rfl, rfl⟩
          try go_wp2_with fail
          refine hK.out _ _ ?_ (fun hHeld => ?_)
          · trivial
          clear hK K
          try simp only [Act.put, List.setIfInBounds_toArray, List.set_cons_zero, List.set_cons_succ]
          refine wpAnyH_ready (rs := [3]) (by kernel_rfl) (by simp) ?_
          refine AllReadyH.cons (o := ⟨some 83, Op.buildSlice 22 5 #[(0, Operand.tmp 82), (1, Operand.const (Value.int IntKind.i64 (-1))), (2, Operand.const (Value.int IntKind.i64 0)), (3, Operand.const (Value.int IntKind.i64 63)), (4, Operand.const (Value.int IntKind.i64 64))], 22, _, _, none⟩) rfl (fun K hK => ?_) AllReadyH.nil
          go_simp
          try go_wp2_with fail
          refine hK.out _ _ ?_ (fun hHeld => ?_)
          · trivial
          clear hK K
          try simp only [Act.put, List.setIfInBounds_toArray, List.set_cons_zero, List.set_cons_succ]
          refine wpAnyH_take (i := 6) (oi := ⟨some 86, Op.indexAddr 22 (Operand.tmp 83) (Operand.tmp 85), 0, _, _, none⟩) (v := ?_) rfl (by kernel_rfl) (by kernel_rfl) (by kernel_rfl) (fun _ _ _ h => h) (Or.inl ⟨by rfl, ?_⟩) (by assumption) ?_
          rotate_left 1
          · (intro w hSw; (try dsimp only at hSw); go_simp; first | done | with_reducible rfl)
          try simp only [Act.put, List.setIfInBounds_toArray, List.set_cons_zero, List.set_cons_succ]
          refine wpAnyH_ready (rs := [7]) (by kernel_rfl) (by simp) ?_
          refine AllReadyH.cons (o := ⟨some 87, Op.load 3 (Operand.tmp 86), 3, _, _, none⟩) rfl (fun K hK => ?_) AllReadyH.nil
          go_simp
          try go_wp2_with fail
          refine hK.out _ _ ?_ (fun hHeld => ?_)
          · trivial
          clear hK K
          try simp only [Act.put, List.setIfInBounds_toArray, List.set_cons_zero, List.set_cons_succ]
          refine wpAnyH_ready (rs := [8]) (by kernel_rfl) (by simp) ?_
          refine AllReadyH.cons (o := ⟨some 88, Op.buildSlice 22 1 #[(0, Operand.tmp 87)], 22, _, _, none⟩) rfl (fun K hK => ?_) AllReadyH.nil
          go_simp
          try go_wp2_with fail
          refine hK.out _ _ ?_ (fun hHeld => ?_)
          · trivial
          clear hK K
          try simp only [Act.put, List.setIfInBounds_toArray, List.set_cons_zero, List.set_cons_succ]
          refine wpAnyH_ready (rs := [9]) (by kernel_rfl) (by simp) ?_
          refine AllReadyH.cons (o := ⟨some 89, Op.call { callee := Callee.builtin Builtin.append, args := #[Operand.tmp 81, Operand.tmp 88], argTypes := #[22, 22] }, 22, _, _, none⟩) rfl (fun K hK => ?_) AllReadyH.nil
          refine wp_row1_f (.tmp 81) (.tmp 88) 22 rfl RIn 3 8 _ Tryz.underlying22 Tryz.infoI64 rfl (by decide) N (.slice an ln cn) cs [vz] (W6.heap.size + 1) 1 1 rfl rfl rfl HCL.out HOb.out.oa hzb hln ?_
          intro ak lk ck wn hnn hOn hBn hPn
          obtain ⟨y0, y1, y2, g0, g1, g2, -⟩ := (HOb.out.there1 hPn.out).open3
          refine hK.out _ _ ?_ (fun hHeld => ?_)
          · trivial
          clear hK K
          try simp only [Act.put, List.setIfInBounds_toArray, List.set_cons_zero, List.set_cons_succ]
          refine wpAnyH_take (i := 10) (oi := ⟨some 90, Op.fieldAddr 27 (Operand.tmp 9) 0, 0, _, _, none⟩) (v := ?_) rfl (by kernel_rfl) (by kernel_rfl) (by kernel_rfl) (fun _ _ _ h => h) (Or.inl ⟨by rfl, ?_⟩) (by assumption) ?_
          rotate_left 1
          · (intro w hSw; (try dsimp only at hSw); go_simp; first | done | with_reducible rfl)
          try simp only [Act.put, List.setIfInBounds_toArray, List.set_cons_zero, List.set_cons_succ]
          refine wpAnyH_ready (rs := [11]) (by kernel_rfl) (by simp) ?_
          refine AllReadyH.cons (o := ⟨none, Op.store 22 (Operand.tmp 90) (Operand.tmp 89), 0, _, _, none⟩) rfl (fun K hK => ?_) AllReadyH.nil
          go_simp
          go_wp2_with fail
          refine hK.out _ _ ?_ (fun hHeld => ?_)
          · trivial
          clear hK K
          try simp only [Act.put, List.setIfInBounds_toArray, List.set_cons_zero, List.set_cons_succ]
          refine wpAnyH_done (by kernel_rfl) ?_ _
          refine NoPanic.normal ?_
          have hO7 := HOb.out.set1 hPn.out hOn.out
          have hS7 : Since W2 (wn.setCell ⟨N, 0, none⟩ (.slice ak lk ck)) := since_put HSZ.out (Since.step HS6.out HSb.out) hBn.out _ _
          generalize wn.setCell ⟨N, 0, none⟩ (.slice ak lk ck) = W7 at *
          clear y0 y1 y2 g0 g1 g2 x0 x1 x2
          obtain ⟨z0, z1, z2, zf0, zf1, zf2, -⟩ := (HR.out.keep hS7).open3
          have hP := spoil_P (mem_app HW1.out (mem_one (P := I64) HVZ.out)) HW2.out HW3.out (by simp only [List.length_append, List.length_singleton]; have := HW.out; omega) hwt
          obtain ⟨x0, x1, x2, f0, f1, f2, -⟩ := hO7.box.open3
          have hfin := HFN.out _ (fun u => u.wf ∧ u.wt ≤ 2 * tw + 400) _ _ _ _ _ _ _ _ _ _ _ _ _ hO7 hS7 (hP)
          unfold put3 at hfin
          have HFI := Lib.hid hfin
          clear hfin
          go_wp2
          exact bodyPost_ret (v := .agg #[.slice ak lk ck, .slice an2 ln2 cn2, .slice an3 ln3 cn3]) (by simp [results, Tryz.results17, go_sem, z0, z1, z2]) rfl HFI.out
      · go_simp
        try go_wp2_with fail
        refine hK.out _ _ ?_ (fun hHeld => ?_)
        · trivial
        clear hK K
        try simp only [Act.put, List.setIfInBounds_toArray, List.set_cons_zero, List.set_cons_succ]
        refine wpAnyH_ready (rs := [1, 5]) (by kernel_rfl) (by simp) ?_
        refine AllReadyH.cons (o := ⟨some 81, Op.load 22 (Operand.tmp 80), 22, _, _, none⟩) rfl (fun K hK => ?_) (AllReadyH.cons (o := ⟨some 85, Op.call { callee := Callee.value (Operand.func 18), args := #[Operand.tmp 84, Operand.const (Value.int IntKind.i64 5)], argTypes := #[3, 3] }, 3, _, _, none⟩) rfl (fun K hK => ?_) AllReadyH.nil)
        · go_simp
          try go_wp2_with fail
          refine hK.out _ _ ?_ (fun hHeld => ?_)
          · trivial
          clear hK K
          try simp only [Act.put, List.setIfInBounds_toArray, List.set_cons_zero, List.set_cons_succ]
          refine wpAnyH_ready (rs := [5]) (by kernel_rfl) (by simp) ?_
          refine AllReadyH.cons (o := ⟨some 85, Op.call { callee := Callee.value (Operand.func 18), args := #[Operand.tmp 84, Operand.const (Value.int IntKind.i64 5)], argTypes := #[3, 3] }, 3, _, _, none⟩) rfl (fun K hK => ?_) AllReadyH.nil
          go_simp
          go_at_call 18
          refine (KB.out _).mono ?_
          rintro e _ ⟨rfl, rfl⟩
          try go_wp2_with fail
          refine hK.out _ _ ?_ (fun hHeld => ?_)
          · trivial
          clear hK K
          try simp only [Act.put, List.setIfInBounds_toArray, List.set_cons_zero, List.set_cons_succ]
          refine wpAnyH_take (i := 6) (oi := ⟨some 86, Op.indexAddr 22 (Operand.tmp 83) (Operand.tmp 85), 0, _, _, none⟩) (v := ?_) rfl (by kernel_rfl) (by kernel_rfl) (by kernel_rfl) (fun _ _ _ h => h) (Or.inl ⟨by rfl, ?_⟩) (by assumption) ?_
          rotate_left 1
          · (intro w hSw; (try dsimp only at hSw); go_simp; first | done | with_reducible rfl)
          try simp only [Act.put, List.setIfInBounds_toArray, List.set_cons_zero, List.set_cons_succ]
          refine wpAnyH_ready (rs := [7]) (by kernel_rfl) (by simp) ?_
          refine AllReadyH.cons (o := ⟨some 87, Op.load 3 (Operand.tmp 86), 3, _, _, none⟩) rfl (fun K hK => ?_) AllReadyH.nil
          go_simp
          try go_wp2_with fail
          refine hK.out _ _ ?_ (fun hHeld => ?_)
          · trivial
          clear hK K
          try simp only [Act.put, List.setIfInBounds_toArray, List.set_cons_zero, List.set_cons_succ]
          refine wpAnyH_ready (rs := [8]) (by kernel_rfl) (by simp) ?_
          refine AllReadyH.cons (o := ⟨some 88, Op.buildSlice 22 1 #[(0, Operand.tmp 87)], 22, _, _, none⟩) rfl (fun K hK => ?_) AllReadyH.nil
          go_simp
          try go_wp2_with fail
          refine hK.out _ _ ?_ (fun hHeld => ?_)
          · trivial
          clear hK K
          try simp only [Act.put, List.setIfInBounds_toArray, List.set_cons_zero, List.set_cons_succ]
          refine wpAnyH_ready (rs := [9]) (by kernel_rfl) (by simp) ?_
          refine AllReadyH.cons (o := ⟨some 89, Op.call { callee := Callee.builtin Builtin.append, args := #[Operand.tmp 81, Operand.tmp 88], argTypes := #[22, 22] }, 22, _, _, none⟩) rfl (fun K hK => ?_) AllReadyH.nil
          refine wp_row1_f (.tmp 81) (.tmp 88) 22 rfl RIn 3 8 _ Tryz.underlying22 Tryz.infoI64 rfl (by decide) N (.slice an ln cn) cs [vz] (W6.heap.size + 1) 1 1 rfl rfl rfl HCL.out HOb.out.oa hzb hln ?_
          intro ak lk ck wn hnn hOn hBn hPn
          obtain ⟨y0, y1, y2, g0, g1, g2, -⟩ := (HOb.out.there1 hPn.out).open3
          refine hK.out _ _ ?_ (fun hHeld => ?_)
          · trivial
          clear hK K
          try simp only [Act.put, List.setIfInBounds_toArray, List.set_cons_zero, List.set_cons_succ]
          refine wpAnyH_take (i := 10) (oi := ⟨some 90, Op.fieldAddr 27 (Operand.tmp 9) 0, 0, _, _, none⟩) (v := ?_) rfl (by kernel_rfl) (by kernel_rfl) (by kernel_rfl) (fun _ _ _ h => h) (Or.inl ⟨by rfl, ?_⟩) (by assumption) ?_
          rotate_left 1
          · (intro w hSw; (try dsimp only at hSw); go_simp; first | done | with_reducible rfl)
          try simp only [Act.put, List.setIfInBounds_toArray, List.set_cons_zero, List.set_cons_succ]
          refine wpAnyH_ready (rs := [11]) (by kernel_rfl) (by simp) ?_
          refine AllReadyH.cons (o := ⟨none, Op.store 22 (Operand.tmp 90) (Operand.tmp 89), 0, _, _, none⟩) rfl (fun K hK => ?_) AllReadyH.nil
          go_simp
          go_wp2_with fail
          refine hK.out _ _ ?_ (fun hHeld => ?_)
          · trivial
          clear hK K
          try simp only [Act.put, List.setIfInBounds_toArray, List.set_cons_zero, List.set_cons_succ]
          refine wpAnyH_done (by kernel_rfl) ?_ _
          refine NoPanic.normal ?_
          have hO7 := HOb.out.set1 hPn.out hOn.out
          have hS7 : Since W2 (wn.setCell ⟨N, 0, none⟩ (.slice ak lk ck)) := since_put HSZ.out (Since.step HS6.out HSb.out) hBn.out _ _
          generalize wn.setCell ⟨N, 0, none⟩ (.slice ak lk ck) = W7 at *
          clear y0 y1 y2 g0 g1 g2 x0 x1 x2
          obtain ⟨z0, z1, z2, zf0, zf1, zf2, -⟩ := (HR.out.keep hS7).open3
          have hP := spoil_P (mem_app HW1.out (mem_one (P := I64) HVZ.out)) HW2.out HW3.out (by simp only [List.length_append, List.length_singleton]; have := HW.out; omega) hwt
          obtain ⟨x0, x1, x2, f0, f1, f2, -⟩ := hO7.box.open3
          have hfin := HFN.out _ (fun u => u.wf ∧ u.wt ≤ 2 * tw + 400) _ _ _ _ _ _ _ _ _ _ _ _ _ hO7 hS7 (hP)
          unfold put3 at hfin
          have HFI := Lib.hid hfin
          clear hfin
          go_wp2
          exact bodyPost_ret (v := .agg #[.slice ak lk ck, .slice an2 ln2 cn2, .slice an3 ln3 cn3]) (by simp [results, Tryz.results17, go_sem, z0, z1, z2]) rfl HFI.out
        · go_simp
          go_at_call 18
          refine (KB.out _).mono ?_
          rintro e _ ⟨rfl, rfl⟩
          try go_wp2_with fail
          refine hK.out _ _ ?_ (fun hHeld => ?_)
          · trivial
          clear hK K
          try simp only [Act.put, List.setIfInBounds_toArray, List.set_cons_zero, List.set_cons_succ]
          refine wpAnyH_take (i := 6) (oi := ⟨some 86, Op.indexAddr 22 (Operand.tmp 83) (Operand.tmp 85), 0, _, _, none⟩) (v := ?_) rfl (by kernel_rfl) (by kernel_rfl) (by kernel_rfl) (fun _ _ _ h => h) (Or.inl ⟨by rfl, ?_⟩) (by assumption) ?_
          rotate_left 1
          · (intro w hSw; (try dsimp only at hSw); go_simp; first | done | with_reducible rfl)
          try simp only [Act.put, List.setIfInBounds_toArray, List.set_cons_zero, List.set_cons_succ]
          refine wpAnyH_ready (rs := [1, 7]) (by kernel_rfl) (by simp) ?_
          refine AllReadyH.cons (o := ⟨some 81, Op.load 22 (Operand.tmp 80), 22, _, _, none⟩) rfl (fun K hK => ?_) (AllReadyH.cons (o := ⟨some 87, Op.load 3 (Operand.tmp 86), 3, _, _, none⟩) rfl (fun K hK => ?_) AllReadyH.nil)
          · go_simp
            try go_wp2_with fail
            refine hK.out _ _ ?_ (fun hHeld => ?_)
            · trivial
            clear hK K
            try simp only [Act.put, List.setIfInBounds_toArray, List.set_cons_zero, List.set_cons_succ]
            refine wpAnyH_ready (rs := [7]) (by kernel_rfl) (by simp) ?_
            refine AllReadyH.cons (o := ⟨some 87, Op.load 3 (Operand.tmp 86), 3, _, _, none⟩) rfl (fun K hK => ?_) AllReadyH.nil
            go_simp
            try go_wp2_with fail
            refine hK.out _ _ ?_ (fun hHeld => ?_)
            · trivial
            clear hK K
            try simp only [Act.put, List.setIfInBounds_toArray, List.set_cons_zero, List.set_cons_succ]
            refine wpAnyH_ready (rs := [8]) (by kernel_rfl) (by simp) ?_
            refine AllReadyH.cons (o := ⟨some 88, Op.buildSlice 22 1 #[(0, Operand.tmp 87)], 22, _, _, none⟩) rfl (fun K hK => ?_) AllReadyH.nil
            go_simp
            try go_wp2_with fail
            refine hK.out _ _ ?_ (fun hHeld => ?_)
            · trivial
            clear hK K
            try simp only [Act.put, List.setIfInBounds_toArray, List.set_cons_zero, List.set_cons_succ]
            refine wpAnyH_ready (rs := [9]) (by kernel_rfl) (by simp) ?_
            refine AllReadyH.cons (o := ⟨some 89, Op.call { callee := Callee.builtin Builtin.append, args := #[Operand.tmp 81, Operand.tmp 88], argTypes := #[22, 22] }, 22, _, _, none⟩) rfl (fun K hK => ?_) AllReadyH.nil
            refine wp_row1_f (.tmp 81) (.tmp 88) 22 rfl RIn 3 8 _ Tryz.underlying22 Tryz.infoI64 rfl (by decide) N (.slice an ln cn) cs [vz] (W6.heap.size + 1) 1 1 rfl rfl rfl HCL.out HOb.out.oa hzb hln ?_
            intro ak lk ck wn hnn hOn hBn hPn
            obtain ⟨y0, y1, y2, g0, g1, g2, -⟩ := (HOb.out.there1 hPn.out).open3
            refine hK.out _ _ ?_ (fun hHeld => ?_)
            · trivial
            clear hK K
            try simp only [Act.put, List.setIfInBounds_toArray, List.set_cons_zero, List.set_cons_succ]
            refine wpAnyH_take (i := 10) (oi := ⟨some 90, Op.fieldAddr 27 (Operand.tmp 9) 0, 0, _, _, none⟩) (v := ?_) rfl (by kernel_rfl) (by kernel_rfl) (by kernel_rfl) (fun _ _ _ h => h) (Or.inl ⟨by rfl, ?_⟩) (by assumption) ?_
            rotate_left 1
            · (intro w hSw; (try dsimp only at hSw); go_simp; first | done | with_reducible rfl)
            try simp only [Act.put, List.setIfInBounds_toArray, List.set_cons_zero, List.set_cons_succ]
            refine wpAnyH_ready (rs := [11]) (by kernel_rfl) (by simp) ?_
            refine AllReadyH.cons (o := ⟨none, Op.store 22 (Operand.tmp 90) (Operand.tmp 89), 0, _, _, none⟩) rfl (fun K hK => ?_) AllReadyH.nil
            go_simp
            go_wp2_with fail
            refine hK.out _ _ ?_ (fun hHeld => ?_)
            · trivial
            clear hK K
            try simp only [Act.put, List.setIfInBounds_toArray, List.set_cons_zero, List.set_cons_succ]
            refine wpAnyH_done (by kernel_rfl) ?_ _
            refine NoPanic.normal ?_
            have hO7 := HOb.out.set1 hPn.out hOn.out
            have hS7 : Since W2 (wn.setCell ⟨N, 0, none⟩ (.slice ak lk ck)) := since_put HSZ.out (Since.step HS6.out HSb.out) hBn.out _ _
            generalize wn.setCell ⟨N, 0, none⟩ (.slice ak lk ck) = W7 at *
            clear y0 y1 y2 g0 g1 g2 x0 x1 x2
            obtain ⟨z0, z1, z2, zf0, zf1, zf2, -⟩ := (HR.out.keep hS7).open3
            have hP := spoil_P (mem_app HW1.out (mem_one (P := I64) HVZ.out)) HW2.out HW3.out (by simp only [List.length_append, List.length_singleton]; have := HW.out; omega) hwt
            obtain ⟨x0, x1, x2, f0, f1, f2, -⟩ := hO7.box.open3
            have hfin := HFN.out _ (fun u => u.wf ∧ u.wt ≤ 2 * tw + 400) _ _ _ _ _ _ _ _ _ _ _ _ _ hO7 hS7 (hP)
            unfold put3 at hfin
            have HFI := Lib.hid hfin
            clear hfin
            go_wp2
            exact bodyPost_ret (v := .agg #[.slice ak lk ck, .slice an2 ln2 cn2, .slice an3 ln3 cn3]) (by simp [results, Tryz.results17, go_sem, z0, z1, z2]) rfl HFI.out
          · go_simp
            try go_wp2_with fail
            refine hK.out _ _ ?_ (fun hHeld => ?_)
            · trivial
            clear hK K
            try simp only [Act.put, List.setIfInBounds_toArray, List.set_cons_zero, List.set_cons_succ]
            refine wpAnyH_ready (rs := [1, 8]) (by kernel_rfl) (by simp) ?_
            refine AllReadyH.cons (o := ⟨some 81, Op.load 22 (Operand.tmp 80), 22, _, _, none⟩) rfl (fun K hK => ?_) (AllReadyH.cons (o := ⟨some 88, Op.buildSlice 22 1 #[(0, Operand.tmp 87)], 22, _, _, none⟩) rfl (fun K hK => ?_) AllReadyH.nil)
            · go_simp
              try go_wp2_with fail
              refine hK.out _ _ ?_ (fun hHeld => ?_)
              · trivial
              clear hK K
              try simp only [Act.put, List.setIfInBounds_toArray, List.set_cons_zero, List.set_cons_succ]
              refine wpAnyH_ready (rs := [8]) (by kernel_rfl) (by simp) ?_
              refine AllReadyH.cons (o := ⟨some 88, Op.buildSlice 22 1 #[(0, Operand.tmp 87)], 22, _, _, none⟩) rfl (fun K hK => ?_) AllReadyH.nil
              go_simp
              try go_wp2_with fail
              refine hK.out _ _ ?_ (fun hHeld => ?_)
              · trivial
              clear hK K
              try simp only [Act.put, List.setIfInBounds_toArray, List.set_cons_zero, List.set_cons_succ]
              refine wpAnyH_ready (rs := [9]) (by kernel_rfl) (by simp) ?_
              refine AllReadyH.cons (o := ⟨some 89, Op.call { callee := Callee.builtin Builtin.append, args := #[Operand.tmp 81, Operand.tmp 88], argTypes := #[22, 22] }, 22, _, _, none⟩) rfl (fun K hK => ?_) AllReadyH.nil
              refine wp_row1_f (.tmp 81) (.tmp 88) 22 rfl RIn 3 8 _ Tryz.underlying22 Tryz.infoI64 rfl (by decide) N (.slice an ln cn) cs [vz] (W6.heap.size + 1) 1 1 rfl rfl rfl HCL.out HOb.out.oa hzb hln ?_
              intro ak lk ck wn hnn hOn hBn hPn
              obtain ⟨y0, y1, y2, g0, g1, g2, -⟩ := (HOb.out.there1 hPn.out).open3
              refine hK.out _ _ ?_ (fun hHeld => ?_)
              · trivial
              clear hK K
              try simp only [Act.put, List.setIfInBounds_toArray, List.set_cons_zero, List.set_cons_succ]
              refine wpAnyH_take (i := 10) (oi := ⟨some 90, Op.fieldAddr 27 (Operand.tmp 9) 0, 0, _, _, none⟩) (v := ?_) rfl (by kernel_rfl) (by kernel_rfl) (by kernel_rfl) (fun _ _ _ h => h) (Or.inl ⟨by rfl, ?_⟩) (by assumption) ?_
              rotate_left 1
              · (intro w hSw; (try dsimp only at hSw); go_simp; first | done | with_reducible rfl)
              try simp only [Act.put, List.setIfInBounds_toArray, List.set_cons_zero, List.set_cons_succ]
              refine wpAnyH_ready (rs := [11]) (by kernel_rfl) (by simp) ?_
              refine AllReadyH.cons (o := ⟨none, Op.store 22 (Operand.tmp 90) (Operand.tmp 89), 0, _, _, none⟩) rfl (fun K hK => ?_) AllReadyH.nil
              go_simp
              go_wp2_with fail
              refine hK.out _ _ ?_ (fun hHeld => ?_)
              · trivial
              clear hK K
              try simp only [Act.put, List.setIfInBounds_toArray, List.set_cons_zero, List.set_cons_succ]
              refine wpAnyH_done (by kernel_rfl) ?_ _
              refine NoPanic.normal ?_
              have hO7 := HOb.out.set1 hPn.out hOn.out
              have hS7 : Since W2 (wn.setCell ⟨N, 0, none⟩ (.slice ak lk ck)) := since_put HSZ.out (Since.step HS6.out HSb.out) hBn.out _ _
              generalize wn.setCell ⟨N, 0, none⟩ (.slice ak lk ck) = W7 at *
              clear y0 y1 y2 g0 g1 g2 x0 x1 x2
              obtain ⟨z0, z1, z2, zf0, zf1, zf2, -⟩ := (HR.out.keep hS7).open3
              have hP := spoil_P (mem_app HW1.out (mem_one (P := I64) HVZ.out)) HW2.out HW3.out (by simp only [List.length_append, List.length_singleton]; have := HW.out; omega) hwt
              obtain ⟨x0, x1, x2, f0, f1, f2, -⟩ := hO7.box.open3
              have hfin := HFN.out _ (fun u => u.wf ∧ u.wt ≤ 2 * tw + 400) _ _ _ _ _ _ _ _ _ _ _ _ _ hO7 hS7 (hP)
              unfold put3 at hfin
              have HFI := Lib.hid hfin
              clear hfin
              go_wp2
              exact bodyPost_ret (v := .agg #[.slice ak lk ck, .slice an2 ln2 cn2, .slice an3 ln3 cn3]) (by simp [results, Tryz.results17, go_sem, z0, z1, z2]) rfl HFI.out
            · go_simp
              try go_wp2_with fail
              refine hK.out _ _ ?_ (fun hHeld => ?_)
              · trivial
              clear hK K
              try simp only [Act.put, List.setIfInBounds_toArray, List.set_cons_zero, List.set_cons_succ]
              refine wpAnyH_ready (rs := [1]) (by kernel_rfl) (by simp) ?_
              refine AllReadyH.cons (o := ⟨some 81, Op.load 22 (Operand.tmp 80), 22, _, _, none⟩) rfl (fun K hK => ?_) AllReadyH.nil
              go_simp
              try go_wp2_with fail
              refine hK.out _ _ ?_ (fun hHeld => ?_)
              · trivial
              clear hK K
              try simp only [Act.put, List.setIfInBounds_toArray, List.set_cons_zero, List.set_cons_succ]
              refine wpAnyH_ready (rs := [9]) (by kernel_rfl) (by simp) ?_
              refine AllReadyH.cons (o := ⟨some 89, Op.call { callee := Callee.builtin Builtin.append, args := #[Operand.tmp 81, Operand.tmp 88], argTypes := #[22, 22] }, 22, _, _, none⟩) rfl (fun K hK => ?_) AllReadyH.nil
              refine wp_row1_f (.tmp 81) (.tmp 88) 22 rfl RIn 3 8 _ Tryz.underlying22 Tryz.infoI64 rfl (by decide) N (.slice an ln cn) cs [vz] (W6.heap.size + 1) 1 1 rfl rfl rfl HCL.out HOb.out.oa hzb hln ?_
              intro ak lk ck wn hnn hOn hBn hPn
              obtain ⟨y0, y1, y2, g0, g1, g2, -⟩ := (HOb.out.there1 hPn.out).open3
              refine hK.out _ _ ?_ (fun hHeld => ?_)
              · trivial
              clear hK K
              try simp only [Act.put, List.setIfInBounds_toArray, List.set_cons_zero, List.set_cons_succ]
              refine wpAnyH_take (i := 10) (oi := ⟨some 90, Op.fieldAddr 27 (Operand.tmp 9) 0, 0, _, _, none⟩) (v := ?_) rfl (by kernel_rfl) (by kernel_rfl) (by kernel_rfl) (fun _ _ _ h => h) (Or.inl ⟨by rfl, ?_⟩) (by assumption) ?_
              rotate_left 1
              · (intro w hSw; (try dsimp only at hSw); go_simp; first | done | with_reducible rfl)
              try simp only [Act.put, List.setIfInBounds_toArray, List.set_cons_zero, List.set_cons_succ]
              refine wpAnyH_ready (rs := [11]) (by kernel_rfl) (by simp) ?_
              refine AllReadyH.cons (o := ⟨none, Op.store 22 (Operand.tmp 90) (Operand.tmp 89), 0, _, _, none⟩) rfl (fun K hK => ?_) AllReadyH.nil
              go_simp
              go_wp2_with fail
              refine hK.out _ _ ?_ (fun hHeld => ?_)
              · trivial
              clear hK K
              try simp only [Act.put, List.setIfInBounds_toArray, List.set_cons_zero, List.set_cons_succ]
              refine wpAnyH_done (by kernel_rfl) ?_ _
              refine NoPanic.normal ?_
              have hO7 := HOb.out.set1 hPn.out hOn.out
              have hS7 : Since W2 (wn.setCell ⟨N, 0, none⟩ (.slice ak lk ck)) := since_put HSZ.out (Since.step HS6.out HSb.out) hBn.out _ _
              generalize wn.setCell ⟨N, 0, none⟩ (.slice ak lk ck) = W7 at *
              clear y0 y1 y2 g0 g1 g2 x0 x1 x2
              obtain ⟨z0, z1, z2, zf0, zf1, zf2, -⟩ := (HR.out.keep hS7).open3
              have hP := spoil_P (mem_app HW1.out (mem_one (P := I64) HVZ.out)) HW2.out HW3.out (by simp only [List.length_append, List.length_singleton]; have := HW.out; omega) hwt
              obtain ⟨x0, x1, x2, f0, f1, f2, -⟩ := hO7.box.open3
              have hfin := HFN.out _ (fun u => u.wf ∧ u.wt ≤ 2 * tw + 400) _ _ _ _ _ _ _ _ _ _ _ _ _ hO7 hS7 (hP)
              unfold put3 at hfin
              have HFI := Lib.hid hfin
              clear hfin
              go_wp2
              exact bodyPost_ret (v := .agg #[.slice ak lk ck, .slice an2 ln2 cn2, .slice an3 ln3 cn3]) (by simp [results, Tryz.results17, go_sem, z0, z1, z2]) rfl HFI.out
      · go_simp
        go_at_call 18
        refine (KB.out _).mono ?_
        rintro e _ ⟨rfl, rfl⟩
        try go_wp2_with fail
        refine hK.out _ _ ?_ (fun hHeld => ?_)
        · trivial
        clear hK K
        try simp only [Act.put, List.setIfInBounds_toArray, List.set_cons_zero, List.set_cons_succ]
        refine wpAnyH_ready (rs := [1, 3]) (by kernel_rfl) (by simp) ?_
        refine AllReadyH.cons (o := ⟨some 81, Op.load 22 (Operand.tmp 80), 22, _, _, none⟩) rfl (fun K hK => ?_) (AllReadyH.cons (o := ⟨some 83, Op.buildSlice 22 5 #[(0, Operand.tmp 82), (1, Operand.const (Value.int IntKind.i64 (-1))), (2, Operand.const (Value.int IntKind.i64 0)), (3, Operand.const (Value.int IntKind.i64 63)), (4, Operand.const (Value.int IntKind.i64 64))], 22, _, _, none⟩) rfl (fun K hK => ?_) AllReadyH.nil)
        · go_simp
          try go_wp2_with fail
          refine hK.out _ _ ?_ (fun hHeld => ?_)
          · trivial
          clear hK K
          try simp only [Act.put, List.setIfInBounds_toArray, List.set_cons_zero, List.set_cons_succ]
          refine wpAnyH_ready (rs := [3]) (by kernel_rfl) (by simp) ?_
          refine AllReadyH.cons (o := ⟨some 83, Op.buildSlice 22 5 #[(0, Operand.tmp 82), (1, Operand.const (Value.int IntKind.i64 (-1))), (2, Operand.const (Value.int IntKind.i64 0)), (3, Operand.const (Value.int IntKind.i64 63)), (4, Operand.const (Value.int IntKind.i64 64))], 22, _, _, none⟩) rfl (fun K hK => ?_) AllReadyH.nil
          go_simp
          try go_wp2_with fail
          refine hK.out _ _ ?_ (fun hHeld => ?_)
          · trivial
          clear hK K
          try simp only [Act.put, List.setIfInBounds_toArray, List.set_cons_zero, List.set_cons_succ]
          refine wpAnyH_take (i := 6) (oi := ⟨some 86, Op.indexAddr 22 (Operand.tmp 83) (Operand.tmp 85), 0, _, _, none⟩) (v := ?_) rfl (by kernel_rfl) (by kernel_rfl) (by kernel_rfl) (fun _ _ _ h => h) (Or.inl ⟨by rfl, ?_⟩) (by assumption) ?_
          rotate_left 1
          · (intro w hSw; (try dsimp only at hSw); go_simp; first | done | with_reducible rfl)
          try simp only [Act.put, List.setIfInBounds_toArray, List.set_cons_zero, List.set_cons_succ]
          refine wpAnyH_ready (rs := [7]) (by kernel_rfl) (by simp) ?_
          refine AllReadyH.cons (o := ⟨some 87, Op.load 3 (Operand.tmp 86), 3, _, _, none⟩) rfl (fun K hK => ?_) AllReadyH.nil
          go_simp
          try go_wp2_with fail
          refine hK.out _ _ ?_ (fun hHeld => ?_)
          · trivial
          clear hK K
          try simp only [Act.put, List.setIfInBounds_toArray, List.set_cons_zero, List.set_cons_succ]
          refine wpAnyH_ready (rs := [8]) (by kernel_rfl) (by simp) ?_
          refine AllReadyH.cons (o := ⟨some 88, Op.buildSlice 22 1 #[(0, Operand.tmp 87)], 22, _, _, none⟩) rfl (fun K hK => ?_) AllReadyH.nil
          go_simp
          try go_wp2_with fail
          refine hK.out _ _ ?_ (fun hHeld => ?_)
          · trivial
          clear hK K
          try simp only [Act.put, List.setIfInBounds_toArray, List.set_cons_zero, List.set_cons_succ]
          refine wpAnyH_ready (rs := [9]) (by kernel_rfl) (by simp) ?_
          refine AllReadyH.cons (o := ⟨some 89, Op.call { callee := Callee.builtin Builtin.append, args := #[Operand.tmp 81, Operand.tmp 88], argTypes := #[22, 22] }, 22, _, _, none⟩) rfl (fun K hK => ?_) AllReadyH.nil
          refine wp_row1_f (.tmp 81) (.tmp 88) 22 rfl RIn 3 8 _ Tryz.underlying22 Tryz.infoI64 rfl (by decide) N (.slice an ln cn) cs [vz] (W6.heap.size + 1) 1 1 rfl rfl rfl HCL.out HOb.out.oa hzb hln ?_
          intro ak lk ck wn hnn hOn hBn hPn
          obtain ⟨y0, y1, y2, g0, g1, g2, -⟩ := (HOb.out.there1 hPn.out).open3
          refine hK.out _ _ ?_ (fun hHeld => ?_)
          · trivial
          clear hK K
          try simp only [Act.put, List.setIfInBounds_toArray, List.set_cons_zero, List.set_cons_succ]
          refine wpAnyH_take (i := 10) (oi := ⟨some 90, Op.fieldAddr 27 (Operand.tmp 9) 0, 0, _, _, none⟩) (v := ?_) rfl (by kernel_rfl) (by kernel_rfl) (by kernel_rfl) (fun _ _ _ h => h) (Or.inl ⟨by rfl, ?_⟩) (by assumption) ?_
          rotate_left 1
          · (intro w hSw; (try dsimp only at hSw); go_simp; first | done | with_reducible rfl)
          try simp only [Act.put, List.setIfInBounds_toArray, List.set_cons_zero, List.set_cons_succ]
          refine wpAnyH_ready (rs := [11]) (by kernel_rfl) (by simp) ?_
          refine AllReadyH.cons (o := ⟨none, Op.store 22 (Operand.tmp 90) (Operand.tmp 89), 0, _, _, none⟩) rfl (fun K hK => ?_) AllReadyH.nil
          go_simp
          go_wp2_with fail
          refine hK.out _ _ ?_ (fun hHeld => ?_)
          · trivial
          clear hK K
          try simp only [Act.put, List.setIfInBounds_toArray, List.set_cons_zero, List.set_cons_succ]
          refine wpAnyH_done (by kernel_rfl) ?_ _
          refine NoPanic.normal ?_
          have hO7 := HOb.out.set1 hPn.out hOn.out
          have hS7 : Since W2 (wn.setCell ⟨N, 0, none⟩ (.slice ak lk ck)) := since_put HSZ.out (Since.step HS6.out HSb.out) hBn.out _ _
          generalize wn.setCell ⟨N, 0, none⟩ (.slice ak lk ck) = W7 at *
          clear y0 y1 y2 g0 g1 g2 x0 x1 x2
          obtain ⟨z0, z1, z2, zf0, zf1, zf2, -⟩ := (HR.out.keep hS7).open3
          have hP := spoil_P (mem_app HW1.out (mem_one (P := I64) HVZ.out)) HW2.out HW3.out (by simp only [List.length_append, List.length_singleton]; have := HW.out; omega) hwt
          obtain ⟨x0, x1, x2, f0, f1, f2, -⟩ := hO7.box.open3
          have hfin := HFN.out _ (fun u => u.wf ∧ u.wt ≤ 2 * tw + 400) _ _ _ _ _ _ _ _ _ _ _ _ _ hO7 hS7 (hP)
          unfold put3 at hfin
          have HFI := Lib.hid hfin
          clear hfin
          go_wp2
          exact bodyPost_ret (v := .agg #[.slice ak lk ck, .slice an2 ln2 cn2, .slice an3 ln3 cn3]) (by simp [results, Tryz.results17, go_sem, z0, z1, z2]) rfl HFI.out
        · go_simp
          try go_wp2_with fail
          refine hK.out _ _ ?_ (fun hHeld => ?_)
          · trivial
          clear hK K
          try simp only [Act.put, List.setIfInBounds_toArray, List.set_cons_zero, List.set_cons_succ]
          refine wpAnyH_take (i := 6) (oi := ⟨some 86, Op.indexAddr 22 (Operand.tmp 83) (Operand.tmp 85), 0, _, _, none⟩) (v := ?_) rfl (by kernel_rfl) (by kernel_rfl) (by kernel_rfl) (fun _ _ _ h => h) (Or.inl ⟨by rfl, ?_⟩) (by assumption) ?_
          rotate_left 1
          · (intro w hSw; (try dsimp only at hSw); go_simp; first | done | with_reducible rfl)
          try simp only [Act.put, List.setIfInBounds_toArray, List.set_cons_zero, List.set_cons_succ]
          refine wpAnyH_ready (rs := [1, 7]) (by kernel_rfl) (by simp) ?_
          refine AllReadyH.cons (o := ⟨some 81, Op.load 22 (Operand.tmp 80), 22, _, _, none⟩) rfl (fun K hK => ?_) (AllReadyH.cons (o := ⟨some 87, Op.load 3 (Operand.tmp 86), 3, _, _, none⟩) rfl (fun K hK => ?_) AllReadyH.nil)
          · go_simp
            try go_wp2_with fail
            refine hK.out _ _ ?_ (fun hHeld => ?_)
            · trivial
            clear hK K
            try simp only [Act.put, List.setIfInBounds_toArray, List.set_cons_zero, List.set_cons_succ]
            refine wpAnyH_ready (rs := [7]) (by kernel_rfl) (by simp) ?_
            refine AllReadyH.cons (o := ⟨some 87, Op.load 3 (Operand.tmp 86), 3, _, _, none⟩) rfl (fun K hK => ?_) AllReadyH.nil
            go_simp
            try go_wp2_with fail
            refine hK.out _ _ ?_ (fun hHeld => ?_)
            · trivial
            clear hK K
            try simp only [Act.put, List.setIfInBounds_toArray, List.set_cons_zero, List.set_cons_succ]
            refine wpAnyH_ready (rs := [8]) (by kernel_rfl) (by simp) ?_
            refine AllReadyH.cons (o := ⟨some 88, Op.buildSlice 22 1 #[(0, Operand.tmp 87)], 22, _, _, none⟩) rfl (fun K hK => ?_) AllReadyH.nil
            go_simp
            try go_wp2_with fail
            refine hK.out _ _ ?_ (fun hHeld => ?_)
            · trivial
            clear hK K
            try simp only [Act.put, List.setIfInBounds_toArray, List.set_cons_zero, List.set_cons_succ]
            refine wpAnyH_ready (rs := [9]) (by kernel_rfl) (by simp) ?_
            refine AllReadyH.cons (o := ⟨some 89, Op.call { callee := Callee.builtin Builtin.append, args := #[Operand.tmp 81, Operand.tmp 88], argTypes := #[22, 22] }, 22, _, _, none⟩) rfl (fun K hK => ?_) AllReadyH.nil
            refine wp_row1_f (.tmp 81) (.tmp 88) 22 rfl RIn 3 8 _ Tryz.underlying22 Tryz.infoI64 rfl (by decide) N (.slice an ln cn) cs [vz] (W6.heap.size + 1) 1 1 rfl rfl rfl HCL.out HOb.out.oa hzb hln ?_
            intro ak lk ck wn hnn hOn hBn hPn
            obtain ⟨y0, y1, y2, g0, g1, g2, -⟩ := (HOb.out.there1 hPn.out).open3
            refine hK.out _ _ ?_ (fun hHeld => ?_)
            · trivial
            clear hK K
            try simp only [Act.put, List.setIfInBounds_toArray, List.set_cons_zero, List.set_cons_succ]
            refine wpAnyH_take (i := 10) (oi := ⟨some 90, Op.fieldAddr 27 (Operand.tmp 9) 0, 0, _, _, none⟩) (v := ?_) rfl (by kernel_rfl) (by kernel_rfl) (by kernel_rfl) (fun _ _ _ h => h) (Or.inl ⟨by rfl, ?_⟩) (by assumption) ?_
            rotate_left 1
            · (intro w hSw; (try dsimp only at hSw); go_simp; first | done | with_reducible rfl)
            try simp only [Act.put, List.setIfInBounds_toArray, List.set_cons_zero, List.set_cons_succ]
            refine wpAnyH_ready (rs := [11]) (by kernel_rfl) (by simp) ?_
            refine AllReadyH.cons (o := ⟨none, Op.store 22 (Operand.tmp 90) (Operand.tmp 89), 0, _, _, none⟩) rfl (fun K hK => ?_) AllReadyH.nil
            go_simp
            go_wp2_with fail
            refine hK.out _ _ ?_ (fun hHeld => ?_)
            · trivial
            clear hK K
            try simp only [Act.put, List.setIfInBounds_toArray, List.set_cons_zero, List.set_cons_succ]
            refine wpAnyH_done (by kernel_rfl) ?_ _
            refine NoPanic.normal ?_
            have hO7 := HOb.out.set1 hPn.out hOn.out
            have hS7 : Since W2 (wn.setCell ⟨N, 0, none⟩ (.slice ak lk ck)) := since_put HSZ.out (Since.step HS6.out HSb.out) hBn.out _ _
            generalize wn.setCell ⟨N, 0, none⟩ (.slice ak lk ck) = W7 at *
            clear y0 y1 y2 g0 g1 g2 x0 x1 x2
            obtain ⟨z0, z1, z2, zf0, zf1, zf2, -⟩ := (HR.out.keep hS7).open3
            have hP := spoil_P (mem_app HW1.out (mem_one (P := I64) HVZ.out)) HW2.out HW3.out (by simp only [List.length_append, List.length_singleton]; have := HW.out; omega) hwt
            obtain ⟨x0, x1, x2, f0, f1, f2, -⟩ := hO7.box.open3
            have hfin := HFN.out _ (fun u => u.wf ∧ u.wt ≤ 2 * tw + 400) _ _ _ _ _ _ _ _ _ _ _ _ _ hO7 hS7 (hP)
            unfold put3 at hfin
            have HFI := Lib.hid hfin
            clear hfin
            go_wp2
            exact bodyPost_ret (v := .agg #[.slice ak lk ck, .slice an2 ln2 cn2, .slice an3 ln3 cn3]) (by simp [results, Tryz.results17, go_sem, z0, z1, z2]) rfl HFI.out
          · go_simp
            try go_wp2_with fail
            refine hK.out _ _ ?_ (fun hHeld => ?_)
            · trivial
            clear hK K
            try simp only [Act.put, List.setIfInBounds_toArray, List.set_cons_zero, List.set_cons_succ]
            refine wpAnyH_ready (rs := [1, 8]) (by kernel_rfl) (by simp) ?_
            refine AllReadyH.cons (o := ⟨some 81, Op.load 22 (Operand.tmp 80), 22, _, _, none⟩) rfl (fun K hK => ?_) (AllReadyH.cons (o := ⟨some 88, Op.buildSlice 22 1 #[(0, Operand.tmp 87)], 22, _, _, none⟩) rfl (fun K hK => ?_) AllReadyH.nil)
            · go_simp
              try go_wp2_with fail
              refine hK.out _ _ ?_ (fun hHeld => ?_)
              · trivial
              clear hK K
              try simp only [Act.put, List.setIfInBounds_toArray, List.set_cons_zero, List.set_cons_succ]
              refine wpAnyH_ready (rs := [8]) (by kernel_rfl) (by simp) ?_
              refine AllReadyH.cons (o := ⟨some 88, Op.buildSlice 22 1 #[(0, Operand.tmp 87)], 22, _, _, none⟩) rfl (fun K hK => ?_) AllReadyH.nil
              go_simp
              try go_wp2_with fail
              refine hK.out _ _ ?_ (fun hHeld => ?_)
              · trivial
              clear hK K
              try simp only [Act.put, List.setIfInBounds_toArray, List.set_cons_zero, List.set_cons_succ]
              refine wpAnyH_ready (rs := [9]) (by kernel_rfl) (by simp) ?_
              refine AllReadyH.cons (o := ⟨some 89, Op.call { callee := Callee.builtin Builtin.append, args := #[Operand.tmp 81, Operand.tmp 88], argTypes := #[22, 22] }, 22, _, _, none⟩) rfl (fun K hK => ?_) AllReadyH.nil
              refine wp_row1_f (.tmp 81) (.tmp 88) 22 rfl RIn 3 8 _ Tryz.underlying22 Tryz.infoI64 rfl (by decide) N (.slice an ln cn) cs [vz] (W6.heap.size + 1) 1 1 rfl rfl rfl HCL.out HOb.out.oa hzb hln ?_
              intro ak lk ck wn hnn hOn hBn hPn
              obtain ⟨y0, y1, y2, g0, g1, g2, -⟩ := (HOb.out.there1 hPn.out).open3
              refine hK.out _ _ ?_ (fun hHeld => ?_)
              · trivial
              clear hK K
              try simp only [Act.put, List.setIfInBounds_toArray, List.set_cons_zero, List.set_cons_succ]
              refine wpAnyH_take (i := 10) (oi := ⟨some 90, Op.fieldAddr 27 (Operand.tmp 9) 0, 0, _, _, none⟩) (v := ?_) rfl (by kernel_rfl) (by kernel_rfl) (by kernel_rfl) (fun _ _ _ h => h) (Or.inl ⟨by rfl, ?_⟩) (by assumption) ?_
              rotate_left 1
              · (intro w hSw; (try dsimp only at hSw); go_simp; first | done | with_reducible rfl)
              try simp only [Act.put, List.setIfInBounds_toArray, List.set_cons_zero, List.set_cons_succ]
              refine wpAnyH_ready (rs := [11]) (by kernel_rfl) (by simp) ?_
              refine AllReadyH.cons (o := ⟨none, Op.store 22 (Operand.tmp 90) (Operand.tmp 89), 0, _, _, none⟩) rfl (fun K hK => ?_) AllReadyH.nil
              go_simp
              go_wp2_with fail
              refine hK.out _ _ ?_ (fun hHeld => ?_)
              · trivial
              clear hK K
              try simp only [Act.put, List.setIfInBounds_toArray, List.set_cons_zero, List.set_cons_succ]
              refine wpAnyH_done (by kernel_rfl) ?_ _
              refine NoPanic.normal ?_
              have hO7 := HOb.out.set1 hPn.out hOn.out
              have hS7 : Since W2 (wn.setCell ⟨N, 0, none⟩ (.slice ak lk ck)) := since_put HSZ.out (Since.step HS6.out HSb.out) hBn.out _ _
              generalize wn.setCell ⟨N, 0, none⟩ (.slice ak lk ck) = W7 at *
              clear y0 y1 y2 g0 g1 g2 x0 x1 x2
              obtain ⟨z0, z1, z2, zf0, zf1, zf2, -⟩ := (HR.out.keep hS7).open3
              have hP := spoil_P (mem_app HW1.out (mem_one (P := I64) HVZ.out)) HW2.out HW3.out (by simp only [List.length_append, List.length_singleton]; have := HW.out; omega) hwt
              obtain ⟨x0, x1, x2, f0, f1, f2, -⟩ := hO7.box.open3
              have hfin := HFN.out _ (fun u => u.wf ∧ u.wt ≤ 2 * tw + 400) _ _ _ _ _ _ _ _ _ _ _ _ _ hO7 hS7 (hP)
              unfold put3 at hfin
              have HFI := Lib.hid hfin
              clear hfin
              go_wp2
              exact bodyPost_ret (v := .agg #[.slice ak lk ck, .slice an2 ln2 cn2, .slice an3 ln3 cn3]) (by simp [results, Tryz.results17, go_sem, z0, z1, z2]) rfl HFI.out
            · go_simp
              try go_wp2_with fail
              refine hK.out _ _ ?_ (fun hHeld => ?_)
              · trivial
              clear hK K
              try simp only [Act.put, List.setIfInBounds_toArray, List.set_cons_zero, List.set_cons_succ]
              refine wpAnyH_ready (rs := [1]) (by kernel_rfl) (by simp) ?_
              refine AllReadyH.cons (o := ⟨some 81, Op.load 22 (Operand.tmp 80), 22, _, _, none⟩) rfl (fun K hK => ?_) AllReadyH.nil
              go_simp
              try go_wp2_with fail
              refine hK.out _ _ ?_ (fun hHeld => ?_)
              · trivial
              clear hK K
              try simp only [Act.put, List.setIfInBounds_toArray, List.set_cons_zero, List.set_cons_succ]
              refine wpAnyH_ready (rs := [9]) (by kernel_rfl) (by simp) ?_
              refine AllReadyH.cons (o := ⟨some 89, Op.call { callee := Callee.builtin Builtin.append, args := #[Operand.tmp 81, Operand.tmp 88], argTypes := #[22, 22] }, 22, _, _, none⟩) rfl (fun K hK => ?_) AllReadyH.nil
              refine wp_row1_f (.tmp 81) (.tmp 88) 22 rfl RIn 3 8 _ Tryz.underlying22 Tryz.infoI64 rfl (by decide) N (.slice an ln cn) cs [vz] (W6.heap.size + 1) 1 1 rfl rfl rfl HCL.out HOb.out.oa hzb hln ?_
              intro ak lk ck wn hnn hOn hBn hPn
              obtain ⟨y0, y1, y2, g0, g1, g2, -⟩ := (HOb.out.there1 hPn.out).open3
              refine hK.out _ _ ?_ (fun hHeld => ?_)
              · trivial
              clear hK K
              try simp only [Act.put, List.setIfInBounds_toArray, List.set_cons_zero, List.set_cons_succ]
              refine wpAnyH_take (i := 10) (oi := ⟨some 90, Op.fieldAddr 27 (Operand.tmp 9) 0, 0, _, _, none⟩) (v := ?_) rfl (by kernel_rfl) (by kernel_rfl) (by kernel_rfl) (fun _ _ _ h => h) (Or.inl ⟨by rfl, ?_⟩) (by assumption) ?_
              rotate_left 1
              · (intro w hSw; (try dsimp only at hSw); go_simp; first | done | with_reducible rfl)
              try simp only [Act.put, List.setIfInBounds_toArray, List.set_cons_zero, List.set_cons_succ]
              refine wpAnyH_ready (rs := [11]) (by kernel_rfl) (by simp) ?_
              refine AllReadyH.cons (o := ⟨none, Op.store 22 (Operand.tmp 90) (Operand.tmp 89), 0, _, _, none⟩) rfl (fun K hK => ?_) AllReadyH.nil
              go_simp
              go_wp2_with fail
              refine hK.out _ _ ?_ (fun hHeld => ?_)
              · trivial
              clear hK K
              try simp only [Act.put, List.setIfInBounds_toArray, List.set_cons_zero, List.set_cons_succ]
              refine wpAnyH_done (by kernel_rfl) ?_ _
              refine NoPanic.normal ?_
              have hO7 := HOb.out.set1 hPn.out hOn.out
              have hS7 : Since W2 (wn.setCell ⟨N, 0, none⟩ (.slice ak lk ck)) := since_put HSZ.out (Since.step HS6.out HSb.out) hBn.out _ _
              generalize wn.setCell ⟨N, 0, none⟩ (.slice ak lk ck) = W7 at *
              clear y0 y1 y2 g0 g1 g2 x0 x1 x2
              obtain ⟨z0, z1, z2, zf0, zf1, zf2, -⟩ := (HR.out.keep hS7).open3
              have hP := spoil_P (mem_app HW1.out (mem_one (P := I64) HVZ.out)) HW2.out HW3.out (by simp only [List.length_append, List.length_singleton]; have := HW.out; omega) hwt
              obtain ⟨x0, x1, x2, f0, f1, f2, -⟩ := hO7.box.open3
              have hfin := HFN.out _ (fun u => u.wf ∧ u.wt ≤ 2 * tw + 400) _ _ _ _ _ _ _ _ _ _ _ _ _ hO7 hS7 (hP)
              unfold put3 at hfin
              have HFI := Lib.hid hfin
              clear hfin
              go_wp2
              exact bodyPost_ret (v := .agg #[.slice ak lk ck, .slice an2 ln2 cn2, .slice an3 ln3 cn3]) (by simp [results, Tryz.results17, go_sem, z0, z1, z2]) rfl HFI.out
    · -- case 1
      obtain ⟨r5, hr5, hr59⟩ := around_nat z 5 (by decide)
      have hr5' : aroundI z 5 = (r5 : Int) := hr5
      have kb := fun W' => KA.out z 5 W' ⟨hz1, hz2⟩ (by decide) (by decide)
      rw [hr5'] at kb
      clear hr5 hr5' KA3
      have KB := Lib.hid kb
      clear kb
      have h51 : (r5 : Int) < 5 := by omega
      have h52 : (0 : Int) ≤ (r5 : Int) := by omega
      have h53 : ((r5 : Int)).toNat = r5 := by omega
      obtain ⟨vz, hvz, htb⟩ := tab5 (r := r5) hr59 (a := z) (b := (-1)) (c := 0) (d := 31) (e := 32) ⟨hz1, hz2⟩ ⟨by decide, by decide⟩ ⟨by decide, by decide⟩ ⟨by decide, by decide⟩ ⟨by decide, by decide⟩
      have HVZ := Lib.hid hvz
      have hxd : W6.drew.cell? ⟨N, 1, none⟩ = some (.slice an2 ln2 cn2) := Since.cell (Below.drew (Below.refl _ _)) x1
      have hxa : (W6.drew.alloc (.cells #[.int .i64 z, .int .i64 (-1), .int .i64 0, .int .i64 31, .int .i64 32] 3)).cell? ⟨N, 1, none⟩ = some (.slice an2 ln2 cn2) := Since.cell (Since.adrew2 W6 _) x1
      have hxa2 : ((W6.alloc (.cells #[.int .i64 z, .int .i64 (-1), .int .i64 0, .int .i64 31, .int .i64 32] 3)).drew).cell? ⟨N, 1, none⟩ = some (.slice an2 ln2 cn2) := Since.cell (Since.adrew W6 _) x1
      have hxb2 : (((W6.alloc (.cells #[.int .i64 z, .int .i64 (-1), .int .i64 0, .int .i64 31, .int .i64 32] 3)).drew).alloc (.cells #[.int .i64 vz, .int .i64 1, .int .i64 1] 46)).cell? ⟨N, 1, none⟩ = some (.slice an2 ln2 cn2) := Since.cell (Since.alloc (Since.adrew W6 _) _) x1
      have hxb3 : (((W6.alloc (.cells #[.int .i64 z, .int .i64 (-1), .int .i64 0, .int .i64 31, .int .i64 32] 3)).alloc (.cells #[.int .i64 vz, .int .i64 1, .int .i64 1] 46)).drew).cell? ⟨N, 1, none⟩ = some (.slice an2 ln2 cn2) := Since.cell (Below.drew (Since.alloc (Since.alloc (Below.refl _ _) _) _)) x1
      have hl72 : ((W6.alloc (.cells #[.int .i64 z, .int .i64 (-1), .int .i64 0, .int .i64 31, .int .i64 32] 3)).drew).cell? ⟨W6.heap.size, r5, none⟩ = some (.int .i64 vz) := ((BoxL.made W6 _ _).2 r5 _ htb).1
      have hl7 : (W6.drew.alloc (.cells #[.int .i64 z, .int .i64 (-1), .int .i64 0, .int .i64 31, .int .i64 32] 3)).cell? ⟨W6.heap.size, r5, none⟩ = some (.int .i64 vz) := ((BoxL.made W6.drew _ _).2 r5 _ htb).1
      have hSb : Since W6 ((W6.drew.alloc (.cells #[.int .i64 z, .int .i64 (-1), .int .i64 0, .int .i64 31, .int .i64 32] 3)).alloc (.cells #[.int .i64 vz, .int .i64 1, .int .i64 1] 46)) := Since.alloc (Since.adrew2 W6 _) _
      have hxb := Since.cell hSb x1
      have hOb := HO6.out.frame hSb
      have hzb : N ≤ ((W6.drew.alloc (.cells #[.int .i64 z, .int .i64 (-1), .int .i64 0, .int .i64 31, .int .i64 32] 3)).alloc (.cells #[.int .i64 vz, .int .i64 1, .int .i64 1] 46)).heap.size := Nat.le_trans hzB (Below.size hSb)
      have hln : vs.length + 1 ≤ 1000000000 := by have := HW.out; omega
      have hcl : ∀ j u, ([⟨vz, 1, 1⟩].flatMap RVa.cells)[j]? = some u → ((W6.drew.alloc (.cells #[.int .i64 z, .int .i64 (-1), .int .i64 0, .int .i64 31, .int .i64 32] 3)).alloc (.cells #[.int .i64 vz, .int .i64 1, .int .i64 1] 46)).cell? ⟨W6.heap.size + 1, j, none⟩ = some u := fun j u hu => by
        have hM := ((BoxL.made (W6.drew.alloc (.cells #[.int .i64 z, .int .i64 (-1), .int .i64 0, .int .i64 31, .int .i64 32] 3)) #[.int .i64 vz, .int .i64 1, .int .i64 1] 46).2 j u (by simpa [RVa] using hu)).1
        rw [World.size_alloc] at hM
        exact hM
      have HOb := Lib.hid hOb
      have HSb := Lib.hid hSb
      have HCL := Lib.hid hcl
      clear hOb hSb hcl htb hvz z0 z1 z2 zf0 zf1 zf2 f0 f1 f2
      go_upto_region 15 with (fail)
      refine wp_region_noPanic ?_
      refine wp_region_held_drew (S := fun _ => True) (by kernel_rfl) trivial (fun hHeld => ?_)
      refine wpAnyH_take (i := 0) (oi := ⟨some 93, Op.fieldAddr 27 (Operand.tmp 9) 1, 0, _, _, none⟩) (v := ?_) rfl (by kernel_rfl) (by kernel_rfl) (by kernel_rfl) (fun _ _ _ h => h) (Or.inl ⟨by rfl, ?_⟩) (by assumption) ?_
      rotate_left 1
      · (intro w hSw; (try dsimp only at hSw); go_simp; first | done | with_reducible rfl)
      try simp only [Act.put, List.setIfInBounds_toArray, List.set_cons_zero, List.set_cons_succ]
      refine wpAnyH_take (i := 2) (oi := ⟨some 95, Op.move (Operand.tmp 3), 3, _, _, none⟩) (v := ?_) rfl (by kernel_rfl) (by kernel_rfl) (by kernel_rfl) (fun _ _ _ h => h) (Or.inl ⟨by rfl, ?_⟩) (by assumption) ?_
      rotate_left 1
      · (intro w hSw; (try dsimp only at hSw); go_simp; first | done | with_reducible rfl)
      try simp only [Act.put, List.setIfInBounds_toArray, List.set_cons_zero, List.set_cons_succ]
      refine wpAnyH_take (i := 4) (oi := ⟨some 97, Op.move (Operand.tmp 3), 3, _, _, none⟩) (v := ?_) rfl (by kernel_rfl) (by kernel_rfl) (by kernel_rfl) (fun _ _ _ h => h) (Or.inl ⟨by rfl, ?_⟩) (by assumption) ?_
      rotate_left 1
      · (intro w hSw; (try dsimp only at hSw); go_simp; first | done | with_reducible rfl)
      try simp only [Act.put, List.setIfInBounds_toArray, List.set_cons_zero, List.set_cons_succ]
      refine wpAnyH_take (i := 8) (oi := ⟨some 101, Op.build 44 #[(0, Operand.const (Value.int IntKind.i64 1)), (1, Operand.const (Value.int IntKind.i64 1))], 44, _, _, none⟩) (v := ?_) rfl (by kernel_rfl) (by kernel_rfl) (by kernel_rfl) (fun _ _ _ h => h) (Or.inl ⟨by rfl, ?_⟩) (by assumption) ?_
      rotate_left 1
      · (intro w hSw; (try dsimp only at hSw); go_simp; first | done | with_reducible rfl)
      try simp only [Act.put, List.setIfInBounds_toArray, List.set_cons_zero, List.set_cons_succ]
      refine wpAnyH_ready (rs := [1, 3, 5]) (by kernel_rfl) (by simp) ?_
      refine AllReadyH.cons (o := ⟨some 94, Op.load 25 (Operand.tmp 93), 25, _, _, none⟩) rfl (fun K hK => ?_) (AllReadyH.cons (o := ⟨some 96, Op.buildSlice 22 5 #[(0, Operand.tmp 95), (1, Operand.const (Value.int IntKind.i64 (-1))), (2, Operand.const (Value.int IntKind.i64 0)), (3, Operand.const (Value.int IntKind.i64 31)), (4, Operand.const (Value.int IntKind.i64 32))], 22, _, _, none⟩) rfl (fun K hK => ?_) (AllReadyH.cons (o := ⟨some 98, Op.call { callee := Callee.value (Operand.func 18), args := #[Operand.tmp 97, Operand.const (Value.int IntKind.i64 5)], argTypes := #[3, 3] }, 3, _, _, none⟩) rfl (fun K hK => ?_) AllReadyH.nil))
      · go_simp
        try go_wp2_with fail
        refine hK.out _ _ ?_ (fun hHeld => ?_)
        · trivial
        clear hK K
        try simp only [Act.put, List.setIfInBounds_toArray, List.set_cons_zero, List.set_cons_succ]
        refine wpAnyH_ready (rs := [3, 5]) (by kernel_rfl) (by simp) ?_
        refine AllReadyH.cons (o := ⟨some 96, Op.buildSlice 22 5 #[(0, Operand.tmp 95), (1, Operand.const (Value.int IntKind.i64 (-1))), (2, Operand.const (Value.int IntKind.i64 0)), (3, Operand.const (Value.int IntKind.i64 31)), (4, Operand.const (Value.int IntKind.i64 32))], 22, _, _, none⟩) rfl (fun K hK => ?_) (AllReadyH.cons (o := ⟨some 98, Op.call { callee := Callee.value (Operand.func 18), args := #[Operand.tmp 97, Operand.const (Value.int IntKind.i64 5)], argTypes := #[3, 3] }, 3, _, _, none⟩) rfl (fun K hK => ?_) AllReadyH.nil)
        · go_simp
          try go_wp2_with fail
          refine hK.out _ _ ?_ (fun hHeld => ?_)
          · trivial
          clear hK K
          try simp only [Act.put, List.setIfInBounds_toArray, List.set_cons_zero, List.set_cons_succ]
          refine wpAnyH_ready (rs := [5]) (by kernel_rfl) (by simp) ?_
          refine AllReadyH.cons (o := ⟨some 98, Op.call { callee := Callee.value (Operand.func 18), args := #[Operand.tmp 97, Operand.const (Value.int IntKind.i64 5)], argTypes := #[3, 3] }, 3, _, _, none⟩) rfl (fun K hK => ?_) AllReadyH.nil
          go_simp
          go_at_call 18
          refine (KB.out _).mono ?_
          rintro e _ ⟨rfl, rfl⟩
          try go_wp2_with fail
          refine hK.out _ _ ?_ (fun hHeld => ?_)
          · trivial
          clear hK K
          try simp only [Act.put, List.setIfInBounds_toArray, List.set_cons_zero, List.set_cons_succ]
          refine wpAnyH_take (i := 6) (oi := ⟨some 99, Op.indexAddr 22 (Operand.tmp 96) (Operand.tmp 98), 0, _, _, none⟩) (v := ?_) rfl (by kernel_rfl) (by kernel_rfl) (by kernel_rfl) (fun _ _ _ h => h) (Or.inl ⟨by rfl, ?_⟩) (by assumption) ?_
          rotate_left 1
          · (intro w hSw; (try dsimp only at hSw); go_simp; first | done | with_reducible rfl)
          try simp only [Act.put, List.setIfInBounds_toArray, List.set_cons_zero, List.set_cons_succ]
          refine wpAnyH_ready (rs := [7]) (by kernel_rfl) (by simp) ?_
          refine AllReadyH.cons (o := ⟨some 100, Op.load 3 (Operand.tmp 99), 3, _, _, none⟩) rfl (fun K hK => ?_) AllReadyH.nil
          go_simp
          try go_wp2_with fail
          refine hK.out _ _ ?_ (fun hHeld => ?_)
          · trivial
          clear hK K
          try simp only [Act.put, List.setIfInBounds_toArray, List.set_cons_zero, List.set_cons_succ]
          refine wpAnyH_take (i := 9) (oi := ⟨some 102, Op.build 46 #[(0, Operand.tmp 100), (1, Operand.tmp 101)], 46, _, _, none⟩) (v := ?_) rfl (by kernel_rfl) (by kernel_rfl) (by kernel_rfl) (fun _ _ _ h => h) (Or.inl ⟨by rfl, ?_⟩) (by assumption) ?_
          rotate_left 1
          · (intro w hSw; (try dsimp only at hSw); go_simp; first | done | with_reducible rfl)
          try simp only [Act.put, List.setIfInBounds_toArray, List.set_cons_zero, List.set_cons_succ]
          refine wpAnyH_ready (rs := [10]) (by kernel_rfl) (by simp) ?_
          refine AllReadyH.cons (o := ⟨some 103, Op.buildSlice 25 1 #[(0, Operand.tmp 102)], 25, _, _, none⟩) rfl (fun K hK => ?_) AllReadyH.nil
          go_simp
          try go_wp2_with fail
          refine hK.out _ _ ?_ (fun hHeld => ?_)
          · trivial
          clear hK K
          try simp only [Act.put, List.setIfInBounds_toArray, List.set_cons_zero, List.set_cons_succ]
          refine wpAnyH_ready (rs := [11]) (by kernel_rfl) (by simp) ?_
          refine AllReadyH.cons (o := ⟨some 104, Op.call { callee := Callee.builtin Builtin.append, args := #[Operand.tmp 94, Operand.tmp 103], argTypes := #[25, 25] }, 25, _, _, none⟩) rfl (fun K hK => ?_) AllReadyH.nil
          refine wp_row1_f (.tmp 94) (.tmp 103) 25 rfl RVa 46 24 _ Tryz.underlying25 Tryz.infoVal rfl (by decide) N (.slice an2 ln2 cn2) vs [⟨vz, 1, 1⟩] (W6.heap.size + 1) 1 1 rfl rfl rfl HCL.out HOb.out.ob hzb hln ?_
          intro ak lk ck wn hnn hOn hBn hPn
          obtain ⟨y0, y1, y2, g0, g1, g2, -⟩ := (HOb.out.there2 hPn.out).open3
          refine hK.out _ _ ?_ (fun hHeld => ?_)
          · trivial
          clear hK K
          try simp only [Act.put, List.setIfInBounds_toArray, List.set_cons_zero, List.set_cons_succ]
          refine wpAnyH_take (i := 12) (oi := ⟨some 105, Op.fieldAddr 27 (Operand.tmp 9) 1, 0, _, _, none⟩) (v := ?_) rfl (by kernel_rfl) (by kernel_rfl) (by kernel_rfl) (fun _ _ _ h => h) (Or.inl ⟨by rfl, ?_⟩) (by assumption) ?_
          rotate_left 1
          · (intro w hSw; (try dsimp only at hSw); go_simp; first | done | with_reducible rfl)
          try simp only [Act.put, List.setIfInBounds_toArray, List.set_cons_zero, List.set_cons_succ]
          refine wpAnyH_ready (rs := [13]) (by kernel_rfl) (by simp) ?_
          refine AllReadyH.cons (o := ⟨none, Op.store 25 (Operand.tmp 105) (Operand.tmp 104), 0, _, _, none⟩) rfl (fun K hK => ?_) AllReadyH.nil
          go_simp
          go_wp2_with fail
          refine hK.out _ _ ?_ (fun hHeld => ?_)
          · trivial
          clear hK K
          try simp only [Act.put, List.setIfInBounds_toArray, List.set_cons_zero, List.set_cons_succ]
          refine wpAnyH_done (by kernel_rfl) ?_ _
          refine NoPanic.normal ?_
          have hO7 := HOb.out.set2 hPn.out hOn.out
          have hS7 : Since W2 (wn.setCell ⟨N, 1, none⟩ (.slice ak lk ck)) := since_put HSZ.out (Since.step HS6.out HSb.out) hBn.out _ _
          generalize wn.setCell ⟨N, 1, none⟩ (.slice ak lk ck) = W7 at *
          clear y0 y1 y2 g0 g1 g2 x0 x1 x2
          obtain ⟨z0, z1, z2, zf0, zf1, zf2, -⟩ := (HR.out.keep hS7).open3
          have hP := spoil_P HW1.out (mem_app HW2.out (mem_one (P := Va.wf) (x := ⟨vz, 1, 1⟩) ⟨HVZ.out, i64_1, i64_1⟩)) HW3.out (by simp only [List.length_append, List.length_singleton]; have := HW.out; omega) hwt
          obtain ⟨x0, x1, x2, f0, f1, f2, -⟩ := hO7.box.open3
          have hfin := HFN.out _ (fun u => u.wf ∧ u.wt ≤ 2 * tw + 400) _ _ _ _ _ _ _ _ _ _ _ _ _ hO7 hS7 (hP)
          unfold put3 at hfin
          have HFI := Lib.hid hfin
          clear hfin
          go_wp2
          exact bodyPost_ret (v := .agg #[.slice an ln cn, .slice ak lk ck, .slice an3 ln3 cn3]) (by simp [results, Tryz.results17, go_sem, z0, z1, z2]) rfl HFI.out
        · go_simp
          go_at_call 18
          refine (KB.out _).mono ?_
          rintro e _ ⟨rfl, rfl⟩
          try go_wp2_with fail
          refine hK.out _ _ ?_ (fun hHeld => ?_)
          · trivial
          clear hK K
          try simp only [Act.put, List.setIfInBounds_toArray, List.set_cons_zero, List.set_cons_succ]
          refine wpAnyH_ready (rs := [3]) (by kernel_rfl) (by simp) ?_
          refine AllReadyH.cons (o := ⟨some 96, Op.buildSlice 22 5 #[(0, Operand.tmp 95), (1, Operand.const (Value.int IntKind.i64 (-1))), (2, Operand.const (Value.int IntKind.i64 0)), (3, Operand.const (Value.int IntKind.i64 31)), (4, Operand.const (Value.int IntKind.i64 32))], 22, _, _, none⟩) rfl (fun K hK => ?_) AllReadyH.nil
          go_simp
          try go_wp2_with fail
          refine hK.out _ _ ?_ (fun hHeld => ?_)
          · trivial
          clear hK K
          try simp only [Act.put, List.setIfInBounds_toArray, List.set_cons_zero, List.set_cons_succ]
          refine wpAnyH_take (i := 6) (oi := ⟨some 99, Op.indexAddr 22 (Operand.tmp 96) (Operand.tmp 98), 0, _, _, none⟩) (v := ?_) rfl (by kernel_rfl) (by kernel_rfl) (by kernel_rfl) (fun _ _ _ h => h) (Or.inl ⟨by rfl, ?_⟩) (by assumption) ?_
          rotate_left 1
          · (intro w hSw; (try dsimp only at hSw); go_simp; first | done | with_reducible rfl)
          try simp only [Act.put, List.setIfInBounds_toArray, List.set_cons_zero, List.set_cons_succ]
          refine wpAnyH_ready (rs := [7]) (by kernel_rfl) (by simp) ?_
          refine AllReadyH.cons (o := ⟨some 100, Op.load 3 (Operand.tmp 99), 3, _, _, none⟩) rfl (fun K hK => ?_) AllReadyH.nil
          go_simp
          try go_wp2_with fail
          refine hK.out _ _ ?_ (fun hHeld => ?_)
          · trivial
          clear hK K
          try simp only [Act.put, List.setIfInBounds_toArray, List.set_cons_zero, List.set_cons_succ]
          refine wpAnyH_take (i := 9) (oi := ⟨some 102, Op.build 46 #[(0, Operand.tmp 100), (1, Operand.tmp 101)], 46, _, _, none⟩) (v := ?_) rfl (by kernel_rfl) (by kernel_rfl) (by kernel_rfl) (fun _ _ _ h => h) (Or.inl ⟨by rfl, ?_⟩) (by assumption) ?_
          rotate_left 1
          · (intro w hSw; (try dsimp only at hSw); go_simp; first | done | with_reducible rfl)
          try simp only [Act.put, List.setIfInBounds_toArray, List.set_cons_zero, List.set_cons_succ]
          refine wpAnyH_ready (rs := [10]) (by kernel_rfl) (by simp) ?_
          refine AllReadyH.cons (o := ⟨some 103, Op.buildSlice 25 1 #[(0, Operand.tmp 102)], 25, _, _, none⟩) rfl (fun K hK => ?_) AllReadyH.nil
          go_simp
          try go_wp2_with fail
          refine hK.out _ _ ?_ (fun hHeld => ?_)
          · trivial
          clear hK K
          try simp only [Act.put, List.setIfInBounds_toArray, List.set_cons_zero, List.set_cons_succ]
          refine wpAnyH_ready (rs := [11]) (by kernel_rfl) (by simp) ?_
          refine AllReadyH.cons (o := ⟨some 104, Op.call { callee := Callee.builtin Builtin.append, args := #[Operand.tmp 94, Operand.tmp 103], argTypes := #[25, 25] }, 25, _, _, none⟩) rfl (fun K hK => ?_) AllReadyH.nil
          refine wp_row1_f (.tmp 94) (.tmp 103) 25 rfl RVa 46 24 _ Tryz.underlying25 Tryz.infoVal rfl (by decide) N (.slice an2 ln2 cn2) vs [⟨vz, 1, 1⟩] (W6.heap.size + 1) 1 1 rfl rfl rfl HCL.out HOb.out.ob hzb hln ?_
          intro ak lk ck wn hnn hOn hBn hPn
          obtain ⟨y0, y1, y2, g0, g1, g2, -⟩ := (HOb.out.there2 hPn.out).open3
          refine hK.out _ _ ?_ (fun hHeld => ?_)
          · trivial
          clear hK K
          try simp only [Act.put, List.setIfInBounds_toArray, List.set_cons_zero, List.set_cons_succ]
          refine wpAnyH_take (i := 12) (oi := ⟨some 105, Op.fieldAddr 27 (Operand.tmp 9) 1, 0, _, _, none⟩) (v := ?_) rfl (by kernel_rfl) (by kernel_rfl) (by kernel_rfl) (fun _ _ _ h => h) (Or.inl ⟨by rfl, ?_⟩) (by assumption) ?_
          rotate_left 1
          · (intro w hSw; (try dsimp only at hSw); go_simp; first | done | with_reducible rfl)
          try simp only [Act.put, List.setIfInBounds_toArray, List.set_cons_zero, List.set_cons_succ]
          refine wpAnyH_ready (rs := [13]) (by kernel_rfl) (by simp) ?_
          refine AllReadyH.cons (o := ⟨none, Op.store 25 (Operand.tmp 105) (Operand.tmp 104), 0, _, _, none⟩) rfl (fun K hK => ?_) AllReadyH.nil
          go_simp
          go_wp2_with fail
          refine hK.out _ _ ?_ (fun hHeld => ?_)
          · trivial
          clear hK K
          try simp only [Act.put, List.setIfInBounds_toArray, List.set_cons_zero, List.set_cons_succ]
          refine wpAnyH_done (by kernel_rfl) ?_ _
          refine NoPanic.normal ?_
          have hO7 := HOb.out.set2 hPn.out hOn.out
          have hS7 : Since W2 (wn.setCell ⟨N, 1, none⟩ (.slice ak lk ck)) := since_put HSZ.out (Since.step HS6.out HSb.out) hBn.out _ _
          generalize wn.setCell ⟨N, 1, none⟩ (.slice ak lk ck) = W7 at *
          clear y0 y1 y2 g0 g1 g2 x0 x1 x2
          obtain ⟨z0, z1, z2, zf0, zf1, zf2, -⟩ := (HR.out.keep hS7).open3
          have hP := spoil_P HW1.out (mem_app HW2.out (mem_one (P := Va.wf) (x := ⟨vz, 1, 1⟩) ⟨HVZ.out, i64_1, i64_1⟩)) HW3.out (by simp only [List.length_append, List.length_singleton]; have := HW.out; omega) hwt
          obtain ⟨x0, x1, x2, f0, f1, f2, -⟩ := hO7.box.open3
          have hfin := HFN.out _ (fun u => u.wf ∧ u.wt ≤ 2 * tw + 400) _ _ _ _ _ _ _ _ _ _ _ _ _ hO7 hS7 (hP)
          unfold put3 at hfin
          have HFI := Lib.hid hfin
          clear hfin
          go_wp2
          exact bodyPost_ret (v := .agg #[.slice an ln cn, .slice ak lk ck, .slice an3 ln3 cn3]) (by simp [results, Tryz.results17, go_sem, z0, z1, z2]) rfl HFI.out
      · go_simp
        try go_wp2_with fail
        refine hK.out _ _ ?_ (fun hHeld => ?_)
        · trivial
        clear hK K
        try simp only [Act.put, List.setIfInBounds_toArray, List.set_cons_zero, List.set_cons_succ]
        refine wpAnyH_ready (rs := [1, 5]) (by kernel_rfl) (by simp) ?_
        refine AllReadyH.cons (o := ⟨some 94, Op.load 25 (Operand.tmp 93), 25, _, _, none⟩) rfl (fun K hK => ?_) (AllReadyH.cons (o := ⟨some 98, Op.call { callee := Callee.value (Operand.func 18), args := #[Operand.tmp 97, Operand.const (Value.int IntKind.i64 5)], argTypes := #[3, 3] }, 3, _, _, none⟩) rfl (fun K hK => ?_) AllReadyH.nil)
        · go_simp
          try go_wp2_with fail
          refine hK.out _ _ ?_ (fun hHeld => ?_)
          · trivial
          clear hK K
          try simp only [Act.put, List.setIfInBounds_toArray, List.set_cons_zero, List.set_cons_succ]
          refine wpAnyH_ready (rs := [5]) (by kernel_rfl) (by simp) ?_
          refine AllReadyH.cons (o := ⟨some 98, Op.call { callee := Callee.value (Operand.func 18), args := #[Operand.tmp 97, Operand.const (Value.int IntKind.i64 5)], argTypes := #[3, 3] }, 3, _, _, none⟩) rfl (fun K hK => ?_) AllReadyH.nil
          go_simp
          go_at_call 18
          refine (KB.out _).mono ?_
          rintro e _ ⟨rfl, rfl⟩
          try go_wp2_with fail
          refine hK.out _ _ ?_ (fun hHeld => ?_)
          · trivial
          clear hK K
          try simp only [Act.put, List.setIfInBounds_toArray, List.set_cons_zero, List.set_cons_succ]
          refine wpAnyH_take (i := 6) (oi := ⟨some 99, Op.indexAddr 22 (Operand.tmp 96) (Operand.tmp 98), 0, _, _, none⟩) (v := ?_) rfl (by kernel_rfl) (by kernel_rfl) (by kernel_rfl) (fun _ _ _ h => h) (Or.inl ⟨by rfl, ?_⟩) (by assumption) ?_
          rotate_left 1
          · (intro w hSw; (try dsimp only at hSw); go_simp; first | done | with_reducible rfl)
          try simp only [Act.put, List.setIfInBounds_toArray, List.set_cons_zero, List.set_cons_succ]
          refine wpAnyH_ready (rs := [7]) (by kernel_rfl) (by simp) ?_
          refine AllReadyH.cons (o := ⟨some 100, Op.load 3 (Operand.tmp 99), 3, _, _, none⟩) rfl (fun K hK => ?_) AllReadyH.nil
          go_simp
          try go_wp2_with fail
          refine hK.out _ _ ?_ (fun hHeld => ?_)
          · trivial
          clear hK K
          try simp only [Act.put, List.setIfInBounds_toArray, List.set_cons_zero, List.set_cons_succ]
          refine wpAnyH_take (i := 9) (oi := ⟨some 102, Op.build 46 #[(0, Operand.tmp 100), (1, Operand.tmp 101)], 46, _, _, none⟩) (v := ?_) rfl (by kernel_rfl) (by kernel_rfl) (by kernel_rfl) (fun _ _ _ h => h) (Or.inl ⟨by rfl, ?_⟩) (by assumption) ?_
          rotate_left 1
          · (intro w hSw; (try dsimp only at hSw); go_simp; first | done | with_reducible rfl)
          try simp only [Act.put, List.setIfInBounds_toArray, List.set_cons_zero, List.set_cons_succ]
          refine wpAnyH_ready (rs := [10]) (by kernel_rfl) (by simp) ?_
          refine AllReadyH.cons (o := ⟨some 103, Op.buildSlice 25 1 #[(0, Operand.tmp 102)], 25, _, _, none⟩) rfl (fun K hK => ?_) AllReadyH.nil
          go_simp
          try go_wp2_with fail
          refine hK.out _ _ ?_ (fun hHeld => ?_)
          · trivial
          clear hK K
          try simp only [Act.put, List.setIfInBounds_toArray, List.set_cons_zero, List.set_cons_succ]
          refine wpAnyH_ready (rs := [11]) (by kernel_rfl) (by simp) ?_
          refine AllReadyH.cons (o := ⟨some 104, Op.call { callee := Callee.builtin Builtin.append, args := #[Operand.tmp 94, Operand.tmp 103], argTypes := #[25, 25] }, 25, _, _, none⟩) rfl (fun K hK => ?_) AllReadyH.nil
          refine wp_row1_f (.tmp 94) (.tmp 103) 25 rfl RVa 46 24 _ Tryz.underlying25 Tryz.infoVal rfl (by decide) N (.slice an2 ln2 cn2) vs [⟨vz, 1, 1⟩] (W6.heap.size + 1) 1 1 rfl rfl rfl HCL.out HOb.out.ob hzb hln ?_
          intro ak lk ck wn hnn hOn hBn hPn
          obtain ⟨y0, y1, y2, g0, g1, g2, -⟩ := (HOb.out.there2 hPn.out).open3
          refine hK.out _ _ ?_ (fun hHeld => ?_)
          · trivial
          clear hK K
          try simp only [Act.put, List.setIfInBounds_toArray, List.set_cons_zero, List.set_cons_succ]
          refine wpAnyH_take (i := 12) (oi := ⟨some 105, Op.fieldAddr 27 (Operand.tmp 9) 1, 0, _, _, none⟩) (v := ?_) rfl (by kernel_rfl) (by kernel_rfl) (by kernel_rfl) (fun _ _ _ h => h) (Or.inl ⟨by rfl, ?_⟩) (by assumption) ?_
          rotate_left 1
          · (intro w hSw; (try dsimp only at hSw); go_simp; first | done | with_reducible rfl)
          try simp only [Act.put, List.setIfInBounds_toArray, List.set_cons_zero, List.set_cons_succ]
          refine wpAnyH_ready (rs := [13]) (by kernel_rfl) (by simp) ?_
          refine AllReadyH.cons (o := ⟨none, Op.store 25 (Operand.tmp 105) (Operand.tmp 104), 0, _, _, none⟩) rfl (fun K hK => ?_) AllReadyH.nil
          go_simp
          go_wp2_with fail
          refine hK.out _ _ ?_ (fun hHeld => ?_)
          · trivial
          clear hK K
          try simp only [Act.put, List.setIfInBounds_toArray, List.set_cons_zero, List.set_cons_succ]
          refine wpAnyH_done (by kernel_rfl) ?_ _
          refine NoPanic.normal ?_
          have hO7 := HOb.out.set2 hPn.out hOn.out
          have hS7 : Since W2 (wn.setCell ⟨N, 1, none⟩ (.slice ak lk ck)) := since_put HSZ.out (Since.step HS6.out HSb.out) hBn.out _ _
          generalize wn.setCell ⟨N, 1, none⟩ (.slice ak lk ck) = W7 at *
          clear y0 y1 y2 g0 g1 g2 x0 x1 x2
          obtain ⟨z0, z1, z2, zf0, zf1, zf2, -⟩ := (HR.out.keep hS7).open3
          have hP := spoil_P HW1.out (mem_app HW2.out (mem_one (P := Va.wf) (x := ⟨vz, 1, 1⟩) ⟨HVZ.out, i64_1, i64_1⟩)) HW3.out (by simp only [List.length_append, List.length_singleton]; have := HW.out; omega) hwt
          obtain ⟨x0, x1, x2, f0, f1, f2, -⟩ := hO7.box.open3
          have hfin := HFN.out _ (fun u => u.wf ∧ u.wt ≤ 2 * tw + 400) _ _ _ _ _ _ _ _ _ _ _ _ _ hO7 hS7 (hP)
          unfold put3 at hfin
          have HFI := Lib.hid hfin
          clear hfin
          go_wp2
          exact bodyPost_ret (v := .agg #[.slice an ln cn, .slice ak lk ck, .slice an3 ln3 cn3]) (by simp [results, Tryz.results17, go_sem, z0, z1, z2]) rfl HFI.out
        · go_simp
          go_at_call 18
          refine (KB.out _).mono ?_
          rintro e _ ⟨rfl, rfl⟩
          try go_wp2_with fail
          refine hK.out _ _ ?_ (fun hHeld => ?_)
          · trivial
          clear hK K
          try simp only [Act.put, List.setIfInBounds_toArray, List.set_cons_zero, List.set_cons_succ]
          refine wpAnyH_take (i := 6) (oi := ⟨some 99, Op.indexAddr 22 (Operand.tmp 96) (Operand.tmp 98), 0, _, _, none⟩) (v := ?_) rfl (by kernel_rfl) (by kernel_rfl) (by kernel_rfl) (fun _ _ _ h => h) (Or.inl ⟨by rfl, ?_⟩) (by assumption) ?_
          rotate_left 1
          · (intro w hSw; (try dsimp only at hSw); go_simp; first | done | with_reducible rfl)
          try simp only [Act.put, List.setIfInBounds_toArray, List.set_cons_zero, List.set_cons_succ]
          refine wpAnyH_ready (rs := [1, 7]) (by kernel_rfl) (by simp) ?_
          refine AllReadyH.cons (o := ⟨some 94, Op.load 25 (Operand.tmp 93), 25, _, _, none⟩) rfl (fun K hK => ?_) (AllReadyH.cons (o := ⟨some 100, Op.load 3 (Operand.tmp 99), 3, _, _, none⟩) rfl (fun K hK => ?_) AllReadyH.nil)
          · go_simp
            try go_wp2_with fail
            refine hK.out _ _ ?_ (fun hHeld => ?_)
            · trivial
            clear hK K
            try simp only [Act.put, List.setIfInBounds_toArray, List.set_cons_zero, List.set_cons_succ]
            refine wpAnyH_ready (rs := [7]) (by kernel_rfl) (by simp) ?_
            refine AllReadyH.cons (o := ⟨some 100, Op.load 3 (Operand.tmp 99), 3, _, _, none⟩) rfl (fun K hK => ?_) AllReadyH.nil
            go_simp
            try go_wp2_with fail
            refine hK.out _ _ ?_ (fun hHeld => ?_)
            · trivial
            clear hK K
            try simp only [Act.put, List.setIfInBounds_toArray, List.set_cons_zero, List.set_cons_succ]
            refine wpAnyH_take (i := 9) (oi := ⟨some 102, Op.build 46 #[(0, Operand.tmp 100), (1, Operand.tmp 101)], 46, _, _, none⟩) (v := ?_) rfl (by kernel_rfl) (by kernel_rfl) (by kernel_rfl) (fun _ _ _ h => h) (Or.inl ⟨by rfl, ?_⟩) (by assumption) ?_
            rotate_left 1
            · (intro w hSw; (try dsimp only at hSw); go_simp; first | done | with_reducible rfl)
            try simp only [Act.put, List.setIfInBounds_toArray, List.set_cons_zero, List.set_cons_succ]
            refine wpAnyH_ready (rs := [10]) (by kernel_rfl) (by simp) ?_
            refine AllReadyH.cons (o := ⟨some 103, Op.buildSlice 25 1 #[(0, Operand.tmp 102)], 25, _, _, none⟩) rfl (fun K hK => ?_) AllReadyH.nil
            go_simp
            try go_wp2_with fail
            refine hK.out _ _ ?_ (fun hHeld => ?_)
            · trivial
            clear hK K
            try simp only [Act.put, List.setIfInBounds_toArray, List.set_cons_zero, List.set_cons_succ]
            refine wpAnyH_ready (rs := [11]) (by kernel_rfl) (by simp) ?_
            refine AllReadyH.cons (o := ⟨some 104, Op.call { callee := Callee.builtin Builtin.append, args := #[Operand.tmp 94, Operand.tmp 103], argTypes := #[25, 25] }, 25, _, _, none⟩) rfl (fun K hK => ?_) AllReadyH.nil
            refine wp_row1_f (.tmp 94) (.tmp 103) 25 rfl RVa 46 24 _ Tryz.underlying25 Tryz.infoVal rfl (by decide) N (.slice an2 ln2 cn2) vs [⟨vz, 1, 1⟩] (W6.heap.size + 1) 1 1 rfl rfl rfl HCL.out HOb.out.ob hzb hln ?_
            intro ak lk ck wn hnn hOn hBn hPn
            obtain ⟨y0, y1, y2, g0, g1, g2, -⟩ := (HOb.out.there2 hPn.out).open3
            refine hK.out _ _ ?_ (fun hHeld => ?_)
            · trivial
            clear hK K
            try simp only [Act.put, List.setIfInBounds_toArray, List.set_cons_zero, List.set_cons_succ]
            refine wpAnyH_take (i := 12) (oi := ⟨some 105, Op.fieldAddr 27 (Operand.tmp 9) 1, 0, _, _, none⟩) (v := ?_) rfl (by kernel_rfl) (by kernel_rfl) (by kernel_rfl) (fun _ _ _ h => h) (Or.inl ⟨by rfl, ?_⟩) (by assumption) ?_
            rotate_left 1
            · (intro w hSw; (try dsimp only at hSw); go_simp; first | done | with_reducible rfl)
            try simp only [Act.put, List.setIfInBounds_toArray, List.set_cons_zero, List.set_cons_succ]
            refine wpAnyH_ready (rs := [13]) (by kernel_rfl) (by simp) ?_
            refine AllReadyH.cons (o := ⟨none, Op.store 25 (Operand.tmp 105) (Operand.tmp 104), 0, _, _, none⟩) rfl (fun K hK => ?_) AllReadyH.nil
            go_simp
            go_wp2_with fail
            refine hK.out _ _ ?_ (fun hHeld => ?_)
            · trivial
            clear hK K
            try simp only [Act.put, List.setIfInBounds_toArray, List.set_cons_zero, List.set_cons_succ]
            refine wpAnyH_done (by kernel_rfl) ?_ _
            refine NoPanic.normal ?_
            have hO7 := HOb.out.set2 hPn.out hOn.out
            have hS7 : Since W2 (wn.setCell ⟨N, 1, none⟩ (.slice ak lk ck)) := since_put HSZ.out (Since.step HS6.out HSb.out) hBn.out _ _
            generalize wn.setCell ⟨N, 1, none⟩ (.slice ak lk ck) = W7 at *
            clear y0 y1 y2 g0 g1 g2 x0 x1 x2
            obtain ⟨z0, z1, z2, zf0, zf1, zf2, -⟩ := (HR.out.keep hS7).open3
            have hP := spoil_P HW1.out (mem_app HW2.out (mem_one (P := Va.wf) (x := ⟨vz, 1, 1⟩) ⟨HVZ.out, i64_1, i64_1⟩)) HW3.out (by simp only [List.length_append, List.length_singleton]; have := HW.out; omega) hwt
            obtain ⟨x0, x1, x2, f0, f1, f2, -⟩ := hO7.box.open3
            have hfin := HFN.out _ (fun u => u.wf ∧ u.wt ≤ 2 * tw + 400) _ _ _ _ _ _ _ _ _ _ _ _ _ hO7 hS7 (hP)
            unfold put3 at hfin
            have HFI := Lib.hid hfin
            clear hfin
            go_wp2
            exact bodyPost_ret (v := .agg #[.slice an ln cn, .slice ak lk ck, .slice an3 ln3 cn3]) (by simp [results, Tryz.results17, go_sem, z0, z1, z2]) rfl HFI.out
          · go_simp
            try go_wp2_with fail
            refine hK.out _ _ ?_ (fun hHeld => ?_)
            · trivial
            clear hK K
            try simp only [Act.put, List.setIfInBounds_toArray, List.set_cons_zero, List.set_cons_succ]
            refine wpAnyH_take (i := 9) (oi := ⟨some 102, Op.build 46 #[(0, Operand.tmp 100), (1, Operand.tmp 101)], 46, _, _, none⟩) (v := ?_) rfl (by kernel_rfl) (by kernel_rfl) (by kernel_rfl) (fun _ _ _ h => h) (Or.inl ⟨by rfl, ?_⟩) (by assumption) ?_
            rotate_left 1
            · (intro w hSw; (try dsimp only at hSw); go_simp; first | done | with_reducible rfl)
            try simp only [Act.put, List.setIfInBounds_toArray, List.set_cons_zero, List.set_cons_succ]
            refine wpAnyH_ready (rs := [1, 10]) (by kernel_rfl) (by simp) ?_
            refine AllReadyH.cons (o := ⟨some 94, Op.load 25 (Operand.tmp 93), 25, _, _, none⟩) rfl (fun K hK => ?_) (AllReadyH.cons (o := ⟨some 103, Op.buildSlice 25 1 #[(0, Operand.tmp 102)], 25, _, _, none⟩) rfl (fun K hK => ?_) AllReadyH.nil)
            · go_simp
              try go_wp2_with fail
              refine hK.out _ _ ?_ (fun hHeld => ?_)
              · trivial
              clear hK K
              try simp only [Act.put, List.setIfInBounds_toArray, List.set_cons_zero, List.set_cons_succ]
              refine wpAnyH_ready (rs := [10]) (by kernel_rfl) (by simp) ?_
              refine AllReadyH.cons (o := ⟨some 103, Op.buildSlice 25 1 #[(0, Operand.tmp 102)], 25, _, _, none⟩) rfl (fun K hK => ?_) AllReadyH.nil
              go_simp
              try go_wp2_with fail
              refine hK.out _ _ ?_ (fun hHeld => ?_)
              · trivial
              clear hK K
              try simp only [Act.put, List.setIfInBounds_toArray, List.set_cons_zero, List.set_cons_succ]
              refine wpAnyH_ready (rs := [11]) (by kernel_rfl) (by simp) ?_
              refine AllReadyH.cons (o := ⟨some 104, Op.call { callee := Callee.builtin Builtin.append, args := #[Operand.tmp 94, Operand.tmp 103], argTypes := #[25, 25] }, 25, _, _, none⟩) rfl (fun K hK => ?_) AllReadyH.nil
              refine wp_row1_f (.tmp 94) (.tmp 103) 25 rfl RVa 46 24 _ Tryz.underlying25 Tryz.infoVal rfl (by decide) N (.slice an2 ln2 cn2) vs [⟨vz, 1, 1⟩] (W6.heap.size + 1) 1 1 rfl rfl rfl HCL.out HOb.out.ob hzb hln ?_
              intro ak lk ck wn hnn hOn hBn hPn
              obtain ⟨y0, y1, y2, g0, g1, g2, -⟩ := (HOb.out.there2 hPn.out).open3
              refine hK.out _ _ ?_ (fun hHeld => ?_)
              · trivial
              clear hK K
              try simp only [Act.put, List.setIfInBounds_toArray, List.set_cons_zero, List.set_cons_succ]
              refine wpAnyH_take (i := 12) (oi := ⟨some 105, Op.fieldAddr 27 (Operand.tmp 9) 1, 0, _, _, none⟩) (v := ?_) rfl (by kernel_rfl) (by kernel_rfl) (by kernel_rfl) (fun _ _ _ h => h) (Or.inl ⟨by rfl, ?_⟩) (by assumption) ?_
              rotate_left 1
              · (intro w hSw; (try dsimp only at hSw); go_simp; first | done | with_reducible rfl)
              try simp only [Act.put, List.setIfInBounds_toArray, List.set_cons_zero, List.set_cons_succ]
              refine wpAnyH_ready (rs := [13]) (by kernel_rfl) (by simp) ?_
              refine AllReadyH.cons (o := ⟨none, Op.store 25 (Operand.tmp 105) (Operand.tmp 104), 0, _, _, none⟩) rfl (fun K hK => ?_) AllReadyH.nil
              go_simp
              go_wp2_with fail
              refine hK.out _ _ ?_ (fun hHeld => ?_)
              · trivial
              clear hK K
              try simp only [Act.put, List.setIfInBounds_toArray, List.set_cons_zero, List.set_cons_succ]
              refine wpAnyH_done (by kernel_rfl) ?_ _
              refine NoPanic.normal ?_
              have hO7 := HOb.out.set2 hPn.out hOn.out
              have hS7 : Since W2 (wn.setCell ⟨N, 1, none⟩ (.slice ak lk ck)) := since_put HSZ.out (Since.step HS6.out HSb.out) hBn.out _ _
              generalize wn.setCell ⟨N, 1, none⟩ (.slice ak lk ck) = W7 at *
              clear y0 y1 y2 g0 g1 g2 x0 x1 x2
              obtain ⟨z0, z1, z2, zf0, zf1, zf2, -⟩ := (HR.out.keep hS7).open3
              have hP := spoil_P HW1.out (mem_app HW2.out (mem_one (P := Va.wf) (x := ⟨vz, 1, 1⟩) ⟨HVZ.out, i64_1, i64_1⟩)) HW3.out (by simp only [List.length_append, List.length_singleton]; have := HW.out; omega) hwt
              obtain ⟨x0, x1, x2, f0, f1, f2, -⟩ := hO7.box.open3
              have hfin := HFN.out _ (fun u => u.wf ∧ u.wt ≤ 2 * tw + 400) _ _ _ _ _ _ _ _ _ _ _ _ _ hO7 hS7 (hP)
              unfold put3 at hfin
              have HFI := Lib.hid hfin
              clear hfin
              go_wp2
              exact bodyPost_ret (v := .agg #[.slice an ln cn, .slice ak lk ck, .slice an3 ln3 cn3]) (by simp [results, Tryz.results17, go_sem, z0, z1, z2]) rfl HFI.out
            · go_simp
              try go_wp2_with fail
              refine hK.out _ _ ?_ (fun hHeld => ?_)
              · trivial
              clear hK K
              try simp only [Act.put, List.setIfInBounds_toArray, List.set_cons_zero, List.set_cons_succ]
              refine wpAnyH_ready (rs := [1]) (by kernel_rfl) (by simp) ?_
              refine AllReadyH.cons (o := ⟨some 94, Op.load 25 (Operand.tmp 93), 25, _, _, none⟩) rfl (fun K hK => ?_) AllReadyH.nil
              go_simp
              try go_wp2_with fail
              refine hK.out _ _ ?_ (fun hHeld => ?_)
              · trivial
              clear hK K
              try simp only [Act.put, List.setIfInBounds_toArray, List.set_cons_zero, List.set_cons_succ]
              refine wpAnyH_ready (rs := [11]) (by kernel_rfl) (by simp) ?_
              refine AllReadyH.cons (o := ⟨some 104, Op.call { callee := Callee.builtin Builtin.append, args := #[Operand.tmp 94, Operand.tmp 103], argTypes := #[25, 25] }, 25, _, _, none⟩) rfl (fun K hK => ?_) AllReadyH.nil
              refine wp_row1_f (.tmp 94) (.tmp 103) 25 rfl RVa 46 24 _ Tryz.underlying25 Tryz.infoVal rfl (by decide) N (.slice an2 ln2 cn2) vs [⟨vz, 1, 1⟩] (W6.heap.size + 1) 1 1 rfl rfl rfl HCL.out HOb.out.ob hzb hln ?_
              intro ak lk ck wn hnn hOn hBn hPn
              obtain ⟨y0, y1, y2, g0, g1, g2, -⟩ := (HOb.out.there2 hPn.out).open3
              refine hK.out _ _ ?_ (fun hHeld => ?_)
              · trivial
              clear hK K
              try simp only [Act.put, List.setIfInBounds_toArray, List.set_cons_zero, List.set_cons_succ]
              refine wpAnyH_take (i := 12) (oi := ⟨some 105, Op.fieldAddr 27 (Operand.tmp 9) 1, 0, _, _, none⟩) (v := ?_) rfl (by kernel_rfl) (by kernel_rfl) (by kernel_rfl) (fun _ _ _ h => h) (Or.inl ⟨by rfl, ?_⟩) (by assumption) ?_
              rotate_left 1
              · (intro w hSw; (try dsimp only at hSw); go_simp; first | done | with_reducible rfl)
              try simp only [Act.put, List.setIfInBounds_toArray, List.set_cons_zero, List.set_cons_succ]
              refine wpAnyH_ready (rs := [13]) (by kernel_rfl) (by simp) ?_
              refine AllReadyH.cons (o := ⟨none, Op.store 25 (Operand.tmp 105) (Operand.tmp 104), 0, _, _, none⟩) rfl (fun K hK => ?_) AllReadyH.nil
              go_simp
              go_wp2_with fail
              refine hK.out _ _ ?_ (fun hHeld => ?_)
              · trivial
              clear hK K
              try simp only [Act.put, List.setIfInBounds_toArray, List.set_cons_zero, List.set_cons_succ]
              refine wpAnyH_done (by kernel_rfl) ?_ _
              refine NoPanic.normal ?_
              have hO7 := HOb.out.set2 hPn.out hOn.out
              have hS7 : Since W2 (wn.setCell ⟨N, 1, none⟩ (.slice ak lk ck)) := since_put HSZ.out (Since.step HS6.out HSb.out) hBn.out _ _
              generalize wn.setCell ⟨N, 1, none⟩ (.slice ak lk ck) = W7 at *
              clear y0 y1 y2 g0 g1 g2 x0 x1 x2
              obtain ⟨z0, z1, z2, zf0, zf1, zf2, -⟩ := (HR.out.keep hS7).open3
              have hP := spoil_P HW1.out (mem_app HW2.out (mem_one (P := Va.wf) (x := ⟨vz, 1, 1⟩) ⟨HVZ.out, i64_1, i64_1⟩)) HW3.out (by simp only [List.length_append, List.length_singleton]; have := HW.out; omega) hwt
              obtain ⟨x0, x1, x2, f0, f1, f2, -⟩ := hO7.box.open3
              have hfin := HFN.out _ (fun u => u.wf ∧ u.wt ≤ 2 * tw + 400) _ _ _ _ _ _ _ _ _ _ _ _ _ hO7 hS7 (hP)
              unfold put3 at hfin
              have HFI := Lib.hid hfin
              clear hfin
              go_wp2
              exact bodyPost_ret (v := .agg #[.slice an ln cn, .slice ak lk ck, .slice an3 ln3 cn3]) (by simp [results, Tryz.results17, go_sem, z0, z1, z2]) rfl HFI.out
      · go_simp
        go_at_call 18
        refine (KB.out _).mono ?_
        rintro e _ ⟨rfl, rfl⟩
        try go_wp2_with fail
        refine hK.out _ _ ?_ (fun hHeld => ?_)
        · trivial
        clear hK K
        try simp only [Act.put, List.setIfInBounds_toArray, List.set_cons_zero, List.set_cons_succ]
        refine wpAnyH_ready (rs := [1, 3]) (by kernel_rfl) (by simp) ?_
        refine AllReadyH.cons (o := ⟨some 94, Op.load 25 (Operand.tmp 93), 25, _, _, none⟩) rfl (fun K hK => ?_) (AllReadyH.cons (o := ⟨some 96, Op.buildSlice 22 5 #[(0, Operand.tmp 95), (1, Operand.const (Value.int IntKind.i64 (-1))), (2, Operand.const (Value.int IntKind.i64 0)), (3, Operand.const (Value.int IntKind.i64 31)), (4, Operand.const (Value.int IntKind.i64 32))], 22, _, _, none⟩) rfl (fun K hK => ?_) AllReadyH.nil)
        · go_simp
          try go_wp2_with fail
          refine hK.out _ _ ?_ (fun hHeld => ?_)
          · trivial
          clear hK K
          try simp only [Act.put, List.setIfInBounds_toArray, List.set_cons_zero, List.set_cons_succ]
          refine wpAnyH_ready (rs := [3]) (by kernel_rfl) (by simp) ?_
          refine AllReadyH.cons (o := ⟨some 96, Op.buildSlice 22 5 #[(0, Operand.tmp 95), (1, Operand.const (Value.int IntKind.i64 (-1))), (2, Operand.const (Value.int IntKind.i64 0)), (3, Operand.const (Value.int IntKind.i64 31)), (4, Operand.const (Value.int IntKind.i64 32))], 22, _, _, none⟩) rfl (fun K hK => ?_) AllReadyH.nil
          go_simp
          try go_wp2_with fail
          refine hK.out _ _ ?_ (fun hHeld => ?_)
          · trivial
          clear hK K
          try simp only [Act.put, List.setIfInBounds_toArray, List.set_cons_zero, List.set_cons_succ]
          refine wpAnyH_take (i := 6) (oi := ⟨some 99, Op.indexAddr 22 (Operand.tmp 96) (Operand.tmp 98), 0, _, _, none⟩) (v := ?_) rfl (by kernel_rfl) (by kernel_rfl) (by kernel_rfl) (fun _ _ _ h => h) (Or.inl ⟨by rfl, ?_⟩) (by assumption) ?_
          rotate_left 1
          · (intro w hSw; (try dsimp only at hSw); go_simp; first | done | with_reducible rfl)
          try simp only [Act.put, List.setIfInBounds_toArray, List.set_cons_zero, List.set_cons_succ]
          refine wpAnyH_ready (rs := [7]) (by kernel_rfl) (by simp) ?_
          refine AllReadyH.cons (o := ⟨some 100, Op.load 3 (Operand.tmp 99), 3, _, _, none⟩) rfl (fun K hK => ?_) AllReadyH.nil
          go_simp
          try go_wp2_with fail
          refine hK.out _ _ ?_ (fun hHeld => ?_)
          · trivial
          clear hK K
          try simp only [Act.put, List.setIfInBounds_toArray, List.set_cons_zero, List.set_cons_succ]
          refine wpAnyH_take (i := 9) (oi := ⟨some 102, Op.build 46 #[(0, Operand.tmp 100), (1, Operand.tmp 101)], 46, _, _, none⟩) (v := ?_) rfl (by kernel_rfl) (by kernel_rfl) (by kernel_rfl) (fun _ _ _ h => h) (Or.inl ⟨by rfl, ?_⟩) (by assumption) ?_
          rotate_left 1
          · (intro w hSw; (try dsimp only at hSw); go_simp; first | done | with_reducible rfl)
          try simp only [Act.put, List.setIfInBounds_toArray, List.set_cons_zero, List.set_cons_succ]
          refine wpAnyH_ready (rs := [10]) (by kernel_rfl) (by simp) ?_
          refine AllReadyH.cons (o := ⟨some 103, Op.buildSlice 25 1 #[(0, Operand.tmp 102)], 25, _, _, none⟩) rfl (fun K hK => ?_) AllReadyH.nil
          go_simp
          try go_wp2_with fail
          refine hK.out _ _ ?_ (fun hHeld => ?_)
          · trivial
          clear hK K
          try simp only [Act.put, List.setIfInBounds_toArray, List.set_cons_zero, List.set_cons_succ]
          refine wpAnyH_ready (rs := [11]) (by kernel_rfl) (by simp) ?_
          refine AllReadyH.cons (o := ⟨some 104, Op.call { callee := Callee.builtin Builtin.append, args := #[Operand.tmp 94, Operand.tmp 103], argTypes := #[25, 25] }, 25, _, _, none⟩) rfl (fun K hK => ?_) AllReadyH.nil
          refine wp_row1_f (.tmp 94) (.tmp 103) 25 rfl RVa 46 24 _ Tryz.underlying25 Tryz.infoVal rfl (by decide) N (.slice an2 ln2 cn2) vs [⟨vz, 1, 1⟩] (W6.heap.size + 1) 1 1 rfl rfl rfl HCL.out HOb.out.ob hzb hln ?_
          intro ak lk ck wn hnn hOn hBn hPn
          obtain ⟨y0, y1, y2, g0, g1, g2, -⟩ := (HOb.out.there2 hPn.out).open3
          refine hK.out _ _ ?_ (fun hHeld => ?_)
          · trivial
          clear hK K
          try simp only [Act.put, List.setIfInBounds_toArray, List.set_cons_zero, List.set_cons_succ]
          refine wpAnyH_take (i := 12) (oi := ⟨some 105, Op.fieldAddr 27 (Operand.tmp 9) 1, 0, _, _, none⟩) (v := ?_) rfl (by kernel_rfl) (by kernel_rfl) (by kernel_rfl) (fun _ _ _ h => h) (Or.inl ⟨by rfl, ?_⟩) (by assumption) ?_
          rotate_left 1
          · (intro w hSw; (try dsimp only at hSw); go_simp; first | done | with_reducible rfl)
          try simp only [Act.put, List.setIfInBounds_toArray, List.set_cons_zero, List.set_cons_succ]
          refine wpAnyH_ready (rs := [13]) (by kernel_rfl) (by simp) ?_
          refine AllReadyH.cons (o := ⟨none, Op.store 25 (Operand.tmp 105) (Operand.tmp 104), 0, _, _, none⟩) rfl (fun K hK => ?_) AllReadyH.nil
          go_simp
          go_wp2_with fail
          refine hK.out _ _ ?_ (fun hHeld => ?_)
          · trivial
          clear hK K
          try simp only [Act.put, List.setIfInBounds_toArray, List.set_cons_zero, List.set_cons_succ]
          refine wpAnyH_done (by kernel_rfl) ?_ _
          refine NoPanic.normal ?_
          have hO7 := HOb.out.set2 hPn.out hOn.out
          have hS7 : Since W2 (wn.setCell ⟨N, 1, none⟩ (.slice ak lk ck)) := since_put HSZ.out (Since.step HS6.out HSb.out) hBn.out _ _
          generalize wn.setCell ⟨N, 1, none⟩ (.slice ak lk ck) = W7 at *
          clear y0 y1 y2 g0 g1 g2 x0 x1 x2
          obtain ⟨z0, z1, z2, zf0, zf1, zf2, -⟩ := (HR.out.keep hS7).open3
          have hP := spoil_P HW1.out (mem_app HW2.out (mem_one (P := Va.wf) (x := ⟨vz, 1, 1⟩) ⟨HVZ.out, i64_1, i64_1⟩)) HW3.out (by simp only [List.length_append, List.length_singleton]; have := HW.out; omega) hwt
          obtain ⟨x0, x1, x2, f0, f1, f2, -⟩ := hO7.box.open3
          have hfin := HFN.out _ (fun u => u.wf ∧ u.wt ≤ 2 * tw + 400) _ _ _ _ _ _ _ _ _ _ _ _ _ hO7 hS7 (hP)
          unfold put3 at hfin
          have HFI := Lib.hid hfin
          clear hfin
          go_wp2
          exact bodyPost_ret (v := .agg #[.slice an ln cn, .slice ak lk ck, .slice an3 ln3 cn3]) (by simp [results, Tryz.results17, go_sem, z0, z1, z2]) rfl HFI.out
        · go_simp
          try go_wp2_with fail
          refine hK.out _ _ ?_ (fun hHeld => ?_)
          · trivial
          clear hK K
          try simp only [Act.put, List.setIfInBounds_toArray, List.set_cons_zero, List.set_cons_succ]
          refine wpAnyH_take (i := 6) (oi := ⟨some 99, Op.indexAddr 22 (Operand.tmp 96) (Operand.tmp 98), 0, _, _, none⟩) (v := ?_) rfl (by kernel_rfl) (by kernel_rfl) (by kernel_rfl) (fun _ _ _ h => h) (Or.inl ⟨by rfl, ?_⟩) (by assumption) ?_
          rotate_left 1
          · (intro w hSw; (try dsimp only at hSw); go_simp; first | done | with_reducible rfl)
          try simp only [Act.put, List.setIfInBounds_toArray, List.set_cons_zero, List.set_cons_succ]
          refine wpAnyH_ready (rs := [1, 7]) (by kernel_rfl) (by simp) ?_
          refine AllReadyH.cons (o := ⟨some 94, Op.load 25 (Operand.tmp 93), 25, _, _, none⟩) rfl (fun K hK => ?_) (AllReadyH.cons (o := ⟨some 100, Op.load 3 (Operand.tmp 99), 3, _, _, none⟩) rfl (fun K hK => ?_) AllReadyH.nil)
          · go_simp
            try go_wp2_with fail
            refine hK.out _ _ ?_ (fun hHeld => ?_)
            · trivial
            clear hK K
            try simp only [Act.put, List.setIfInBounds_toArray, List.set_cons_zero, List.set_cons_succ]
            refine wpAnyH_ready (rs := [7]) (by kernel_rfl) (by simp) ?_
            refine AllReadyH.cons (o := ⟨some 100, Op.load 3 (Operand.tmp 99), 3, _, _, none⟩) rfl (fun K hK => ?_) AllReadyH.nil
            go_simp
            try go_wp2_with fail
            refine hK.out _ _ ?_ (fun hHeld => ?_)
            · trivial
            clear hK K
            try simp only [Act.put, List.setIfInBounds_toArray, List.set_cons_zero, List.set_cons_succ]
            refine wpAnyH_take (i := 9) (oi := ⟨some 102, Op.build 46 #[(0, Operand.tmp 100), (1, Operand.tmp 101)], 46, _, _, none⟩) (v := ?_) rfl (by kernel_rfl) (by kernel_rfl) (by kernel_rfl) (fun _ _ _ h => h) (Or.inl ⟨by rfl, ?_⟩) (by assumption) ?_
            rotate_left 1
            · (intro w hSw; (try dsimp only at hSw); go_simp; first | done | with_reducible rfl)
            try simp only [Act.put, List.setIfInBounds_toArray, List.set_cons_zero, List.set_cons_succ]
            refine wpAnyH_ready (rs := [10]) (by kernel_rfl) (by simp) ?_
            refine AllReadyH.cons (o := ⟨some 103, Op.buildSlice 25 1 #[(0, Operand.tmp 102)], 25, _, _, none⟩) rfl (fun K hK => ?_) AllReadyH.nil
            go_simp
            try go_wp2_with fail
            refine hK.out _ _ ?_ (fun hHeld => ?_)
            · trivial
            clear hK K
            try simp only [Act.put, List.setIfInBounds_toArray, List.set_cons_zero, List.set_cons_succ]
            refine wpAnyH_ready (rs := [11]) (by kernel_rfl) (by simp) ?_
            refine AllReadyH.cons (o := ⟨some 104, Op.call { callee := Callee.builtin Builtin.append, args := #[Operand.tmp 94, Operand.tmp 103], argTypes := #[25, 25] }, 25, _, _, none⟩) rfl (fun K hK => ?_) AllReadyH.nil
            refine wp_row1_f (.tmp 94) (.tmp 103) 25 rfl RVa 46 24 _ Tryz.underlying25 Tryz.infoVal rfl (by decide) N (.slice an2 ln2 cn2) vs [⟨vz, 1, 1⟩] (W6.heap.size + 1) 1 1 rfl rfl rfl HCL.out HOb.out.ob hzb hln ?_
            intro ak lk ck wn hnn hOn hBn hPn
            obtain ⟨y0, y1, y2, g0, g1, g2, -⟩ := (HOb.out.there2 hPn.out).open3
            refine hK.out _ _ ?_ (fun hHeld => ?_)
            · trivial
            clear hK K
            try simp only [Act.put, List.setIfInBounds_toArray, List.set_cons_zero, List.set_cons_succ]
            refine wpAnyH_take (i := 12) (oi := ⟨some 105, Op.fieldAddr 27 (Operand.tmp 9) 1, 0, _, _, none⟩) (v := ?_) rfl (by kernel_rfl) (by kernel_rfl) (by kernel_rfl) (fun _ _ _ h => h) (Or.inl ⟨by rfl, ?_⟩) (by assumption) ?_
            rotate_left 1
            · (intro w hSw; (try dsimp only at hSw); go_simp; first | done | with_reducible rfl)
            try simp only [Act.put, List.setIfInBounds_toArray, List.set_cons_zero, List.set_cons_succ]
            refine wpAnyH_ready (rs := [13]) (by kernel_rfl) (by simp) ?_
            refine AllReadyH.cons (o := ⟨none, Op.store 25 (Operand.tmp 105) (Operand.tmp 104), 0, _, _, none⟩) rfl (fun K hK => ?_) AllReadyH.nil
            go_simp
            go_wp2_with fail
            refine hK.out _ _ ?_ (fun hHeld => ?_)
            · trivial
            clear hK K
            try simp only [Act.put, List.setIfInBounds_toArray, List.set_cons_zero, List.set_cons_succ]
            refine wpAnyH_done (by kernel_rfl) ?_ _
            refine NoPanic.normal ?_
            have hO7 := HOb.out.set2 hPn.out hOn.out
            have hS7 : Since W2 (wn.setCell ⟨N, 1, none⟩ (.slice ak lk ck)) := since_put HSZ.out (Since.step HS6.out HSb.out) hBn.out _ _
            generalize wn.setCell ⟨N, 1, none⟩ (.slice ak lk ck) = W7 at *
            clear y0 y1 y2 g0 g1 g2 x0 x1 x2
            obtain ⟨z0, z1, z2, zf0, zf1, zf2, -⟩ := (HR.out.keep hS7).open3
            have hP := spoil_P HW1.out (mem_app HW2.out (mem_one (P := Va.wf) (x := ⟨vz, 1, 1⟩) ⟨HVZ.out, i64_1, i64_1⟩)) HW3.out (by simp only [List.length_append, List.length_singleton]; have := HW.out; omega) hwt
            obtain ⟨x0, x1, x2, f0, f1, f2, -⟩ := hO7.box.open3
            have hfin := HFN.out _ (fun u => u.wf ∧ u.wt ≤ 2 * tw + 400) _ _ _ _ _ _ _ _ _ _ _ _ _ hO7 hS7 (hP)
            unfold put3 at hfin
            have HFI := Lib.hid hfin
            clear hfin
            go_wp2
            exact bodyPost_ret (v := .agg #[.slice an ln cn, .slice ak lk ck, .slice an3 ln3 cn3]) (by simp [results, Tryz.results17, go_sem, z0, z1, z2]) rfl HFI.out
          · go_simp
            try go_wp2_with fail
            refine hK.out _ _ ?_ (fun hHeld => ?_)
            · trivial
            clear hK K
            try simp only [Act.put, List.setIfInBounds_toArray, List.set_cons_zero, List.set_cons_succ]
            refine wpAnyH_take (i := 9) (oi := ⟨some 102, Op.build 46 #[(0, Operand.tmp 100), (1, Operand.tmp 101)], 46, _, _, none⟩) (v := ?_) rfl (by kernel_rfl) (by kernel_rfl) (by kernel_rfl) (fun _ _ _ h => h) (Or.inl ⟨by rfl, ?_⟩) (by assumption) ?_
            rotate_left 1
            · (intro w hSw; (try dsimp only at hSw); go_simp; first | done | with_reducible rfl)
            try simp only [Act.put, List.setIfInBounds_toArray, List.set_cons_zero, List.set_cons_succ]
            refine wpAnyH_ready (rs := [1, 10]) (by kernel_rfl) (by simp) ?_
            refine AllReadyH.cons (o := ⟨some 94, Op.load 25 (Operand.tmp 93), 25, _, _, none⟩) rfl (fun K hK => ?_) (AllReadyH.cons (o := ⟨some 103, Op.buildSlice 25 1 #[(0, Operand.tmp 102)], 25, _, _, none⟩) rfl (fun K hK => ?_) AllReadyH.nil)
            · go_simp
              try go_wp2_with fail
              refine hK.out _ _ ?_ (fun hHeld => ?_)
              · trivial
              clear hK K
              try simp only [Act.put, List.setIfInBounds_toArray, List.set_cons_zero, List.set_cons_succ]
              refine wpAnyH_ready (rs := [10]) (by kernel_rfl) (by simp) ?_
              refine AllReadyH.cons (o := ⟨some 103, Op.buildSlice 25 1 #[(0, Operand.tmp 102)], 25, _, _, none⟩) rfl (fun K hK => ?_) AllReadyH.nil
              go_simp
              try go_wp2_with fail
              refine hK.out _ _ ?_ (fun hHeld => ?_)
              · trivial
              clear hK K
              try simp only [Act.put, List.setIfInBounds_toArray, List.set_cons_zero, List.set_cons_succ]
              refine wpAnyH_ready (rs := [11]) (by kernel_rfl) (by simp) ?_
              refine AllReadyH.cons (o := ⟨some 104, Op.call { callee := Callee.builtin Builtin.append, args := #[Operand.tmp 94, Operand.tmp 103], argTypes := #[25, 25] }, 25, _, _, none⟩) rfl (fun K hK => ?_) AllReadyH.nil
              refine wp_row1_f (.tmp 94) (.tmp 103) 25 rfl RVa 46 24 _ Tryz.underlying25 Tryz.infoVal rfl (by decide) N (.slice an2 ln2 cn2) vs [⟨vz, 1, 1⟩] (W6.heap.size + 1) 1 1 rfl rfl rfl HCL.out HOb.out.ob hzb hln ?_
              intro ak lk ck wn hnn hOn hBn hPn
              obtain ⟨y0, y1, y2, g0, g1, g2, -⟩ := (HOb.out.there2 hPn.out).open3
              refine hK.out _ _ ?_ (fun hHeld => ?_)
              · trivial
              clear hK K
              try simp only [Act.put, List.setIfInBounds_toArray, List.set_cons_zero, List.set_cons_succ]
              refine wpAnyH_take (i := 12) (oi := ⟨some 105, Op.fieldAddr 27 (Operand.tmp 9) 1, 0, _, _, none⟩) (v := ?_) rfl (by kernel_rfl) (by kernel_rfl) (by kernel_rfl) (fun _ _ _ h => h) (Or.inl ⟨by rfl, ?_⟩) (by assumption) ?_
              rotate_left 1
              · (intro w hSw; (try dsimp only at hSw); go_simp; first | done | with_reducible rfl)
              try simp only [Act.put, List.setIfInBounds_toArray, List.set_cons_zero, List.set_cons_succ]
              refine wpAnyH_ready (rs := [13]) (by kernel_rfl) (by simp) ?_
              refine AllReadyH.cons (o := ⟨none, Op.store 25 (Operand.tmp 105) (Operand.tmp 104), 0, _, _, none⟩) rfl (fun K hK => ?_) AllReadyH.nil
              go_simp
              go_wp2_with fail
              refine hK.out _ _ ?_ (fun hHeld => ?_)
              · trivial
              clear hK K
              try simp only [Act.put, List.setIfInBounds_toArray, List.set_cons_zero, List.set_cons_succ]
              refine wpAnyH_done (by kernel_rfl) ?_ _
              refine NoPanic.normal ?_
              have hO7 := HOb.out.set2 hPn.out hOn.out
              have hS7 : Since W2 (wn.setCell ⟨N, 1, none⟩ (.slice ak lk ck)) := since_put HSZ.out (Since.step HS6.out HSb.out) hBn.out _ _
              generalize wn.setCell ⟨N, 1, none⟩ (.slice ak lk ck) = W7 at *
              clear y0 y1 y2 g0 g1 g2 x0 x1 x2
              obtain ⟨z0, z1, z2, zf0, zf1, zf2, -⟩ := (HR.out.keep hS7).open3
              have hP := spoil_P HW1.out (mem_app HW2.out (mem_one (P := Va.wf) (x := ⟨vz, 1, 1⟩) ⟨HVZ.out, i64_1, i64_1⟩)) HW3.out (by simp only [List.length_append, List.length_singleton]; have := HW.out; omega) hwt
              obtain ⟨x0, x1, x2, f0, f1, f2, -⟩ := hO7.box.open3
              have hfin := HFN.out _ (fun u => u.wf ∧ u.wt ≤ 2 * tw + 400) _ _ _ _ _ _ _ _ _ _ _ _ _ hO7 hS7 (hP)
              unfold put3 at hfin
              have HFI := Lib.hid hfin
              clear hfin
              go_wp2
              exact bodyPost_ret (v := .agg #[.slice an ln cn, .slice ak lk ck, .slice an3 ln3 cn3]) (by simp [results, Tryz.results17, go_sem, z0, z1, z2]) rfl HFI.out
            · go_simp
              try go_wp2_with fail
              refine hK.out _ _ ?_ (fun hHeld => ?_)
              · trivial
              clear hK K
              try simp only [Act.put, List.setIfInBounds_toArray, List.set_cons_zero, List.set_cons_succ]
              refine wpAnyH_ready (rs := [1]) (by kernel_rfl) (by simp) ?_
              refine AllReadyH.cons (o := ⟨some 94, Op.load 25 (Operand.tmp 93), 25, _, _, none⟩) rfl (fun K hK => ?_) AllReadyH.nil
              go_simp
              try go_wp2_with fail
              refine hK.out _ _ ?_ (fun hHeld => ?_)
              · trivial
              clear hK K
              try simp only [Act.put, List.setIfInBounds_toArray, List.set_cons_zero, List.set_cons_succ]
              refine wpAnyH_ready (rs := [11]) (by kernel_rfl) (by simp) ?_
              refine AllReadyH.cons (o := ⟨some 104, Op.call { callee := Callee.builtin Builtin.append, args := #[Operand.tmp 94, Operand.tmp 103], argTypes := #[25, 25] }, 25, _, _, none⟩) rfl (fun K hK => ?_) AllReadyH.nil
              refine wp_row1_f (.tmp 94) (.tmp 103) 25 rfl RVa 46 24 _ Tryz.underlying25 Tryz.infoVal rfl (by decide) N (.slice an2 ln2 cn2) vs [⟨vz, 1, 1⟩] (W6.heap.size + 1) 1 1 rfl rfl rfl HCL.out HOb.out.ob hzb hln ?_
              intro ak lk ck wn hnn hOn hBn hPn
              obtain ⟨y0, y1, y2, g0, g1, g2, -⟩ := (HOb.out.there2 hPn.out).open3
              refine hK.out _ _ ?_ (fun hHeld => ?_)
              · trivial
              clear hK K
              try simp only [Act.put, List.setIfInBounds_toArray, List.set_cons_zero, List.set_cons_succ]
              refine wpAnyH_take (i := 12) (oi := ⟨some 105, Op.fieldAddr 27 (Operand.tmp 9) 1, 0, _, _, none⟩) (v := ?_) rfl (by kernel_rfl) (by kernel_rfl) (by kernel_rfl) (fun _ _ _ h => h) (Or.inl ⟨by rfl, ?_⟩) (by assumption) ?_
              rotate_left 1
              · (intro w hSw; (try dsimp only at hSw); go_simp; first | done | with_reducible rfl)
              try simp only [Act.put, List.setIfInBounds_toArray, List.set_cons_zero, List.set_cons_succ]
              refine wpAnyH_ready (rs := [13]) (by kernel_rfl) (by simp) ?_
              refine AllReadyH.cons (o := ⟨none, Op.store 25 (Operand.tmp 105) (Operand.tmp 104), 0, _, _, none⟩) rfl (fun K hK => ?_) AllReadyH.nil
              go_simp
              go_wp2_with fail
              refine hK.out _ _ ?_ (fun hHeld => ?_)
              · trivial
              clear hK K
              try simp only [Act.put, List.setIfInBounds_toArray, List.set_cons_zero, List.set_cons_succ]
              refine wpAnyH_done (by kernel_rfl) ?_ _
              refine NoPanic.normal ?_
              have hO7 := HOb.out.set2 hPn.out hOn.out
              have hS7 : Since W2 (wn.setCell ⟨N, 1, none⟩ (.slice ak lk ck)) := since_put HSZ.out (Since.step HS6.out HSb.out) hBn.out _ _
              generalize wn.setCell ⟨N, 1, none⟩ (.slice ak lk ck) = W7 at *
              clear y0 y1 y2 g0 g1 g2 x0 x1 x2
              obtain ⟨z0, z1, z2, zf0, zf1, zf2, -⟩ := (HR.out.keep hS7).open3
              have hP := spoil_P HW1.out (mem_app HW2.out (mem_one (P := Va.wf) (x := ⟨vz, 1, 1⟩) ⟨HVZ.out, i64_1, i64_1⟩)) HW3.out (by simp only [List.length_append, List.length_singleton]; have := HW.out; omega) hwt
              obtain ⟨x0, x1, x2, f0, f1, f2, -⟩ := hO7.box.open3
              have hfin := HFN.out _ (fun u => u.wf ∧ u.wt ≤ 2 * tw + 400) _ _ _ _ _ _ _ _ _ _ _ _ _ hO7 hS7 (hP)
              unfold put3 at hfin
              have HFI := Lib.hid hfin
              clear hfin
              go_wp2
              exact bodyPost_ret (v := .agg #[.slice an ln cn, .slice ak lk ck, .slice an3 ln3 cn3]) (by simp [results, Tryz.results17, go_sem, z0, z1, z2]) rfl HFI.out
    · -- case 2
      obtain ⟨r5, hr5, hr59⟩ := around_nat z 4 (by decide)
      have hr5' : aroundI z 4 = (r5 : Int) := hr5
      have kb := fun W' => KA.out z 4 W' ⟨hz1, hz2⟩ (by decide) (by decide)
      rw [hr5'] at kb
      clear hr5 hr5' KA3
      have KB := Lib.hid kb
      clear kb
      have h51 : (r5 : Int) < 4 := by omega
      have h52 : (0 : Int) ≤ (r5 : Int) := by omega
      have h53 : ((r5 : Int)).toNat = r5 := by omega
      obtain ⟨vz, hvz, htb⟩ := tab4 (r := r5) hr59 (a := z) (b := 1099511627776) (c := (-1099511627776)) (d := 1099511627777) ⟨hz1, hz2⟩ ⟨by decide, by decide⟩ ⟨by decide, by decide⟩ ⟨by decide, by decide⟩
      have HVZ := Lib.hid hvz
      have hxd : W6.drew.cell? ⟨N, 1, none⟩ = some (.slice an2 ln2 cn2) := Since.cell (Below.drew (Below.refl _ _)) x1
      have hxa : (W6.drew.alloc (.cells #[.int .i64 z, .int .i64 1099511627776, .int .i64 (-1099511627776), .int .i64 1099511627777] 3)).cell? ⟨N, 1, none⟩ = some (.slice an2 ln2 cn2) := Since.cell (Since.adrew2 W6 _) x1
      have hxa2 : ((W6.alloc (.cells #[.int .i64 z, .int .i64 1099511627776, .int .i64 (-1099511627776), .int .i64 1099511627777] 3)).drew).cell? ⟨N, 1, none⟩ = some (.slice an2 ln2 cn2) := Since.cell (Since.adrew W6 _) x1
      have hxb2 : (((W6.alloc (.cells #[.int .i64 z, .int .i64 1099511627776, .int .i64 (-1099511627776), .int .i64 1099511627777] 3)).drew).alloc (.cells #[.int .i64 31, .int .i64 vz, .int .i64 1] 46)).cell? ⟨N, 1, none⟩ = some (.slice an2 ln2 cn2) := Since.cell (Since.alloc (Since.adrew W6 _) _) x1
      have hxb3 : (((W6.alloc (.cells #[.int .i64 z, .int .i64 1099511627776, .int .i64 (-1099511627776), .int .i64 1099511627777] 3)).alloc (.cells #[.int .i64 31, .int .i64 vz, .int .i64 1] 46)).drew).cell? ⟨N, 1, none⟩ = some (.slice an2 ln2 cn2) := Since.cell (Below.drew (Since.alloc (Since.alloc (Below.refl _ _) _) _)) x1
      have hl72 : ((W6.alloc (.cells #[.int .i64 z, .int .i64 1099511627776, .int .i64 (-1099511627776), .int .i64 1099511627777] 3)).drew).cell? ⟨W6.heap.size, r5, none⟩ = some (.int .i64 vz) := ((BoxL.made W6 _ _).2 r5 _ htb).1
      have hl7 : (W6.drew.alloc (.cells #[.int .i64 z, .int .i64 1099511627776, .int .i64 (-1099511627776), .int .i64 1099511627777] 3)).cell? ⟨W6.heap.size, r5, none⟩ = some (.int .i64 vz) := ((BoxL.made W6.drew _ _).2 r5 _ htb).1
      have hSb : Since W6 ((W6.drew.alloc (.cells #[.int .i64 z, .int .i64 1099511627776, .int .i64 (-1099511627776), .int .i64 1099511627777] 3)).alloc (.cells #[.int .i64 31, .int .i64 vz, .int .i64 1] 46)) := Since.alloc (Since.adrew2 W6 _) _
      have hxb := Since.cell hSb x1
      have hOb := HO6.out.frame hSb
      have hzb : N ≤ ((W6.drew.alloc (.cells #[.int .i64 z, .int .i64 1099511627776, .int .i64 (-1099511627776), .int .i64 1099511627777] 3)).alloc (.cells #[.int .i64 31, .int .i64 vz, .int .i64 1] 46)).heap.size := Nat.le_trans hzB (Below.size hSb)
      have hln : vs.length + 1 ≤ 1000000000 := by have := HW.out; omega
      have hcl : ∀ j u, ([⟨31, vz, 1⟩].flatMap RVa.cells)[j]? = some u → ((W6.drew.alloc (.cells #[.int .i64 z, .int .i64 1099511627776, .int .i64 (-1099511627776), .int .i64 1099511627777] 3)).alloc (.cells #[.int .i64 31, .int .i64 vz, .int .i64 1] 46)).cell? ⟨W6.heap.size + 1, j, none⟩ = some u := fun j u hu => by
        have hM := ((BoxL.made (W6.drew.alloc (.cells #[.int .i64 z, .int .i64 1099511627776, .int .i64 (-1099511627776), .int .i64 1099511627777] 3)) #[.int .i64 31, .int .i64 vz, .int .i64 1] 46).2 j u (by simpa [RVa] using hu)).1
        rw [World.size_alloc] at hM
        exact hM
      have HOb := Lib.hid hOb
      have HSb := Lib.hid hSb
      have HCL := Lib.hid hcl
      clear hOb hSb hcl htb hvz z0 z1 z2 zf0 zf1 zf2 f0 f1 f2
      go_upto_region 17 with (fail)
      refine wp_region_noPanic ?_
      refine wp_region_held_drew (S := fun _ => True) (by kernel_rfl) trivial (fun hHeld => ?_)
      refine wpAnyH_take (i := 0) (oi := ⟨some 108, Op.fieldAddr 27 (Operand.tmp 9) 1, 0, _, _, none⟩) (v := ?_) rfl (by kernel_rfl) (by kernel_rfl) (by kernel_rfl) (fun _ _ _ h => h) (Or.inl ⟨by rfl, ?_⟩) (by assumption) ?_
      rotate_left 1
      · (intro w hSw; (try dsimp only at hSw); go_simp; first | done | with_reducible rfl)
      try simp only [Act.put, List.setIfInBounds_toArray, List.set_cons_zero, List.set_cons_succ]
      refine wpAnyH_take (i := 2) (oi := ⟨some 110, Op.move (Operand.tmp 3), 3, _, _, none⟩) (v := ?_) rfl (by kernel_rfl) (by kernel_rfl) (by kernel_rfl) (fun _ _ _ h => h) (Or.inl ⟨by rfl, ?_⟩) (by assumption) ?_
      rotate_left 1
      · (intro w hSw; (try dsimp only at hSw); go_simp; first | done | with_reducible rfl)
      try simp only [Act.put, List.setIfInBounds_toArray, List.set_cons_zero, List.set_cons_succ]
      refine wpAnyH_take (i := 4) (oi := ⟨some 112, Op.move (Operand.tmp 3), 3, _, _, none⟩) (v := ?_) rfl (by kernel_rfl) (by kernel_rfl) (by kernel_rfl) (fun _ _ _ h => h) (Or.inl ⟨by rfl, ?_⟩) (by assumption) ?_
      rotate_left 1
      · (intro w hSw; (try dsimp only at hSw); go_simp; first | done | with_reducible rfl)
      try simp only [Act.put, List.setIfInBounds_toArray, List.set_cons_zero, List.set_cons_succ]
      refine wpAnyH_ready (rs := [1, 3, 5]) (by kernel_rfl) (by simp) ?_
      refine AllReadyH.cons (o := ⟨some 109, Op.load 25 (Operand.tmp 108), 25, _, _, none⟩) rfl (fun K hK => ?_) (AllReadyH.cons (o := ⟨some 111, Op.buildSlice 22 4 #[(0, Operand.tmp 110), (1, Operand.const (Value.int IntKind.i64 1099511627776)), (2, Operand.const (Value.int IntKind.i64 (-1099511627776))), (3, Operand.const (Value.int IntKind.i64 1099511627777))], 22, _, _, none⟩) rfl (fun K hK => ?_) (AllReadyH.cons (o := ⟨some 113, Op.call { callee := Callee.value (Operand.func 18), args := #[Operand.tmp 112, Operand.const (Value.int IntKind.i64 4)], argTypes := #[3, 3] }, 3, _, _, none⟩) rfl (fun K hK => ?_) AllReadyH.nil))
      · go_simp
        try go_wp2_with fail
        refine hK.out _ _ ?_ (fun hHeld => ?_)
        · trivial
        clear hK K
        try simp only [Act.put, List.setIfInBounds_toArray, List.set_cons_zero, List.set_cons_succ]
        refine wpAnyH_ready (rs := [3, 5]) (by kernel_rfl) (by simp) ?_
        refine AllReadyH.cons (o := ⟨some 111, Op.buildSlice 22 4 #[(0, Operand.tmp 110), (1, Operand.const (Value.int IntKind.i64 1099511627776)), (2, Operand.const (Value.int IntKind.i64 (-1099511627776))), (3, Operand.const (Value.int IntKind.i64 1099511627777))], 22, _, _, none⟩) rfl (fun K hK => ?_) (AllReadyH.cons (o := ⟨some 113, Op.call { callee := Callee.value (Operand.func 18), args := #[Operand.tmp 112, Operand.const (Value.int IntKind.i64 4)], argTypes := #[3, 3] }, 3, _, _, none⟩) rfl (fun K hK => ?_) AllReadyH.nil)
        · go_simp
          try go_wp2_with fail
          refine hK.out _ _ ?_ (fun hHeld => ?_)
          · trivial
          clear hK K
          try simp only [Act.put, List.setIfInBounds_toArray, List.set_cons_zero, List.set_cons_succ]
          refine wpAnyH_ready (rs := [5]) (by kernel_rfl) (by simp) ?_
          refine AllReadyH.cons (o := ⟨some 113, Op.call { callee := Callee.value (Operand.func 18), args := #[Operand.tmp 112, Operand.const (Value.int IntKind.i64 4)], argTypes := #[3, 3] }, 3, _, _, none⟩) rfl (fun K hK => ?_) AllReadyH.nil
          go_simp
          go_at_call 18
          refine (KB.out _).mono ?_
          rintro e _ ⟨rfl, rfl⟩
          try go_wp2_with fail
          refine hK.out _ _ ?_ (fun hHeld => ?_)
          · trivial
          clear hK K
          try simp only [Act.put, List.setIfInBounds_toArray, List.set_cons_zero, List.set_cons_succ]
          refine wpAnyH_take (i := 6) (oi := ⟨some 114, Op.indexAddr 22 (Operand.tmp 111) (Operand.tmp 113), 0, _, _, none⟩) (v := ?_) rfl (by kernel_rfl) (by kernel_rfl) (by kernel_rfl) (fun _ _ _ h => h) (Or.inl ⟨by rfl, ?_⟩) (by assumption) ?_
          rotate_left 1
          · (intro w hSw; (try dsimp only at hSw); go_simp; first | done | with_reducible rfl)
          try simp only [Act.put, List.setIfInBounds_toArray, List.set_cons_zero, List.set_cons_succ]
          refine wpAnyH_ready (rs := [7]) (by kernel_rfl) (by simp) ?_
          refine AllReadyH.cons (o := ⟨some 115, Op.load 3 (Operand.tmp 114), 3, _, _, none⟩) rfl (fun K hK => ?_) AllReadyH.nil
          go_simp
          try go_wp2_with fail
          refine hK.out _ _ ?_ (fun hHeld => ?_)
          · trivial
          clear hK K
          try simp only [Act.put, List.setIfInBounds_toArray, List.set_cons_zero, List.set_cons_succ]
          refine wpAnyH_take (i := 8) (oi := ⟨some 116, Op.build 44 #[(0, Operand.tmp 115), (1, Operand.const (Value.int IntKind.i64 1))], 44, _, _, none⟩) (v := ?_) rfl (by kernel_rfl) (by kernel_rfl) (by kernel_rfl) (fun _ _ _ h => h) (Or.inl ⟨by rfl, ?_⟩) (by assumption) ?_
          rotate_left 1
          · (intro w hSw; (try dsimp only at hSw); go_simp; first | done | with_reducible rfl)
          try simp only [Act.put, List.setIfInBounds_toArray, List.set_cons_zero, List.set_cons_succ]
          refine wpAnyH_take (i := 9) (oi := ⟨some 117, Op.build 46 #[(0, Operand.const (Value.int IntKind.i64 31)), (1, Operand.tmp 116)], 46, _, _, none⟩) (v := ?_) rfl (by kernel_rfl) (by kernel_rfl) (by kernel_rfl) (fun _ _ _ h => h) (Or.inl ⟨by rfl, ?_⟩) (by assumption) ?_
          rotate_left 1
          · (intro w hSw; (try dsimp only at hSw); go_simp; first | done | with_reducible rfl)
          try simp only [Act.put, List.setIfInBounds_toArray, List.set_cons_zero, List.set_cons_succ]
          refine wpAnyH_ready (rs := [10]) (by kernel_rfl) (by simp) ?_
          refine AllReadyH.cons (o := ⟨some 118, Op.buildSlice 25 1 #[(0, Operand.tmp 117)], 25, _, _, none⟩) rfl (fun K hK => ?_) AllReadyH.nil
          go_simp
          try go_wp2_with fail
          refine hK.out _ _ ?_ (fun hHeld => ?_)
          · trivial
          clear hK K
          try simp only [Act.put, List.setIfInBounds_toArray, List.set_cons_zero, List.set_cons_succ]
          refine wpAnyH_ready (rs := [11]) (by kernel_rfl) (by simp) ?_
          refine AllReadyH.cons (o := ⟨some 119, Op.call { callee := Callee.builtin Builtin.append, args := #[Operand.tmp 109, Operand.tmp 118], argTypes := #[25, 25] }, 25, _, _, none⟩) rfl (fun K hK => ?_) AllReadyH.nil
          refine wp_row1_f (.tmp 109) (.tmp 118) 25 rfl RVa 46 24 _ Tryz.underlying25 Tryz.infoVal rfl (by decide) N (.slice an2 ln2 cn2) vs [⟨31, vz, 1⟩] (W6.heap.size + 1) 1 1 rfl rfl rfl HCL.out HOb.out.ob hzb hln ?_
          intro ak lk ck wn hnn hOn hBn hPn
          obtain ⟨y0, y1, y2, g0, g1, g2, -⟩ := (HOb.out.there2 hPn.out).open3
          refine hK.out _ _ ?_ (fun hHeld => ?_)
          · trivial
          clear hK K
          try simp only [Act.put, List.setIfInBounds_toArray, List.set_cons_zero, List.set_cons_succ]
          refine wpAnyH_take (i := 12) (oi := ⟨some 120, Op.fieldAddr 27 (Operand.tmp 9) 1, 0, _, _, none⟩) (v := ?_) rfl (by kernel_rfl) (by kernel_rfl) (by kernel_rfl) (fun _ _ _ h => h) (Or.inl ⟨by rfl, ?_⟩) (by assumption) ?_
          rotate_left 1
          · (intro w hSw; (try dsimp only at hSw); go_simp; first | done | with_reducible rfl)
          try simp only [Act.put, List.setIfInBounds_toArray, List.set_cons_zero, List.set_cons_succ]
          refine wpAnyH_ready (rs := [13]) (by kernel_rfl) (by simp) ?_
          refine AllReadyH.cons (o := ⟨none, Op.store 25 (Operand.tmp 120) (Operand.tmp 119), 0, _, _, none⟩) rfl (fun K hK => ?_) AllReadyH.nil
          go_simp
          go_wp2_with fail
          refine hK.out _ _ ?_ (fun hHeld => ?_)
          · trivial
          clear hK K
          try simp only [Act.put, List.setIfInBounds_toArray, List.set_cons_zero, List.set_cons_succ]
          refine wpAnyH_done (by kernel_rfl) ?_ _
          refine NoPanic.normal ?_
          have hO7 := HOb.out.set2 hPn.out hOn.out
          have hS7 : Since W2 (wn.setCell ⟨N, 1, none⟩ (.slice ak lk ck)) := since_put HSZ.out (Since.step HS6.out HSb.out) hBn.out _ _
          generalize wn.setCell ⟨N, 1, none⟩ (.slice ak lk ck) = W7 at *
          clear y0 y1 y2 g0 g1 g2 x0 x1 x2
          obtain ⟨z0, z1, z2, zf0, zf1, zf2, -⟩ := (HR.out.keep hS7).open3
          have hP := spoil_P HW1.out (mem_app HW2.out (mem_one (P := Va.wf) (x := ⟨31, vz, 1⟩) ⟨i64_31, HVZ.out, i64_1⟩)) HW3.out (by simp only [List.length_append, List.length_singleton]; have := HW.out; omega) hwt
          obtain ⟨x0, x1, x2, f0, f1, f2, -⟩ := hO7.box.open3
          have hfin := HFN.out _ (fun u => u.wf ∧ u.wt ≤ 2 * tw + 400) _ _ _ _ _ _ _ _ _ _ _ _ _ hO7 hS7 (hP)
          unfold put3 at hfin
          have HFI := Lib.hid hfin
          clear hfin
          go_wp2
          exact bodyPost_ret (v := .agg #[.slice an ln cn, .slice ak lk ck, .slice an3 ln3 cn3]) (by simp [results, Tryz.results17, go_sem, z0, z1, z2]) rfl HFI.out
        · go_simp
          go_at_call 18
          refine (KB.out _).mono ?_
          rintro e _ ⟨rfl, rfl⟩
          try go_wp2_with fail
          refine hK.out _ _ ?_ (fun hHeld => ?_)
          · trivial
          clear hK K
          try simp only [Act.put, List.setIfInBounds_toArray, List.set_cons_zero, List.set_cons_succ]
          refine wpAnyH_ready (rs := [3]) (by kernel_rfl) (by simp) ?_
          refine AllReadyH.cons (o := ⟨some 111, Op.buildSlice 22 4 #[(0, Operand.tmp 110), (1, Operand.const (Value.int IntKind.i64 1099511627776)), (2, Operand.const (Value.int IntKind.i64 (-1099511627776))), (3, Operand.const (Value.int IntKind.i64 1099511627777))], 22, _, _, none⟩) rfl (fun K hK => ?_) AllReadyH.nil
          go_simp
          try go_wp2_with fail
          refine hK.out _ _ ?_ (fun hHeld => ?_)
          · trivial
          clear hK K
          try simp only [Act.put, List.setIfInBounds_toArray, List.set_cons_zero, List.set_cons_succ]
          refine wpAnyH_take (i := 6) (oi := ⟨some 114, Op.indexAddr 22 (Operand.tmp 111) (Operand.tmp 113), 0, _, _, none⟩) (v := ?_) rfl (by kernel_rfl) (by kernel_rfl) (by kernel_rfl) (fun _ _ _ h => h) (Or.inl ⟨by rfl, ?_⟩) (by assumption) ?_
          rotate_left 1
          · (intro w hSw; (try dsimp only at hSw); go_simp; first | done | with_reducible rfl)
          try simp only [Act.put, List.setIfInBounds_toArray, List.set_cons_zero, List.set_cons_succ]
          refine wpAnyH_ready (rs := [7]) (by kernel_rfl) (by simp) ?_
          refine AllReadyH.cons (o := ⟨some 115, Op.load 3 (Operand.tmp 114), 3, _, _, none⟩) rfl (fun K hK => ?_) AllReadyH.nil
          go_simp
          try go_wp2_with fail
          refine hK.out _ _ ?_ (fun hHeld => ?_)
          · trivial
          clear hK K
          try simp only [Act.put, List.setIfInBounds_toArray, List.set_cons_zero, List.set_cons_succ]
          refine wpAnyH_take (i := 8) (oi := ⟨some 116, Op.build 44 #[(0, Operand.tmp 115), (1, Operand.const (Value.int IntKind.i64 1))], 44, _, _, none⟩) (v := ?_) rfl (by kernel_rfl) (by kernel_rfl) (by kernel_rfl) (fun _ _ _ h => h) (Or.inl ⟨by rfl, ?_⟩) (by assumption) ?_
          rotate_left 1
          · (intro w hSw; (try dsimp only at hSw); go_simp; first | done | with_reducible rfl)
          try simp only [Act.put, List.setIfInBounds_toArray, List.set_cons_zero, List.set_cons_succ]
          refine wpAnyH_take (i := 9) (oi := ⟨some 117, Op.build 46 #[(0, Operand.const (Value.int IntKind.i64 31)), (1, Operand.tmp 116)], 46, _, _, none⟩) (v := ?_) rfl (by kernel_rfl) (by kernel_rfl) (by kernel_rfl) (fun _ _ _ h => h) (Or.inl ⟨by rfl, ?_⟩) (by assumption) ?_
          rotate_left 1
          · (intro w hSw; (try dsimp only at hSw); go_simp; first | done | with_reducible rfl)
          try simp only [Act.put, List.setIfInBounds_toArray, List.set_cons_zero, List.set_cons_succ]
          refine wpAnyH_ready (rs := [10]) (by kernel_rfl) (by simp) ?_
          refine AllReadyH.cons (o := ⟨some 118, Op.buildSlice 25 1 #[(0, Operand.tmp 117)], 25, _, _, none⟩) rfl (fun K hK => ?_) AllReadyH.nil
          go_simp
          try go_wp2_with fail
          refine hK.out _ _ ?_ (fun hHeld => ?_)
          · trivial
          clear hK K
          try simp only [Act.put, List.setIfInBounds_toArray, List.set_cons_zero, List.set_cons_succ]
          refine wpAnyH_ready (rs := [11]) (by kernel_rfl) (by simp) ?_
          refine AllReadyH.cons (o := ⟨some 119, Op.call { callee := Callee.builtin Builtin.append, args := #[Operand.tmp 109, Operand.tmp 118], argTypes := #[25, 25] }, 25, _, _, none⟩) rfl (fun K hK => ?_) AllReadyH.nil
          refine wp_row1_f (.tmp 109) (.tmp 118) 25 rfl RVa 46 24 _ Tryz.underlying25 Tryz.infoVal rfl (by decide) N (.slice an2 ln2 cn2) vs [⟨31, vz, 1⟩] (W6.heap.size + 1) 1 1 rfl rfl rfl HCL.out HOb.out.ob hzb hln ?_
          intro ak lk ck wn hnn hOn hBn hPn
          obtain ⟨y0, y1, y2, g0, g1, g2, -⟩ := (HOb.out.there2 hPn.out).open3
          refine hK.out _ _ ?_ (fun hHeld => ?_)
          · trivial
          clear hK K
          try simp only [Act.put, List.setIfInBounds_toArray, List.set_cons_zero, List.set_cons_succ]
          refine wpAnyH_take (i := 12) (oi := ⟨some 120, Op.fieldAddr 27 (Operand.tmp 9) 1, 0, _, _, none⟩) (v := ?_) rfl (by kernel_rfl) (by kernel_rfl) (by kernel_rfl) (fun _ _ _ h => h) (Or.inl ⟨by rfl, ?_⟩) (by assumption) ?_
          rotate_left 1
          · (intro w hSw; (try dsimp only at hSw); go_simp; first | done | with_reducible rfl)
          try simp only [Act.put, List.setIfInBounds_toArray, List.set_cons_zero, List.set_cons_succ]
          refine wpAnyH_ready (rs := [13]) (by kernel_rfl) (by simp) ?_
          refine AllReadyH.cons (o := ⟨none, Op.store 25 (Operand.tmp 120) (Operand.tmp 119), 0, _, _, none⟩) rfl (fun K hK => ?_) AllReadyH.nil
          go_simp
          go_wp2_with fail
          refine hK.out _ _ ?_ (fun hHeld => ?_)
          · trivial
          clear hK K
          try simp only [Act.put, List.setIfInBounds_toArray, List.set_cons_zero, List.set_cons_succ]
          refine wpAnyH_done (by kernel_rfl) ?_ _
          refine NoPanic.normal ?_
          have hO7 := HOb.out.set2 hPn.out hOn.out
          have hS7 : Since W2 (wn.setCell ⟨N, 1, none⟩ (.slice ak lk ck)) := since_put HSZ.out (Since.step HS6.out HSb.out) hBn.out _ _
          generalize wn.setCell ⟨N, 1, none⟩ (.slice ak lk ck) = W7 at *
          clear y0 y1 y2 g0 g1 g2 x0 x1 x2
          obtain ⟨z0, z1, z2, zf0, zf1, zf2, -⟩ := (HR.out.keep hS7).open3
          have hP := spoil_P HW1.out (mem_app HW2.out (mem_one (P := Va.wf) (x := ⟨31, vz, 1⟩) ⟨i64_31, HVZ.out, i64_1⟩)) HW3.out (by simp only [List.length_append, List.length_singleton]; have := HW.out; omega) hwt
          obtain ⟨x0, x1, x2, f0, f1, f2, -⟩ := hO7.box.open3
          have hfin := HFN.out _ (fun u => u.wf ∧ u.wt ≤ 2 * tw + 400) _ _ _ _ _ _ _ _ _ _ _ _ _ hO7 hS7 (hP)
          unfold put3 at hfin
          have HFI := Lib.hid hfin
          clear hfin
          go_wp2
          exact bodyPost_ret (v := .agg #[.slice an ln cn, .slice ak lk ck, .slice an3 ln3 cn3]) (by simp [results, Tryz.results17, go_sem, z0, z1, z2]) rfl HFI.out
      · go_simp
        try go_wp2_with fail
        refine hK.out _ _ ?_ (fun hHeld => ?_)
        · trivial
        clear hK K
        try simp only [Act.put, List.setIfInBounds_toArray, List.set_cons_zero, List.set_cons_succ]
        refine wpAnyH_ready (rs := [1, 5]) (by kernel_rfl) (by simp) ?_
        refine AllReadyH.cons (o := ⟨some 109, Op.load 25 (Operand.tmp 108), 25, _, _, none⟩) rfl (fun K hK => ?_) (AllReadyH.cons (o := ⟨some 113, Op.call { callee := Callee.value (Operand.func 18), args := #[Operand.tmp 112, Operand.const (Value.int IntKind.i64 4)], argTypes := #[3, 3] }, 3, _, _, none⟩) rfl (fun K hK => ?_) AllReadyH.nil)
        · go_simp
          try go_wp2_with fail
          refine hK.out _ _ ?_ (fun hHeld => ?_)
          · trivial
          clear hK K
          try simp only [Act.put, List.setIfInBounds_toArray, List.set_cons_zero, List.set_cons_succ]
          refine wpAnyH_ready (rs := [5]) (by kernel_rfl) (by simp) ?_
          refine AllReadyH.cons (o := ⟨some 113, Op.call { callee := Callee.value (Operand.func 18), args := #[Operand.tmp 112, Operand.const (Value.int IntKind.i64 4)], argTypes := #[3, 3] }, 3, _, _, none⟩) rfl (fun K hK => ?_) AllReadyH.nil
          go_simp
          go_at_call 18
          refine (KB.out _).mono ?_
          rintro e _ ⟨rfl, rfl⟩
          try go_wp2_with fail
          refine hK.out _ _ ?_ (fun hHeld => ?_)
          · trivial
          clear hK K
          try simp only [Act.put, List.setIfInBounds_toArray, List.set_cons_zero, List.set_cons_succ]
          refine wpAnyH_take (i := 6) (oi := ⟨some 114, Op.indexAddr 22 (Operand.tmp 111) (Operand.tmp 113), 0, _, _, none⟩) (v := ?_) rfl (by kernel_rfl) (by kernel_rfl) (by kernel_rfl) (fun _ _ _ h => h) (Or.inl ⟨by rfl, ?_⟩) (by assumption) ?_
          rotate_left 1
          · (intro w hSw; (try dsimp only at hSw); go_simp; first | done | with_reducible rfl)
          try simp only [Act.put, List.setIfInBounds_toArray, List.set_cons_zero, List.set_cons_succ]
          refine wpAnyH_ready (rs := [7]) (by kernel_rfl) (by simp) ?_
          refine AllReadyH.cons (o := ⟨some 115, Op.load 3 (Operand.tmp 114), 3, _, _, none⟩) rfl (fun K hK => ?_) AllReadyH.nil
          go_simp
          try go_wp2_with fail
          refine hK.out _ _ ?_ (fun hHeld => ?_)
          · trivial
          clear hK K
          try simp only [Act.put, List.setIfInBounds_toArray, List.set_cons_zero, List.set_cons_succ]
          refine wpAnyH_take (i := 8) (oi := ⟨some 116, Op.build 44 #[(0, Operand.tmp 115), (1, Operand.const (Value.int IntKind.i64 1))], 44, _, _, none⟩) (v := ?_) rfl (by kernel_rfl) (by kernel_rfl) (by kernel_rfl) (fun _ _ _ h => h) (Or.inl ⟨by rfl, ?_⟩) (by assumption) ?_
          rotate_left 1
          · (intro w hSw; (try dsimp only at hSw); go_simp; first | done | with_reducible rfl)
          try simp only [Act.put, List.setIfInBounds_toArray, List.set_cons_zero, List.set_cons_succ]
          refine wpAnyH_take (i := 9) (oi := ⟨some 117, Op.build 46 #[(0, Operand.const (Value.int IntKind.i64 31)), (1, Operand.tmp 116)], 46, _, _, none⟩) (v := ?_) rfl (by kernel_rfl) (by kernel_rfl) (by kernel_rfl) (fun _ _ _ h => h) (Or.inl ⟨by rfl, ?_⟩) (by assumption) ?_
          rotate_left 1
          · (intro w hSw; (try dsimp only at hSw); go_simp; first | done | with_reducible rfl)
          try simp only [Act.put, List.setIfInBounds_toArray, List.set_cons_zero, List.set_cons_succ]
          refine wpAnyH_ready (rs := [10]) (by kernel_rfl) (by simp) ?_
          refine AllReadyH.cons (o := ⟨some 118, Op.buildSlice 25 1 #[(0, Operand.tmp 117)], 25, _, _, none⟩) rfl (fun K hK => ?_) AllReadyH.nil
          go_simp
          try go_wp2_with fail
          refine hK.out _ _ ?_ (fun hHeld => ?_)
          · trivial
          clear hK K
          try simp only [Act.put, List.setIfInBounds_toArray, List.set_cons_zero, List.set_cons_succ]
          refine wpAnyH_ready (rs := [11]) (by kernel_rfl) (by simp) ?_
          refine AllReadyH.cons (o := ⟨some 119, Op.call { callee := Callee.builtin Builtin.append, args := #[Operand.tmp 109, Operand.tmp 118], argTypes := #[25, 25] }, 25, _, _, none⟩) rfl (fun K hK => ?_) AllReadyH.nil
          refine wp_row1_f (.tmp 109) (.tmp 118) 25 rfl RVa 46 24 _ Tryz.underlying25 Tryz.infoVal rfl (by decide) N (.slice an2 ln2 cn2) vs [⟨31, vz, 1⟩] (W6.heap.size + 1) 1 1 rfl rfl rfl HCL.out HOb.out.ob hzb hln ?_
          intro ak lk ck wn hnn hOn hBn hPn
          obtain ⟨y0, y1, y2, g0, g1, g2, -⟩ := (HOb.out.there2 hPn.out).open3
          refine hK.out _ _ ?_ (fun hHeld => ?_)
          · trivial
          clear hK K
          try simp only [Act.put, List.setIfInBounds_toArray, List.set_cons_zero, List.set_cons_succ]
          refine wpAnyH_take (i := 12) (oi := ⟨some 120, Op.fieldAddr 27 (Operand.tmp 9) 1, 0, _, _, none⟩) (v := ?_) rfl (by kernel_rfl) (by kernel_rfl) (by kernel_rfl) (fun _ _ _ h => h) (Or.inl ⟨by rfl, ?_⟩) (by assumption) ?_
          rotate_left 1
          · (intro w hSw; (try dsimp only at hSw); go_simp; first | done | with_reducible rfl)
          try simp only [Act.put, List.setIfInBounds_toArray, List.set_cons_zero, List.set_cons_succ]
          refine wpAnyH_ready (rs := [13]) (by kernel_rfl) (by simp) ?_
          refine AllReadyH.cons (o := ⟨none, Op.store 25 (Operand.tmp 120) (Operand.tmp 119), 0, _, _, none⟩) rfl (fun K hK => ?_) AllReadyH.nil
          go_simp
          go_wp2_with fail
          refine hK.out _ _ ?_ (fun hHeld => ?_)
          · trivial
          clear hK K
          try simp only [Act.put, List.setIfInBounds_toArray, List.set_cons_zero, List.set_cons_succ]
          refine wpAnyH_done (by kernel_rfl) ?_ _
          refine NoPanic.normal ?_
          have hO7 := HOb.out.set2 hPn.out hOn.out
          have hS7 : Since W2 (wn.setCell ⟨N, 1, none⟩ (.slice ak lk ck)) := since_put HSZ.out (Since.step HS6.out HSb.out) hBn.out _ _
          generalize wn.setCell ⟨N, 1, none⟩ (.slice ak lk ck) = W7 at *
          clear y0 y1 y2 g0 g1 g2 x0 x1 x2
          obtain ⟨z0, z1, z2, zf0, zf1, zf2, -⟩ := (HR.out.keep hS7).open3
          have hP := spoil_P HW1.out (mem_app HW2.out (mem_one (P := Va.wf) (x := ⟨31, vz, 1⟩) ⟨i64_31, HVZ.out, i64_1⟩)) HW3.out (by simp only [List.length_append, List.length_singleton]; have := HW.out; omega) hwt
          obtain ⟨x0, x1, x2, f0, f1, f2, -⟩ := hO7.box.open3
          have hfin := HFN.out _ (fun u => u.wf ∧ u.wt ≤ 2 * tw + 400) _ _ _ _ _ _ _ _ _ _ _ _ _ hO7 hS7 (hP)
          unfold put3 at hfin
          have HFI := Lib.hid hfin
          clear hfin
          go_wp2
          exact bodyPost_ret (v := .agg #[.slice an ln cn, .slice ak lk ck, .slice an3 ln3 cn3]) (by simp [results, Tryz.results17, go_sem, z0, z1, z2]) rfl HFI.out
        · go_simp
          go_at_call 18
          refine (KB.out _).mono ?_
          rintro e _ ⟨rfl, rfl⟩
          try go_wp2_with fail
          refine hK.out _ _ ?_ (fun hHeld => ?_)
          · trivial
          clear hK K
          try simp only [Act.put, List.setIfInBounds_toArray, List.set_cons_zero, List.set_cons_succ]
          refine wpAnyH_take (i := 6) (oi := ⟨some 114, Op.indexAddr 22 (Operand.tmp 111) (Operand.tmp 113), 0, _, _, none⟩) (v := ?_) rfl (by kernel_rfl) (by kernel_rfl) (by kernel_rfl) (fun _ _ _ h => h) (Or.inl ⟨by rfl, ?_⟩) (by assumption) ?_
          rotate_left 1
          · (intro w hSw; (try dsimp only at hSw); go_simp; first | done | with_reducible rfl)
          try simp only [Act.put, List.setIfInBounds_toArray, List.set_cons_zero, List.set_cons_succ]
          refine wpAnyH_ready (rs := [1, 7]) (by kernel_rfl) (by simp) ?_
          refine AllReadyH.cons (o := ⟨some 109, Op.load 25 (Operand.tmp 108), 25, _, _, none⟩) rfl (fun K hK => ?_) (AllReadyH.cons (o := ⟨some 115, Op.load 3 (Operand.tmp 114), 3, _, _, none⟩) rfl (fun K hK => ?_) AllReadyH.nil)
          · go_simp
            try go_wp2_with fail
            refine hK.out _ _ ?_ (fun hHeld => ?_)
            · trivial
            clear hK K
            try simp only [Act.put, List.setIfInBounds_toArray, List.set_cons_zero, List.set_cons_succ]
            refine wpAnyH_ready (rs := [7]) (by kernel_rfl) (by simp) ?_
            refine AllReadyH.cons (o := ⟨some 115, Op.load 3 (Operand.tmp 114), 3, _, _, none⟩) rfl (fun K hK => ?_) AllReadyH.nil
            go_simp
            try go_wp2_with fail
            refine hK.out _ _ ?_ (fun hHeld => ?_)
            · trivial
            clear hK K
            try simp only [Act.put, List.setIfInBounds_toArray, List.set_cons_zero, List.set_cons_succ]
            refine wpAnyH_take (i := 8) (oi := ⟨some 116, Op.build 44 #[(0, Operand.tmp 115), (1, Operand.const (Value.int IntKind.i64 1))], 44, _, _, none⟩) (v := ?_) rfl (by kernel_rfl) (by kernel_rfl) (by kernel_rfl) (fun _ _ _ h => h) (Or.inl ⟨by rfl, ?_⟩) (by assumption) ?_
            rotate_left 1
            · (intro w hSw; (try dsimp only at hSw); go_simp; first | done | with_reducible rfl)
            try simp only [Act.put, List.setIfInBounds_toArray, List.set_cons_zero, List.set_cons_succ]
            refine wpAnyH_take (i := 9) (oi := ⟨some 117, Op.build 46 #[(0, Operand.const (Value.int IntKind.i64 31)), (1, Operand.tmp 116)], 46, _, _, none⟩) (v := ?_) rfl (by kernel_rfl) (by kernel_rfl) (by kernel_rfl) (fun _ _ _ h => h) (Or.inl ⟨by rfl, ?_⟩) (by assumption) ?_
            rotate_left 1
            · (intro w hSw; (try dsimp only at hSw); go_simp; first | done | with_reducible rfl)
            try simp only [Act.put, List.setIfInBounds_toArray, List.set_cons_zero, List.set_cons_succ]
            refine wpAnyH_ready (rs := [10]) (by kernel_rfl) (by simp) ?_
            refine AllReadyH.cons (o := ⟨some 118, Op.buildSlice 25 1 #[(0, Operand.tmp 117)], 25, _, _, none⟩) rfl (fun K hK => ?_) AllReadyH.nil
            go_simp
            try go_wp2_with fail
            refine hK.out _ _ ?_ (fun hHeld => ?_)
            · trivial
            clear hK K
            try simp only [Act.put, List.setIfInBounds_toArray, List.set_cons_zero, List.set_cons_succ]
            refine wpAnyH_ready (rs := [11]) (by kernel_rfl) (by simp) ?_
            refine AllReadyH.cons (o := ⟨some 119, Op.call { callee := Callee.builtin Builtin.append, args := #[Operand.tmp 109, Operand.tmp 118], argTypes := #[25, 25] }, 25, _, _, none⟩) rfl (fun K hK => ?_) AllReadyH.nil
            refine wp_row1_f (.tmp 109) (.tmp 118) 25 rfl RVa 46 24 _ Tryz.underlying25 Tryz.infoVal rfl (by decide) N (.slice an2 ln2 cn2) vs [⟨31, vz, 1⟩] (W6.heap.size + 1) 1 1 rfl rfl rfl HCL.out HOb.out.ob hzb hln ?_
            intro ak lk ck wn hnn hOn hBn hPn
            obtain ⟨y0, y1, y2, g0, g1, g2, -⟩ := (HOb.out.there2 hPn.out).open3
            refine hK.out _ _ ?_ (fun hHeld => ?_)
            · trivial
            clear hK K
            try simp only [Act.put, List.setIfInBounds_toArray, List.set_cons_zero, List.set_cons_succ]
            refine wpAnyH_take (i := 12) (oi := ⟨some 120, Op.fieldAddr 27 (Operand.tmp 9) 1, 0, _, _, none⟩) (v := ?_) rfl (by kernel_rfl) (by kernel_rfl) (by kernel_rfl) (fun _ _ _ h => h) (Or.inl ⟨by rfl, ?_⟩) (by assumption) ?_
            rotate_left 1
            · (intro w hSw; (try dsimp only at hSw); go_simp; first | done | with_reducible rfl)
            try simp only [Act.put, List.setIfInBounds_toArray, List.set_cons_zero, List.set_cons_succ]
            refine wpAnyH_ready (rs := [13]) (by kernel_rfl) (by simp) ?_
            refine AllReadyH.cons (o := ⟨none, Op.store 25 (Operand.tmp 120) (Operand.tmp 119), 0, _, _, none⟩) rfl (fun K hK => ?_) AllReadyH.nil
            go_simp
            go_wp2_with fail
            refine hK.out _ _ ?_ (fun hHeld => ?_)
            · trivial
            clear hK K
            try simp only [Act.put, List.setIfInBounds_toArray, List.set_cons_zero, List.set_cons_succ]
            refine wpAnyH_done (by kernel_rfl) ?_ _
            refine NoPanic.normal ?_
            have hO7 := HOb.out.set2 hPn.out hOn.out
            have hS7 : Since W2 (wn.setCell ⟨N, 1, none⟩ (.slice ak lk ck)) := since_put HSZ.out (Since.step HS6.out HSb.out) hBn.out _ _
            generalize wn.setCell ⟨N, 1, none⟩ (.slice ak lk ck) = W7 at *
            clear y0 y1 y2 g0 g1 g2 x0 x1 x2
            obtain ⟨z0, z1, z2, zf0, zf1, zf2, -⟩ := (HR.out.keep hS7).open3
            have hP := spoil_P HW1.out (mem_app HW2.out (mem_one (P := Va.wf) (x := ⟨31, vz, 1⟩) ⟨i64_31, HVZ.out, i64_1⟩)) HW3.out (by simp only [List.length_append, List.length_singleton]; have := HW.out; omega) hwt
            obtain ⟨x0, x1, x2, f0, f1, f2, -⟩ := hO7.box.open3
            have hfin := HFN.out _ (fun u => u.wf ∧ u.wt ≤ 2 * tw + 400) _ _ _ _ _ _ _ _ _ _ _ _ _ hO7 hS7 (hP)
            unfold put3 at hfin
            have HFI := Lib.hid hfin
            clear hfin
            go_wp2
            exact bodyPost_ret (v := .agg #[.slice an ln cn, .slice ak lk ck, .slice an3 ln3 cn3]) (by simp [results, Tryz.results17, go_sem, z0, z1, z2]) rfl HFI.out
          · go_simp
            try go_wp2_with fail
            refine hK.out _ _ ?_ (fun hHeld => ?_)
            · trivial
            clear hK K
            try simp only [Act.put, List.setIfInBounds_toArray, List.set_cons_zero, List.set_cons_succ]
            refine wpAnyH_take (i := 8) (oi := ⟨some 116, Op.build 44 #[(0, Operand.tmp 115), (1, Operand.const (Value.int IntKind.i64 1))], 44, _, _, none⟩) (v := ?_) rfl (by kernel_rfl) (by kernel_rfl) (by kernel_rfl) (fun _ _ _ h => h) (Or.inl ⟨by rfl, ?_⟩) (by assumption) ?_
            rotate_left 1
            · (intro w hSw; (try dsimp only at hSw); go_simp; first | done | with_reducible rfl)
            try simp only [Act.put, List.setIfInBounds_toArray, List.set_cons_zero, List.set_cons_succ]
            refine wpAnyH_take (i := 9) (oi := ⟨some 117, Op.build 46 #[(0, Operand.const (Value.int IntKind.i64 31)), (1, Operand.tmp 116)], 46, _, _, none⟩) (v := ?_) rfl (by kernel_rfl) (by kernel_rfl) (by kernel_rfl) (fun _ _ _ h => h) (Or.inl ⟨by rfl, ?_⟩) (by assumption) ?_
            rotate_left 1
            · (intro w hSw; (try dsimp only at hSw); go_simp; first | done | with_reducible rfl)
            try simp only [Act.put, List.setIfInBounds_toArray, List.set_cons_zero, List.set_cons_succ]
            refine wpAnyH_ready (rs := [1, 10]) (by kernel_rfl) (by simp) ?_
            refine AllReadyH.cons (o := ⟨some 109, Op.load 25 (Operand.tmp 108), 25, _, _, none⟩) rfl (fun K hK => ?_) (AllReadyH.cons (o := ⟨some 118, Op.buildSlice 25 1 #[(0, Operand.tmp 117)], 25, _, _, none⟩) rfl (fun K hK => ?_) AllReadyH.nil)
            · go_simp
              try go_wp2_with fail
              refine hK.out _ _ ?_ (fun hHeld => ?_)
              · trivial
              clear hK K
              try simp only [Act.put, List.setIfInBounds_toArray, List.set_cons_zero, List.set_cons_succ]
              refine wpAnyH_ready (rs := [10]) (by kernel_rfl) (by simp) ?_
              refine AllReadyH.cons (o := ⟨some 118, Op.buildSlice 25 1 #[(0, Operand.tmp 117)], 25, _, _, none⟩) rfl (fun K hK => ?_) AllReadyH.nil
              go_simp
              try go_wp2_with fail
              refine hK.out _ _ ?_ (fun hHeld => ?_)
              · trivial
              clear hK K
              try simp only [Act.put, List.setIfInBounds_toArray, List.set_cons_zero, List.set_cons_succ]
              refine wpAnyH_ready (rs := [11]) (by kernel_rfl) (by simp) ?_
              refine AllReadyH.cons (o := ⟨some 119, Op.call { callee := Callee.builtin Builtin.append, args := #[Operand.tmp 109, Operand.tmp 118], argTypes := #[25, 25] }, 25, _, _, none⟩) rfl (fun K hK => ?_) AllReadyH.nil
              refine wp_row1_f (.tmp 109) (.tmp 118) 25 rfl RVa 46 24 _ Tryz.underlying25 Tryz.infoVal rfl (by decide) N (.slice an2 ln2 cn2) vs [⟨31, vz, 1⟩] (W6.heap.size + 1) 1 1 rfl rfl rfl HCL.out HOb.out.ob hzb hln ?_
              intro ak lk ck wn hnn hOn hBn hPn
              obtain ⟨y0, y1, y2, g0, g1, g2, -⟩ := (HOb.out.there2 hPn.out).open3
              refine hK.out _ _ ?_ (fun hHeld => ?_)
              · trivial
              clear hK K
              try simp only [Act.put, List.setIfInBounds_toArray, List.set_cons_zero, List.set_cons_succ]
              refine wpAnyH_take (i := 12) (oi := ⟨some 120, Op.fieldAddr 27 (Operand.tmp 9) 1, 0, _, _, none⟩) (v := ?_) rfl (by kernel_rfl) (by kernel_rfl) (by kernel_rfl) (fun _ _ _ h => h) (Or.inl ⟨by rfl, ?_⟩) (by assumption) ?_
              rotate_left 1
              · (intro w hSw; (try dsimp only at hSw); go_simp; first | done | with_reducible rfl)
              try simp only [Act.put, List.setIfInBounds_toArray, List.set_cons_zero, List.set_cons_succ]
              refine wpAnyH_ready (rs := [13]) (by kernel_rfl) (by simp) ?_
              refine AllReadyH.cons (o := ⟨none, Op.store 25 (Operand.tmp 120) (Operand.tmp 119), 0, _, _, none⟩) rfl (fun K hK => ?_) AllReadyH.nil
              go_simp
              go_wp2_with fail
              refine hK.out _ _ ?_ (fun hHeld => ?_)
              · trivial
              clear hK K
              try simp only [Act.put, List.setIfInBounds_toArray, List.set_cons_zero, List.set_cons_succ]
              refine wpAnyH_done (by kernel_rfl) ?_ _
              refine NoPanic.normal ?_
              have hO7 := HOb.out.set2 hPn.out hOn.out
              have hS7 : Since W2 (wn.setCell ⟨N, 1, none⟩ (.slice ak lk ck)) := since_put HSZ.out (Since.step HS6.out HSb.out) hBn.out _ _
              generalize wn.setCell ⟨N, 1, none⟩ (.slice ak lk ck) = W7 at *
              clear y0 y1 y2 g0 g1 g2 x0 x1 x2
              obtain ⟨z0, z1, z2, zf0, zf1, zf2, -⟩ := (HR.out.keep hS7).open3
              have hP := spoil_P HW1.out (mem_app HW2.out (mem_one (P := Va.wf) (x := ⟨31, vz, 1⟩) ⟨i64_31, HVZ.out, i64_1⟩)) HW3.out (by simp only [List.length_append, List.length_singleton]; have := HW.out; omega) hwt
              obtain ⟨x0, x1, x2, f0, f1, f2, -⟩ := hO7.box.open3
              have hfin := HFN.out _ (fun u => u.wf ∧ u.wt ≤ 2 * tw + 400) _ _ _ _ _ _ _ _ _ _ _ _ _ hO7 hS7 (hP)
              unfold put3 at hfin
              have HFI := Lib.hid hfin
              clear hfin
              go_wp2
              exact bodyPost_ret (v := .agg #[.slice an ln cn, .slice ak lk ck, .slice an3 ln3 cn3]) (by simp [results, Tryz.results17, go_sem, z0, z1, z2]) rfl HFI.out
            · go_simp
              try go_wp2_with fail
              refine hK.out _ _ ?_ (fun hHeld => ?_)
              · trivial
              clear hK K
              try simp only [Act.put, List.setIfInBounds_toArray, List.set_cons_zero, List.set_cons_succ]
              refine wpAnyH_ready (rs := [1]) (by kernel_rfl) (by simp) ?_
              refine AllReadyH.cons (o := ⟨some 109, Op.load 25 (Operand.tmp 108), 25, _, _, none⟩) rfl (fun K hK => ?_) AllReadyH.nil
              go_simp
              try go_wp2_with fail
              refine hK.out _ _ ?_ (fun hHeld => ?_)
              · trivial
              clear hK K
              try simp only [Act.put, List.setIfInBounds_toArray, List.set_cons_zero, List.set_cons_succ]
              refine wpAnyH_ready (rs := [11]) (by kernel_rfl) (by simp) ?_
              refine AllReadyH.cons (o := ⟨some 119, Op.call { callee := Callee.builtin Builtin.append, args := #[Operand.tmp 109, Operand.tmp 118], argTypes := #[25, 25] }, 25, _, _, none⟩) rfl (fun K hK => ?_) AllReadyH.nil
              refine wp_row1_f (.tmp 109) (.tmp 118) 25 rfl RVa 46 24 _ Tryz.underlying25 Tryz.infoVal rfl (by decide) N (.slice an2 ln2 cn2) vs [⟨31, vz, 1⟩] (W6.heap.size + 1) 1 1 rfl rfl rfl HCL.out HOb.out.ob hzb hln ?_
              intro ak lk ck wn hnn hOn hBn hPn
              obtain ⟨y0, y1, y2, g0, g1, g2, -⟩ := (HOb.out.there2 hPn.out).open3
              refine hK.out _ _ ?_ (fun hHeld => ?_)
              · trivial
              clear hK K
              try simp only [Act.put, List.setIfInBounds_toArray, List.set_cons_zero, List.set_cons_succ]
              refine wpAnyH_take (i := 12) (oi := ⟨some 120, Op.fieldAddr 27 (Operand.tmp 9) 1, 0, _, _, none⟩) (v := ?_) rfl (by kernel_rfl) (by kernel_rfl) (by kernel_rfl) (fun _ _ _ h => h) (Or.inl ⟨by rfl, ?_⟩) (by assumption) ?_
              rotate_left 1
              · (intro w hSw; (try dsimp only at hSw); go_simp; first | done | with_reducible rfl)
              try simp only [Act.put, List.setIfInBounds_toArray, List.set_cons_zero, List.set_cons_succ]
              refine wpAnyH_ready (rs := [13]) (by kernel_rfl) (by simp) ?_
              refine AllReadyH.cons (o := ⟨none, Op.store 25 (Operand.tmp 120) (Operand.tmp 119), 0, _, _, none⟩) rfl (fun K hK => ?_) AllReadyH.nil
              go_simp
              go_wp2_with fail
              refine hK.out _ _ ?_ (fun hHeld => ?_)
              · trivial
              clear hK K
              try simp only [Act.put, List.setIfInBounds_toArray, List.set_cons_zero, List.set_cons_succ]
              refine wpAnyH_done (by kernel_rfl) ?_ _
              refine NoPanic.normal ?_
              have hO7 := HOb.out.set2 hPn.out hOn.out
              have hS7 : Since W2 (wn.setCell ⟨N, 1, none⟩ (.slice ak lk ck)) := since_put HSZ.out (Since.step HS6.out HSb.out) hBn.out _ _
              generalize wn.setCell ⟨N, 1, none⟩ (.slice ak lk ck) = W7 at *
              clear y0 y1 y2 g0 g1 g2 x0 x1 x2
              obtain ⟨z0, z1, z2, zf0, zf1, zf2, -⟩ := (HR.out.keep hS7).open3
              have hP := spoil_P HW1.out (mem_app HW2.out (mem_one (P := Va.wf) (x := ⟨31, vz, 1⟩) ⟨i64_31, HVZ.out, i64_1⟩)) HW3.out (by simp only [List.length_append, List.length_singleton]; have := HW.out; omega) hwt
              obtain ⟨x0, x1, x2, f0, f1, f2, -⟩ := hO7.box.open3
              have hfin := HFN.out _ (fun u => u.wf ∧ u.wt ≤ 2 * tw + 400) _ _ _ _ _ _ _ _ _ _ _ _ _ hO7 hS7 (hP)
              unfold put3 at hfin
              have HFI := Lib.hid hfin
              clear hfin
              go_wp2
              exact bodyPost_ret (v := .agg #[.slice an ln cn, .slice ak lk ck, .slice an3 ln3 cn3]) (by simp [results, Tryz.results17, go_sem, z0, z1, z2]) rfl HFI.out
      · go_simp
        go_at_call 18
        refine (KB.out _).mono ?_
        rintro e _ ⟨rfl, rfl⟩
        try go_wp2_with fail
        refine hK.out _ _ ?_ (fun hHeld => ?_)
        · trivial
        clear hK K
        try simp only [Act.put, List.setIfInBounds_toArray, List.set_cons_zero, List.set_cons_succ]
        refine wpAnyH_ready (rs := [1, 3]) (by kernel_rfl) (by simp) ?_
        refine AllReadyH.cons (o := ⟨some 109, Op.load 25 (Operand.tmp 108), 25, _, _, none⟩) rfl (fun K hK => ?_) (AllReadyH.cons (o := ⟨some 111, Op.buildSlice 22 4 #[(0, Operand.tmp 110), (1, Operand.const (Value.int IntKind.i64 1099511627776)), (2, Operand.const (Value.int IntKind.i64 (-1099511627776))), (3, Operand.const (Value.int IntKind.i64 1099511627777))], 22, _, _, none⟩) rfl (fun K hK => ?_) AllReadyH.nil)
        · go_simp
          try go_wp2_with fail
          refine hK.out _ _ ?_ (fun hHeld => ?_)
          · trivial
          clear hK K
          try simp only [Act.put, List.setIfInBounds_toArray, List.set_cons_zero, List.set_cons_succ]
          refine wpAnyH_ready (rs := [3]) (by kernel_rfl) (by simp) ?_
          refine AllReadyH.cons (o := ⟨some 111, Op.buildSlice 22 4 #[(0, Operand.tmp 110), (1, Operand.const (Value.int IntKind.i64 1099511627776)), (2, Operand.const (Value.int IntKind.i64 (-1099511627776))), (3, Operand.const (Value.int IntKind.i64 1099511627777))], 22, _, _, none⟩) rfl (fun K hK => ?_) AllReadyH.nil
          go_simp
          try go_wp2_with fail
          refine hK.out _ _ ?_ (fun hHeld => ?_)
          · trivial
          clear hK K
          try simp only [Act.put, List.setIfInBounds_toArray, List.set_cons_zero, List.set_cons_succ]
          refine wpAnyH_take (i := 6) (oi := ⟨some 114, Op.indexAddr 22 (Operand.tmp 111) (Operand.tmp 113), 0, _, _, none⟩) (v := ?_) rfl (by kernel_rfl) (by kernel_rfl) (by kernel_rfl) (fun _ _ _ h => h) (Or.inl ⟨by rfl, ?_⟩) (by assumption) ?_
          rotate_left 1
          · (intro w hSw; (try dsimp only at hSw); go_simp; first | done | with_reducible rfl)
          try simp only [Act.put, List.setIfInBounds_toArray, List.set_cons_zero, List.set_cons_succ]
          refine wpAnyH_ready (rs := [7]) (by kernel_rfl) (by simp) ?_
          refine AllReadyH.cons (o := ⟨some 115, Op.load 3 (Operand.tmp 114), 3, _, _, none⟩) rfl (fun K hK => ?_) AllReadyH.nil
          go_simp
          try go_wp2_with fail
          refine hK.out _ _ ?_ (fun hHeld => ?_)
          · trivial
          clear hK K
          try simp only [Act.put, List.setIfInBounds_toArray, List.set_cons_zero, List.set_cons_succ]
          refine wpAnyH_take (i := 8) (oi := ⟨some 116, Op.build 44 #[(0, Operand.tmp 115), (1, Operand.const (Value.int IntKind.i64 1))], 44, _, _, none⟩) (v := ?_) rfl (by kernel_rfl) (by kernel_rfl) (by kernel_rfl) (fun _ _ _ h => h) (Or.inl ⟨by rfl, ?_⟩) (by assumption) ?_
          rotate_left 1
          · (intro w hSw; (try dsimp only at hSw); go_simp; first | done | with_reducible rfl)
          try simp only [Act.put, List.setIfInBounds_toArray, List.set_cons_zero, List.set_cons_succ]
          refine wpAnyH_take (i := 9) (oi := ⟨some 117, Op.build 46 #[(0, Operand.const (Value.int IntKind.i64 31)), (1, Operand.tmp 116)], 46, _, _, none⟩) (v := ?_) rfl (by kernel_rfl) (by kernel_rfl) (by kernel_rfl) (fun _ _ _ h => h) (Or.inl ⟨by rfl, ?_⟩) (by assumption) ?_
          rotate_left 1
          · (intro w hSw; (try dsimp only at hSw); go_simp; first | done | with_reducible rfl)
          try simp only [Act.put, List.setIfInBounds_toArray, List.set_cons_zero, List.set_cons_succ]
          refine wpAnyH_ready (rs := [10]) (by kernel_rfl) (by simp) ?_
          refine AllReadyH.cons (o := ⟨some 118, Op.buildSlice 25 1 #[(0, Operand.tmp 117)], 25, _, _, none⟩) rfl (fun K hK => ?_) AllReadyH.nil
          go_simp
          try go_wp2_with fail
          refine hK.out _ _ ?_ (fun hHeld => ?_)
          · trivial
          clear hK K
          try simp only [Act.put, List.setIfInBounds_toArray, List.set_cons_zero, List.set_cons_succ]
          refine wpAnyH_ready (rs := [11]) (by kernel_rfl) (by simp) ?_
          refine AllReadyH.cons (o := ⟨some 119, Op.call { callee := Callee.builtin Builtin.append, args := #[Operand.tmp 109, Operand.tmp 118], argTypes := #[25, 25] }, 25, _, _, none⟩) rfl (fun K hK => ?_) AllReadyH.nil
          refine wp_row1_f (.tmp 109) (.tmp 118) 25 rfl RVa 46 24 _ Tryz.underlying25 Tryz.infoVal rfl (by decide) N (.slice an2 ln2 cn2) vs [⟨31, vz, 1⟩] (W6.heap.size + 1) 1 1 rfl rfl rfl HCL.out HOb.out.ob hzb hln ?_
          intro ak lk ck wn hnn hOn hBn hPn
          obtain ⟨y0, y1, y2, g0, g1, g2, -⟩ := (HOb.out.there2 hPn.out).open3
          refine hK.out _ _ ?_ (fun hHeld => ?_)
          · trivial
          clear hK K
          try simp only [Act.put, List.setIfInBounds_toArray, List.set_cons_zero, List.set_cons_succ]
          refine wpAnyH_take (i := 12) (oi := ⟨some 120, Op.fieldAddr 27 (Operand.tmp 9) 1, 0, _, _, none⟩) (v := ?_) rfl (by kernel_rfl) (by kernel_rfl) (by kernel_rfl) (fun _ _ _ h => h) (Or.inl ⟨by rfl, ?_⟩) (by assumption) ?_
          rotate_left 1
          · (intro w hSw; (try dsimp only at hSw); go_simp; first | done | with_reducible rfl)
          try simp only [Act.put, List.setIfInBounds_toArray, List.set_cons_zero, List.set_cons_succ]
          refine wpAnyH_ready (rs := [13]) (by kernel_rfl) (by simp) ?_
          refine AllReadyH.cons (o := ⟨none, Op.store 25 (Operand.tmp 120) (Operand.tmp 119), 0, _, _, none⟩) rfl (fun K hK => ?_) AllReadyH.nil
          go_simp
          go_wp2_with fail
          refine hK.out _ _ ?_ (fun hHeld => ?_)
          · trivial
          clear hK K
          try simp only [Act.put, List.setIfInBounds_toArray, List.set_cons_zero, List.set_cons_succ]
          refine wpAnyH_done (by kernel_rfl) ?_ _
          refine NoPanic.normal ?_
          have hO7 := HOb.out.set2 hPn.out hOn.out
          have hS7 : Since W2 (wn.setCell ⟨N, 1, none⟩ (.slice ak lk ck)) := since_put HSZ.out (Since.step HS6.out HSb.out) hBn.out _ _
          generalize wn.setCell ⟨N, 1, none⟩ (.slice ak lk ck) = W7 at *
          clear y0 y1 y2 g0 g1 g2 x0 x1 x2
          obtain ⟨z0, z1, z2, zf0, zf1, zf2, -⟩ := (HR.out.keep hS7).open3
          have hP := spoil_P HW1.out (mem_app HW2.out (mem_one (P := Va.wf) (x := ⟨31, vz, 1⟩) ⟨i64_31, HVZ.out, i64_1⟩)) HW3.out (by simp only [List.length_append, List.length_singleton]; have := HW.out; omega) hwt
          obtain ⟨x0, x1, x2, f0, f1, f2, -⟩ := hO7.box.open3
          have hfin := HFN.out _ (fun u => u.wf ∧ u.wt ≤ 2 * tw + 400) _ _ _ _ _ _ _ _ _ _ _ _ _ hO7 hS7 (hP)
          unfold put3 at hfin
          have HFI := Lib.hid hfin
          clear hfin
          go_wp2
          exact bodyPost_ret (v := .agg #[.slice an ln cn, .slice ak lk ck, .slice an3 ln3 cn3]) (by simp [results, Tryz.results17, go_sem, z0, z1, z2]) rfl HFI.out
        · go_simp
          try go_wp2_with fail
          refine hK.out _ _ ?_ (fun hHeld => ?_)
          · trivial
          clear hK K
          try simp only [Act.put, List.setIfInBounds_toArray, List.set_cons_zero, List.set_cons_succ]
          refine wpAnyH_take (i := 6) (oi := ⟨some 114, Op.indexAddr 22 (Operand.tmp 111) (Operand.tmp 113), 0, _, _, none⟩) (v := ?_) rfl (by kernel_rfl) (by kernel_rfl) (by kernel_rfl) (fun _ _ _ h => h) (Or.inl ⟨by rfl, ?_⟩) (by assumption) ?_
          rotate_left 1
          · (intro w hSw; (try dsimp only at hSw); go_simp; first | done | with_reducible rfl)
          try simp only [Act.put, List.setIfInBounds_toArray, List.set_cons_zero, List.set_cons_succ]
          refine wpAnyH_ready (rs := [1, 7]) (by kernel_rfl) (by simp) ?_
          refine AllReadyH.cons (o := ⟨some 109, Op.load 25 (Operand.tmp 108), 25, _, _, none⟩) rfl (fun K hK => ?_) (AllReadyH.cons (o := ⟨some 115, Op.load 3 (Operand.tmp 114), 3, _, _, none⟩) rfl (fun K hK => ?_) AllReadyH.nil)
          · go_simp
            try go_wp2_with fail
            refine hK.out _ _ ?_ (fun hHeld => ?_)
            · trivial
            clear hK K
            try simp only [Act.put, List.setIfInBounds_toArray, List.set_cons_zero, List.set_cons_succ]
            refine wpAnyH_ready (rs := [7]) (by kernel_rfl) (by simp) ?_
            refine AllReadyH.cons (o := ⟨some 115, Op.load 3 (Operand.tmp 114), 3, _, _, none⟩) rfl (fun K hK => ?_) AllReadyH.nil
            go_simp
            try go_wp2_with fail
            refine hK.out _ _ ?_ (fun hHeld => ?_)
            · trivial
            clear hK K
            try simp only [Act.put, List.setIfInBounds_toArray, List.set_cons_zero, List.set_cons_succ]
            refine wpAnyH_take (i := 8) (oi := ⟨some 116, Op.build 44 #[(0, Operand.tmp 115), (1, Operand.const (Value.int IntKind.i64 1))], 44, _, _, none⟩) (v := ?_) rfl (by kernel_rfl) (by kernel_rfl) (by kernel_rfl) (fun _ _ _ h => h) (Or.inl ⟨by rfl, ?_⟩) (by assumption) ?_
            rotate_left 1
            · (intro w hSw; (try dsimp only at hSw); go_simp; first | done | with_reducible rfl)
            try simp only [Act.put, List.setIfInBounds_toArray, List.set_cons_zero, List.set_cons_succ]
            refine wpAnyH_take (i := 9) (oi := ⟨some 117, Op.build 46 #[(0, Operand.const (Value.int IntKind.i64 31)), (1, Operand.tmp 116)], 46, _, _, none⟩) (v := ?_) rfl (by kernel_rfl) (by kernel_rfl) (by kernel_rfl) (fun _ _ _ h => h) (Or.inl ⟨by rfl, ?_⟩) (by assumption) ?_
            rotate_left 1
            · (intro w hSw; (try dsimp only at hSw); go_simp; first | done | with_reducible rfl)
            try simp only [Act.put, List.setIfInBounds_toArray, List.set_cons_zero, List.set_cons_succ]
            refine wpAnyH_ready (rs := [10]) (by kernel_rfl) (by simp) ?_
            refine AllReadyH.cons (o := ⟨some 118, Op.buildSlice 25 1 #[(0, Operand.tmp 117)], 25, _, _, none⟩) rfl (fun K hK => ?_) AllReadyH.nil
            go_simp
            try go_wp2_with fail
            refine hK.out _ _ ?_ (fun hHeld => ?_)
            · trivial
            clear hK K
            try simp only [Act.put, List.setIfInBounds_toArray, List.set_cons_zero, List.set_cons_succ]
            refine wpAnyH_ready (rs := [11]) (by kernel_rfl) (by simp) ?_
            refine AllReadyH.cons (o := ⟨some 119, Op.call { callee := Callee.builtin Builtin.append, args := #[Operand.tmp 109, Operand.tmp 118], argTypes := #[25, 25] }, 25, _, _, none⟩) rfl (fun K hK => ?_) AllReadyH.nil
            refine wp_row1_f (.tmp 109) (.tmp 118) 25 rfl RVa 46 24 _ Tryz.underlying25 Tryz.infoVal rfl (by decide) N (.slice an2 ln2 cn2) vs [⟨31, vz, 1⟩] (W6.heap.size + 1) 1 1 rfl rfl rfl HCL.out HOb.out.ob hzb hln ?_
            intro ak lk ck wn hnn hOn hBn hPn
            obtain ⟨y0, y1, y2, g0, g1, g2, -⟩ := (HOb.out.there2 hPn.out).open3
            refine hK.out _ _ ?_ (fun hHeld => ?_)
            · trivial
            clear hK K
            try simp only [Act.put, List.setIfInBounds_toArray, List.set_cons_zero, List.set_cons_succ]
            refine wpAnyH_take (i := 12) (oi := ⟨some 120, Op.fieldAddr 27 (Operand.tmp 9) 1, 0, _, _, none⟩) (v := ?_) rfl (by kernel_rfl) (by kernel_rfl) (by kernel_rfl) (fun _ _ _ h => h) (Or.inl ⟨by rfl, ?_⟩) (by assumption) ?_
            rotate_left 1
            · (intro w hSw; (try dsimp only at hSw); go_simp; first | done | with_reducible rfl)
            try simp only [Act.put, List.setIfInBounds_toArray, List.set_cons_zero, List.set_cons_succ]
            refine wpAnyH_ready (rs := [13]) (by kernel_rfl) (by simp) ?_
            refine AllReadyH.cons (o := ⟨none, Op.store 25 (Operand.tmp 120) (Operand.tmp 119), 0, _, _, none⟩) rfl (fun K hK => ?_) AllReadyH.nil
            go_simp
            go_wp2_with fail
            refine hK.out _ _ ?_ (fun hHeld => ?_)
            · trivial
            clear hK K
            try simp only [Act.put, List.setIfInBounds_toArray, List.set_cons_zero, List.set_cons_succ]
            refine wpAnyH_done (by kernel_rfl) ?_ _
            refine NoPanic.normal ?_
            have hO7 := HOb.out.set2 hPn.out hOn.out
            have hS7 : Since W2 (wn.setCell ⟨N, 1, none⟩ (.slice ak lk ck)) := since_put HSZ.out (Since.step HS6.out HSb.out) hBn.out _ _
            generalize wn.setCell ⟨N, 1, none⟩ (.slice ak lk ck) = W7 at *
            clear y0 y1 y2 g0 g1 g2 x0 x1 x2
            obtain ⟨z0, z1, z2, zf0, zf1, zf2, -⟩ := (HR.out.keep hS7).open3
            have hP := spoil_P HW1.out (mem_app HW2.out (mem_one (P := Va.wf) (x := ⟨31, vz, 1⟩) ⟨i64_31, HVZ.out, i64_1⟩)) HW3.out (by simp only [List.length_append, List.length_singleton]; have := HW.out; omega) hwt
            obtain ⟨x0, x1, x2, f0, f1, f2, -⟩ := hO7.box.open3
            have hfin := HFN.out _ (fun u => u.wf ∧ u.wt ≤ 2 * tw + 400) _ _ _ _ _ _ _ _ _ _ _ _ _ hO7 hS7 (hP)
            unfold put3 at hfin
            have HFI := Lib.hid hfin
            clear hfin
            go_wp2
            exact bodyPost_ret (v := .agg #[.slice an ln cn, .slice ak lk ck, .slice an3 ln3 cn3]) (by simp [results, Tryz.results17, go_sem, z0, z1, z2]) rfl HFI.out
          · go_simp
            try go_wp2_with fail
            refine hK.out _ _ ?_ (fun hHeld => ?_)
            · trivial
            clear hK K
            try simp only [Act.put, List.setIfInBounds_toArray, List.set_cons_zero, List.set_cons_succ]
            refine wpAnyH_take (i := 8) (oi := ⟨some 116, Op.build 44 #[(0, Operand.tmp 115), (1, Operand.const (Value.int IntKind.i64 1))], 44, _, _, none⟩) (v := ?_) rfl (by kernel_rfl) (by kernel_rfl) (by kernel_rfl) (fun _ _ _ h => h) (Or.inl ⟨by rfl, ?_⟩) (by assumption) ?_
            rotate_left 1
            · (intro w hSw; (try dsimp only at hSw); go_simp; first | done | with_reducible rfl)
            try simp only [Act.put, List.setIfInBounds_toArray, List.set_cons_zero, List.set_cons_succ]
            refine wpAnyH_take (i := 9) (oi := ⟨some 117, Op.build 46 #[(0, Operand.const (Value.int IntKind.i64 31)), (1, Operand.tmp 116)], 46, _, _, none⟩) (v := ?_) rfl (by kernel_rfl) (by kernel_rfl) (by kernel_rfl) (fun _ _ _ h => h) (Or.inl ⟨by rfl, ?_⟩) (by assumption) ?_
            rotate_left 1
            · (intro w hSw; (try dsimp only at hSw); go_simp; first | done | with_reducible rfl)
            try simp only [Act.put, List.setIfInBounds_toArray, List.set_cons_zero, List.set_cons_succ]
            refine wpAnyH_ready (rs := [1, 10]) (by kernel_rfl) (by simp) ?_
            refine AllReadyH.cons (o := ⟨some 109, Op.load 25 (Operand.tmp 108), 25, _, _, none⟩) rfl (fun K hK => ?_) (AllReadyH.cons (o := ⟨some 118, Op.buildSlice 25 1 #[(0, Operand.tmp 117)], 25, _, _, none⟩) rfl (fun K hK => ?_) AllReadyH.nil)
            · go_simp
              try go_wp2_with fail
              refine hK.out _ _ ?_ (fun hHeld => ?_)
              · trivial
              clear hK K
              try simp only [Act.put, List.setIfInBounds_toArray, List.set_cons_zero, List.set_cons_succ]
              refine wpAnyH_ready (rs := [10]) (by kernel_rfl) (by simp) ?_
              refine AllReadyH.cons (o := ⟨some 118, Op.buildSlice 25 1 #[(0, Operand.tmp 117)], 25, _, _, none⟩) rfl (fun K hK => ?_) AllReadyH.nil
              go_simp
              try go_wp2_with fail
              refine hK.out _ _ ?_ (fun hHeld => ?_)
              · trivial
              clear hK K
              try simp only [Act.put, List.setIfInBounds_toArray, List.set_cons_zero, List.set_cons_succ]
              refine wpAnyH_ready (rs := [11]) (by kernel_rfl) (by simp) ?_
              refine AllReadyH.cons (o := ⟨some 119, Op.call { callee := Callee.builtin Builtin.append, args := #[Operand.tmp 109, Operand.tmp 118], argTypes := #[25, 25] }, 25, _, _, none⟩) rfl (fun K hK => ?_) AllReadyH.nil
              refine wp_row1_f (.tmp 109) (.tmp 118) 25 rfl RVa 46 24 _ Tryz.underlying25 Tryz.infoVal rfl (by decide) N (.slice an2 ln2 cn2) vs [⟨31, vz, 1⟩] (W6.heap.size + 1) 1 1 rfl rfl rfl HCL.out HOb.out.ob hzb hln ?_
              intro ak lk ck wn hnn hOn hBn hPn
              obtain ⟨y0, y1, y2, g0, g1, g2, -⟩ := (HOb.out.there2 hPn.out).open3
              refine hK.out _ _ ?_ (fun hHeld => ?_)
              · trivial
              clear hK K
              try simp only [Act.put, List.setIfInBounds_toArray, List.set_cons_zero, List.set_cons_succ]
              refine wpAnyH_take (i := 12) (oi := ⟨some 120, Op.fieldAddr 27 (Operand.tmp 9) 1, 0, _, _, none⟩) (v := ?_) rfl (by kernel_rfl) (by kernel_rfl) (by kernel_rfl) (fun _ _ _ h => h) (Or.inl ⟨by rfl, ?_⟩) (by assumption) ?_
              rotate_left 1
              · (intro w hSw; (try dsimp only at hSw); go_simp; first | done | with_reducible rfl)
              try simp only [Act.put, List.setIfInBounds_toArray, List.set_cons_zero, List.set_cons_succ]
              refine wpAnyH_ready (rs := [13]) (by kernel_rfl) (by simp) ?_
              refine AllReadyH.cons (o := ⟨none, Op.store 25 (Operand.tmp 120) (Operand.tmp 119), 0, _, _, none⟩) rfl (fun K hK => ?_) AllReadyH.nil
              go_simp
              go_wp2_with fail
              refine hK.out _ _ ?_ (fun hHeld => ?_)
              · trivial
              clear hK K
              try simp only [Act.put, List.setIfInBounds_toArray, List.set_cons_zero, List.set_cons_succ]
              refine wpAnyH_done (by kernel_rfl) ?_ _
              refine NoPanic.normal ?_
              have hO7 := HOb.out.set2 hPn.out hOn.out
              have hS7 : Since W2 (wn.setCell ⟨N, 1, none⟩ (.slice ak lk ck)) := since_put HSZ.out (Since.step HS6.out HSb.out) hBn.out _ _
              generalize wn.setCell ⟨N, 1, none⟩ (.slice ak lk ck) = W7 at *
              clear y0 y1 y2 g0 g1 g2 x0 x1 x2
              obtain ⟨z0, z1, z2, zf0, zf1, zf2, -⟩ := (HR.out.keep hS7).open3
              have hP := spoil_P HW1.out (mem_app HW2.out (mem_one (P := Va.wf) (x := ⟨31, vz, 1⟩) ⟨i64_31, HVZ.out, i64_1⟩)) HW3.out (by simp only [List.length_append, List.length_singleton]; have := HW.out; omega) hwt
              obtain ⟨x0, x1, x2, f0, f1, f2, -⟩ := hO7.box.open3
              have hfin := HFN.out _ (fun u => u.wf ∧ u.wt ≤ 2 * tw + 400) _ _ _ _ _ _ _ _ _ _ _ _ _ hO7 hS7 (hP)
              unfold put3 at hfin
              have HFI := Lib.hid hfin
              clear hfin
              go_wp2
              exact bodyPost_ret (v := .agg #[.slice an ln cn, .slice ak lk ck, .slice an3 ln3 cn3]) (by simp [results, Tryz.results17, go_sem, z0, z1, z2]) rfl HFI.out
            · go_simp
              try go_wp2_with fail
              refine hK.out _ _ ?_ (fun hHeld => ?_)
              · trivial
              clear hK K
              try simp only [Act.put, List.setIfInBounds_toArray, List.set_cons_zero, List.set_cons_succ]
              refine wpAnyH_ready (rs := [1]) (by kernel_rfl) (by simp) ?_
              refine AllReadyH.cons (o := ⟨some 109, Op.load 25 (Operand.tmp 108), 25, _, _, none⟩) rfl (fun K hK => ?_) AllReadyH.nil
              go_simp
              try go_wp2_with fail
              refine hK.out _ _ ?_ (fun hHeld => ?_)
              · trivial
              clear hK K
              try simp only [Act.put, List.setIfInBounds_toArray, List.set_cons_zero, List.set_cons_succ]
              refine wpAnyH_ready (rs := [11]) (by kernel_rfl) (by simp) ?_
              refine AllReadyH.cons (o := ⟨some 119, Op.call { callee := Callee.builtin Builtin.append, args := #[Operand.tmp 109, Operand.tmp 118], argTypes := #[25, 25] }, 25, _, _, none⟩) rfl (fun K hK => ?_) AllReadyH.nil
              refine wp_row1_f (.tmp 109) (.tmp 118) 25 rfl RVa 46 24 _ Tryz.underlying25 Tryz.infoVal rfl (by decide) N (.slice an2 ln2 cn2) vs [⟨31, vz, 1⟩] (W6.heap.size + 1) 1 1 rfl rfl rfl HCL.out HOb.out.ob hzb hln ?_
              intro ak lk ck wn hnn hOn hBn hPn
              obtain ⟨y0, y1, y2, g0, g1, g2, -⟩ := (HOb.out.there2 hPn.out).open3
              refine hK.out _ _ ?_ (fun hHeld => ?_)
              · trivial
              clear hK K
              try simp only [Act.put, List.setIfInBounds_toArray, List.set_cons_zero, List.set_cons_succ]
              refine wpAnyH_take (i := 12) (oi := ⟨some 120, Op.fieldAddr 27 (Operand.tmp 9) 1, 0, _, _, none⟩) (v := ?_) rfl (by kernel_rfl) (by kernel_rfl) (by kernel_rfl) (fun _ _ _ h => h) (Or.inl ⟨by rfl, ?_⟩) (by assumption) ?_
              rotate_left 1
              · (intro w hSw; (try dsimp only at hSw); go_simp; first | done | with_reducible rfl)
              try simp only [Act.put, List.setIfInBounds_toArray, List.set_cons_zero, List.set_cons_succ]
              refine wpAnyH_ready (rs := [13]) (by kernel_rfl) (by simp) ?_
              refine AllReadyH.cons (o := ⟨none, Op.store 25 (Operand.tmp 120) (Operand.tmp 119), 0, _, _, none⟩) rfl (fun K hK => ?_) AllReadyH.nil
              go_simp
              go_wp2_with fail
              refine hK.out _ _ ?_ (fun hHeld => ?_)
              · trivial
              clear hK K
              try simp only [Act.put, List.setIfInBounds_toArray, List.set_cons_zero, List.set_cons_succ]
              refine wpAnyH_done (by kernel_rfl) ?_ _
              refine NoPanic.normal ?_
              have hO7 := HOb.out.set2 hPn.out hOn.out
              have hS7 : Since W2 (wn.setCell ⟨N, 1, none⟩ (.slice ak lk ck)) := since_put HSZ.out (Since.step HS6.out HSb.out) hBn.out _ _
              generalize wn.setCell ⟨N, 1, none⟩ (.slice ak lk ck) = W7 at *
              clear y0 y1 y2 g0 g1 g2 x0 x1 x2
              obtain ⟨z0, z1, z2, zf0, zf1, zf2, -⟩ := (HR.out.keep hS7).open3
              have hP := spoil_P HW1.out (mem_app HW2.out (mem_one (P := Va.wf) (x := ⟨31, vz, 1⟩) ⟨i64_31, HVZ.out, i64_1⟩)) HW3.out (by simp only [List.length_append, List.length_singleton]; have := HW.out; omega) hwt
              obtain ⟨x0, x1, x2, f0, f1, f2, -⟩ := hO7.box.open3
              have hfin := HFN.out _ (fun u => u.wf ∧ u.wt ≤ 2 * tw + 400) _ _ _ _ _ _ _ _ _ _ _ _ _ hO7 hS7 (hP)
              unfold put3 at hfin
              have HFI := Lib.hid hfin
              clear hfin
              go_wp2
              exact bodyPost_ret (v := .agg #[.slice an ln cn, .slice ak lk ck, .slice an3 ln3 cn3]) (by simp [results, Tryz.results17, go_sem, z0, z1, z2]) rfl HFI.out
    · -- case 3
      obtain ⟨r5, hr5, hr59⟩ := around_nat z 5 (by decide)
      have hr5' : aroundI z 5 = (r5 : Int) := hr5
      have kb := fun W' => KA.out z 5 W' ⟨hz1, hz2⟩ (by decide) (by decide)
      rw [hr5'] at kb
      clear hr5 hr5' KA3
      have KB := Lib.hid kb
      clear kb
      have h51 : (r5 : Int) < 5 := by omega
      have h52 : (0 : Int) ≤ (r5 : Int) := by omega
      have h53 : ((r5 : Int)).toNat = r5 := by omega
      obtain ⟨vz, hvz, htb⟩ := tab5 (r := r5) hr59 (a := z) (b := 0) (c := (-1)) (d := 65536) (e := 65537) ⟨hz1, hz2⟩ ⟨by decide, by decide⟩ ⟨by decide, by decide⟩ ⟨by decide, by decide⟩ ⟨by decide, by decide⟩
      have HVZ := Lib.hid hvz
      have hxd : W6.drew.cell? ⟨N, 1, none⟩ = some (.slice an2 ln2 cn2) := Since.cell (Below.drew (Below.refl _ _)) x1
      have hxa : (W6.drew.alloc (.cells #[.int .i64 z, .int .i64 0, .int .i64 (-1), .int .i64 65536, .int .i64 65537] 3)).cell? ⟨N, 1, none⟩ = some (.slice an2 ln2 cn2) := Since.cell (Since.adrew2 W6 _) x1
      have hxa2 : ((W6.alloc (.cells #[.int .i64 z, .int .i64 0, .int .i64 (-1), .int .i64 65536, .int .i64 65537] 3)).drew).cell? ⟨N, 1, none⟩ = some (.slice an2 ln2 cn2) := Since.cell (Since.adrew W6 _) x1
      have hxb2 : (((W6.alloc (.cells #[.int .i64 z, .int .i64 0, .int .i64 (-1), .int .i64 65536, .int .i64 65537] 3)).drew).alloc (.cells #[.int .i64 31, .int .i64 1, .int .i64 vz] 46)).cell? ⟨N, 1, none⟩ = some (.slice an2 ln2 cn2) := Since.cell (Since.alloc (Since.adrew W6 _) _) x1
      have hxb3 : (((W6.alloc (.cells #[.int .i64 z, .int .i64 0, .int .i64 (-1), .int .i64 65536, .int .i64 65537] 3)).alloc (.cells #[.int .i64 31, .int .i64 1, .int .i64 vz] 46)).drew).cell? ⟨N, 1, none⟩ = some (.slice an2 ln2 cn2) := Since.cell (Below.drew (Since.alloc (Since.alloc (Below.refl _ _) _) _)) x1
      have hl72 : ((W6.alloc (.cells #[.int .i64 z, .int .i64 0, .int .i64 (-1), .int .i64 65536, .int .i64 65537] 3)).drew).cell? ⟨W6.heap.size, r5, none⟩ = some (.int .i64 vz) := ((BoxL.made W6 _ _).2 r5 _ htb).1
      have hl7 : (W6.drew.alloc (.cells #[.int .i64 z, .int .i64 0, .int .i64 (-1), .int .i64 65536, .int .i64 65537] 3)).cell? ⟨W6.heap.size, r5, none⟩ = some (.int .i64 vz) := ((BoxL.made W6.drew _ _).2 r5 _ htb).1
      have hSb : Since W6 ((W6.drew.alloc (.cells #[.int .i64 z, .int .i64 0, .int .i64 (-1), .int .i64 65536, .int .i64 65537] 3)).alloc (.cells #[.int .i64 31, .int .i64 1, .int .i64 vz] 46)) := Since.alloc (Since.adrew2 W6 _) _
      have hxb := Since.cell hSb x1
      have hOb := HO6.out.frame hSb
      have hzb : N ≤ ((W6.drew.alloc (.cells #[.int .i64 z, .int .i64 0, .int .i64 (-1), .int .i64 65536, .int .i64 65537] 3)).alloc (.cells #[.int .i64 31, .int .i64 1, .int .i64 vz] 46)).heap.size := Nat.le_trans hzB (Below.size hSb)
      have hln : vs.length + 1 ≤ 1000000000 := by have := HW.out; omega
      have hcl : ∀ j u, ([⟨31, 1, vz⟩].flatMap RVa.cells)[j]? = some u → ((W6.drew.alloc (.cells #[.int .i64 z, .int .i64 0, .int .i64 (-1), .int .i64 65536, .int .i64 65537] 3)).alloc (.cells #[.int .i64 31, .int .i64 1, .int .i64 vz] 46)).cell? ⟨W6.heap.size + 1, j, none⟩ = some u := fun j u hu => by
        have hM := ((BoxL.made (W6.drew.alloc (.cells #[.int .i64 z, .int .i64 0, .int .i64 (-1), .int .i64 65536, .int .i64 65537] 3)) #[.int .i64 31, .int .i64 1, .int .i64 vz] 46).2 j u (by simpa [RVa] using hu)).1
        rw [World.size_alloc] at hM
        exact hM
      have HOb := Lib.hid hOb
      have HSb := Lib.hid hSb
      have HCL := Lib.hid hcl
      clear hOb hSb hcl htb hvz z0 z1 z2 zf0 zf1 zf2 f0 f1 f2
      go_upto_region 19 with (fail)
      refine wp_region_noPanic ?_
      refine wp_region_held_drew (S := fun _ => True) (by kernel_rfl) trivial (fun hHeld => ?_)
      refine wpAnyH_take (i := 0) (oi := ⟨some 123, Op.fieldAddr 27 (Operand.tmp 9) 1, 0, _, _, none⟩) (v := ?_) rfl (by kernel_rfl) (by kernel_rfl) (by kernel_rfl) (fun _ _ _ h => h) (Or.inl ⟨by rfl, ?_⟩) (by assumption) ?_
      rotate_left 1
      · (intro w hSw; (try dsimp only at hSw); go_simp; first | done | with_reducible rfl)
      try simp only [Act.put, List.setIfInBounds_toArray, List.set_cons_zero, List.set_cons_succ]
      refine wpAnyH_take (i := 2) (oi := ⟨some 125, Op.move (Operand.tmp 3), 3, _, _, none⟩) (v := ?_) rfl (by kernel_rfl) (by kernel_rfl) (by kernel_rfl) (fun _ _ _ h => h) (Or.inl ⟨by rfl, ?_⟩) (by assumption) ?_
      rotate_left 1
      · (intro w hSw; (try dsimp only at hSw); go_simp; first | done | with_reducible rfl)
      try simp only [Act.put, List.setIfInBounds_toArray, List.set_cons_zero, List.set_cons_succ]
      refine wpAnyH_take (i := 4) (oi := ⟨some 127, Op.move (Operand.tmp 3), 3, _, _, none⟩) (v := ?_) rfl (by kernel_rfl) (by kernel_rfl) (by kernel_rfl) (fun _ _ _ h => h) (Or.inl ⟨by rfl, ?_⟩) (by assumption) ?_
      rotate_left 1
      · (intro w hSw; (try dsimp only at hSw); go_simp; first | done | with_reducible rfl)
      try simp only [Act.put, List.setIfInBounds_toArray, List.set_cons_zero, List.set_cons_succ]
      refine wpAnyH_ready (rs := [1, 3, 5]) (by kernel_rfl) (by simp) ?_
      refine AllReadyH.cons (o := ⟨some 124, Op.load 25 (Operand.tmp 123), 25, _, _, none⟩) rfl (fun K hK => ?_) (AllReadyH.cons (o := ⟨some 126, Op.buildSlice 22 5 #[(0, Operand.tmp 125), (1, Operand.const (Value.int IntKind.i64 0)), (2, Operand.const (Value.int IntKind.i64 (-1))), (3, Operand.const (Value.int IntKind.i64 65536)), (4, Operand.const (Value.int IntKind.i64 65537))], 22, _, _, none⟩) rfl (fun K hK => ?_) (AllReadyH.cons (o := ⟨some 128, Op.call { callee := Callee.value (Operand.func 18), args := #[Operand.tmp 127, Operand.const (Value.int IntKind.i64 5)], argTypes := #[3, 3] }, 3, _, _, none⟩) rfl (fun K hK => ?_) AllReadyH.nil))
      · go_simp
        try go_wp2_with fail
        refine hK.out _ _ ?_ (fun hHeld => ?_)
        · trivial
        clear hK K
        try simp only [Act.put, List.setIfInBounds_toArray, List.set_cons_zero, List.set_cons_succ]
        refine wpAnyH_ready (rs := [3, 5]) (by kernel_rfl) (by simp) ?_
        refine AllReadyH.cons (o := ⟨some 126, Op.buildSlice 22 5 #[(0, Operand.tmp 125), (1, Operand.const (Value.int IntKind.i64 0)), (2, Operand.const (Value.int IntKind.i64 (-1))), (3, Operand.const (Value.int IntKind.i64 65536)), (4, Operand.const (Value.int IntKind.i64 65537))], 22, _, _, none⟩) rfl (fun K hK => ?_) (AllReadyH.cons (o := ⟨some 128, Op.call { callee := Callee.value (Operand.func 18), args := #[Operand.tmp 127, Operand.const (Value.int IntKind.i64 5)], argTypes := #[3, 3] }, 3, _, _, none⟩) rfl (fun K hK => ?_) AllReadyH.nil)
        · go_simp
          try go_wp2_with fail
          refine hK.out _ _ ?_ (fun hHeld => ?_)
          · trivial
          clear hK K
          try simp only [Act.put, List.setIfInBounds_toArray, List.set_cons_zero, List.set_cons_succ]
          refine wpAnyH_ready (rs := [5]) (by kernel_rfl) (by simp) ?_
          refine AllReadyH.cons (o := ⟨some 128, Op.call { callee := Callee.value (Operand.func 18), args := #[Operand.tmp 127, Operand.const (Value.int IntKind.i64 5)], argTypes := #[3, 3] }, 3, _, _, none⟩) rfl (fun K hK => ?_) AllReadyH.nil
          go_simp
          go_at_call 18
          refine (KB.out _).mono ?_
          rintro e _ ⟨rfl, rfl⟩
          try go_wp2_with fail
          refine hK.out _ _ ?_ (fun hHeld => ?_)
          · trivial
          clear hK K
          try simp only [Act.put, List.setIfInBounds_toArray, List.set_cons_zero, List.set_cons_succ]
          refine wpAnyH_take (i := 6) (oi := ⟨some 129, Op.indexAddr 22 (Operand.tmp 126) (Operand.tmp 128), 0, _, _, none⟩) (v := ?_) rfl (by kernel_rfl) (by kernel_rfl) (by kernel_rfl) (fun _ _ _ h => h) (Or.inl ⟨by rfl, ?_⟩) (by assumption) ?_
          rotate_left 1
          · (intro w hSw; (try dsimp only at hSw); go_simp; first | done | with_reducible rfl)
          try simp only [Act.put, List.setIfInBounds_toArray, List.set_cons_zero, List.set_cons_succ]
          refine wpAnyH_ready (rs := [7]) (by kernel_rfl) (by simp) ?_
          refine AllReadyH.cons (o := ⟨some 130, Op.load 3 (Operand.tmp 129), 3, _, _, none⟩) rfl (fun K hK => ?_) AllReadyH.nil
          go_simp
          try go_wp2_with fail
          refine hK.out _ _ ?_ (fun hHeld => ?_)
          · trivial
          clear hK K
          try simp only [Act.put, List.setIfInBounds_toArray, List.set_cons_zero, List.set_cons_succ]
          refine wpAnyH_take (i := 8) (oi := ⟨some 131, Op.build 44 #[(0, Operand.const (Value.int IntKind.i64 1)), (1, Operand.tmp 130)], 44, _, _, none⟩) (v := ?_) rfl (by kernel_rfl) (by kernel_rfl) (by kernel_rfl) (fun _ _ _ h => h) (Or.inl ⟨by rfl, ?_⟩) (by assumption) ?_
          rotate_left 1
          · (intro w hSw; (try dsimp only at hSw); go_simp; first | done | with_reducible rfl)
          try simp only [Act.put, List.setIfInBounds_toArray, List.set_cons_zero, List.set_cons_succ]
          refine wpAnyH_take (i := 9) (oi := ⟨some 132, Op.build 46 #[(0, Operand.const (Value.int IntKind.i64 31)), (1, Operand.tmp 131)], 46, _, _, none⟩) (v := ?_) rfl (by kernel_rfl) (by kernel_rfl) (by kernel_rfl) (fun _ _ _ h => h) (Or.inl ⟨by rfl, ?_⟩) (by assumption) ?_
          rotate_left 1
          · (intro w hSw; (try dsimp only at hSw); go_simp; first | done | with_reducible rfl)
          try simp only [Act.put, List.setIfInBounds_toArray, List.set_cons_zero, List.set_cons_succ]
          refine wpAnyH_ready (rs := [10]) (by kernel_rfl) (by simp) ?_
          refine AllReadyH.cons (o := ⟨some 133, Op.buildSlice 25 1 #[(0, Operand.tmp 132)], 25, _, _, none⟩) rfl (fun K hK => ?_) AllReadyH.nil
          go_simp
          try go_wp2_with fail
          refine hK.out _ _ ?_ (fun hHeld => ?_)
          · trivial
          clear hK K
          try simp only [Act.put, List.setIfInBounds_toArray, List.set_cons_zero, List.set_cons_succ]
          refine wpAnyH_ready (rs := [11]) (by kernel_rfl) (by simp) ?_
          refine AllReadyH.cons (o := ⟨some 134, Op.call { callee := Callee.builtin Builtin.append, args := #[Operand.tmp 124, Operand.tmp 133], argTypes := #[25, 25] }, 25, _, _, none⟩) rfl (fun K hK => ?_) AllReadyH.nil
          refine wp_row1_f (.tmp 124) (.tmp 133) 25 rfl RVa 46 24 _ Tryz.underlying25 Tryz.infoVal rfl (by decide) N (.slice an2 ln2 cn2) vs [⟨31, 1, vz⟩] (W6.heap.size + 1) 1 1 rfl rfl rfl HCL.out HOb.out.ob hzb hln ?_
          intro ak lk ck wn hnn hOn hBn hPn
          obtain ⟨y0, y1, y2, g0, g1, g2, -⟩ := (HOb.out.there2 hPn.out).open3
          refine hK.out _ _ ?_ (fun hHeld => ?_)
          · trivial
          clear hK K
          try simp only [Act.put, List.setIfInBounds_toArray, List.set_cons_zero, List.set_cons_succ]
          refine wpAnyH_take (i := 12) (oi := ⟨some 135, Op.fieldAddr 27 (Operand.tmp 9) 1, 0, _, _, none⟩) (v := ?_) rfl (by kernel_rfl) (by kernel_rfl) (by kernel_rfl) (fun _ _ _ h => h) (Or.inl ⟨by rfl, ?_⟩) (by assumption) ?_
          rotate_left 1
          · (intro w hSw; (try dsimp only at hSw); go_simp; first | done | with_reducible rfl)
          try simp only [Act.put, List.setIfInBounds_toArray, List.set_cons_zero, List.set_cons_succ]
          refine wpAnyH_ready (rs := [13]) (by kernel_rfl) (by simp) ?_
          refine AllReadyH.cons (o := ⟨none, Op.store 25 (Operand.tmp 135) (Operand.tmp 134), 0, _, _, none⟩) rfl (fun K hK => ?_) AllReadyH.nil
          go_simp
          go_wp2_with fail
          refine hK.out _ _ ?_ (fun hHeld => ?_)
          · trivial
          clear hK K
          try simp only [Act.put, List.setIfInBounds_toArray, List.set_cons_zero, List.set_cons_succ]
          refine wpAnyH_done (by kernel_rfl) ?_ _
          refine NoPanic.normal ?_
          have hO7 := HOb.out.set2 hPn.out hOn.out
          have hS7 : Since W2 (wn.setCell ⟨N, 1, none⟩ (.slice ak lk ck)) := since_put HSZ.out (Since.step HS6.out HSb.out) hBn.out _ _
          generalize wn.setCell ⟨N, 1, none⟩ (.slice ak lk ck) = W7 at *
          clear y0 y1 y2 g0 g1 g2 x0 x1 x2
          obtain ⟨z0, z1, z2, zf0, zf1, zf2, -⟩ := (HR.out.keep hS7).open3
          have hP := spoil_P HW1.out (mem_app HW2.out (mem_one (P := Va.wf) (x := ⟨31, 1, vz⟩) ⟨i64_31, i64_1, HVZ.out⟩)) HW3.out (by simp only [List.length_append, List.length_singleton]; have := HW.out; omega) hwt
          obtain ⟨x0, x1, x2, f0, f1, f2, -⟩ := hO7.box.open3
          have hfin := HFN.out _ (fun u => u.wf ∧ u.wt ≤ 2 * tw + 400) _ _ _ _ _ _ _ _ _ _ _ _ _ hO7 hS7 (hP)
          unfold put3 at hfin
          have HFI := Lib.hid hfin
          clear hfin
          go_wp2
          exact bodyPost_ret (v := .agg #[.slice an ln cn, .slice ak lk ck, .slice an3 ln3 cn3]) (by simp [results, Tryz.results17, go_sem, z0, z1, z2]) rfl HFI.out
        · go_simp
          go_at_call 18
          refine (KB.out _).mono ?_
          rintro e _ ⟨rfl, rfl⟩
          try go_wp2_with fail
          refine hK.out _ _ ?_ (fun hHeld => ?_)
          · trivial
          clear hK K
          try simp only [Act.put, List.setIfInBounds_toArray, List.set_cons_zero, List.set_cons_succ]
          refine wpAnyH_ready (rs := [3]) (by kernel_rfl) (by simp) ?_
          refine AllReadyH.cons (o := ⟨some 126, Op.buildSlice 22 5 #[(0, Operand.tmp 125), (1, Operand.const (Value.int IntKind.i64 0)), (2, Operand.const (Value.int IntKind.i64 (-1))), (3, Operand.const (Value.int IntKind.i64 65536)), (4, Operand.const (Value.int IntKind.i64 65537))], 22, _, _, none⟩) rfl (fun K hK => ?_) AllReadyH.nil
          go_simp
          try go_wp2_with fail
          refine hK.out _ _ ?_ (fun hHeld => ?_)
          · trivial
          clear hK K
          try simp only [Act.put, List.setIfInBounds_toArray, List.set_cons_zero, List.set_cons_succ]
          refine wpAnyH_take (i := 6) (oi := ⟨some 129, Op.indexAddr 22 (Operand.tmp 126) (Operand.tmp 128), 0, _, _, none⟩) (v := ?_) rfl (by kernel_rfl) (by kernel_rfl) (by kernel_rfl) (fun _ _ _ h => h) (Or.inl ⟨by rfl, ?_⟩) (by assumption) ?_
          rotate_left 1
          · (intro w hSw; (try dsimp only at hSw); go_simp; first | done | with_reducible rfl)
          try simp only [Act.put, List.setIfInBounds_toArray, List.set_cons_zero, List.set_cons_succ]
          refine wpAnyH_ready (rs := [7]) (by kernel_rfl) (by simp) ?_
          refine AllReadyH.cons (o := ⟨some 130, Op.load 3 (Operand.tmp 129), 3, _, _, none⟩) rfl (fun K hK => ?_) AllReadyH.nil
          go_simp
          try go_wp2_with fail
          refine hK.out _ _ ?_ (fun hHeld => ?_)
          · trivial
          clear hK K
          try simp only [Act.put, List.setIfInBounds_toArray, List.set_cons_zero, List.set_cons_succ]
          refine wpAnyH_take (i := 8) (oi := ⟨some 131, Op.build 44 #[(0, Operand.const (Value.int IntKind.i64 1)), (1, Operand.tmp 130)], 44, _, _, none⟩) (v := ?_) rfl (by kernel_rfl) (by kernel_rfl) (by kernel_rfl) (fun _ _ _ h => h) (Or.inl ⟨by rfl, ?_⟩) (by assumption) ?_
          rotate_left 1
          · (intro w hSw; (try dsimp only at hSw); go_simp; first | done | with_reducible rfl)
          try simp only [Act.put, List.setIfInBounds_toArray, List.set_cons_zero, List.set_cons_succ]
          refine wpAnyH_take (i := 9) (oi := ⟨some 132, Op.build 46 #[(0, Operand.const (Value.int IntKind.i64 31)), (1, Operand.tmp 131)], 46, _, _, none⟩) (v := ?_) rfl (by kernel_rfl) (by kernel_rfl) (by kernel_rfl) (fun _ _ _ h => h) (Or.inl ⟨by rfl, ?_⟩) (by assumption) ?_
          rotate_left 1
          · (intro w hSw; (try dsimp only at hSw); go_simp; first | done | with_reducible rfl)
          try simp only [Act.put, List.setIfInBounds_toArray, List.set_cons_zero, List.set_cons_succ]
          refine wpAnyH_ready (rs := [10]) (by kernel_rfl) (by simp) ?_
          refine AllReadyH.cons (o := ⟨some 133, Op.buildSlice 25 1 #[(0, Operand.tmp 132)], 25, _, _, none⟩) rfl (fun K hK => ?_) AllReadyH.nil
          go_simp
          try go_wp2_with fail
          refine hK.out _ _ ?_ (fun hHeld => ?_)
          · trivial
          clear hK K
          try simp only [Act.put, List.setIfInBounds_toArray, List.set_cons_zero, List.set_cons_succ]
          refine wpAnyH_ready (rs := [11]) (by kernel_rfl) (by simp) ?_
          refine AllReadyH.cons (o := ⟨some 134, Op.call { callee := Callee.builtin Builtin.append, args := #[Operand.tmp 124, Operand.tmp 133], argTypes := #[25, 25] }, 25, _, _, none⟩) rfl (fun K hK => ?_) AllReadyH.nil
          refine wp_row1_f (.tmp 124) (.tmp 133) 25 rfl RVa 46 24 _ Tryz.underlying25 Tryz.infoVal rfl (by decide) N (.slice an2 ln2 cn2) vs [⟨31, 1, vz⟩] (W6.heap.size + 1) 1 1 rfl rfl rfl HCL.out HOb.out.ob hzb hln ?_
          intro ak lk ck wn hnn hOn hBn hPn
          obtain ⟨y0, y1, y2, g0, g1, g2, -⟩ := (HOb.out.there2 hPn.out).open3
          refine hK.out _ _ ?_ (fun hHeld => ?_)
          · trivial
          clear hK K
          try simp only [Act.put, List.setIfInBounds_toArray, List.set_cons_zero, List.set_cons_succ]
          refine wpAnyH_take (i := 12) (oi := ⟨some 135, Op.fieldAddr 27 (Operand.tmp 9) 1, 0, _, _, none⟩) (v := ?_) rfl (by kernel_rfl) (by kernel_rfl) (by kernel_rfl) (fun _ _ _ h => h) (Or.inl ⟨by rfl, ?_⟩) (by assumption) ?_
          rotate_left 1
          · (intro w hSw; (try dsimp only at hSw); go_simp; first | done | with_reducible rfl)
          try simp only [Act.put, List.setIfInBounds_toArray, List.set_cons_zero, List.set_cons_succ]
          refine wpAnyH_ready (rs := [13]) (by kernel_rfl) (by simp) ?_
          refine AllReadyH.cons (o := ⟨none, Op.store 25 (Operand.tmp 135) (Operand.tmp 134), 0, _, _, none⟩) rfl (fun K hK => ?_) AllReadyH.nil
          go_simp
          go_wp2_with fail
          refine hK.out _ _ ?_ (fun hHeld => ?_)
          · trivial
          clear hK K
          try simp only [Act.put, List.setIfInBounds_toArray, List.set_cons_zero, List.set_cons_succ]
          refine wpAnyH_done (by kernel_rfl) ?_ _
          refine NoPanic.normal ?_
          have hO7 := HOb.out.set2 hPn.out hOn.out
          have hS7 : Since W2 (wn.setCell ⟨N, 1, none⟩ (.slice ak lk ck)) := since_put HSZ.out (Since.step HS6.out HSb.out) hBn.out _ _
          generalize wn.setCell ⟨N, 1, none⟩ (.slice ak lk ck) = W7 at *
          clear y0 y1 y2 g0 g1 g2 x0 x1 x2
          obtain ⟨z0, z1, z2, zf0, zf1, zf2, -⟩ := (HR.out.keep hS7).open3
          have hP := spoil_P HW1.out (mem_app HW2.out (mem_one (P := Va.wf) (x := ⟨31, 1, vz⟩) ⟨i64_31, i64_1, HVZ.out⟩)) HW3.out (by simp only [List.length_append, List.length_singleton]; have := HW.out; omega) hwt
          obtain ⟨x0, x1, x2, f0, f1, f2, -⟩ := hO7.box.open3
          have hfin := HFN.out _ (fun u => u.wf ∧ u.wt ≤ 2 * tw + 400) _ _ _ _ _ _ _ _ _ _ _ _ _ hO7 hS7 (hP)
          unfold put3 at hfin
          have HFI := Lib.hid hfin
          clear hfin
          go_wp2
          exact bodyPost_ret (v := .agg #[.slice an ln cn, .slice ak lk ck, .slice an3 ln3 cn3]) (by simp [results, Tryz.results17, go_sem, z0, z1, z2]) rfl HFI.out
      · go_simp
        try go_wp2_with fail
        refine hK.out _ _ ?_ (fun hHeld => ?_)
        · trivial
        clear hK K
        try simp only [Act.put, List.setIfInBounds_toArray, List.set_cons_zero, List.set_cons_succ]
        refine wpAnyH_ready (rs := [1, 5]) (by kernel_rfl) (by simp) ?_
        refine AllReadyH.cons (o := ⟨some 124, Op.load 25 (Operand.tmp 123), 25, _, _, none⟩) rfl (fun K hK => ?_) (AllReadyH.cons (o := ⟨some 128, Op.call { callee := Callee.value (Operand.func 18), args := #[Operand.tmp 127, Operand.const (Value.int IntKind.i64 5)], argTypes := #[3, 3] }, 3, _, _, none⟩) rfl (fun K hK => ?_) AllReadyH.nil)
        · go_simp
          try go_wp2_with fail
          refine hK.out _ _ ?_ (fun hHeld => ?_)
          · trivial
          clear hK K
          try simp only [Act.put, List.setIfInBounds_toArray, List.set_cons_zero, List.set_cons_succ]
          refine wpAnyH_ready (rs := [5]) (by kernel_rfl) (by simp) ?_
          refine AllReadyH.cons (o := ⟨some 128, Op.call { callee := Callee.value (Operand.func 18), args := #[Operand.tmp 127, Operand.const (Value.int IntKind.i64 5)], argTypes := #[3, 3] }, 3, _, _, none⟩) rfl (fun K hK => ?_) AllReadyH.nil
          go_simp
          go_at_call 18
          refine (KB.out _).mono ?_
          rintro e _ ⟨rfl, rfl⟩
          try go_wp2_with fail
          refine hK.out _ _ ?_ (fun hHeld => ?_)
          · trivial
          clear hK K
          try simp only [Act.put, List.setIfInBounds_toArray, List.set_cons_zero, List.set_cons_succ]
          refine wpAnyH_take (i := 6) (oi := ⟨some 129, Op.indexAddr 22 (Operand.tmp 126) (Operand.tmp 128), 0, _, _, none⟩) (v := ?_) rfl (by kernel_rfl) (by kernel_rfl) (by kernel_rfl) (fun _ _ _ h => h) (Or.inl ⟨by rfl, ?_⟩) (by assumption) ?_
          rotate_left 1
          · (intro w hSw; (try dsimp only at hSw); go_simp; first | done | with_reducible rfl)
          try simp only [Act.put, List.setIfInBounds_toArray, List.set_cons_zero, List.set_cons_succ]
          refine wpAnyH_ready (rs := [7]) (by kernel_rfl) (by simp) ?_
          refine AllReadyH.cons (o := ⟨some 130, Op.load 3 (Operand.tmp 129), 3, _, _, none⟩) rfl (fun K hK => ?_) AllReadyH.nil
          go_simp
          try go_wp2_with fail
          refine hK.out _ _ ?_ (fun hHeld => ?_)
          · trivial
          clear hK K
          try simp only [Act.put, List.setIfInBounds_toArray, List.set_cons_zero, List.set_cons_succ]
          refine wpAnyH_take (i := 8) (oi := ⟨some 131, Op.build 44 #[(0, Operand.const (Value.int IntKind.i64 1)), (1, Operand.tmp 130)], 44, _, _, none⟩) (v := ?_) rfl (by kernel_rfl) (by kernel_rfl) (by kernel_rfl) (fun _ _ _ h => h) (Or.inl ⟨by rfl, ?_⟩) (by assumption) ?_
          rotate_left 1
          · (intro w hSw; (try dsimp only at hSw); go_simp; first | done | with_reducible rfl)
          try simp only [Act.put, List.setIfInBounds_toArray, List.set_cons_zero, List.set_cons_succ]
          refine wpAnyH_take (i := 9) (oi := ⟨some 132, Op.build 46 #[(0, Operand.const (Value.int IntKind.i64 31)), (1, Operand.tmp 131)], 46, _, _, none⟩) (v := ?_) rfl (by kernel_rfl) (by kernel_rfl) (by kernel_rfl) (fun _ _ _ h => h) (Or.inl ⟨by rfl, ?_⟩) (by assumption) ?_
          rotate_left 1
          · (intro w hSw; (try dsimp only at hSw); go_simp; first | done | with_reducible rfl)
          try simp only [Act.put, List.setIfInBounds_toArray, List.set_cons_zero, List.set_cons_succ]
          refine wpAnyH_ready (rs := [10]) (by kernel_rfl) (by simp) ?_
          refine AllReadyH.cons (o := ⟨some 133, Op.buildSlice 25 1 #[(0, Operand.tmp 132)], 25, _, _, none⟩) rfl (fun K hK => ?_) AllReadyH.nil
          go_simp
          try go_wp2_with fail
          refine hK.out _ _ ?_ (fun hHeld => ?_)
          · trivial
          clear hK K
          try simp only [Act.put, List.setIfInBounds_toArray, List.set_cons_zero, List.set_cons_succ]
          refine wpAnyH_ready (rs := [11]) (by kernel_rfl) (by simp) ?_
          refine AllReadyH.cons (o := ⟨some 134, Op.call { callee := Callee.builtin Builtin.append, args := #[Operand.tmp 124, Operand.tmp 133], argTypes := #[25, 25] }, 25, _, _, none⟩) rfl (fun K hK => ?_) AllReadyH.nil
          refine wp_row1_f (.tmp 124) (.tmp 133) 25 rfl RVa 46 24 _ Tryz.underlying25 Tryz.infoVal rfl (by decide) N (.slice an2 ln2 cn2) vs [⟨31, 1, vz⟩] (W6.heap.size + 1) 1 1 rfl rfl rfl HCL.out HOb.out.ob hzb hln ?_
          intro ak lk ck wn hnn hOn hBn hPn
          obtain ⟨y0, y1, y2, g0, g1, g2, -⟩ := (HOb.out.there2 hPn.out).open3
          refine hK.out _ _ ?_ (fun hHeld => ?_)
          · trivial
          clear hK K
          try simp only [Act.put, List.setIfInBounds_toArray, List.set_cons_zero, List.set_cons_succ]
          refine wpAnyH_take (i := 12) (oi := ⟨some 135, Op.fieldAddr 27 (Operand.tmp 9) 1, 0, _, _, none⟩) (v := ?_) rfl (by kernel_rfl) (by kernel_rfl) (by kernel_rfl) (fun _ _ _ h => h) (Or.inl ⟨by rfl, ?_⟩) (by assumption) ?_
          rotate_left 1
          · (intro w hSw; (try dsimp only at hSw); go_simp; first | done | with_reducible rfl)
          try simp only [Act.put, List.setIfInBounds_toArray, List.set_cons_zero, List.set_cons_succ]
          refine wpAnyH_ready (rs := [13]) (by kernel_rfl) (by simp) ?_
          refine AllReadyH.cons (o := ⟨none, Op.store 25 (Operand.tmp 135) (Operand.tmp 134), 0, _, _, none⟩) rfl (fun K hK => ?_) AllReadyH.nil
          go_simp
          go_wp2_with fail
          refine hK.out _ _ ?_ (fun hHeld => ?_)
          · trivial
          clear hK K
          try simp only [Act.put, List.setIfInBounds_toArray, List.set_cons_zero, List.set_cons_succ]
          refine wpAnyH_done (by kernel_rfl) ?_ _
          refine NoPanic.normal ?_
          have hO7 := HOb.out.set2 hPn.out hOn.out
          have hS7 : Since W2 (wn.setCell ⟨N, 1, none⟩ (.slice ak lk ck)) := since_put HSZ.out (Since.step HS6.out HSb.out) hBn.out _ _
          generalize wn.setCell ⟨N, 1, none⟩ (.slice ak lk ck) = W7 at *
          clear y0 y1 y2 g0 g1 g2 x0 x1 x2
          obtain ⟨z0, z1, z2, zf0, zf1, zf2, -⟩ := (HR.out.keep hS7).open3
          have hP := spoil_P HW1.out (mem_app HW2.out (mem_one (P := Va.wf) (x := ⟨31, 1, vz⟩) ⟨i64_31, i64_1, HVZ.out⟩)) HW3.out (by simp only [List.length_append, List.length_singleton]; have := HW.out; omega) hwt
          obtain ⟨x0, x1, x2, f0, f1, f2, -⟩ := hO7.box.open3
          have hfin := HFN.out _ (fun u => u.wf ∧ u.wt ≤ 2 * tw + 400) _ _ _ _ _ _ _ _ _ _ _ _ _ hO7 hS7 (hP)
          unfold put3 at hfin
          have HFI := Lib.hid hfin
          clear hfin
          go_wp2
          exact bodyPost_ret (v := .agg #[.slice an ln cn, .slice ak lk ck, .slice an3 ln3 cn3]) (by simp [results, Tryz.results17, go_sem, z0, z1, z2]) rfl HFI.out
        · go_simp
          go_at_call 18
          refine (KB.out _).mono ?_
          rintro e _ ⟨rfl, rfl⟩
          try go_wp2_with fail
          refine hK.out _ _ ?_ (fun hHeld => ?_)
          · trivial
          clear hK K
          try simp only [Act.put, List.setIfInBounds_toArray, List.set_cons_zero, List.set_cons_succ]
          refine wpAnyH_take (i := 6) (oi := ⟨some 129, Op.indexAddr 22 (Operand.tmp 126) (Operand.tmp 128), 0, _, _, none⟩) (v := ?_) rfl (by kernel_rfl) (by kernel_rfl) (by kernel_rfl) (fun _ _ _ h => h) (Or.inl ⟨by rfl, ?_⟩) (by assumption) ?_
          rotate_left 1
          · (intro w hSw; (try dsimp only at hSw); go_simp; first | done | with_reducible rfl)
          try simp only [Act.put, List.setIfInBounds_toArray, List.set_cons_zero, List.set_cons_succ]
          refine wpAnyH_ready (rs := [1, 7]) (by kernel_rfl) (by simp) ?_
          refine AllReadyH.cons (o := ⟨some 124, Op.load 25 (Operand.tmp 123), 25, _, _, none⟩) rfl (fun K hK => ?_) (AllReadyH.cons (o := ⟨some 130, Op.load 3 (Operand.tmp 129), 3, _, _, none⟩) rfl (fun K hK => ?_) AllReadyH.nil)
          · go_simp
            try go_wp2_with fail
            refine hK.out _ _ ?_ (fun hHeld => ?_)
            · trivial
            clear hK K
            try simp only [Act.put, List.setIfInBounds_toArray, List.set_cons_zero, List.set_cons_succ]
            refine wpAnyH_ready (rs := [7]) (by kernel_rfl) (by simp) ?_
            refine AllReadyH.cons (o := ⟨some 130, Op.load 3 (Operand.tmp 129), 3, _, _, none⟩) rfl (fun K hK => ?_) AllReadyH.nil
            go_simp
            try go_wp2_with fail
            refine hK.out _ _ ?_ (fun hHeld => ?_)
            · trivial
            clear hK K
            try simp only [Act.put, List.setIfInBounds_toArray, List.set_cons_zero, List.set_cons_succ]
            refine wpAnyH_take (i := 8) (oi := ⟨some 131, Op.build 44 #[(0, Operand.const (Value.int IntKind.i64 1)), (1, Operand.tmp 130)], 44, _, _, none⟩) (v := ?_) rfl (by kernel_rfl) (by kernel_rfl) (by kernel_rfl) (fun _ _ _ h => h) (Or.inl ⟨by rfl, ?_⟩) (by assumption) ?_
            rotate_left 1
            · (intro w hSw; (try dsimp only at hSw); go_simp; first | done | with_reducible rfl)
            try simp only [Act.put, List.setIfInBounds_toArray, List.set_cons_zero, List.set_cons_succ]
            refine wpAnyH_take (i := 9) (oi := ⟨some 132, Op.build 46 #[(0, Operand.const (Value.int IntKind.i64 31)), (1, Operand.tmp 131)], 46, _, _, none⟩) (v := ?_) rfl (by kernel_rfl) (by kernel_rfl) (by kernel_rfl) (fun _ _ _ h => h) (Or.inl ⟨by rfl, ?_⟩) (by assumption) ?_
            rotate_left 1
            · (intro w hSw; (try dsimp only at hSw); go_simp; first | done | with_reducible rfl)
            try simp only [Act.put, List.setIfInBounds_toArray, List.set_cons_zero, List.set_cons_succ]
            refine wpAnyH_ready (rs := [10]) (by kernel_rfl) (by simp) ?_
            refine AllReadyH.cons (o := ⟨some 133, Op.buildSlice 25 1 #[(0, Operand.tmp 132)], 25, _, _, none⟩) rfl (fun K hK => ?_) AllReadyH.nil
            go_simp
            try go_wp2_with fail
            refine hK.out _ _ ?_ (fun hHeld => ?_)
            · trivial
            clear hK K
            try simp only [Act.put, List.setIfInBounds_toArray, List.set_cons_zero, List.set_cons_succ]
            refine wpAnyH_ready (rs := [11]) (by kernel_rfl) (by simp) ?_
            refine AllReadyH.cons (o := ⟨some 134, Op.call { callee := Callee.builtin Builtin.append, args := #[Operand.tmp 124, Operand.tmp 133], argTypes := #[25, 25] }, 25, _, _, none⟩) rfl (fun K hK => ?_) AllReadyH.nil
            refine wp_row1_f (.tmp 124) (.tmp 133) 25 rfl RVa 46 24 _ Tryz.underlying25 Tryz.infoVal rfl (by decide) N (.slice an2 ln2 cn2) vs [⟨31, 1, vz⟩] (W6.heap.size + 1) 1 1 rfl rfl rfl HCL.out HOb.out.ob hzb hln ?_
            intro ak lk ck wn hnn hOn hBn hPn
            obtain ⟨y0, y1, y2, g0, g1, g2, -⟩ := (HOb.out.there2 hPn.out).open3
            refine hK.out _ _ ?_ (fun hHeld => ?_)
            · trivial
            clear hK K
            try simp only [Act.put, List.setIfInBounds_toArray, List.set_cons_zero, List.set_cons_succ]
            refine wpAnyH_take (i := 12) (oi := ⟨some 135, Op.fieldAddr 27 (Operand.tmp 9) 1, 0, _, _, none⟩) (v := ?_) rfl (by kernel_rfl) (by kernel_rfl) (by kernel_rfl) (fun _ _ _ h => h) (Or.inl ⟨by rfl, ?_⟩) (by assumption) ?_
            rotate_left 1
            · (intro w hSw; (try dsimp only at hSw); go_simp; first | done | with_reducible rfl)
            try simp only [Act.put, List.setIfInBounds_toArray, List.set_cons_zero, List.set_cons_succ]
            refine wpAnyH_ready (rs := [13]) (by kernel_rfl) (by simp) ?_
            refine AllReadyH.cons (o := ⟨none, Op.store 25 (Operand.tmp 135) (Operand.tmp 134), 0, _, _, none⟩) rfl (fun K hK => ?_) AllReadyH.nil
            go_simp
            go_wp2_with fail
            refine hK.out _ _ ?_ (fun hHeld => ?_)
            · trivial
            clear hK K
            try simp only [Act.put, List.setIfInBounds_toArray, List.set_cons_zero, List.set_cons_succ]
            refine wpAnyH_done (by kernel_rfl) ?_ _
            refine NoPanic.normal ?_
            have hO7 := HOb.out.set2 hPn.out hOn.out
            have hS7 : Since W2 (wn.setCell ⟨N, 1, none⟩ (.slice ak lk ck)) := since_put HSZ.out (Since.step HS6.out HSb.out) hBn.out _ _
            generalize wn.setCell ⟨N, 1, none⟩ (.slice ak lk ck) = W7 at *
            clear y0 y1 y2 g0 g1 g2 x0 x1 x2
            obtain ⟨z0, z1, z2, zf0, zf1, zf2, -⟩ := (HR.out.keep hS7).open3
            have hP := spoil_P HW1.out (mem_app HW2.out (mem_one (P := Va.wf) (x := ⟨31, 1, vz⟩) ⟨i64_31, i64_1, HVZ.out⟩)) HW3.out (by simp only [List.length_append, List.length_singleton]; have := HW.out; omega) hwt
            obtain ⟨x0, x1, x2, f0, f1, f2, -⟩ := hO7.box.open3
            have hfin := HFN.out _ (fun u => u.wf ∧ u.wt ≤ 2 * tw + 400) _ _ _ _ _ _ _ _ _ _ _ _ _ hO7 hS7 (hP)
            unfold put3 at hfin
            have HFI := Lib.hid hfin
            clear hfin
            go_wp2
            exact bodyPost_ret (v := .agg #[.slice an ln cn, .slice ak lk ck, .slice an3 ln3 cn3]) (by simp [results, Tryz.results17, go_sem, z0, z1, z2]) rfl HFI.out
          · go_simp
            try go_wp2_with fail
            refine hK.out _ _ ?_ (fun hHeld => ?_)
            · trivial
            clear hK K
            try simp only [Act.put, List.setIfInBounds_toArray, List.set_cons_zero, List.set_cons_succ]
            refine wpAnyH_take (i := 8) (oi := ⟨some 131, Op.build 44 #[(0, Operand.const (Value.int IntKind.i64 1)), (1, Operand.tmp 130)], 44, _, _, none⟩) (v := ?_) rfl (by kernel_rfl) (by kernel_rfl) (by kernel_rfl) (fun _ _ _ h => h) (Or.inl ⟨by rfl, ?_⟩) (by assumption) ?_
            rotate_left 1
            · (intro w hSw; (try dsimp only at hSw); go_simp; first | done | with_reducible rfl)
            try simp only [Act.put, List.setIfInBounds_toArray, List.set_cons_zero, List.set_cons_succ]
            refine wpAnyH_take (i := 9) (oi := ⟨some 132, Op.build 46 #[(0, Operand.const (Value.int IntKind.i64 31)), (1, Operand.tmp 131)], 46, _, _, none⟩) (v := ?_) rfl (by kernel_rfl) (by kernel_rfl) (by kernel_rfl) (fun _ _ _ h => h) (Or.inl ⟨by rfl, ?_⟩) (by assumption) ?_
            rotate_left 1
            · (intro w hSw; (try dsimp only at hSw); go_simp; first | done | with_reducible rfl)
            try simp only [Act.put, List.setIfInBounds_toArray, List.set_cons_zero, List.set_cons_succ]
            refine wpAnyH_ready (rs := [1, 10]) (by kernel_rfl) (by simp) ?_
            refine AllReadyH.cons (o := ⟨some 124, Op.load 25 (Operand.tmp 123), 25, _, _, none⟩) rfl (fun K hK => ?_) (AllReadyH.cons (o := ⟨some 133, Op.buildSlice 25 1 #[(0, Operand.tmp 132)], 25, _, _, none⟩) rfl (fun K hK => ?_) AllReadyH.nil)
            · go_simp
              try go_wp2_with fail
              refine hK.out _ _ ?_ (fun hHeld => ?_)
              · trivial
              clear hK K
              try simp only [Act.put, List.setIfInBounds_toArray, List.set_cons_zero, List.set_cons_succ]
              refine wpAnyH_ready (rs := [10]) (by kernel_rfl) (by simp) ?_
              refine AllReadyH.cons (o := ⟨some 133, Op.buildSlice 25 1 #[(0, Operand.tmp 132)], 25, _, _, none⟩) rfl (fun K hK => ?_) AllReadyH.nil
              go_simp
              try go_wp2_with fail
              refine hK.out _ _ ?_ (fun hHeld => ?_)
              · trivial
              clear hK K
              try simp only [Act.put, List.setIfInBounds_toArray, List.set_cons_zero, List.set_cons_succ]
              refine wpAnyH_ready (rs := [11]) (by kernel_rfl) (by simp) ?_
              refine AllReadyH.cons (o := ⟨some 134, Op.call { callee := Callee.builtin Builtin.append, args := #[Operand.tmp 124, Operand.tmp 133], argTypes := #[25, 25] }, 25, _, _, none⟩) rfl (fun K hK => ?_) AllReadyH.nil
              refine wp_row1_f (.tmp 124) (.tmp 133) 25 rfl RVa 46 24 _ Tryz.underlying25 Tryz.infoVal rfl (by decide) N (.slice an2 ln2 cn2) vs [⟨31, 1, vz⟩] (W6.heap.size + 1) 1 1 rfl rfl rfl HCL.out HOb.out.ob hzb hln ?_
              intro ak lk ck wn hnn hOn hBn hPn
              obtain ⟨y0, y1, y2, g0, g1, g2, -⟩ := (HOb.out.there2 hPn.out).open3
              refine hK.out _ _ ?_ (fun hHeld => ?_)
              · trivial
              clear hK K
              try simp only [Act.put, List.setIfInBounds_toArray, List.set_cons_zero, List.set_cons_succ]
              refine wpAnyH_take (i := 12) (oi := ⟨some 135, Op.fieldAddr 27 (Operand.tmp 9) 1, 0, _, _, none⟩) (v := ?_) rfl (by kernel_rfl) (by kernel_rfl) (by kernel_rfl) (fun _ _ _ h => h) (Or.inl ⟨by rfl, ?_⟩) (by assumption) ?_
              rotate_left 1
              · (intro w hSw; (try dsimp only at hSw); go_simp; first | done | with_reducible rfl)
              try simp only [Act.put, List.setIfInBounds_toArray, List.set_cons_zero, List.set_cons_succ]
              refine wpAnyH_ready (rs := [13]) (by kernel_rfl) (by simp) ?_
              refine AllReadyH.cons (o := ⟨none, Op.store 25 (Operand.tmp 135) (Operand.tmp 134), 0, _, _, none⟩) rfl (fun K hK => ?_) AllReadyH.nil
              go_simp
              go_wp2_with fail
              refine hK.out _ _ ?_ (fun hHeld => ?_)
              · trivial
              clear hK K
              try simp only [Act.put, List.setIfInBounds_toArray, List.set_cons_zero, List.set_cons_succ]
              refine wpAnyH_done (by kernel_rfl) ?_ _
              refine NoPanic.normal ?_
              have hO7 := HOb.out.set2 hPn.out hOn.out
              have hS7 : Since W2 (wn.setCell ⟨N, 1, none⟩ (.slice ak lk ck)) := since_put HSZ.out (Since.step HS6.out HSb.out) hBn.out _ _
              generalize wn.setCell ⟨N, 1, none⟩ (.slice ak lk ck) = W7 at *
              clear y0 y1 y2 g0 g1 g2 x0 x1 x2
              obtain ⟨z0, z1, z2, zf0, zf1, zf2, -⟩ := (HR.out.keep hS7).open3
              have hP := spoil_P HW1.out (mem_app HW2.out (mem_one (P := Va.wf) (x := ⟨31, 1, vz⟩) ⟨i64_31, i64_1, HVZ.out⟩)) HW3.out (by simp only [List.length_append, List.length_singleton]; have := HW.out; omega) hwt
              obtain ⟨x0, x1, x2, f0, f1, f2, -⟩ := hO7.box.open3
              have hfin := HFN.out _ (fun u => u.wf ∧ u.wt ≤ 2 * tw + 400) _ _ _ _ _ _ _ _ _ _ _ _ _ hO7 hS7 (hP)
              unfold put3 at hfin
              have HFI := Lib.hid hfin
              clear hfin
              go_wp2
              exact bodyPost_ret (v := .agg #[.slice an ln cn, .slice ak lk ck, .slice an3 ln3 cn3]) (by simp [results, Tryz.results17, go_sem, z0, z1, z2]) rfl HFI.out
            · go_simp
              try go_wp2_with fail
              refine hK.out _ _ ?_ (fun hHeld => ?_)
              · trivial
              clear hK K
              try simp only [Act.put, List.setIfInBounds_toArray, List.set_cons_zero, List.set_cons_succ]
              refine wpAnyH_ready (rs := [1]) (by kernel_rfl) (by simp) ?_
              refine AllReadyH.cons (o := ⟨some 124, Op.load 25 (Operand.tmp 123), 25, _, _, none⟩) rfl (fun K hK => ?_) AllReadyH.nil
              go_simp
              try go_wp2_with fail
              refine hK.out _ _ ?_ (fun hHeld => ?_)
              · trivial
              clear hK K
              try simp only [Act.put, List.setIfInBounds_toArray, List.set_cons_zero, List.set_cons_succ]
              refine wpAnyH_ready (rs := [11]) (by kernel_rfl) (by simp) ?_
              refine AllReadyH.cons (o := ⟨some 134, Op.call { callee := Callee.builtin Builtin.append, args := #[Operand.tmp 124, Operand.tmp 133], argTypes := #[25, 25] }, 25, _, _, none⟩) rfl (fun K hK => ?_) AllReadyH.nil
              refine wp_row1_f (.tmp 124) (.tmp 133) 25 rfl RVa 46 24 _ Tryz.underlying25 Tryz.infoVal rfl (by decide) N (.slice an2 ln2 cn2) vs [⟨31, 1, vz⟩] (W6.heap.size + 1) 1 1 rfl rfl rfl HCL.out HOb.out.ob hzb hln ?_
              intro ak lk ck wn hnn hOn hBn hPn
              obtain ⟨y0, y1, y2, g0, g1, g2, -⟩ := (HOb.out.there2 hPn.out).open3
              refine hK.out _ _ ?_ (fun hHeld => ?_)
              · trivial
              clear hK K
              try simp only [Act.put, List.setIfInBounds_toArray, List.set_cons_zero, List.set_cons_succ]
              refine wpAnyH_take (i := 12) (oi := ⟨some 135, Op.fieldAddr 27 (Operand.tmp 9) 1, 0, _, _, none⟩) (v := ?_) rfl (by kernel_rfl) (by kernel_rfl) (by kernel_rfl) (fun _ _ _ h => h) (Or.inl ⟨by rfl, ?_⟩) (by assumption) ?_
              rotate_left 1
              · (intro w hSw; (try dsimp only at hSw); go_simp; first | done | with_reducible rfl)
              try simp only [Act.put, List.setIfInBounds_toArray, List.set_cons_zero, List.set_cons_succ]
              refine wpAnyH_ready (rs := [13]) (by kernel_rfl) (by simp) ?_
              refine AllReadyH.cons (o := ⟨none, Op.store 25 (Operand.tmp 135) (Operand.tmp 134), 0, _, _, none⟩) rfl (fun K hK => ?_) AllReadyH.nil
              go_simp
              go_wp2_with fail
              refine hK.out _ _ ?_ (fun hHeld => ?_)
              · trivial
              clear hK K
              try simp only [Act.put, List.setIfInBounds_toArray, List.set_cons_zero, List.set_cons_succ]
              refine wpAnyH_done (by kernel_rfl) ?_ _
              refine NoPanic.normal ?_
              have hO7 := HOb.out.set2 hPn.out hOn.out
              have hS7 : Since W2 (wn.setCell ⟨N, 1, none⟩ (.slice ak lk ck)) := since_put HSZ.out (Since.step HS6.out HSb.out) hBn.out _ _
              generalize wn.setCell ⟨N, 1, none⟩ (.slice ak lk ck) = W7 at *
              clear y0 y1 y2 g0 g1 g2 x0 x1 x2
              obtain ⟨z0, z1, z2, zf0, zf1, zf2, -⟩ := (HR.out.keep hS7).open3
              have hP := spoil_P HW1.out (mem_app HW2.out (mem_one (P := Va.wf) (x := ⟨31, 1, vz⟩) ⟨i64_31, i64_1, HVZ.out⟩)) HW3.out (by simp only [List.length_append, List.length_singleton]; have := HW.out; omega) hwt
              obtain ⟨x0, x1, x2, f0, f1, f2, -⟩ := hO7.box.open3
              have hfin := HFN.out _ (fun u => u.wf ∧ u.wt ≤ 2 * tw + 400) _ _ _ _ _ _ _ _ _ _ _ _ _ hO7 hS7 (hP)
              unfold put3 at hfin
              have HFI := Lib.hid hfin
              clear hfin
              go_wp2
              exact bodyPost_ret (v := .agg #[.slice an ln cn, .slice ak lk ck, .slice an3 ln3 cn3]) (by simp [results, Tryz.results17, go_sem, z0, z1, z2]) rfl HFI.out
      · go_simp
        go_at_call 18
        refine (KB.out _).mono ?_
        rintro e _ ⟨rfl, rfl⟩
        try go_wp2_with fail
        refine hK.out _ _ ?_ (fun hHeld => ?_)
        · trivial
        clear hK K
        try simp only [Act.put, List.setIfInBounds_toArray, List.set_cons_zero, List.set_cons_succ]
        refine wpAnyH_ready (rs := [1, 3]) (by kernel_rfl) (by simp) ?_
        refine AllReadyH.cons (o := ⟨some 124, Op.load 25 (Operand.tmp 123), 25, _, _, none⟩) rfl (fun K hK => ?_) (AllReadyH.cons (o := ⟨some 126, Op.buildSlice 22 5 #[(0, Operand.tmp 125), (1, Operand.const (Value.int IntKind.i64 0)), (2, Operand.const (Value.int IntKind.i64 (-1))), (3, Operand.const (Value.int IntKind.i64 65536)), (4, Operand.const (Value.int IntKind.i64 65537))], 22, _, _, none⟩) rfl (fun K hK => ?_) AllReadyH.nil)
        · go_simp
          try go_wp2_with fail
          refine hK.out _ _ ?_ (fun hHeld => ?_)
          · trivial
          clear hK K
          try simp only [Act.put, List.setIfInBounds_toArray, List.set_cons_zero, List.set_cons_succ]
          refine wpAnyH_ready (rs := [3]) (by kernel_rfl) (by simp) ?_
          refine AllReadyH.cons (o := ⟨some 126, Op.buildSlice 22 5 #[(0, Operand.tmp 125), (1, Operand.const (Value.int IntKind.i64 0)), (2, Operand.const (Value.int IntKind.i64 (-1))), (3, Operand.const (Value.int IntKind.i64 65536)), (4, Operand.const (Value.int IntKind.i64 65537))], 22, _, _, none⟩) rfl (fun K hK => ?_) AllReadyH.nil
          go_simp
          try go_wp2_with fail
          refine hK.out _ _ ?_ (fun hHeld => ?_)
          · trivial
          clear hK K
          try simp only [Act.put, List.setIfInBounds_toArray, List.set_cons_zero, List.set_cons_succ]
          refine wpAnyH_take (i := 6) (oi := ⟨some 129, Op.indexAddr 22 (Operand.tmp 126) (Operand.tmp 128), 0, _, _, none⟩) (v := ?_) rfl (by kernel_rfl) (by kernel_rfl) (by kernel_rfl) (fun _ _ _ h => h) (Or.inl ⟨by rfl, ?_⟩) (by assumption) ?_
          rotate_left 1
          · (intro w hSw; (try dsimp only at hSw); go_simp; first | done | with_reducible rfl)
          try simp only [Act.put, List.setIfInBounds_toArray, List.set_cons_zero, List.set_cons_succ]
          refine wpAnyH_ready (rs := [7]) (by kernel_rfl) (by simp) ?_
          refine AllReadyH.cons (o := ⟨some 130, Op.load 3 (Operand.tmp 129), 3, _, _, none⟩) rfl (fun K hK => ?_) AllReadyH.nil
          go_simp
          try go_wp2_with fail
          refine hK.out _ _ ?_ (fun hHeld => ?_)
          · trivial
          clear hK K
          try simp only [Act.put, List.setIfInBounds_toArray, List.set_cons_zero, List.set_cons_succ]
          refine wpAnyH_take (i := 8) (oi := ⟨some 131, Op.build 44 #[(0, Operand.const (Value.int IntKind.i64 1)), (1, Operand.tmp 130)], 44, _, _, none⟩) (v := ?_) rfl (by kernel_rfl) (by kernel_rfl) (by kernel_rfl) (fun _ _ _ h => h) (Or.inl ⟨by rfl, ?_⟩) (by assumption) ?_
          rotate_left 1
          · (intro w hSw; (try dsimp only at hSw); go_simp; first | done | with_reducible rfl)
          try simp only [Act.put, List.setIfInBounds_toArray, List.set_cons_zero, List.set_cons_succ]
          refine wpAnyH_take (i := 9) (oi := ⟨some 132, Op.build 46 #[(0, Operand.const (Value.int IntKind.i64 31)), (1, Operand.tmp 131)], 46, _, _, none⟩) (v := ?_) rfl (by kernel_rfl) (by kernel_rfl) (by kernel_rfl) (fun _ _ _ h => h) (Or.inl ⟨by rfl, ?_⟩) (by assumption) ?_
          rotate_left 1
          · (intro w hSw; (try dsimp only at hSw); go_simp; first | done | with_reducible rfl)
          try simp only [Act.put, List.setIfInBounds_toArray, List.set_cons_zero, List.set_cons_succ]
          refine wpAnyH_ready (rs := [10]) (by kernel_rfl) (by simp) ?_
          refine AllReadyH.cons (o := ⟨some 133, Op.buildSlice 25 1 #[(0, Operand.tmp 132)], 25, _, _, none⟩) rfl (fun K hK => ?_) AllReadyH.nil
          go_simp
          try go_wp2_with fail
          refine hK.out _ _ ?_ (fun hHeld => ?_)
          · trivial
          clear hK K
          try simp only [Act.put, List.setIfInBounds_toArray, List.set_cons_zero, List.set_cons_succ]
          refine wpAnyH_ready (rs := [11]) (by kernel_rfl) (by simp) ?_
          refine AllReadyH.cons (o := ⟨some 134, Op.call { callee := Callee.builtin Builtin.append, args := #[Operand.tmp 124, Operand.tmp 133], argTypes := #[25, 25] }, 25, _, _, none⟩) rfl (fun K hK => ?_) AllReadyH.nil
          refine wp_row1_f (.tmp 124) (.tmp 133) 25 rfl RVa 46 24 _ Tryz.underlying25 Tryz.infoVal rfl (by decide) N (.slice an2 ln2 cn2) vs [⟨31, 1, vz⟩] (W6.heap.size + 1) 1 1 rfl rfl rfl HCL.out HOb.out.ob hzb hln ?_
          intro ak lk ck wn hnn hOn hBn hPn
          obtain ⟨y0, y1, y2, g0, g1, g2, -⟩ := (HOb.out.there2 hPn.out).open3
          refine hK.out _ _ ?_ (fun hHeld => ?_)
          · trivial
          clear hK K
          try simp only [Act.put, List.setIfInBounds_toArray, List.set_cons_zero, List.set_cons_succ]
          refine wpAnyH_take (i := 12) (oi := ⟨some 135, Op.fieldAddr 27 (Operand.tmp 9) 1, 0, _, _, none⟩) (v := ?_) rfl (by kernel_rfl) (by kernel_rfl) (by kernel_rfl) (fun _ _ _ h => h) (Or.inl ⟨by rfl, ?_⟩) (by assumption) ?_
          rotate_left 1
          · (intro w hSw; (try dsimp only at hSw); go_simp; first | done | with_reducible rfl)
          try simp only [Act.put, List.setIfInBounds_toArray, List.set_cons_zero, List.set_cons_succ]
          refine wpAnyH_ready (rs := [13]) (by kernel_rfl) (by simp) ?_
          refine AllReadyH.cons (o := ⟨none, Op.store 25 (Operand.tmp 135) (Operand.tmp 134), 0, _, _, none⟩) rfl (fun K hK => ?_) AllReadyH.nil
          go_simp
          go_wp2_with fail
          refine hK.out _ _ ?_ (fun hHeld => ?_)
          · trivial
          clear hK K
          try simp only [Act.put, List.setIfInBounds_toArray, List.set_cons_zero, List.set_cons_succ]
          refine wpAnyH_done (by kernel_rfl) ?_ _
          refine NoPanic.normal ?_
          have hO7 := HOb.out.set2 hPn.out hOn.out
          have hS7 : Since W2 (wn.setCell ⟨N, 1, none⟩ (.slice ak lk ck)) := since_put HSZ.out (Since.step HS6.out HSb.out) hBn.out _ _
          generalize wn.setCell ⟨N, 1, none⟩ (.slice ak lk ck) = W7 at *
          clear y0 y1 y2 g0 g1 g2 x0 x1 x2
          obtain ⟨z0, z1, z2, zf0, zf1, zf2, -⟩ := (HR.out.keep hS7).open3
          have hP := spoil_P HW1.out (mem_app HW2.out (mem_one (P := Va.wf) (x := ⟨31, 1, vz⟩) ⟨i64_31, i64_1, HVZ.out⟩)) HW3.out (by simp only [List.length_append, List.length_singleton]; have := HW.out; omega) hwt
          obtain ⟨x0, x1, x2, f0, f1, f2, -⟩ := hO7.box.open3
          have hfin := HFN.out _ (fun u => u.wf ∧ u.wt ≤ 2 * tw + 400) _ _ _ _ _ _ _ _ _ _ _ _ _ hO7 hS7 (hP)
          unfold put3 at hfin
          have HFI := Lib.hid hfin
          clear hfin
          go_wp2
          exact bodyPost_ret (v := .agg #[.slice an ln cn, .slice ak lk ck, .slice an3 ln3 cn3]) (by simp [results, Tryz.results17, go_sem, z0, z1, z2]) rfl HFI.out
        · go_simp
          try go_wp2_with fail
          refine hK.out _ _ ?_ (fun hHeld => ?_)
          · trivial
          clear hK K
          try simp only [Act.put, List.setIfInBounds_toArray, List.set_cons_zero, List.set_cons_succ]
          refine wpAnyH_take (i := 6) (oi := ⟨some 129, Op.indexAddr 22 (Operand.tmp 126) (Operand.tmp 128), 0, _, _, none⟩) (v := ?_) rfl (by kernel_rfl) (by kernel_rfl) (by kernel_rfl) (fun _ _ _ h => h) (Or.inl ⟨by rfl, ?_⟩) (by assumption) ?_
          rotate_left 1
          · (intro w hSw; (try dsimp only at hSw); go_simp; first | done | with_reducible rfl)
          try simp only [Act.put, List.setIfInBounds_toArray, List.set_cons_zero, List.set_cons_succ]
          refine wpAnyH_ready (rs := [1, 7]) (by kernel_rfl) (by simp) ?_
          refine AllReadyH.cons (o := ⟨some 124, Op.load 25 (Operand.tmp 123), 25, _, _, none⟩) rfl (fun K hK => ?_) (AllReadyH.cons (o := ⟨some 130, Op.load 3 (Operand.tmp 129), 3, _, _, none⟩) rfl (fun K hK => ?_) AllReadyH.nil)
          · go_simp
            try go_wp2_with fail
            refine hK.out _ _ ?_ (fun hHeld => ?_)
            · trivial
            clear hK K
            try simp only [Act.put, List.setIfInBounds_toArray, List.set_cons_zero, List.set_cons_succ]
            refine wpAnyH_ready (rs := [7]) (by kernel_rfl) (by simp) ?_
            refine AllReadyH.cons (o := ⟨some 130, Op.load 3 (Operand.tmp 129), 3, _, _, none⟩) rfl (fun K hK => ?_) AllReadyH.nil
            go_simp
            try go_wp2_with fail
            refine hK.out _ _ ?_ (fun hHeld => ?_)
            · trivial
            clear hK K
            try simp only [Act.put, List.setIfInBounds_toArray, List.set_cons_zero, List.set_cons_succ]
            refine wpAnyH_take (i := 8) (oi := ⟨some 131, Op.build 44 #[(0, Operand.const (Value.int IntKind.i64 1)), (1, Operand.tmp 130)], 44, _, _, none⟩) (v := ?_) rfl (by kernel_rfl) (by kernel_rfl) (by kernel_rfl) (fun _ _ _ h => h) (Or.inl ⟨by rfl, ?_⟩) (by assumption) ?_
            rotate_left 1
            · (intro w hSw; (try dsimp only at hSw); go_simp; first | done | with_reducible rfl)
            try simp only [Act.put, List.setIfInBounds_toArray, List.set_cons_zero, List.set_cons_succ]
            refine wpAnyH_take (i := 9) (oi := ⟨some 132, Op.build 46 #[(0, Operand.const (Value.int IntKind.i64 31)), (1, Operand.tmp 131)], 46, _, _, none⟩) (v := ?_) rfl (by kernel_rfl) (by kernel_rfl) (by kernel_rfl) (fun _ _ _ h => h) (Or.inl ⟨by rfl, ?_⟩) (by assumption) ?_
            rotate_left 1
            · (intro w hSw; (try dsimp only at hSw); go_simp; first | done | with_reducible rfl)
            try simp only [Act.put, List.setIfInBounds_toArray, List.set_cons_zero, List.set_cons_succ]
            refine wpAnyH_ready (rs := [10]) (by kernel_rfl) (by simp) ?_
            refine AllReadyH.cons (o := ⟨some 133, Op.buildSlice 25 1 #[(0, Operand.tmp 132)], 25, _, _, none⟩) rfl (fun K hK => ?_) AllReadyH.nil
            go_simp
            try go_wp2_with fail
            refine hK.out _ _ ?_ (fun hHeld => ?_)
            · trivial
            clear hK K
            try simp only [Act.put, List.setIfInBounds_toArray, List.set_cons_zero, List.set_cons_succ]
            refine wpAnyH_ready (rs := [11]) (by kernel_rfl) (by simp) ?_
            refine AllReadyH.cons (o := ⟨some 134, Op.call { callee := Callee.builtin Builtin.append, args := #[Operand.tmp 124, Operand.tmp 133], argTypes := #[25, 25] }, 25, _, _, none⟩) rfl (fun K hK => ?_) AllReadyH.nil
            refine wp_row1_f (.tmp 124) (.tmp 133) 25 rfl RVa 46 24 _ Tryz.underlying25 Tryz.infoVal rfl (by decide) N (.slice an2 ln2 cn2) vs [⟨31, 1, vz⟩] (W6.heap.size + 1) 1 1 rfl rfl rfl HCL.out HOb.out.ob hzb hln ?_
            intro ak lk ck wn hnn hOn hBn hPn
            obtain ⟨y0, y1, y2, g0, g1, g2, -⟩ := (HOb.out.there2 hPn.out).open3
            refine hK.out _ _ ?_ (fun hHeld => ?_)
            · trivial
            clear hK K
            try simp only [Act.put, List.setIfInBounds_toArray, List.set_cons_zero, List.set_cons_succ]
            refine wpAnyH_take (i := 12) (oi := ⟨some 135, Op.fieldAddr 27 (Operand.tmp 9) 1, 0, _, _, none⟩) (v := ?_) rfl (by kernel_rfl) (by kernel_rfl) (by kernel_rfl) (fun _ _ _ h => h) (Or.inl ⟨by rfl, ?_⟩) (by assumption) ?_
            rotate_left 1
            · (intro w hSw; (try dsimp only at hSw); go_simp; first | done | with_reducible rfl)
            try simp only [Act.put, List.setIfInBounds_toArray, List.set_cons_zero, List.set_cons_succ]
            refine wpAnyH_ready (rs := [13]) (by kernel_rfl) (by simp) ?_
            refine AllReadyH.cons (o := ⟨none, Op.store 25 (Operand.tmp 135) (Operand.tmp 134), 0, _, _, none⟩) rfl (fun K hK => ?_) AllReadyH.nil
            go_simp
            go_wp2_with fail
            refine hK.out _ _ ?_ (fun hHeld => ?_)
            · trivial
            clear hK K
            try simp only [Act.put, List.setIfInBounds_toArray, List.set_cons_zero, List.set_cons_succ]
            refine wpAnyH_done (by kernel_rfl) ?_ _
            refine NoPanic.normal ?_
            have hO7 := HOb.out.set2 hPn.out hOn.out
            have hS7 : Since W2 (wn.setCell ⟨N, 1, none⟩ (.slice ak lk ck)) := since_put HSZ.out (Since.step HS6.out HSb.out) hBn.out _ _
            generalize wn.setCell ⟨N, 1, none⟩ (.slice ak lk ck) = W7 at *
            clear y0 y1 y2 g0 g1 g2 x0 x1 x2
            obtain ⟨z0, z1, z2, zf0, zf1, zf2, -⟩ := (HR.out.keep hS7).open3
            have hP := spoil_P HW1.out (mem_app HW2.out (mem_one (P := Va.wf) (x := ⟨31, 1, vz⟩) ⟨i64_31, i64_1, HVZ.out⟩)) HW3.out (by simp only [List.length_append, List.length_singleton]; have := HW.out; omega) hwt
            obtain ⟨x0, x1, x2, f0, f1, f2, -⟩ := hO7.box.open3
            have hfin := HFN.out _ (fun u => u.wf ∧ u.wt ≤ 2 * tw + 400) _ _ _ _ _ _ _ _ _ _ _ _ _ hO7 hS7 (hP)
            unfold put3 at hfin
            have HFI := Lib.hid hfin
            clear hfin
            go_wp2
            exact bodyPost_ret (v := .agg #[.slice an ln cn, .slice ak lk ck, .slice an3 ln3 cn3]) (by simp [results, Tryz.results17, go_sem, z0, z1, z2]) rfl HFI.out
          · go_simp
            try go_wp2_with fail
            refine hK.out _ _ ?_ (fun hHeld => ?_)
            · trivial
            clear hK K
            try simp only [Act.put, List.setIfInBounds_toArray, List.set_cons_zero, List.set_cons_succ]
            refine wpAnyH_take (i := 8) (oi := ⟨some 131, Op.build 44 #[(0, Operand.const (Value.int IntKind.i64 1)), (1, Operand.tmp 130)], 44, _, _, none⟩) (v := ?_) rfl (by kernel_rfl) (by kernel_rfl) (by kernel_rfl) (fun _ _ _ h => h) (Or.inl ⟨by rfl, ?_⟩) (by assumption) ?_
            rotate_left 1
            · (intro w hSw; (try dsimp only at hSw); go_simp; first | done | with_reducible rfl)
            try simp only [Act.put, List.setIfInBounds_toArray, List.set_cons_zero, List.set_cons_succ]
            refine wpAnyH_take (i := 9) (oi := ⟨some 132, Op.build 46 #[(0, Operand.const (Value.int IntKind.i64 31)), (1, Operand.tmp 131)], 46, _, _, none⟩) (v := ?_) rfl (by kernel_rfl) (by kernel_rfl) (by kernel_rfl) (fun _ _ _ h => h) (Or.inl ⟨by rfl, ?_⟩) (by assumption) ?_
            rotate_left 1
            · (intro w hSw; (try dsimp only at hSw); go_simp; first | done | with_reducible rfl)
            try simp only [Act.put, List.setIfInBounds_toArray, List.set_cons_zero, List.set_cons_succ]
            refine wpAnyH_ready (rs := [1, 10]) (by kernel_rfl) (by simp) ?_
            refine AllReadyH.cons (o := ⟨some 124, Op.load 25 (Operand.tmp 123), 25, _, _, none⟩) rfl (fun K hK => ?_) (AllReadyH.cons (o := ⟨some 133, Op.buildSlice 25 1 #[(0, Operand.tmp 132)], 25, _, _, none⟩) rfl (fun K hK => ?_) AllReadyH.nil)
            · go_simp
              try go_wp2_with fail
              refine hK.out _ _ ?_ (fun hHeld => ?_)
              · trivial
              clear hK K
              try simp only [Act.put, List.setIfInBounds_toArray, List.set_cons_zero, List.set_cons_succ]
              refine wpAnyH_ready (rs := [10]) (by kernel_rfl) (by simp) ?_
              refine AllReadyH.cons (o := ⟨some 133, Op.buildSlice 25 1 #[(0, Operand.tmp 132)], 25, _, _, none⟩) rfl (fun K hK => ?_) AllReadyH.nil
              go_simp
              try go_wp2_with fail
              refine hK.out _ _ ?_ (fun hHeld => ?_)
              · trivial
              clear hK K
              try simp only [Act.put, List.setIfInBounds_toArray, List.set_cons_zero, List.set_cons_succ]
              refine wpAnyH_ready (rs := [11]) (by kernel_rfl) (by simp) ?_
              refine AllReadyH.cons (o := ⟨some 134, Op.call { callee := Callee.builtin Builtin.append, args := #[Operand.tmp 124, Operand.tmp 133], argTypes := #[25, 25] }, 25, _, _, none⟩) rfl (fun K hK => ?_) AllReadyH.nil
              refine wp_row1_f (.tmp 124) (.tmp 133) 25 rfl RVa 46 24 _ Tryz.underlying25 Tryz.infoVal rfl (by decide) N (.slice an2 ln2 cn2) vs [⟨31, 1, vz⟩] (W6.heap.size + 1) 1 1 rfl rfl rfl HCL.out HOb.out.ob hzb hln ?_
              intro ak lk ck wn hnn hOn hBn hPn
              obtain ⟨y0, y1, y2, g0, g1, g2, -⟩ := (HOb.out.there2 hPn.out).open3
              refine hK.out _ _ ?_ (fun hHeld => ?_)
              · trivial
              clear hK K
              try simp only [Act.put, List.setIfInBounds_toArray, List.set_cons_zero, List.set_cons_succ]
              refine wpAnyH_take (i := 12) (oi := ⟨some 135, Op.fieldAddr 27 (Operand.tmp 9) 1, 0, _, _, none⟩) (v := ?_) rfl (by kernel_rfl) (by kernel_rfl) (by kernel_rfl) (fun _ _ _ h => h) (Or.inl ⟨by rfl, ?_⟩) (by assumption) ?_
              rotate_left 1
              · (intro w hSw; (try dsimp only at hSw); go_simp; first | done | with_reducible rfl)
              try simp only [Act.put, List.setIfInBounds_toArray, List.set_cons_zero, List.set_cons_succ]
              refine wpAnyH_ready (rs := [13]) (by kernel_rfl) (by simp) ?_
              refine AllReadyH.cons (o := ⟨none, Op.store 25 (Operand.tmp 135) (Operand.tmp 134), 0, _, _, none⟩) rfl (fun K hK => ?_) AllReadyH.nil
              go_simp
              go_wp2_with fail
              refine hK.out _ _ ?_ (fun hHeld => ?_)
              · trivial
              clear hK K
              try simp only [Act.put, List.setIfInBounds_toArray, List.set_cons_zero, List.set_cons_succ]
              refine wpAnyH_done (by kernel_rfl) ?_ _
              refine NoPanic.normal ?_
              have hO7 := HOb.out.set2 hPn.out hOn.out
              have hS7 : Since W2 (wn.setCell ⟨N, 1, none⟩ (.slice ak lk ck)) := since_put HSZ.out (Since.step HS6.out HSb.out) hBn.out _ _
              generalize wn.setCell ⟨N, 1, none⟩ (.slice ak lk ck) = W7 at *
              clear y0 y1 y2 g0 g1 g2 x0 x1 x2
              obtain ⟨z0, z1, z2, zf0, zf1, zf2, -⟩ := (HR.out.keep hS7).open3
              have hP := spoil_P HW1.out (mem_app HW2.out (mem_one (P := Va.wf) (x := ⟨31, 1, vz⟩) ⟨i64_31, i64_1, HVZ.out⟩)) HW3.out (by simp only [List.length_append, List.length_singleton]; have := HW.out; omega) hwt
              obtain ⟨x0, x1, x2, f0, f1, f2, -⟩ := hO7.box.open3
              have hfin := HFN.out _ (fun u => u.wf ∧ u.wt ≤ 2 * tw + 400) _ _ _ _ _ _ _ _ _ _ _ _ _ hO7 hS7 (hP)
              unfold put3 at hfin
              have HFI := Lib.hid hfin
              clear hfin
              go_wp2
              exact bodyPost_ret (v := .agg #[.slice an ln cn, .slice ak lk ck, .slice an3 ln3 cn3]) (by simp [results, Tryz.results17, go_sem, z0, z1, z2]) rfl HFI.out
            · go_simp
              try go_wp2_with fail
              refine hK.out _ _ ?_ (fun hHeld => ?_)
              · trivial
              clear hK K
              try simp only [Act.put, List.setIfInBounds_toArray, List.set_cons_zero, List.set_cons_succ]
              refine wpAnyH_ready (rs := [1]) (by kernel_rfl) (by simp) ?_
              refine AllReadyH.cons (o := ⟨some 124, Op.load 25 (Operand.tmp 123), 25, _, _, none⟩) rfl (fun K hK => ?_) AllReadyH.nil
              go_simp
              try go_wp2_with fail
              refine hK.out _ _ ?_ (fun hHeld => ?_)
              · trivial
              clear hK K
              try simp only [Act.put, List.setIfInBounds_toArray, List.set_cons_zero, List.set_cons_succ]
              refine wpAnyH_ready (rs := [11]) (by kernel_rfl) (by simp) ?_
              refine AllReadyH.cons (o := ⟨some 134, Op.call { callee := Callee.builtin Builtin.append, args := #[Operand.tmp 124, Operand.tmp 133], argTypes := #[25, 25] }, 25, _, _, none⟩) rfl (fun K hK => ?_) AllReadyH.nil
              refine wp_row1_f (.tmp 124) (.tmp 133) 25 rfl RVa 46 24 _ Tryz.underlying25 Tryz.infoVal rfl (by decide) N (.slice an2 ln2 cn2) vs [⟨31, 1, vz⟩] (W6.heap.size + 1) 1 1 rfl rfl rfl HCL.out HOb.out.ob hzb hln ?_
              intro ak lk ck wn hnn hOn hBn hPn
              obtain ⟨y0, y1, y2, g0, g1, g2, -⟩ := (HOb.out.there2 hPn.out).open3
              refine hK.out _ _ ?_ (fun hHeld => ?_)
              · trivial
              clear hK K
              try simp only [Act.put, List.setIfInBounds_toArray, List.set_cons_zero, List.set_cons_succ]
              refine wpAnyH_take (i := 12) (oi := ⟨some 135, Op.fieldAddr 27 (Operand.tmp 9) 1, 0, _, _, none⟩) (v := ?_) rfl (by kernel_rfl) (by kernel_rfl) (by kernel_rfl) (fun _ _ _ h => h) (Or.inl ⟨by rfl, ?_⟩) (by assumption) ?_
              rotate_left 1
              · (intro w hSw; (try dsimp only at hSw); go_simp; first | done | with_reducible rfl)
              try simp only [Act.put, List.setIfInBounds_toArray, List.set_cons_zero, List.set_cons_succ]
              refine wpAnyH_ready (rs := [13]) (by kernel_rfl) (by simp) ?_
              refine AllReadyH.cons (o := ⟨none, Op.store 25 (Operand.tmp 135) (Operand.tmp 134), 0, _, _, none⟩) rfl (fun K hK => ?_) AllReadyH.nil
              go_simp
              go_wp2_with fail
              refine hK.out _ _ ?_ (fun hHeld => ?_)
              · trivial
              clear hK K
              try simp only [Act.put, List.setIfInBounds_toArray, List.set_cons_zero, List.set_cons_succ]
              refine wpAnyH_done (by kernel_rfl) ?_ _
              refine NoPanic.normal ?_
              have hO7 := HOb.out.set2 hPn.out hOn.out
              have hS7 : Since W2 (wn.setCell ⟨N, 1, none⟩ (.slice ak lk ck)) := since_put HSZ.out (Since.step HS6.out HSb.out) hBn.out _ _
              generalize wn.setCell ⟨N, 1, none⟩ (.slice ak lk ck) = W7 at *
              clear y0 y1 y2 g0 g1 g2 x0 x1 x2
              obtain ⟨z0, z1, z2, zf0, zf1, zf2, -⟩ := (HR.out.keep hS7).open3
              have hP := spoil_P HW1.out (mem_app HW2.out (mem_one (P := Va.wf) (x := ⟨31, 1, vz⟩) ⟨i64_31, i64_1, HVZ.out⟩)) HW3.out (by simp only [List.length_append, List.length_singleton]; have := HW.out; omega) hwt
              obtain ⟨x0, x1, x2, f0, f1, f2, -⟩ := hO7.box.open3
              have hfin := HFN.out _ (fun u => u.wf ∧ u.wt ≤ 2 * tw + 400) _ _ _ _ _ _ _ _ _ _ _ _ _ hO7 hS7 (hP)
              unfold put3 at hfin
              have HFI := Lib.hid hfin
              clear hfin
              go_wp2
              exact bodyPost_ret (v := .agg #[.slice an ln cn, .slice ak lk ck, .slice an3 ln3 cn3]) (by simp [results, Tryz.results17, go_sem, z0, z1, z2]) rfl HFI.out

theorem spoil_all : ∀ n : Nat, SpoilK n := by
  intro n
  induction n using Nat.strongRecOn with
  | _ n ih => exact spoil_step n (Lib.hid ih)

end Go.Proofs.YtelhpndlejommaaGreat
