import Derived.Test.YtgnloodmbgdgdaaGreatFM39
import Derived.Test.YtgnloodmbgdgdaaGreatFM32
namespace Go.Proofs.YtgnloodmbgdgdaaGreat
open Go.RowKit Go.Shelf
def AtF (V : World) (f : Fo) (r : Fr) : Prop := FSr (fun k => k < V.heap.size) V f r
theorem AtF.since {V V' : World} {f : Fo} {r : Fr} (h : AtF V f r) (hs : Since V V') : AtF V' f r :=
 FSr.mono (fun _ hk => hk.2) (FSr.keep (S' := fun _ => True) h ⟨hs.size, fun b _ hl => hs.block b hl⟩ (fun _ _ _ => trivial))
theorem AtF.fat {V : World} {f : Fo} {r : Fr} (h : AtF V f r) : FAt V.heap.size V f (.slice r.a2 r.n2 r.c2) (.slice r.a3 r.n3 r.c3) := FS.fat (fun _ h => h) _ h.2.2
def AtOut (f : Fo) (V : World) (e : Ending) (w' : World) : Prop :=
 ∃ r : Fr, e = .returned (.agg #[.int .i64 r.op, .int .i64 r.n, .slice r.a2 r.n2 r.c2, .slice r.a3 r.n3 r.c3]) ∧ Hid (AtF w' f r) ∧ Hid (Below V.heap.size V w')
theorem AtOut.of {S0 : Nat → Prop} {f : Fo} {V w' : World} {e : Ending} (h : FoOut S0 f V e w') : AtOut f V e w' := by
 obtain ⟨r, h1, h2, h3⟩ := h
 exact ⟨r, h1, Lib.hid (FSr.mono (fun _ hk => hk.2) h2.out), h3⟩
def AtE (p : Fo × Int) (V : World) (e : Ending) (w' : World) : Prop :=
 ∃ r : Fr, e = .returned (.tuple #[.agg #[.int .i64 r.op, .int .i64 r.n, .slice r.a2 r.n2 r.c2, .slice r.a3 r.n3 r.c3], .int .i64 p.2]) ∧ Hid (AtF w' p.1 r) ∧ Hid (Below V.heap.size V w')
theorem AtE.of {S0 : Nat → Prop} {p : Fo × Int} {V w' : World} {e : Ending} (h : FoE S0 p V e w') : AtE p V e w' := by
 obtain ⟨r, h1, h2, h3⟩ := h
 exact ⟨r, h1, Lib.hid (FSr.mono (fun _ hk => hk.2) h2.out), h3⟩
def clF (n : Int) : Fo := .mk 1 n [] []
def notF (f : Fo) : Fo := .mk 6 0 [] [f]
def tEx : Th := .mk [1] [] []
def pEx : Fo := notF (.mk 4 0 [] [clF 0, notF (clF 1)])
def pOut : Fo := .mk 5 0 [] [notF (clF 0), clF 1]
def sEx : Fo := .mk 4 0 [] [.mk 0 0 [] [], clF 1, clF 1]
theorem vF {f : Fo} (hs : f.size ≤ 96) (hd : f.deep ≤ 8) (hg : f.good = true) : validF f = 0 := by
 unfold validF
 rw [if_neg (by omega), if_pos hg]
theorem v_cl (n : Int) (h0 : 0 ≤ n) (h1 : n < 64) : validF (clF n) = 0 := vF (by simp [clF, Fo.size, Fo.sizes]) (by simp [clF, Fo.deep, Fo.deeps]) (by simp [clF, Fo.good, Fo.goods, properB]; omega)
theorem v_ncl (n : Int) (h0 : 0 ≤ n) (h1 : n < 64) : validF (notF (clF n)) = 0 := vF (by simp [clF, notF, Fo.size, Fo.sizes]) (by simp [clF, notF, Fo.deep, Fo.deeps]) (by simp [clF, notF, Fo.good, Fo.goods, properB]; omega)
theorem v_pEx : validF pEx = 0 := vF (by simp [pEx, clF, notF, Fo.size, Fo.sizes]) (by simp [pEx, clF, notF, Fo.deep, Fo.deeps]) (by simp [pEx, clF, notF, Fo.good, Fo.goods, properB])
theorem v_pOut : validF pOut = 0 := vF (by simp [pOut, clF, notF, Fo.size, Fo.sizes]) (by simp [pOut, clF, notF, Fo.deep, Fo.deeps]) (by simp [pOut, clF, notF, Fo.good, Fo.goods, properB])
theorem v_sEx : validF sEx = 0 := vF (by simp [sEx, clF, Fo.size, Fo.sizes]) (by simp [sEx, clF, Fo.deep, Fo.deeps]) (by simp [sEx, clF, Fo.good, Fo.goods, properB])
theorem inc_ex : Inc 64 [1] := fun i x h => by
 match i with
 | 0 =>
  simp at h
  subst h
  exact ⟨by omega, by omega, fun y hy => by omega⟩
 | i + 1 => simp at h
theorem v_tEx : validT tEx = 0 := by
 unfold validT
 rw [if_neg (by simp [tEx, Th.size, Th.sizes, Th.deep, Th.deeps]), if_pos (Th.goodB_t (by simp only [tEx, Th.good, Th.goods, NodeOk]; exact ⟨⟨inc_ex, fun v h => by simp at h, Inc.nil 32⟩, trivial⟩))]
theorem push_ex : pushR pEx = (pOut, 0) := by
 unfold pushR
 have h : pushG false pEx = pOut := by rfl
 rw [if_pos v_pEx, h, if_pos v_pOut]
theorem simp_ex : simpR sEx = (clF 1, 0) := by
 unfold simpR
 have h : simpleF sEx = clF 1 := by rfl
 rw [if_pos v_sEx, h]
theorem hold_ex : holdsR exL (clF 0) tEx = (true, 0) := by
 unfold holdsR
 rw [if_neg (by simp [v_cl]), if_neg (by simp [v_tEx]), if_pos (by simp [clF, tEx, Fo.cls, Fo.clss, Th.cls, Th.clss, exL])]
 have h : (clF 0).hold exL tEx = true := by simp [clF, tEx, Fo.hold, Th.cs, exL_is]
 rw [h]
theorem hold_ex2 : holdsR exL (notF (clF 0)) tEx = (false, 0) := by
 unfold holdsR
 rw [if_neg (by simp [v_ncl]), if_neg (by simp [v_tEx]), if_pos (by simp [clF, notF, tEx, Fo.cls, Fo.clss, Th.cls, Th.clss, exL])]
 have h : (notF (clF 0)).hold exL tEx = false := by simp [clF, notF, tEx, Fo.hold, Fo.hold1, Th.cs, exL_is]
 rw [h]
theorem okF_of {f : Fo} (hs : f.size ≤ 1000000) (hw : f.wf) : OkF f := ⟨hs, hw⟩
theorem wf_cl (n : Int) : (clF n).wf := by simp [clF, Fo.wf, Fo.wfs]
theorem wf_ncl (n : Int) : (notF (clF n)).wf := by simp [clF, notF, Fo.wf, Fo.wfs]
theorem wf_pEx : pEx.wf := by simp [pEx, clF, notF, Fo.wf, Fo.wfs]
theorem wf_pOut : pOut.wf := by simp [pOut, clF, notF, Fo.wf, Fo.wfs]
theorem wf_sEx : sEx.wf := by simp [sEx, clF, Fo.wf, Fo.wfs]
theorem sz_cl (n : Int) : (clF n).size ≤ 100000 := by simp [clF, Fo.size, Fo.sizes]
theorem sz_ncl (n : Int) : (notF (clF n)).size ≤ 100000 := by simp [clF, notF, Fo.size, Fo.sizes]
theorem sz_pEx : pEx.size ≤ 100000 := by simp [pEx, clF, notF, Fo.size, Fo.sizes]
theorem sz_pOut : pOut.size ≤ 100000 := by simp [pOut, clF, notF, Fo.size, Fo.sizes]
theorem sz_sEx : sEx.size ≤ 100000 := by simp [sEx, clF, Fo.size, Fo.sizes]
set_option maxHeartbeats 4000000 in
set_option maxRecDepth 100000 in
theorem class_at (n : Int) (W : World) : Calls Tryz.prog 54 #[.int .i64 n] W (AtOut (clF n) W) := by
 refine Calls.mono ?_ fun e w' h => AtOut.of (S0 := fun _ => False) h
 obtain ⟨W1, hW1⟩ : ∃ W1, W1 = W.alloc (.cells #[.int .i64 0, .int .i64 0, .slice none 0 0, .slice none 0 0] 29) := ⟨_, rfl⟩
 have hS1 : Since W W1 := by rw [hW1]; exact Since.alloc (since_r _) _
 have hX1 : BoxL W.heap.size [.int .i64 0, .int .i64 0, .slice none 0 0, .slice none 0 0] W1 := by rw [hW1]; exact BoxL.made W _ _
 obtain ⟨x0, x1, x2, x3, f0, f1, f2, f3, -⟩ := hX1.all4
 have hfin := put4_end (S0 := fun _ => False) (f := clF n) (N := W.heap.size) hS1 (Nat.le_refl _) ⟨1, n, none, 0, 0, none, 0, 0⟩ ⟨rfl, rfl, FS.of (.inl ⟨.inl rfl, rfl⟩) (.inl (.inl rfl)) (.inl ⟨.inl rfl, rfl⟩)⟩ _ _ rfl rfl
 have HF := Lib.hid hfin
 unfold put4 at HF
 clear hfin hX1 hS1
 go_enter Tryz.func54, Tryz.ntmps54
 go_upto_region 1 with (fail)
 rw [← hW1]
 clear hW1
 go_wp2
 exact bodyPost_ret (v := .agg #[.int .i64 1, .int .i64 n, .slice none 0 0, .slice none 0 0]) (by simp [results, Tryz.results54, go_sem, x0, x1, x2, x3]) rfl HF.out
set_option maxHeartbeats 4000000 in
set_option maxRecDepth 100000 in
theorem of_at (op : Int) (a : Option Addr) (m c : Nat) (ks : List Fo) (W : World) (h : FSl (fun k => k < W.heap.size) W (.slice a m c) ks) : Calls Tryz.prog 40 #[.int .i64 op, .slice a m c] W (AtOut (.mk op 0 [] ks) W) := by
 refine Calls.mono ?_ fun e w' h => AtOut.of (S0 := fun k => k < W.heap.size) h
 obtain ⟨W1, hW1⟩ : ∃ W1, W1 = W.alloc (.cells #[.int .i64 0, .int .i64 0, .slice none 0 0, .slice none 0 0] 29) := ⟨_, rfl⟩
 have hS1 : Since W W1 := by rw [hW1]; exact Since.alloc (since_r _) _
 have hX1 : BoxL W.heap.size [.int .i64 0, .int .i64 0, .slice none 0 0, .slice none 0 0] W1 := by rw [hW1]; exact BoxL.made W _ _
 obtain ⟨x0, x1, x2, x3, f0, f1, f2, f3, -⟩ := hX1.all4
 have hF0 : FSr (fun k => k < W.heap.size) W (.mk op 0 [] ks) ⟨op, 0, none, 0, 0, a, m, c⟩ := ⟨rfl, rfl, FS.of (.inl ⟨.inl rfl, rfl⟩) (.inl (.inl rfl)) h⟩
 have hfin := put4_end (S0 := fun k => k < W.heap.size) (f := .mk op 0 [] ks) (N := W.heap.size) hS1 (Nat.le_refl _) ⟨op, 0, none, 0, 0, a, m, c⟩ (FSr.mono (fun k hk => ⟨.inl ⟨hk, hk⟩, Nat.lt_of_lt_of_le hk hS1.size⟩) (hF0.since hS1 fun _ h => h)) _ _ rfl rfl
 have HF := Lib.hid hfin
 unfold put4 at HF
 clear hfin hX1 hS1 hF0 h
 go_enter Tryz.func40, Tryz.ntmps40
 go_upto_region 1 with (fail)
 rw [← hW1]
 clear hW1
 go_wp2
 exact bodyPost_ret (v := .agg #[.int .i64 op, .int .i64 0, .slice none 0 0, .slice a m c]) (by simp [results, Tryz.results40, go_sem, x0, x1, x2, x3]) rfl HF.out
theorem not_at (t : Fo) (r : Fr) (W : World) (h : AtF W t r) : Calls Tryz.prog 41 #[.agg #[.int .i64 r.op, .int .i64 r.n, .slice r.a2 r.n2 r.c2, .slice r.a3 r.n3 r.c3]] W (AtOut (notF t) W) :=
 (lnot_any t r W h).mono fun _ _ h => AtOut.of h
theorem row_at {W : World} (rs : List Fr) (ks : List Fo) (cs : Array Value) (T : TypeId) (hcs : cs.toList = rs.flatMap RFo.cells) (hl : rs.length = ks.length) (hm : rs.length ≤ 1000) (hF : ∀ (j : Nat) (r : Fr) (t : Fo), rs[j]? = some r → ks[j]? = some t → AtF W t r) :
  FSl (fun k => k < (W.alloc (.cells cs T)).heap.size) (W.alloc (.cells cs T)) (.slice (some ⟨W.heap.size, 0, none⟩) rs.length rs.length) ks := by
 have hO := ROwn.new RFo T W rs cs hcs (by unfold maxLen; omega)
 exact FSl.of hO.els (hO.ins.mono fun k hk => hk.2) hl fun j r t hr ht => (hF j r t hr ht).since (Since.alloc (since_r _) _)
theorem push_at (f : Fo) (r : Fr) (W : World) (h : AtF W f r) (hs : f.size ≤ 100000) (hw : f.wf) : Calls Tryz.prog 25 #[.agg #[.int .i64 r.op, .int .i64 r.n, .slice r.a2 r.n2 r.c2, .slice r.a3 r.n3 r.c3]] W (AtE (pushR f) W) := by
 rw [← h.1, ← h.2.1]
 exact (gPush_any f hs hw (fun k => k < W.heap.size) _ _ W (fun _ h => h) h.2.2).mono fun _ _ h => AtE.of h
theorem simp_at (f : Fo) (r : Fr) (W : World) (h : AtF W f r) (hs : f.size ≤ 100000) (hw : f.wf) : Calls Tryz.prog 27 #[.agg #[.int .i64 r.op, .int .i64 r.n, .slice r.a2 r.n2 r.c2, .slice r.a3 r.n3 r.c3]] W (AtE (simpR f) W) := by
 rw [← h.1, ← h.2.1]
 exact (gSimple_any f hs hw (fun k => k < W.heap.size) _ _ W (fun _ h => h) h.2.2).mono fun _ _ h => AtE.of h
theorem holds_at (N : Nat) (P : List (List Int)) (f : Fo) (r : Fr) (t : Th) (a b e : Value) (W : World) (hTx : TxAt N P W) (h : AtF W f r) (hT : TAt W.heap.size W t a b e) (hs : f.size ≤ 1000000) (hw : f.wf) (ht : t.size ≤ 1000000) (htw : t.wf) :
  Calls Tryz.prog 23 #[.pointer (some ⟨N, 0, none⟩), .agg #[.int .i64 r.op, .int .i64 r.n, .slice r.a2 r.n2 r.c2, .slice r.a3 r.n3 r.c3], .agg #[a, b, e]] W (HolOut (holdsR P f t) W) := by
 rw [← h.1, ← h.2.1]
 exact gHolds_any N P f hs hw t ht htw _ _ a b e W hTx h.fat hT
theorem same_at (f g : Fo) (r s : Fr) (W : World) (hF : AtF W f r) (hG : AtF W g s) (of : OkF f) (og : OkF g) :
  Calls Tryz.prog 29 #[.agg #[.int .i64 r.op, .int .i64 r.n, .slice r.a2 r.n2 r.c2, .slice r.a3 r.n3 r.c3], .agg #[.int .i64 s.op, .int .i64 s.n, .slice s.a2 s.n2 s.c2, .slice s.a3 s.n3 s.c3]] W fun e w' => e = .returned (.bool (decide (f = g))) ∧ Below W.heap.size W w' := by
 rw [← hF.1, ← hF.2.1, ← hG.1, ← hG.2.1]
 have hd : (fcmp f g == 0) = decide (f = g) := by
  by_cases h : f = g
  ·rw [decide_eq_true h]; simpa using fcmp_ord.eq_iff.2 h
  ·rw [decide_eq_false h, beq_eq_false_iff_ne]; exact fun e => h (fcmp_ord.eq_iff.1 e)
 rw [← hd]
 exact rsame_any f g of.1 og.1 of.2 og.2 _ _ _ _ W hF.fat hG.fat
end Go.Proofs.YtgnloodmbgdgdaaGreat
namespace Go.Proofs.YtgnloodmbgdgdaaGreat
open Go.RowKit Go.Shelf
section
variable (P : List (List Int))
theorem hold_true (n : Int) (is : List Iv) (ks : List Fo) (t : Th) : (Fo.mk 0 n is ks).hold P t = true := by rw [Fo.hold, if_pos rfl]
theorem hold_cls (n : Int) (is : List Iv) (ks ks' : List Fo) (t : Th) : (Fo.mk 1 n is ks).hold P t = (Fo.mk 1 n is ks').hold P t := by
 simp [Fo.hold]
theorem hold_val (n : Int) (is : List Iv) (ks ks' : List Fo) (t : Th) : (Fo.mk 2 n is ks).hold P t = (Fo.mk 2 n is ks').hold P t := by
 simp [Fo.hold]
theorem hold_val0 (n : Int) (ks : List Fo) (t : Th) : (Fo.mk 2 n [] ks).hold P t = false := by
 rw [Fo.hold, if_neg (by decide), if_neg (by decide), if_pos rfl]
 simp [hasL]
theorem hold_part (n : Int) (is : List Iv) (k : Fo) (ks : List Fo) (t : Th) : (Fo.mk 3 n is (k :: ks)).hold P t = t.ps.any fun p => k.hold P p := by
 rw [Fo.hold, if_neg (by decide), if_neg (by decide), if_neg (by decide), if_pos rfl]
 rfl
theorem hold_and (n : Int) (is : List Iv) (ks : List Fo) (t : Th) : (Fo.mk 4 n is ks).hold P t = ks.all fun k => k.hold P t := by
 rw [Fo.hold, if_neg (by decide), if_neg (by decide), if_neg (by decide), if_neg (by decide), if_pos rfl, ← Fo.holdN_any]
 induction ks with
 | nil => rfl
 | cons k ks ih => rw [List.any_cons, List.all_cons, ← ih, Bool.not_or, Bool.not_not]
theorem hold_or (n : Int) (is : List Iv) (ks : List Fo) (t : Th) : (Fo.mk 5 n is ks).hold P t = ks.any fun k => k.hold P t := by
 rw [Fo.hold, if_neg (by decide), if_neg (by decide), if_neg (by decide), if_neg (by decide), if_neg (by decide), if_pos rfl, ← Fo.holdE_any]
theorem hold_not (n : Int) (is : List Iv) (k : Fo) (ks : List Fo) (t : Th) : (Fo.mk 6 n is (k :: ks)).hold P t = !k.hold P t := by
 rw [Fo.hold, if_neg (by decide), if_neg (by decide), if_neg (by decide), if_neg (by decide), if_neg (by decide), if_neg (by decide)]
 rfl
theorem never_hold {k : Fo} (h : neverB k = true) (t : Th) : k.hold P t = false := by
 obtain ⟨op, n, is, ks⟩ := k
 have h2 := of_decide_eq_true h
 obtain ⟨h3, h4⟩ := h2
 simp only [Fo.op, Fo.ks] at h3 h4
 subst h3
 have h5 := List.eq_nil_of_length_eq_zero h4
 subst h5
 rw [hold_or]
 rfl
theorem all_iff {α : Type} {l m : List α} {p : α → Bool} (h : ∀ x, x ∈ l ↔ x ∈ m) : l.all p = m.all p := by
 rw [Bool.eq_iff_iff, List.all_eq_true, List.all_eq_true]
 exact ⟨fun hh x hx => hh x ((h x).2 hx), fun hh x hx => hh x ((h x).1 hx)⟩
theorem any_iff {α : Type} {l m : List α} {p : α → Bool} (h : ∀ x, x ∈ l ↔ x ∈ m) : l.any p = m.any p := by
 rw [Bool.eq_iff_iff, List.any_eq_true, List.any_eq_true]
 exact ⟨fun ⟨x, hx, hh⟩ => ⟨x, (h x).1 hx, hh⟩, fun ⟨x, hx, hh⟩ => ⟨x, (h x).2 hx, hh⟩⟩
theorem mk_eta (k : Fo) : k = .mk k.op k.n k.is k.ks := by cases k; rfl
theorem out_and (l : List Fo) (t : Th) : (outP 4 l alwaysF).hold P t = l.all fun k => k.hold P t := by
 unfold outP
 split
 ·exact hold_true P 0 [] [] t
 ·next x => rw [List.all_cons, List.all_nil, Bool.and_true]
 ·exact hold_and P 0 [] l t
theorem out_or (l : List Fo) (t : Th) : (outP 5 l neverF).hold P t = l.any fun k => k.hold P t := by
 unfold outP
 split
 ·rw [show neverF = .mk 5 0 [] [] from rfl, hold_or]
 ·next x => rw [List.any_cons, List.any_nil, Bool.or_false]
 ·exact hold_or P 0 [] l t
theorem flat_and (ks : List Fo) (t : Th) : ((flatP 4 alwaysF ks).all fun k => k.hold P t) = ks.all fun k => k.hold P t := by
 induction ks with
 | nil => rfl
 | cons k ks ih =>
  rw [flatP_cons, List.all_append, ih, List.all_cons]
  congr 1
  split
  ·next h => rw [fcmp_ord.zero _ _ h, show alwaysF = .mk 0 0 [] [] from rfl, hold_true]; rfl
  ·split
   ·next h4 => rw [mk_eta k, h4, hold_and]; rfl
   ·rw [List.all_cons, List.all_nil, Bool.and_true]
theorem flat_or (ks : List Fo) (t : Th) : ((flatP 5 neverF ks).any fun k => k.hold P t) = ks.any fun k => k.hold P t := by
 induction ks with
 | nil => rfl
 | cons k ks ih =>
  rw [flatP_cons, List.any_append, ih, List.any_cons]
  congr 1
  split
  ·next h => rw [fcmp_ord.zero _ _ h, show neverF = .mk 5 0 [] [] from rfl, hold_or]
  ·split
   ·next h4 => rw [mk_eta k, h4, hold_or]; rfl
   ·rw [List.any_cons, List.any_nil, Bool.or_false]
theorem join_and (ks : List Fo) (t : Th) : (joinP 4 ks alwaysF neverF).hold P t = ks.all fun k => k.hold P t := by
 unfold joinP
 split
 ·next h =>
  obtain ⟨k, hk, h0⟩ := List.any_eq_true.1 h
  have hk0 := fcmp_ord.zero _ _ (of_decide_eq_true h0)
  subst hk0
  rw [show neverF = .mk 5 0 [] [] from rfl, hold_or]
  symm
  rw [List.any_nil, List.all_eq_false]
  exact ⟨_, hk, by rw [show neverF = .mk 5 0 [] [] from rfl, hold_or]; simp⟩
 ·rw [out_and, all_iff (ascO_mem fcmp_ord _), flat_and]
theorem join_or (ks : List Fo) (t : Th) : (joinP 5 ks neverF alwaysF).hold P t = ks.any fun k => k.hold P t := by
 unfold joinP
 split
 ·next h =>
  obtain ⟨k, hk, h0⟩ := List.any_eq_true.1 h
  have hk0 := fcmp_ord.zero _ _ (of_decide_eq_true h0)
  subst hk0
  rw [show alwaysF = .mk 0 0 [] [] from rfl, hold_true]
  symm
  rw [List.any_eq_true]
  exact ⟨_, hk, hold_true P 0 [] [] t⟩
 ·rw [out_or, any_iff (ascO_mem fcmp_ord _), flat_or]
theorem opp_hold {k : Fo} (hg : k.good = true) (t : Th) : (oppF k).hold P t = !k.hold P t := by
 unfold oppF
 split
 ·next h => rw [show neverF = .mk 5 0 [] [] from rfl, hold_or, mk_eta k, h, hold_true]; rfl
 ·split
  ·next h => rw [show alwaysF = .mk 0 0 [] [] from rfl, hold_true, never_hold P h]; rfl
  ·split
   ·next h =>
    obtain ⟨u, hu⟩ := List.length_eq_one_iff.1 (good_six hg h)
    rw [mk_eta k, h, hu, hold_not, Bool.not_not]
    rfl
   ·rw [hold_not]
theorem good_one {f : Fo} (h : f.good = true) (h36 : f.op = 3 ∨ f.op = 6) : f.ks.length = 1 := by
 rw [f.good_eq, Bool.and_eq_true] at h
 have h2 := h.1
 unfold properB at h2
 rcases h36 with h3 | h3 <;> simp [h3] at h2 <;> exact h2.2.2
theorem good_ops {f : Fo} (h : f.good = true) : f.op = 0 ∨ f.op = 1 ∨ f.op = 2 ∨ f.op = 3 ∨ f.op = 4 ∨ f.op = 5 ∨ f.op = 6 := by
 rw [f.good_eq, Bool.and_eq_true] at h
 have h2 := h.1
 unfold properB at h2
 by_cases q0 : f.op = 0
 ·exact .inl q0
 by_cases q1 : f.op = 1
 ·exact .inr (.inl q1)
 by_cases q2 : f.op = 2
 ·exact .inr (.inr (.inl q2))
 by_cases q3 : f.op = 3
 ·exact .inr (.inr (.inr (.inl q3)))
 by_cases q4 : f.op = 4
 ·exact .inr (.inr (.inr (.inr (.inl q4))))
 by_cases q5 : f.op = 5
 ·exact .inr (.inr (.inr (.inr (.inr (.inl q5)))))
 by_cases q6 : f.op = 6
 ·exact .inr (.inr (.inr (.inr (.inr (.inr q6)))))
 ·simp [q0, q1, q2, q3, q4, q5, q6] at h2
theorem all_map {ks : List Fo} {g : Fo → Fo} {p q : Fo → Bool} (h : ∀ k ∈ ks, p (g k) = q k) : (ks.map g).all p = ks.all q := by
 induction ks with
 | nil => rfl
 | cons k ks ih => rw [List.map_cons, List.all_cons, List.all_cons, h k (List.mem_cons_self ..), ih fun x hx => h x (List.mem_cons_of_mem _ hx)]
theorem any_map {ks : List Fo} {g : Fo → Fo} {p q : Fo → Bool} (h : ∀ k ∈ ks, p (g k) = q k) : (ks.map g).any p = ks.any q := by
 induction ks with
 | nil => rfl
 | cons k ks ih => rw [List.map_cons, List.any_cons, List.any_cons, h k (List.mem_cons_self ..), ih fun x hx => h x (List.mem_cons_of_mem _ hx)]
theorem simple_hold : ∀ (m : Nat) (f : Fo), f.size ≤ m → f.good = true → f.wf → ∀ t : Th, (simpleF f).hold P t = f.hold P t
 | 0, f, h, _, _, _ => by have := f.size_pos; omega
 | m + 1, f, h, hg, hw, t => by
  have hs := f.size_eq
  have hwe := (Fo.wf_eq f).1 hw
  have key : ∀ k ∈ f.ks, ∀ t, (simpleF k).hold P t = k.hold P t := fun k hk t => simple_hold m k (by have := Fo.sizes_mem hk; omega) (good_kid hg hk) (hwe.2 k hk) t
  have kg : ∀ k ∈ f.ks, (simpleF k).good = true := fun k hk => (simple_keep k.size k (Nat.le_refl _) (good_kid hg hk) (hwe.2 k hk)).2.1
  rw [simpleF_eq]
  have h1 := good_one hg
  obtain ⟨op, n, is, ks⟩ := f
  have ho := good_ops hg
  simp only [Fo.op, Fo.n, Fo.is, Fo.ks] at *
  rcases ho with rfl | rfl | rfl | rfl | rfl | rfl | rfl
  ·rw [hold_true]
   simp [nodeS, hold_true]
  ·rw [show nodeS 1 n is (ks.map simpleF) = .mk 1 n is (ks.map simpleF) by simp [nodeS]]
   exact hold_cls P n is _ _ t
  ·unfold nodeS
   split
   ·next h2 =>
    have h3 := List.eq_nil_of_length_eq_zero h2.2
    subst h3
    rw [hold_val0, show neverF = .mk 5 0 [] [] from rfl, hold_or]
    rfl
   ·simp only [show (2 : Int) ≠ 3 by decide, show (2 : Int) ≠ 6 by decide, show (2 : Int) ≠ 4 by decide, show (2 : Int) ≠ 5 by decide, false_and, if_false]
    exact hold_val P n is _ _ t
  ·obtain ⟨u, hu⟩ := List.length_eq_one_iff.1 (h1 (.inl rfl))
   subst hu
   have hk := key u (List.mem_cons_self ..)
   rw [hold_part, List.map_cons, List.map_nil]
   unfold nodeS
   rw [if_neg (by simp)]
   split
   ·next h2 =>
    rw [show neverF = .mk 5 0 [] [] from rfl, hold_or, List.any_nil]
    symm
    rw [List.any_eq_false]
    intro p _
    rw [← hk p, never_hold P (k := simpleF u) h2.2]
    simp
   ·simp only [show (3 : Int) ≠ 6 by decide, show (3 : Int) ≠ 4 by decide, show (3 : Int) ≠ 5 by decide, if_false]
    rw [hold_part]
    congr 1
    funext p
    exact hk p
  ·rw [show nodeS 4 n is (ks.map simpleF) = joinP 4 (ks.map simpleF) alwaysF neverF by simp [nodeS], join_and, hold_and]
   exact all_map fun k hk => key k hk t
  ·rw [show nodeS 5 n is (ks.map simpleF) = joinP 5 (ks.map simpleF) neverF alwaysF by simp [nodeS], join_or, hold_or]
   exact any_map fun k hk => key k hk t
  ·obtain ⟨u, hu⟩ := List.length_eq_one_iff.1 (h1 (.inr rfl))
   subst hu
   rw [show nodeS 6 n is ([u].map simpleF) = oppF (simpleF u) by simp [nodeS, kid0], opp_hold P (kg u (List.mem_cons_self ..)), hold_not, key u (List.mem_cons_self ..)]
theorem push_hold : ∀ (m : Nat) (f : Fo), f.size ≤ m → f.good = true → ∀ (b : Bool) (t : Th), (pushG b f).hold P t = (f.hold P t ^^ b)
 | 0, f, h, _, _, _ => by have := f.size_pos; omega
 | m + 1, f, h, hg, b, t => by
  have hs := f.size_eq
  have key : ∀ k ∈ f.ks, ∀ b t, (pushG b k).hold P t = (k.hold P t ^^ b) := fun k hk b t => push_hold m k (by have := Fo.sizes_mem hk; omega) (good_kid hg hk) b t
  rw [pushG_eq]
  have h1 := good_one hg
  obtain ⟨op, n, is, ks⟩ := f
  have ho := good_ops hg
  simp only [Fo.op, Fo.n, Fo.is, Fo.ks] at *
  have cong : ∀ op, (op = 0 ∨ op = 1 ∨ op = 2 ∨ (op = 3 ∧ ks.length = 1) ∨ op = 4 ∨ op = 5) → (Fo.mk op n is (ks.map (pushG false))).hold P t = (Fo.mk op n is ks).hold P t := by
   intro op ho
   rcases ho with rfl | rfl | rfl | ⟨rfl, hl⟩ | rfl | rfl
   ·rw [hold_true, hold_true]
   ·exact hold_cls P n is _ _ t
   ·exact hold_val P n is _ _ t
   ·obtain ⟨u, hu⟩ := List.length_eq_one_iff.1 hl
    subst hu
    rw [List.map_cons, List.map_nil, hold_part, hold_part]
    congr 1
    funext p
    rw [key u (List.mem_cons_self ..), Bool.xor_false]
   ·rw [hold_and, hold_and]
    exact all_map fun k hk => by rw [key k hk, Bool.xor_false]
   ·rw [hold_or, hold_or]
    exact any_map fun k hk => by rw [key k hk, Bool.xor_false]
  rcases ho with rfl | rfl | rfl | rfl | rfl | rfl | rfl
  ·cases b
   ·simp only [show (0 : Int) ≠ 6 by decide, if_false, if_true, Bool.xor_false]; exact cong 0 (.inl rfl)
   ·simp [hold_or, hold_true]
  ·cases b
   ·simp only [show (1 : Int) ≠ 6 by decide, if_false, if_true, Bool.xor_false]; exact cong 1 (.inr (.inl rfl))
   ·simp only [show (1 : Int) ≠ 6 by decide, show (1 : Int) ≠ 0 by decide, show (1 : Int) ≠ 4 by decide, show (1 : Int) ≠ 5 by decide, Bool.true_eq_false, if_false, false_and, hold_not, Bool.xor_true]
    rw [cong 1 (.inr (.inl rfl))]
  ·cases b
   ·simp only [show (2 : Int) ≠ 6 by decide, if_false, if_true, Bool.xor_false]; exact cong 2 (.inr (.inr (.inl rfl)))
   ·simp only [show (2 : Int) ≠ 6 by decide, show (2 : Int) ≠ 0 by decide, show (2 : Int) ≠ 4 by decide, show (2 : Int) ≠ 5 by decide, Bool.true_eq_false, if_false, false_and, hold_not, Bool.xor_true]
    rw [cong 2 (.inr (.inr (.inl rfl)))]
  ·cases b
   ·simp only [show (3 : Int) ≠ 6 by decide, if_false, if_true, Bool.xor_false]; exact cong 3 (.inr (.inr (.inr (.inl ⟨rfl, h1 (.inl rfl)⟩))))
   ·simp only [show (3 : Int) ≠ 6 by decide, show (3 : Int) ≠ 0 by decide, show (3 : Int) ≠ 4 by decide, show (3 : Int) ≠ 5 by decide, Bool.true_eq_false, if_false, false_and, hold_not, Bool.xor_true]
    rw [cong 3 (.inr (.inr (.inr (.inl ⟨rfl, h1 (.inl rfl)⟩))))]
  ·cases b
   ·simp only [show (4 : Int) ≠ 6 by decide, if_false, if_true, Bool.xor_false]; exact cong 4 (.inr (.inr (.inr (.inr (.inl rfl)))))
   ·simp only [show (4 : Int) ≠ 6 by decide, show (4 : Int) ≠ 0 by decide, show (4 : Int) ≠ 5 by decide, Bool.true_eq_false, if_false, if_true, false_and, Bool.xor_true, hold_or, hold_and]
    rw [any_map (q := fun k => !k.hold P t) fun k hk => by rw [key k hk, Bool.xor_true]]
    induction ks with
    | nil => rfl
    | cons k ks _ => simp [List.all_eq_not_any_not]
  ·cases b
   ·simp only [show (5 : Int) ≠ 6 by decide, if_false, if_true, Bool.xor_false]; exact cong 5 (.inr (.inr (.inr (.inr (.inr rfl)))))
   ·simp only [show (5 : Int) ≠ 6 by decide, show (5 : Int) ≠ 0 by decide, show (5 : Int) ≠ 4 by decide, Bool.true_eq_false, if_false, if_true, true_and, Bool.xor_true]
    split
    ·next h0 =>
     have h5 := List.eq_nil_of_length_eq_zero h0
     subst h5
     rw [hold_true, hold_or]
     rfl
    ·rw [hold_and, hold_or, all_map (q := fun k => !k.hold P t) fun k hk => by rw [key k hk, Bool.xor_true]]
     simp [List.all_eq_not_any_not]
  ·obtain ⟨u, hu⟩ := List.length_eq_one_iff.1 (h1 (.inr rfl))
   subst hu
   simp only [↓reduceIte, pushG1]
   rw [key u (List.mem_cons_self ..), hold_not]
   cases b <;> cases (u.hold P t) <;> rfl
end
mutual
def negG : Fo → Bool
 | .mk op _ _ ks => negGs op ks
def negGs (op : Int) : List Fo → Bool
 | [] => true
 | k :: ks => !(decide (op = 6) && decide (k.op ≠ 1) && decide (k.op ≠ 2) && decide (k.op ≠ 3) || !negG k) && negGs op ks
end
theorem negGs_all {op : Int} {ks : List Fo} : negGs op ks = true ↔ ∀ k ∈ ks, (op = 6 → k.op = 1 ∨ k.op = 2 ∨ k.op = 3) ∧ negG k = true := by
 induction ks with
 | nil => simp [negGs]
 | cons k ks ih =>
  rw [negGs, Bool.and_eq_true, ih, List.forall_mem_cons]
  refine and_congr ?_ Iff.rfl
  by_cases h6 : op = 6
  ·by_cases h1 : k.op = 1
   ·simp [h1]
   ·by_cases h2 : k.op = 2
    ·simp [h2]
    ·by_cases h3 : k.op = 3
     ·simp [h3]
     ·simp [h6, h1, h2, h3]
  ·simp [h6]
theorem neg_push : ∀ (m : Nat) (f : Fo), f.size ≤ m → f.good = true → ∀ b : Bool, negG (pushG b f) = true
 | 0, f, h, _, _ => by have := f.size_pos; omega
 | m + 1, f, h, hg, b => by
  have hs := f.size_eq
  have key : ∀ k ∈ f.ks, ∀ b, negG (pushG b k) = true := fun k hk b => neg_push m k (by have := Fo.sizes_mem hk; omega) (good_kid hg hk) b
  have mapped : ∀ (op n : Int) (is : List Iv) (b : Bool), op ≠ 6 → negG (.mk op n is (f.ks.map (pushG b))) = true := fun op n is b h6 => by
   rw [negG, negGs_all]
   intro k hk
   obtain ⟨u, hu, rfl⟩ := List.mem_map.1 hk
   exact ⟨fun h => absurd h h6, key u hu b⟩
  rw [pushG_eq]
  split
  ·next h6 =>
   obtain ⟨u, hu⟩ := List.length_eq_one_iff.1 (good_six hg h6)
   rw [hu, pushG1]
   exact key u (by rw [hu]; exact List.mem_cons_self ..) _
  ·next h6 =>
   split
   ·exact mapped _ _ _ _ h6
   ·split
    ·rw [negG, negGs]
    ·next h0 =>
     split
     ·rw [negG, negGs]
     ·split
      ·exact mapped _ _ _ _ (by decide)
      ·next h4 =>
       split
       ·exact mapped _ _ _ _ (by decide)
       ·next h5 =>
        rw [negG, negGs_all]
        intro k hk
        rw [List.mem_singleton.1 hk]
        refine ⟨fun _ => ?_, mapped _ _ _ _ h6⟩
        have := good_ops hg
        show f.op = 1 ∨ f.op = 2 ∨ f.op = 3
        omega
end Go.Proofs.YtgnloodmbgdgdaaGreat
namespace Go.Proofs.YtgnloodmbgdgdaaGreat
open Go.RowKit Go.Shelf
def NgK (m : Nat) : Prop := ∀ (f : Fo), f.size ≤ m → negG f = true → ∀ (c d : Value) (w : World), FAt w.heap.size w f c d →
 Calls Tryz.prog 39 #[.agg #[.int .i64 f.op, .int .i64 f.n, c, d]] w fun e w' => e = .returned (.bool true) ∧ Below w.heap.size w w'
set_option maxHeartbeats 8000000 in
set_option maxRecDepth 100000 in
theorem ng_step (m : Nat) (hm : m ≤ 1000000) (K : Hid (NgK m)) : NgK (m + 1) := by
 intro f hf hg c d w hT
 obtain ⟨a2, c2, a3, c3, rfl, rfl, -, hP, -⟩ := hT.shape
 have hse := f.size_eq
 have hlk := Fo.sizes_len f.ks
 have hga : ∀ k ∈ f.ks, (f.op = 6 → k.op = 1 ∨ k.op = 2 ∨ k.op = 3) ∧ negG k = true := by
  cases f
  rw [negG] at hg
  exact negGs_all.1 hg
 obtain ⟨W1, hW1⟩ : ∃ W1, W1 = w.alloc (.cells #[.int .i64 f.op, .int .i64 f.n, .slice a2 f.is.length c2, .slice a3 f.ks.length c3] 29) := ⟨_, rfl⟩
 have hB1 : Below w.heap.size w W1 := by rw [hW1]; exact (Below.refl _ _).alloc (Nat.le_refl _) _
 have hX : BoxL w.heap.size [.int .i64 f.op, .int .i64 f.n, .slice a2 f.is.length c2, .slice a3 f.ks.length c3] W1 := by rw [hW1]; exact BoxL.made _ _ _
 have KS := Lib.hid fun (u : Fo) (hu : u ∈ f.ks) (y z : Value) W (hh : FAt W.heap.size W u y z) => K.out u (by have := Fo.sizes_mem hu; omega) (hga u hu).2 y z W hh
 have HGA := Lib.hid hga
 have HP := Lib.hid hP
 have HX1 := Lib.hid hX
 have HB1 := Lib.hid hB1
 generalize f.ks = ks at *
 generalize f.is.length = n2 at *
 generalize f.op = op at *
 generalize f.n = nn at *
 have hn6 : ks.length ≤ 1000000 := by omega
 generalize hn : ks.length = n at *
 have HN := Lib.hid hn
 clear hX hT hP hB1 hse hlk hf hm hn K hg hga
 go_enter Tryz.func39, Tryz.ntmps39
 go_upto_region 1 with (fail)
 rw [← hW1]
 clear hW1
 go_wp2
 go_loopw [3] (fun x wr => ∃ k : Nat, k ≤ n ∧ x = .int .i64 k ∧ Hid (BoxL w.heap.size [.int .i64 op, .int .i64 nn, .slice a2 n2 c2, .slice a3 n c3] wr) ∧ Hid (Below w.heap.size w wr)) (fun x _ => n - (intOf x).toNat)
 case atStart => exact ⟨0, by omega, rfl, HX1, HB1⟩
 case round =>
  clear HX1 HB1
  obtain ⟨k, hk, rfl, hX, hB⟩ := hrel
  obtain ⟨r0, r1, r2, r3, -⟩ := hX.out.open4
  have i3 : IntKind.i64.wrap ((k : Int) + 1) = ((k + 1 : Nat) : Int) := by rw [IntWalk.i64_in _ (by omega)]; omega
  by_cases hlt : k < n
  ·have i1 : (k : Int) < n := by omega
   have i0 : (0 : Int) ≤ (k : Int) := by omega
   obtain ⟨g, u, rfl, hgB, hgs, hcap, hu, y, z, q0, q1, q2, q3, hTu⟩ := (HP.out.low hB.out).get hlt
   obtain ⟨ya, yc, za, zc, rfl, rfl, -⟩ := hTu.shape
   have KU := Lib.hid (KS.out u (List.mem_of_getElem? hu) _ _ wr (FAt.mono hB.out.size u hTu))
   have hop := (HGA.out u (List.mem_of_getElem? hu)).1
   generalize u.op = uo at *
   generalize u.n = un at *
   generalize u.is.length = m2 at *
   generalize u.ks.length = m3 at *
   have hc : ((op == 6) = false) ∨ (op = 6 ∧ uo = 1) ∨ (op = 6 ∧ uo = 2) ∨ (op = 6 ∧ uo = 3) := by
    by_cases h6 : op = 6
    ·rcases hop h6 with h | h | h
     ·exact .inr (.inl ⟨h6, h⟩)
     ·exact .inr (.inr (.inl ⟨h6, h⟩))
     ·exact .inr (.inr (.inr ⟨h6, h⟩))
    ·exact .inl (by simpa using h6)
   clear hTu hu hop hcap hgB
   rcases hc with h6 | ⟨rfl, rfl⟩ | ⟨rfl, rfl⟩ | ⟨rfl, rfl⟩
   all_goals
    go_wp2_with fail
    refine KU.out.mono ?_
    rintro e w2 ⟨rfl, hr⟩
    have HX2 := Lib.hid (hX.out.keep hr)
    have HB2 := Lib.hid (hB.out.trans (Below.mono hr hB.out.size))
    clear hr hX hB q0 q1 q2 q3 r0 r1 r2 r3
    go_wp2
    go_roundw
    case rel => exact ⟨k + 1, by omega, by go_num, HX2, HB2⟩
    case measure => simp [intOf] <;> omega
  ·have i1 : ¬ (k : Int) < n := by omega
   go_wp2
   go_ret
   exact ⟨rfl, hB.out⟩
theorem ng_all : ∀ m : Nat, m ≤ 1000000 → NgK m
 | 0, _ => fun f hf => by have := f.size_pos; omega
 | m + 1, h => ng_step m (by omega) (Lib.hid (ng_all m (by omega)))
end Go.Proofs.YtgnloodmbgdgdaaGreat
