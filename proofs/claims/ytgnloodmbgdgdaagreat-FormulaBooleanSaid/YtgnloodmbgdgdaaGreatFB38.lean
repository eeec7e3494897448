import Derived.Test.YtgnloodmbgdgdaaGreatFB37
import Derived.Test.YtgnloodmbgdgdaaGreatFB30
namespace Go.Proofs.YtgnloodmbgdgdaaGreat
open Go.RowKit Go.Shelf
def AtF (V : World) (f : Fo) (r : Fr) : Prop := FSr (fun k => k < V.heap.size) V f r
theorem AtF.since {V V' : World} {f : Fo} {r : Fr} (h : AtF V f r) (hs : Since V V') : AtF V' f r :=
 FSr.mono (fun _ hk => hk.2) (FSr.keep (S' := fun _ => True) h ⟨hs.size, fun b _ hl => hs.block b hl⟩ (fun _ _ _ => trivial))
theorem AtF.fat {V : World} {f : Fo} {r : Fr} (h : AtF V f r) : FAt V.heap.size V f (.slice r.a2 r.n2 r.c2) (.slice r.a3 r.n3 r.c3) := FS.fat (fun _ h => h) _ h.2.2
def AtOut (f : Fo) (V : World) (e : Ending) (w' : World) : Prop :=
 ∃ r : Fr, e = .returned (.agg #[.int .i64 r.op, .int .i64 r.n, .slice r.a2 r.n2 r.c2, .slice r.a3 r.n3 r.c3]) ∧ Hid (AtF w' f r) ∧ Hid (Below V.heap.size V w')
theorem AtOut.of {S0 : Nat → Prop} {f : Fo} {V w' : World} {e : Ending} (h : FoOut S0 f V e w') : AtOut f V e w' := by
 obtain ⟨r, h1, h2, h3⟩ := h
 exact ⟨r, h1, Lib.hid (FSr.mono (fun _ hk => hk.2) h2.out), h3⟩
def AtE (p : Fo × Int) (V : World) (e : Ending) (w' : World) : Prop :=
 ∃ r : Fr, e = .returned (.tuple #[.agg #[.int .i64 r.op, .int .i64 r.n, .slice r.a2 r.n2 r.c2, .slice r.a3 r.n3 r.c3], .int .i64 p.2]) ∧ Hid (AtF w' p.1 r) ∧ Hid (Below V.heap.size V w')
theorem AtE.of {S0 : Nat → Prop} {p : Fo × Int} {V w' : World} {e : Ending} (h : FoE S0 p V e w') : AtE p V e w' := by
 obtain ⟨r, h1, h2, h3⟩ := h
 exact ⟨r, h1, Lib.hid (FSr.mono (fun _ hk => hk.2) h2.out), h3⟩
def clF (n : Int) : Fo := .mk 1 n [] []
def notF (f : Fo) : Fo := .mk 6 0 [] [f]
def tEx : Th := .mk [1] [] []
def pEx : Fo := notF (.mk 4 0 [] [clF 0, notF (clF 1)])
def pOut : Fo := .mk 5 0 [] [notF (clF 0), clF 1]
def sEx : Fo := .mk 4 0 [] [.mk 0 0 [] [], clF 1, clF 1]
theorem vF {f : Fo} (hs : f.size ≤ 96) (hd : f.deep ≤ 8) (hg : f.good = true) : validF f = 0 := by
 unfold validF
 rw [if_neg (by omega), if_pos hg]
theorem v_cl (n : Int) (h0 : 0 ≤ n) (h1 : n < 64) : validF (clF n) = 0 := vF (by simp [clF, Fo.size, Fo.sizes]) (by simp [clF, Fo.deep, Fo.deeps]) (by simp [clF, Fo.good, Fo.goods, properB]; omega)
theorem v_ncl (n : Int) (h0 : 0 ≤ n) (h1 : n < 64) : validF (notF (clF n)) = 0 := vF (by simp [clF, notF, Fo.size, Fo.sizes]) (by simp [clF, notF, Fo.deep, Fo.deeps]) (by simp [clF, notF, Fo.good, Fo.goods, properB]; omega)
theorem v_pEx : validF pEx = 0 := vF (by simp [pEx, clF, notF, Fo.size, Fo.sizes]) (by simp [pEx, clF, notF, Fo.deep, Fo.deeps]) (by simp [pEx, clF, notF, Fo.good, Fo.goods, properB])
theorem v_pOut : validF pOut = 0 := vF (by simp [pOut, clF, notF, Fo.size, Fo.sizes]) (by simp [pOut, clF, notF, Fo.deep, Fo.deeps]) (by simp [pOut, clF, notF, Fo.good, Fo.goods, properB])
theorem v_sEx : validF sEx = 0 := vF (by simp [sEx, clF, Fo.size, Fo.sizes]) (by simp [sEx, clF, Fo.deep, Fo.deeps]) (by simp [sEx, clF, Fo.good, Fo.goods, properB])
theorem inc_ex : Inc 64 [1] := fun i x h => by
 match i with
 | 0 =>
  simp at h
  subst h
  exact ⟨by omega, by omega, fun y hy => by omega⟩
 | i + 1 => simp at h
theorem v_tEx : validT tEx = 0 := by
 unfold validT
 rw [if_neg (by simp [tEx, Th.size, Th.sizes, Th.deep, Th.deeps]), if_pos (Th.goodB_t (by simp only [tEx, Th.good, Th.goods, NodeOk]; exact ⟨⟨inc_ex, fun v h => by simp at h, Inc.nil 32⟩, trivial⟩))]
theorem push_ex : pushR pEx = (pOut, 0) := by
 unfold pushR
 have h : pushG false pEx = pOut := by rfl
 rw [if_pos v_pEx, h, if_pos v_pOut]
theorem simp_ex : simpR sEx = (clF 1, 0) := by
 unfold simpR
 have h : simpleF sEx = clF 1 := by rfl
 rw [if_pos v_sEx, h]
theorem hold_ex : holdsR exL (clF 0) tEx = (true, 0) := by
 unfold holdsR
 rw [if_neg (by simp [v_cl]), if_neg (by simp [v_tEx]), if_pos (by simp [clF, tEx, Fo.cls, Fo.clss, Th.cls, Th.clss, exL])]
 have h : (clF 0).hold exL tEx = true := by simp [clF, tEx, Fo.hold, Th.cs, exL_is]
 rw [h]
theorem hold_ex2 : holdsR exL (notF (clF 0)) tEx = (false, 0) := by
 unfold holdsR
 rw [if_neg (by simp [v_ncl]), if_neg (by simp [v_tEx]), if_pos (by simp [clF, notF, tEx, Fo.cls, Fo.clss, Th.cls, Th.clss, exL])]
 have h : (notF (clF 0)).hold exL tEx = false := by simp [clF, notF, tEx, Fo.hold, Fo.hold1, Th.cs, exL_is]
 rw [h]
theorem okF_of {f : Fo} (hs : f.size ≤ 1000000) (hw : f.wf) : OkF f := ⟨hs, hw⟩
theorem wf_cl (n : Int) : (clF n).wf := by simp [clF, Fo.wf, Fo.wfs]
theorem wf_ncl (n : Int) : (notF (clF n)).wf := by simp [clF, notF, Fo.wf, Fo.wfs]
theorem wf_pEx : pEx.wf := by simp [pEx, clF, notF, Fo.wf, Fo.wfs]
theorem wf_pOut : pOut.wf := by simp [pOut, clF, notF, Fo.wf, Fo.wfs]
theorem wf_sEx : sEx.wf := by simp [sEx, clF, Fo.wf, Fo.wfs]
theorem sz_cl (n : Int) : (clF n).size ≤ 100000 := by simp [clF, Fo.size, Fo.sizes]
theorem sz_ncl (n : Int) : (notF (clF n)).size ≤ 100000 := by simp [clF, notF, Fo.size, Fo.sizes]
theorem sz_pEx : pEx.size ≤ 100000 := by simp [pEx, clF, notF, Fo.size, Fo.sizes]
theorem sz_pOut : pOut.size ≤ 100000 := by simp [pOut, clF, notF, Fo.size, Fo.sizes]
theorem sz_sEx : sEx.size ≤ 100000 := by simp [sEx, clF, Fo.size, Fo.sizes]
set_option maxHeartbeats 4000000 in
set_option maxRecDepth 100000 in
theorem class_at (n : Int) (W : World) : Calls Tryz.prog 54 #[.int .i64 n] W (AtOut (clF n) W) := by
 refine Calls.mono ?_ fun e w' h => AtOut.of (S0 := fun _ => False) h
 obtain ⟨W1, hW1⟩ : ∃ W1, W1 = W.alloc (.cells #[.int .i64 0, .int .i64 0, .slice none 0 0, .slice none 0 0] 29) := ⟨_, rfl⟩
 have hS1 : Since W W1 := by rw [hW1]; exact Since.alloc (since_r _) _
 have hX1 : BoxL W.heap.size [.int .i64 0, .int .i64 0, .slice none 0 0, .slice none 0 0] W1 := by rw [hW1]; exact BoxL.made W _ _
 obtain ⟨x0, x1, x2, x3, f0, f1, f2, f3, -⟩ := hX1.all4
 have hfin := put4_end (S0 := fun _ => False) (f := clF n) (N := W.heap.size) hS1 (Nat.le_refl _) ⟨1, n, none, 0, 0, none, 0, 0⟩ ⟨rfl, rfl, FS.of (.inl ⟨.inl rfl, rfl⟩) (.inl (.inl rfl)) (.inl ⟨.inl rfl, rfl⟩)⟩ _ _ rfl rfl
 have HF := Lib.hid hfin
 unfold put4 at HF
 clear hfin hX1 hS1
 go_enter Tryz.func54, Tryz.ntmps54
 go_upto_region 1 with (fail)
 rw [← hW1]
 clear hW1
 go_wp2
 exact bodyPost_ret (v := .agg #[.int .i64 1, .int .i64 n, .slice none 0 0, .slice none 0 0]) (by simp [results, Tryz.results54, go_sem, x0, x1, x2, x3]) rfl HF.out
set_option maxHeartbeats 4000000 in
set_option maxRecDepth 100000 in
theorem of_at (op : Int) (a : Option Addr) (m c : Nat) (ks : List Fo) (W : World) (h : FSl (fun k => k < W.heap.size) W (.slice a m c) ks) : Calls Tryz.prog 40 #[.int .i64 op, .slice a m c] W (AtOut (.mk op 0 [] ks) W) := by
 refine Calls.mono ?_ fun e w' h => AtOut.of (S0 := fun k => k < W.heap.size) h
 obtain ⟨W1, hW1⟩ : ∃ W1, W1 = W.alloc (.cells #[.int .i64 0, .int .i64 0, .slice none 0 0, .slice none 0 0] 29) := ⟨_, rfl⟩
 have hS1 : Since W W1 := by rw [hW1]; exact Since.alloc (since_r _) _
 have hX1 : BoxL W.heap.size [.int .i64 0, .int .i64 0, .slice none 0 0, .slice none 0 0] W1 := by rw [hW1]; exact BoxL.made W _ _
 obtain ⟨x0, x1, x2, x3, f0, f1, f2, f3, -⟩ := hX1.all4
 have hF0 : FSr (fun k => k < W.heap.size) W (.mk op 0 [] ks) ⟨op, 0, none, 0, 0, a, m, c⟩ := ⟨rfl, rfl, FS.of (.inl ⟨.inl rfl, rfl⟩) (.inl (.inl rfl)) h⟩
 have hfin := put4_end (S0 := fun k => k < W.heap.size) (f := .mk op 0 [] ks) (N := W.heap.size) hS1 (Nat.le_refl _) ⟨op, 0, none, 0, 0, a, m, c⟩ (FSr.mono (fun k hk => ⟨.inl ⟨hk, hk⟩, Nat.lt_of_lt_of_le hk hS1.size⟩) (hF0.since hS1 fun _ h => h)) _ _ rfl rfl
 have HF := Lib.hid hfin
 unfold put4 at HF
 clear hfin hX1 hS1 hF0 h
 go_enter Tryz.func40, Tryz.ntmps40
 go_upto_region 1 with (fail)
 rw [← hW1]
 clear hW1
 go_wp2
 exact bodyPost_ret (v := .agg #[.int .i64 op, .int .i64 0, .slice none 0 0, .slice a m c]) (by simp [results, Tryz.results40, go_sem, x0, x1, x2, x3]) rfl HF.out
theorem not_at (t : Fo) (r : Fr) (W : World) (h : AtF W t r) : Calls Tryz.prog 41 #[.agg #[.int .i64 r.op, .int .i64 r.n, .slice r.a2 r.n2 r.c2, .slice r.a3 r.n3 r.c3]] W (AtOut (notF t) W) :=
 (lnot_any t r W h).mono fun _ _ h => AtOut.of h
theorem row_at {W : World} (rs : List Fr) (ks : List Fo) (cs : Array Value) (T : TypeId) (hcs : cs.toList = rs.flatMap RFo.cells) (hl : rs.length = ks.length) (hm : rs.length ≤ 1000) (hF : ∀ (j : Nat) (r : Fr) (t : Fo), rs[j]? = some r → ks[j]? = some t → AtF W t r) :
  FSl (fun k => k < (W.alloc (.cells cs T)).heap.size) (W.alloc (.cells cs T)) (.slice (some ⟨W.heap.size, 0, none⟩) rs.length rs.length) ks := by
 have hO := ROwn.new RFo T W rs cs hcs (by unfold maxLen; omega)
 exact FSl.of hO.els (hO.ins.mono fun k hk => hk.2) hl fun j r t hr ht => (hF j r t hr ht).since (Since.alloc (since_r _) _)
theorem push_at (f : Fo) (r : Fr) (W : World) (h : AtF W f r) (hs : f.size ≤ 100000) (hw : f.wf) : Calls Tryz.prog 25 #[.agg #[.int .i64 r.op, .int .i64 r.n, .slice r.a2 r.n2 r.c2, .slice r.a3 r.n3 r.c3]] W (AtE (pushR f) W) := by
 rw [← h.1, ← h.2.1]
 exact (gPush_any f hs hw (fun k => k < W.heap.size) _ _ W (fun _ h => h) h.2.2).mono fun _ _ h => AtE.of h
theorem simp_at (f : Fo) (r : Fr) (W : World) (h : AtF W f r) (hs : f.size ≤ 100000) (hw : f.wf) : Calls Tryz.prog 27 #[.agg #[.int .i64 r.op, .int .i64 r.n, .slice r.a2 r.n2 r.c2, .slice r.a3 r.n3 r.c3]] W (AtE (simpR f) W) := by
 rw [← h.1, ← h.2.1]
 exact (gSimple_any f hs hw (fun k => k < W.heap.size) _ _ W (fun _ h => h) h.2.2).mono fun _ _ h => AtE.of h
theorem holds_at (N : Nat) (P : List (List Int)) (f : Fo) (r : Fr) (t : Th) (a b e : Value) (W : World) (hTx : TxAt N P W) (h : AtF W f r) (hT : TAt W.heap.size W t a b e) (hs : f.size ≤ 1000000) (hw : f.wf) (ht : t.size ≤ 1000000) (htw : t.wf) :
  Calls Tryz.prog 23 #[.pointer (some ⟨N, 0, none⟩), .agg #[.int .i64 r.op, .int .i64 r.n, .slice r.a2 r.n2 r.c2, .slice r.a3 r.n3 r.c3], .agg #[a, b, e]] W (HolOut (holdsR P f t) W) := by
 rw [← h.1, ← h.2.1]
 exact gHolds_any N P f hs hw t ht htw _ _ a b e W hTx h.fat hT
theorem same_at (f g : Fo) (r s : Fr) (W : World) (hF : AtF W f r) (hG : AtF W g s) (of : OkF f) (og : OkF g) :
  Calls Tryz.prog 29 #[.agg #[.int .i64 r.op, .int .i64 r.n, .slice r.a2 r.n2 r.c2, .slice r.a3 r.n3 r.c3], .agg #[.int .i64 s.op, .int .i64 s.n, .slice s.a2 s.n2 s.c2, .slice s.a3 s.n3 s.c3]] W fun e w' => e = .returned (.bool (decide (f = g))) ∧ Below W.heap.size W w' := by
 rw [← hF.1, ← hF.2.1, ← hG.1, ← hG.2.1]
 have hd : (fcmp f g == 0) = decide (f = g) := by
  by_cases h : f = g
  ·rw [decide_eq_true h]; simpa using fcmp_ord.eq_iff.2 h
  ·rw [decide_eq_false h, beq_eq_false_iff_ne]; exact fun e => h (fcmp_ord.eq_iff.1 e)
 rw [← hd]
 exact rsame_any f g of.1 og.1 of.2 og.2 _ _ _ _ W hF.fat hG.fat
end Go.Proofs.YtgnloodmbgdgdaaGreat
namespace Go.Proofs.YtgnloodmbgdgdaaGreat
open Go.RowKit Go.Shelf
section
variable (P : List (List Int))
theorem hold_part (n : Int) (is : List Iv) (k : Fo) (ks : List Fo) (t : Th) : (Fo.mk 3 n is (k :: ks)).hold P t = t.ps.any fun p => k.hold P p := by
 rw [Fo.hold, if_neg (by decide), if_neg (by decide), if_neg (by decide), if_pos rfl]
 rfl
theorem hold_and (n : Int) (is : List Iv) (ks : List Fo) (t : Th) : (Fo.mk 4 n is ks).hold P t = ks.all fun k => k.hold P t := by
 rw [Fo.hold, if_neg (by decide), if_neg (by decide), if_neg (by decide), if_neg (by decide), if_pos rfl, ← Fo.holdN_any]
 induction ks with
 | nil => rfl
 | cons k ks ih => rw [List.any_cons, List.all_cons, ← ih, Bool.not_or, Bool.not_not]
theorem hold_or (n : Int) (is : List Iv) (ks : List Fo) (t : Th) : (Fo.mk 5 n is ks).hold P t = ks.any fun k => k.hold P t := by
 rw [Fo.hold, if_neg (by decide), if_neg (by decide), if_neg (by decide), if_neg (by decide), if_neg (by decide), if_pos rfl, ← Fo.holdE_any]
theorem hold_not (n : Int) (is : List Iv) (k : Fo) (ks : List Fo) (t : Th) : (Fo.mk 6 n is (k :: ks)).hold P t = !k.hold P t := by
 rw [Fo.hold, if_neg (by decide), if_neg (by decide), if_neg (by decide), if_neg (by decide), if_neg (by decide), if_neg (by decide)]
 rfl
end
mutual
def negG : Fo → Bool
 | .mk op _ _ ks => negGs op ks
def negGs (op : Int) : List Fo → Bool
 | [] => true
 | k :: ks => !(decide (op = 6) && decide (k.op ≠ 1) && decide (k.op ≠ 2) && decide (k.op ≠ 3) || !negG k) && negGs op ks
end
end Go.Proofs.YtgnloodmbgdgdaaGreat
