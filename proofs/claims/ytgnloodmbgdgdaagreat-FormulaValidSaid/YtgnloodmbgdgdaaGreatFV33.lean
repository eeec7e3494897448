import Derived.Test.YtgnloodmbgdgdaaGreatFV32
import Derived.Test.YtgnloodmbgdgdaaGreatFV20
namespace Go.Proofs.YtgnloodmbgdgdaaGreat
open Go.RowKit Go.Shelf
theorem zipL_app {α : Type} (c : α → α → Int) : ∀ (la bs x y : List α), la.length = bs.length → zipL c (la ++ x) (bs ++ y) = if zipL c la bs = 0 then zipL c x y else zipL c la bs
 | [], [], x, y, _ => by rw [List.nil_append, List.nil_append, show zipL c ([] : List α) [] = 0 from by unfold zipL; rfl, if_pos rfl]
 | [], _ :: _, _, _, h => by simp at h
 | _ :: _, [], _, _, h => by simp at h
 | a :: la, b :: bs, x, y, h => by
  rw [List.cons_append, List.cons_append, zipL, zipL, zipL_app c la bs x y (by simpa using h)]
  by_cases h0 : c a b = 0
  ·rw [if_pos h0, if_pos h0]
  ·rw [if_neg h0, if_neg h0, if_neg h0]
theorem Iv.cmp_zip (x y : Iv) : Iv.cmp x y = zipL cmpI x.rank y.rank := by
 unfold Iv.cmp lenL
 rw [if_pos (by rw [show x.rank.length = 8 from rfl, show y.rank.length = 8 from rfl]; exact cmpI_self _)]
theorem zip_flat : ∀ is js : List Iv, is.length = js.length → zipL cmpI (is.flatMap Iv.rank) (js.flatMap Iv.rank) = zipL Iv.cmp is js
 | [], [], _ => by unfold zipL; rfl
 | [], _ :: _, h => by simp at h
 | _ :: _, [], h => by simp at h
 | x :: is, y :: js, h => by
  rw [List.flatMap_cons, List.flatMap_cons, zipL_app cmpI x.rank y.rank _ _ rfl, zip_flat is js (by simpa using h), ← Iv.cmp_zip]
  show _ = if Iv.cmp x y = 0 then zipL Iv.cmp is js else Iv.cmp x y
  rfl
def ordL (f : Fo) : List Int := [f.op, f.n, (f.is.length : Int)] ++ f.is.flatMap Iv.rank ++ [(f.ks.length : Int)]
theorem zip_one (a b : Int) : zipL cmpI [a] [b] = cmpI a b := by
 show (if cmpI a b = 0 then zipL cmpI [] [] else cmpI a b) = _
 rw [show zipL cmpI ([] : List Int) [] = 0 from by unfold zipL; rfl]
 by_cases h : cmpI a b = 0
 ·rw [if_pos h, h]
 ·rw [if_neg h]
theorem rank_len (is : List Iv) : (is.flatMap Iv.rank).length = is.length * 8 := by
 induction is with
 | nil => rfl
 | cons x is ih => rw [List.flatMap_cons, List.length_append, ih, List.length_cons, show x.rank.length = 8 from rfl]; omega
theorem fcmp_ordL (f g : Fo) : fcmp f g = if zipL cmpI (ordL f) (ordL g) = 0 then zipL fcmp f.ks g.ks else zipL cmpI (ordL f) (ordL g) := by
 rw [fcmp_eq]
 unfold ordL lenL
 rw [List.append_assoc, List.append_assoc]
 simp only [List.cons_append, List.nil_append, zipL, lexL]
 by_cases h1 : cmpI f.op g.op = 0
 ·simp only [if_pos h1]
  by_cases h2 : cmpI f.n g.n = 0
  ·simp only [if_pos h2]
   by_cases h3 : cmpI (f.is.length : Int) g.is.length = 0
   ·simp only [if_pos h3]
    have hl : f.is.length = g.is.length := by have := cmpI_zero.1 h3; omega
    rw [zipL_app cmpI _ _ _ _ (by rw [rank_len, rank_len, hl]), zip_flat _ _ hl, zip_one]
    by_cases h4 : zipL Iv.cmp f.is g.is = 0
    ·rw [if_pos h4, if_pos h4, if_pos trivial]
    ·rw [if_neg h4, if_neg h4, if_neg h4, if_pos trivial]
   ·simp only [if_neg h3, if_pos]
  ·simp only [if_neg h2]
 ·simp only [if_neg h1]
theorem ordL_kids {f g : Fo} (h : zipL cmpI (ordL f) (ordL g) = 0) : f.ks.length = g.ks.length := by
 unfold ordL at h
 rw [List.append_assoc, List.append_assoc] at h
 simp only [List.cons_append, List.nil_append, zipL] at h
 by_cases h1 : cmpI f.op g.op = 0
 ·rw [if_pos h1] at h
  by_cases h2 : cmpI f.n g.n = 0
  ·rw [if_pos h2] at h
   by_cases h3 : cmpI (f.is.length : Int) g.is.length = 0
   ·rw [if_pos h3] at h
    have hl : f.is.length = g.is.length := by have := cmpI_zero.1 h3; omega
    rw [zipL_app cmpI _ _ _ _ (by rw [rank_len, rank_len, hl]), zip_flat _ _ hl, zip_one] at h
    by_cases h4 : zipL Iv.cmp f.is g.is = 0
    ·rw [if_pos h4] at h
     have := cmpI_zero.1 h
     omega
    ·rw [if_neg h4] at h; exact absurd h h4
   ·rw [if_neg h3] at h; exact absurd h h3
  ·rw [if_neg h2] at h; exact absurd h h2
 ·rw [if_neg h1] at h; exact absurd h h1
end Go.Proofs.YtgnloodmbgdgdaaGreat
namespace Go.Proofs.YtgnloodmbgdgdaaGreat
open Go.RowKit Go.Shelf
theorem rone_any (b : Bool) (w : World) :
  Calls Tryz.prog 137 #[.bool b] w fun e w' => e = .returned (.int .i64 (bitI b)) ∧ w' = w := by
 cases b with
 | true =>
  go_enter Tryz.func137, Tryz.ntmps137
  go_wp2
  go_ret
  exact ⟨rfl, rfl⟩
 | false =>
  go_enter Tryz.func137, Tryz.ntmps137
  go_wp2
  go_ret
  exact ⟨rfl, rfl⟩
def OrdOut (f : Fo) (w : World) (e : Ending) (w' : World) : Prop := ∃ a m k, e = .returned (.slice a m k) ∧ Hid (Els .i64 w' (.slice a m k) (ordL f)) ∧ Hid (Below w.heap.size w w')
theorem OrdOut.fin {f : Fo} {w w' : World} {a : Option Addr} {m k : Nat} {B : Nat} {xs : List Int} (h : ROwn RIn 3 B w' (.slice a m k) xs) (hx : xs = ordL f) (hB : Below w.heap.size w w') : OrdOut f w (.returned (.slice a m k)) w' := ⟨a, m, k, rfl, Lib.hid (by rw [← hx]; exact rin_els h.els), Lib.hid hB⟩
set_option maxHeartbeats 16000000 in
set_option maxRecDepth 100000 in
theorem order_any (f : Fo) (hil : f.is.length ≤ 100000000) (c d : Value) (w : World) (hT : FAt w.heap.size w f c d) :
  Calls Tryz.prog 82 #[.agg #[.int .i64 f.op, .int .i64 f.n, c, d]] w (OrdOut f w) := by
 obtain ⟨a2, c2, a3, c3, rfl, rfl, hI, -, -⟩ := hT.shape
 obtain ⟨W1, hW1⟩ : ∃ W1, W1 = w.alloc (.cells #[.int .i64 f.op, .int .i64 f.n, .slice a2 f.is.length c2, .slice a3 f.ks.length c3] 29) := ⟨_, rfl⟩
 have hS1 : Since w W1 := by rw [hW1]; exact Since.alloc (since_r _) _
 have hX : BoxL w.heap.size [.int .i64 f.op, .int .i64 f.n, .slice a2 f.is.length c2, .slice a3 f.ks.length c3] W1 := by rw [hW1]; exact BoxL.made w _ _
 obtain ⟨W2, hW2⟩ : ∃ W2, W2 = W1.alloc (.cells #[.int .i64 f.op, .int .i64 f.n, .int .i64 (f.is.length : Int)] 3) := ⟨_, rfl⟩
 have hS2 : Since W1 W2 := by rw [hW2]; exact Since.alloc (since_r _) _
 have hO2 : ROwn RIn 3 W1.heap.size W2 (.slice (some ⟨W1.heap.size, 0, none⟩) 3 3) ([f.op, f.n, (f.is.length : Int)] ++ (f.is.take 0).flatMap Iv.rank) := by rw [hW2]; exact ROwn.new RIn 3 W1 [f.op, f.n, (f.is.length : Int)] _ rfl (by unfold maxLen; simp)
 have HIE := Lib.hid fun W (hs : Since W1 W) => REls.below (Since.step hS1 hs) hI
 have HORD : Hid ([f.op, f.n, (f.is.length : Int)] ++ f.is.flatMap Iv.rank ++ [(f.ks.length : Int)] = ordL f) := Lib.hid rfl
 have HKO := Lib.hid fun (b : Bool) W => rone_any b W
 have HFIN := Lib.hid fun (w' : World) (a : Option Addr) (m k : Nat) (B : Nat) (xs : List Int) (h : ROwn RIn 3 B w' (.slice a m k) xs) (hx : xs = ordL f) (hB : Below w.heap.size w w') => OrdOut.fin h hx hB
 generalize hQ : OrdOut f w = Q at *
 have HI : Hid ((Tryz.prog.info? 3).map (fun i => (i.zero, i.size, i.bytes)) = some (some (.int .i64 0), 1, 8)) := Lib.hid (by kernel_rfl)
 have HX := Lib.hid hX
 have HO2 := Lib.hid hO2
 have HS1 := Lib.hid hS1
 have HS2 := Lib.hid hS2
 obtain ⟨x0, x1, x2, x3, -⟩ := hX.open4
 generalize ordL f = OL at *
 generalize f.op = o at *
 generalize f.n = nn at *
 generalize f.is = is at *
 generalize hl2 : is.length = l2 at *
 have HL2 := Lib.hid hl2
 generalize f.ks.length = l3 at *
 clear hT hI hX hS1 hS2 hO2 hl2 hQ
 go_enter Tryz.func82, Tryz.ntmps82
 go_upto_region 1 with (fail)
 rw [← hW1]
 clear hW1
 go_upto_region 2 with (fail)
 rw [← hW2]
 clear hW2 x0 x1 x2 x3
 go_wp2
 go_loopw [3, 4] (fun l v wr => ∃ (k : Nat) (a : Option Addr) (m c : Nat), k ≤ l2 ∧ l = .slice a m c ∧ v = .int .i64 k ∧ Hid (ROwn RIn 3 W1.heap.size wr (.slice a m c) ([o, nn, (l2 : Int)] ++ (is.take k).flatMap Iv.rank)) ∧ Hid (Since W1 wr)) (fun _ v _ => l2 - (intOf v).toNat)
 case atStart => exact ⟨0, _, 3, 3, by omega, rfl, rfl, HO2, HS2⟩
 case round =>
  obtain ⟨k, a, m, cc, hk, rfl, rfl, hO, hS⟩ := hrel
  clear HO2 HS2
  obtain ⟨x0, x1, x2, x3, -⟩ := (HX.out.keep hS.out).open4
  by_cases hlt : k < l2
  ·have j1 : (k : Int) < l2 := by omega
   have j2 : (0 : Int) ≤ k := by omega
   have hie := HIE.out wr hS.out
   obtain ⟨g3, rfl, -⟩ := hie.get hlt
   obtain ⟨x, hx⟩ : ∃ x, is[k]? = some x := ⟨_, List.getElem?_eq_getElem (by rw [HL2.out]; exact hlt)⟩
   obtain ⟨p0, p1, p2, p3, p4, p5, p6, p7⟩ := fiv_at hie hx
   have HST : Hid ((is.take (k + 1)).flatMap Iv.rank = (is.take k).flatMap Iv.rank ++ x.rank) := Lib.hid (by rw [List.take_add_one, hx, List.flatMap_append]; simp)
   have hlen : ([o, nn, (l2 : Int)] ++ (is.take k).flatMap Iv.rank).length + 8 ≤ 1000000000 := by
    rw [List.length_append, rank_len, List.length_take]
    simp only [List.length_cons, List.length_nil]
    omega
   obtain ⟨xa, xb, xc, xd, xp, xq, xr, xs⟩ := x
   simp only at p0 p1 p2 p3 p4 p5 p6 p7
   obtain ⟨wx, hwx⟩ : ∃ wx, wx = wr.alloc (.cells #[.int .i64 xa, .int .i64 xb, .int .i64 xc, .int .i64 xd, .bool xp, .bool xq, .bool xr, .bool xs] 112) := ⟨_, rfl⟩
   have hSx : Since wr wx := by rw [hwx]; exact Since.alloc (since_r _) _
   have hX5 : BoxL wr.heap.size [.int .i64 xa, .int .i64 xb, .int .i64 xc, .int .i64 xd, .bool xp, .bool xq, .bool xr, .bool xs] wx := by rw [hwx]; exact BoxL.made wr _ _
   have HX5 := Lib.hid hX5
   have HOX := Lib.hid (ROwn.below hO.out hSx)
   have HSX := Lib.hid (Since.step hS.out hSx)
   clear hie hx
   go_upto_region 6 with (fail)
   rw [← hwx]
   clear hwx hSx p0 p1 p2 p3 p4 p5 p6 p7 x0 x1 x2 x3
   obtain ⟨p0, p1, p2, p3, p4, p5, p6, p7, -⟩ := hX5.open8
   clear hX5
   refine wp_region_noPanic ?_
   refine wp_region_held_drew (S := fun w' => w'.cell? ⟨wr.heap.size, 0, none⟩ = some (.int .i64 xa) ∧ w'.cell? ⟨wr.heap.size, 1, none⟩ = some (.int .i64 xb) ∧ w'.cell? ⟨wr.heap.size, 2, none⟩ = some (.int .i64 xc) ∧ w'.cell? ⟨wr.heap.size, 3, none⟩ = some (.int .i64 xd) ∧ w'.cell? ⟨wr.heap.size, 4, none⟩ = some (.bool xp) ∧ w'.cell? ⟨wr.heap.size, 5, none⟩ = some (.bool xq) ∧ w'.cell? ⟨wr.heap.size, 6, none⟩ = some (.bool xr) ∧ w'.cell? ⟨wr.heap.size, 7, none⟩ = some (.bool xs)) (by kernel_rfl) ⟨p0, p1, p2, p3, p4, p5, p6, p7⟩ (fun hHeld => ?_)
   refine wpAnyH_take (i := 0) (oi := ⟨some 26, Op.move (Operand.tmp 3), 22, _, _, none⟩) (v := ?_) rfl (by kernel_rfl) (by kernel_rfl) (by kernel_rfl) (fun _ _ _ h => h) (Or.inl ⟨by rfl, ?_⟩) (by assumption) ?_
   rotate_left 1
   ·(intro w hSw; (try dsimp only at hSw); go_simp; first | done | with_reducible rfl)
   try simp only [Act.put, List.setIfInBounds_toArray, List.set_cons_zero, List.set_cons_succ]
   refine wpAnyH_take (i := 1) (oi := ⟨some 27, Op.fieldAddr 112 (Operand.tmp 5) 4, 0, _, _, none⟩) (v := ?_) rfl (by kernel_rfl) (by kernel_rfl) (by kernel_rfl) (fun _ _ _ h => h) (Or.inl ⟨by rfl, ?_⟩) (by assumption) ?_
   rotate_left 1
   ·(intro w hSw; (try dsimp only at hSw); go_simp; first | done | with_reducible rfl)
   try simp only [Act.put, List.setIfInBounds_toArray, List.set_cons_zero, List.set_cons_succ]
   refine wpAnyH_take (i := 2) (oi := ⟨some 28, Op.load 4 (Operand.tmp 27), 4, _, _, none⟩) (v := ?_) rfl (by kernel_rfl) (by kernel_rfl) (by kernel_rfl) (fun _ _ _ h => h) (Or.inl ⟨by rfl, ?_⟩) (by assumption) ?_
   rotate_left 1
   ·(intro w hSw; (try dsimp only at hSw); go_simp; first | done | with_reducible rfl)
   try simp only [Act.put, List.setIfInBounds_toArray, List.set_cons_zero, List.set_cons_succ]
   refine wpAnyH_take (i := 4) (oi := ⟨some 30, Op.fieldAddr 112 (Operand.tmp 5) 2, 0, _, _, none⟩) (v := ?_) rfl (by kernel_rfl) (by kernel_rfl) (by kernel_rfl) (fun _ _ _ h => h) (Or.inl ⟨by rfl, ?_⟩) (by assumption) ?_
   rotate_left 1
   ·(intro w hSw; (try dsimp only at hSw); go_simp; first | done | with_reducible rfl)
   try simp only [Act.put, List.setIfInBounds_toArray, List.set_cons_zero, List.set_cons_succ]
   refine wpAnyH_take (i := 5) (oi := ⟨some 31, Op.load 4 (Operand.tmp 30), 4, _, _, none⟩) (v := ?_) rfl (by kernel_rfl) (by kernel_rfl) (by kernel_rfl) (fun _ _ _ h => h) (Or.inl ⟨by rfl, ?_⟩) (by assumption) ?_
   rotate_left 1
   ·(intro w hSw; (try dsimp only at hSw); go_simp; first | done | with_reducible rfl)
   try simp only [Act.put, List.setIfInBounds_toArray, List.set_cons_zero, List.set_cons_succ]
   refine wpAnyH_take (i := 7) (oi := ⟨some 33, Op.fieldAddr 112 (Operand.tmp 5) 0, 0, _, _, none⟩) (v := ?_) rfl (by kernel_rfl) (by kernel_rfl) (by kernel_rfl) (fun _ _ _ h => h) (Or.inl ⟨by rfl, ?_⟩) (by assumption) ?_
   rotate_left 1
   ·(intro w hSw; (try dsimp only at hSw); go_simp; first | done | with_reducible rfl)
   try simp only [Act.put, List.setIfInBounds_toArray, List.set_cons_zero, List.set_cons_succ]
   refine wpAnyH_take (i := 8) (oi := ⟨some 34, Op.fieldAddr 91 (Operand.tmp 33) 0, 0, _, _, none⟩) (v := ?_) rfl (by kernel_rfl) (by kernel_rfl) (by kernel_rfl) (fun _ _ _ h => h) (Or.inl ⟨by rfl, ?_⟩) (by assumption) ?_
   rotate_left 1
   ·(intro w hSw; (try dsimp only at hSw); go_simp; first | done | with_reducible rfl)
   try simp only [Act.put, List.setIfInBounds_toArray, List.set_cons_zero, List.set_cons_succ]
   refine wpAnyH_take (i := 9) (oi := ⟨some 35, Op.load 3 (Operand.tmp 34), 3, _, _, none⟩) (v := ?_) rfl (by kernel_rfl) (by kernel_rfl) (by kernel_rfl) (fun _ _ _ h => h) (Or.inl ⟨by rfl, ?_⟩) (by assumption) ?_
   rotate_left 1
   ·(intro w hSw; (try dsimp only at hSw); go_simp; first | done | with_reducible rfl)
   try simp only [Act.put, List.setIfInBounds_toArray, List.set_cons_zero, List.set_cons_succ]
   refine wpAnyH_take (i := 10) (oi := ⟨some 36, Op.fieldAddr 112 (Operand.tmp 5) 0, 0, _, _, none⟩) (v := ?_) rfl (by kernel_rfl) (by kernel_rfl) (by kernel_rfl) (fun _ _ _ h => h) (Or.inl ⟨by rfl, ?_⟩) (by assumption) ?_
   rotate_left 1
   ·(intro w hSw; (try dsimp only at hSw); go_simp; first | done | with_reducible rfl)
   try simp only [Act.put, List.setIfInBounds_toArray, List.set_cons_zero, List.set_cons_succ]
   refine wpAnyH_take (i := 11) (oi := ⟨some 37, Op.fieldAddr 91 (Operand.tmp 36) 1, 0, _, _, none⟩) (v := ?_) rfl (by kernel_rfl) (by kernel_rfl) (by kernel_rfl) (fun _ _ _ h => h) (Or.inl ⟨by rfl, ?_⟩) (by assumption) ?_
   rotate_left 1
   ·(intro w hSw; (try dsimp only at hSw); go_simp; first | done | with_reducible rfl)
   try simp only [Act.put, List.setIfInBounds_toArray, List.set_cons_zero, List.set_cons_succ]
   refine wpAnyH_take (i := 12) (oi := ⟨some 38, Op.load 3 (Operand.tmp 37), 3, _, _, none⟩) (v := ?_) rfl (by kernel_rfl) (by kernel_rfl) (by kernel_rfl) (fun _ _ _ h => h) (Or.inl ⟨by rfl, ?_⟩) (by assumption) ?_
   rotate_left 1
   ·(intro w hSw; (try dsimp only at hSw); go_simp; first | done | with_reducible rfl)
   try simp only [Act.put, List.setIfInBounds_toArray, List.set_cons_zero, List.set_cons_succ]
   refine wpAnyH_take (i := 13) (oi := ⟨some 39, Op.fieldAddr 112 (Operand.tmp 5) 5, 0, _, _, none⟩) (v := ?_) rfl (by kernel_rfl) (by kernel_rfl) (by kernel_rfl) (fun _ _ _ h => h) (Or.inl ⟨by rfl, ?_⟩) (by assumption) ?_
   rotate_left 1
   ·(intro w hSw; (try dsimp only at hSw); go_simp; first | done | with_reducible rfl)
   try simp only [Act.put, List.setIfInBounds_toArray, List.set_cons_zero, List.set_cons_succ]
   refine wpAnyH_take (i := 14) (oi := ⟨some 40, Op.load 4 (Operand.tmp 39), 4, _, _, none⟩) (v := ?_) rfl (by kernel_rfl) (by kernel_rfl) (by kernel_rfl) (fun _ _ _ h => h) (Or.inl ⟨by rfl, ?_⟩) (by assumption) ?_
   rotate_left 1
   ·(intro w hSw; (try dsimp only at hSw); go_simp; first | done | with_reducible rfl)
   try simp only [Act.put, List.setIfInBounds_toArray, List.set_cons_zero, List.set_cons_succ]
   refine wpAnyH_take (i := 16) (oi := ⟨some 42, Op.fieldAddr 112 (Operand.tmp 5) 3, 0, _, _, none⟩) (v := ?_) rfl (by kernel_rfl) (by kernel_rfl) (by kernel_rfl) (fun _ _ _ h => h) (Or.inl ⟨by rfl, ?_⟩) (by assumption) ?_
   rotate_left 1
   ·(intro w hSw; (try dsimp only at hSw); go_simp; first | done | with_reducible rfl)
   try simp only [Act.put, List.setIfInBounds_toArray, List.set_cons_zero, List.set_cons_succ]
   refine wpAnyH_take (i := 17) (oi := ⟨some 43, Op.load 4 (Operand.tmp 42), 4, _, _, none⟩) (v := ?_) rfl (by kernel_rfl) (by kernel_rfl) (by kernel_rfl) (fun _ _ _ h => h) (Or.inl ⟨by rfl, ?_⟩) (by assumption) ?_
   rotate_left 1
   ·(intro w hSw; (try dsimp only at hSw); go_simp; first | done | with_reducible rfl)
   try simp only [Act.put, List.setIfInBounds_toArray, List.set_cons_zero, List.set_cons_succ]
   refine wpAnyH_take (i := 19) (oi := ⟨some 45, Op.fieldAddr 112 (Operand.tmp 5) 1, 0, _, _, none⟩) (v := ?_) rfl (by kernel_rfl) (by kernel_rfl) (by kernel_rfl) (fun _ _ _ h => h) (Or.inl ⟨by rfl, ?_⟩) (by assumption) ?_
   rotate_left 1
   ·(intro w hSw; (try dsimp only at hSw); go_simp; first | done | with_reducible rfl)
   try simp only [Act.put, List.setIfInBounds_toArray, List.set_cons_zero, List.set_cons_succ]
   refine wpAnyH_take (i := 20) (oi := ⟨some 46, Op.fieldAddr 91 (Operand.tmp 45) 0, 0, _, _, none⟩) (v := ?_) rfl (by kernel_rfl) (by kernel_rfl) (by kernel_rfl) (fun _ _ _ h => h) (Or.inl ⟨by rfl, ?_⟩) (by assumption) ?_
   rotate_left 1
   ·(intro w hSw; (try dsimp only at hSw); go_simp; first | done | with_reducible rfl)
   try simp only [Act.put, List.setIfInBounds_toArray, List.set_cons_zero, List.set_cons_succ]
   refine wpAnyH_take (i := 21) (oi := ⟨some 47, Op.load 3 (Operand.tmp 46), 3, _, _, none⟩) (v := ?_) rfl (by kernel_rfl) (by kernel_rfl) (by kernel_rfl) (fun _ _ _ h => h) (Or.inl ⟨by rfl, ?_⟩) (by assumption) ?_
   rotate_left 1
   ·(intro w hSw; (try dsimp only at hSw); go_simp; first | done | with_reducible rfl)
   try simp only [Act.put, List.setIfInBounds_toArray, List.set_cons_zero, List.set_cons_succ]
   refine wpAnyH_take (i := 22) (oi := ⟨some 48, Op.fieldAddr 112 (Operand.tmp 5) 1, 0, _, _, none⟩) (v := ?_) rfl (by kernel_rfl) (by kernel_rfl) (by kernel_rfl) (fun _ _ _ h => h) (Or.inl ⟨by rfl, ?_⟩) (by assumption) ?_
   rotate_left 1
   ·(intro w hSw; (try dsimp only at hSw); go_simp; first | done | with_reducible rfl)
   try simp only [Act.put, List.setIfInBounds_toArray, List.set_cons_zero, List.set_cons_succ]
   refine wpAnyH_take (i := 23) (oi := ⟨some 49, Op.fieldAddr 91 (Operand.tmp 48) 1, 0, _, _, none⟩) (v := ?_) rfl (by kernel_rfl) (by kernel_rfl) (by kernel_rfl) (fun _ _ _ h => h) (Or.inl ⟨by rfl, ?_⟩) (by assumption) ?_
   rotate_left 1
   ·(intro w hSw; (try dsimp only at hSw); go_simp; first | done | with_reducible rfl)
   try simp only [Act.put, List.setIfInBounds_toArray, List.set_cons_zero, List.set_cons_succ]
   refine wpAnyH_take (i := 24) (oi := ⟨some 50, Op.load 3 (Operand.tmp 49), 3, _, _, none⟩) (v := ?_) rfl (by kernel_rfl) (by kernel_rfl) (by kernel_rfl) (fun _ _ _ h => h) (Or.inl ⟨by rfl, ?_⟩) (by assumption) ?_
   rotate_left 1
   ·(intro w hSw; (try dsimp only at hSw); go_simp; first | done | with_reducible rfl)
   try simp only [Act.put, List.setIfInBounds_toArray, List.set_cons_zero, List.set_cons_succ]
   refine wpAnyH_ready (rs := [3]) (by kernel_rfl) (by simp) ?_
   refine AllReadyH.cons (o := ⟨some 29, Op.call { callee := Callee.value (Operand.func 137), args := #[Operand.tmp 28], argTypes := #[4] }, 3, _, _, none⟩) rfl (fun K hK => ?_) AllReadyH.nil
   go_simp
   go_at_call 137
   refine (HKO.out _ _).mono ?_
   rintro e w' ⟨rfl, rfl⟩
   try go_wp2_with fail
   refine hK.out _ _ ?_ (fun hHeld => ?_)
   ·exact ⟨p0, p1, p2, p3, p4, p5, p6, p7⟩
   clear hK K
   try simp only [Act.put, List.setIfInBounds_toArray, List.set_cons_zero, List.set_cons_succ]
   refine wpAnyH_ready (rs := [6]) (by kernel_rfl) (by simp) ?_
   refine AllReadyH.cons (o := ⟨some 32, Op.call { callee := Callee.value (Operand.func 137), args := #[Operand.tmp 31], argTypes := #[4] }, 3, _, _, none⟩) rfl (fun K hK => ?_) AllReadyH.nil
   go_simp
   go_at_call 137
   refine (HKO.out _ _).mono ?_
   rintro e w' ⟨rfl, rfl⟩
   try go_wp2_with fail
   refine hK.out _ _ ?_ (fun hHeld => ?_)
   ·exact ⟨p0, p1, p2, p3, p4, p5, p6, p7⟩
   clear hK K
   try simp only [Act.put, List.setIfInBounds_toArray, List.set_cons_zero, List.set_cons_succ]
   refine wpAnyH_ready (rs := [15]) (by kernel_rfl) (by simp) ?_
   refine AllReadyH.cons (o := ⟨some 41, Op.call { callee := Callee.value (Operand.func 137), args := #[Operand.tmp 40], argTypes := #[4] }, 3, _, _, none⟩) rfl (fun K hK => ?_) AllReadyH.nil
   go_simp
   go_at_call 137
   refine (HKO.out _ _).mono ?_
   rintro e w' ⟨rfl, rfl⟩
   try go_wp2_with fail
   refine hK.out _ _ ?_ (fun hHeld => ?_)
   ·exact ⟨p0, p1, p2, p3, p4, p5, p6, p7⟩
   clear hK K
   try simp only [Act.put, List.setIfInBounds_toArray, List.set_cons_zero, List.set_cons_succ]
   refine wpAnyH_ready (rs := [18]) (by kernel_rfl) (by simp) ?_
   refine AllReadyH.cons (o := ⟨some 44, Op.call { callee := Callee.value (Operand.func 137), args := #[Operand.tmp 43], argTypes := #[4] }, 3, _, _, none⟩) rfl (fun K hK => ?_) AllReadyH.nil
   go_simp
   go_at_call 137
   refine (HKO.out _ _).mono ?_
   rintro e w' ⟨rfl, rfl⟩
   try go_wp2_with fail
   refine hK.out _ _ ?_ (fun hHeld => ?_)
   ·exact ⟨p0, p1, p2, p3, p4, p5, p6, p7⟩
   clear hK K
   try simp only [Act.put, List.setIfInBounds_toArray, List.set_cons_zero, List.set_cons_succ]
   refine wpAnyH_ready (rs := [25]) (by kernel_rfl) (by simp) ?_
   refine AllReadyH.cons (o := ⟨some 51, Op.buildSlice 22 8 #[(0, Operand.tmp 29), (1, Operand.tmp 32), (2, Operand.tmp 35), (3, Operand.tmp 38), (4, Operand.tmp 41), (5, Operand.tmp 44), (6, Operand.tmp 47), (7, Operand.tmp 50)], 22, _, _, none⟩) rfl (fun K hK => ?_) AllReadyH.nil
   go_simp
   try go_wp2_with fail
   obtain ⟨wy, hwy⟩ : ∃ wy, wy = (wx.alloc (.cells #[.int .i64 (bitI xr), .int .i64 (bitI xp), .int .i64 xa, .int .i64 xb, .int .i64 (bitI xs), .int .i64 (bitI xq), .int .i64 xc, .int .i64 xd] 3)).drew := ⟨_, rfl⟩
   rw [← hwy]
   have hSy : Since wx wy := by rw [hwy]; exact since_d (Since.alloc (since_r _) _)
   have hcl : ∀ j u, ((Iv.rank ⟨xa, xb, xc, xd, xp, xq, xr, xs⟩).flatMap RIn.cells)[j]? = some u → wy.cell? ⟨wx.heap.size, j, none⟩ = some u := by
    have hB := BoxL.keep (BoxL.made wx #[.int .i64 (bitI xr), .int .i64 (bitI xp), .int .i64 xa, .int .i64 xb, .int .i64 (bitI xs), .int .i64 (bitI xq), .int .i64 xc, .int .i64 xd] 3) (since_d (since_r _))
    rw [← hwy] at hB
    intro j u hu
    exact (hB.2 j u hu).1
   have HCL := Lib.hid hcl
   have HOY := Lib.hid (ROwn.below HOX.out hSy)
   have HXY := Lib.hid (HX5.out.keep hSy)
   have HSY := Lib.hid (Since.step HSX.out hSy)
   have hzB : W1.heap.size ≤ wy.heap.size := HSY.out.size
   have hNe : ∀ b, (.slice a m cc : Value).ownBlock = some b → b ≠ wr.heap.size := fun b e h => by have := (hO.out.lt b e).2; omega
   have HNE := Lib.hid (show (.slice a m cc : Value).ownBlock ≠ some wr.heap.size from fun e => hNe _ e rfl)
   generalize wx.heap.size = N9 at *
   clear hwy hSy hcl HOX HX5 HSX hNe
   obtain ⟨p0, p1, p2, p3, p4, p5, p6, p7, -⟩ := HXY.out.open8
   refine hK.out _ _ ?_ (fun hHeld => ?_)
   ·exact ⟨p0, p1, p2, p3, p4, p5, p6, p7⟩
   clear hK K
   try simp only [Act.put, List.setIfInBounds_toArray, List.set_cons_zero, List.set_cons_succ]
   refine wpAnyH_ready (rs := [26]) (by kernel_rfl) (by simp) ?_
   refine AllReadyH.cons (o := ⟨some 52, Op.call { callee := Callee.builtin Builtin.append, args := #[Operand.tmp 26, Operand.tmp 51], argTypes := #[22, 22] }, 22, _, _, none⟩) rfl (fun K hK => ?_) AllReadyH.nil
   refine wp_row1_f (.tmp 26) (.tmp 51) 22 rfl RIn 3 8 _ Tryz.underlying22 HI.out rfl (by decide) W1.heap.size (.slice a m cc) ([o, nn, (l2 : Int)] ++ (is.take k).flatMap Iv.rank) (Iv.rank ⟨xa, xb, xc, xd, xp, xq, xr, xs⟩) N9 8 8 rfl rfl rfl HCL.out HOY.out hzB hlen ?_
   intro aq lq cq wn hnn hOn hBn hPn
   obtain ⟨p0, p1, p2, p3, p4, p5, p6, p7, -⟩ := (BoxL.far HXY.out HNE.out hPn.out).open8
   refine hK.out _ _ ?_ (fun hHeld => ?_)
   ·exact ⟨p0, p1, p2, p3, p4, p5, p6, p7⟩
   clear hK K
   try simp only [Act.put, List.setIfInBounds_toArray, List.set_cons_zero, List.set_cons_succ]
   refine wpAnyH_take (i := 27) (oi := ⟨some 3, Op.assign (Operand.tmp 52), 22, _, _, none⟩) (v := ?_) rfl (by kernel_rfl) (by kernel_rfl) (by kernel_rfl) (fun _ _ _ h => h) (Or.inl ⟨by rfl, ?_⟩) (by assumption) ?_
   rotate_left 1
   ·(intro w hSw; (try dsimp only at hSw); go_simp; first | done | with_reducible rfl)
   try simp only [Act.put, List.setIfInBounds_toArray, List.set_cons_zero, List.set_cons_succ]
   refine wpAnyH_done (by kernel_rfl) ?_ _
   refine NoPanic.normal ?_
   have HO7 : Hid (ROwn RIn 3 W1.heap.size wn (.slice aq lq cq) ([o, nn, (l2 : Int)] ++ (is.take (k + 1)).flatMap Iv.rank)) := Lib.hid (by rw [HST.out, ← List.append_assoc]; exact hOn.out)
   have HS7 : Hid (Since W1 wn) := Lib.hid (Below.trans HSY.out hBn.out)
   clear p0 p1 p2 p3 p4 p5 p6 p7 HST hlen
   go_wp2
   go_roundw
   case rel => exact ⟨k + 1, aq, lq, cq, by omega, rfl, by go_num, HO7, HS7⟩
   case measure => simp [intOf] <;> omega
  ·have j1 : ¬ (k : Int) < l2 := by omega
   have hk1 : is.take k = is := List.take_of_length_le (by rw [HL2.out]; omega)
   rw [hk1] at hO
   have hzB : W1.heap.size ≤ wr.heap.size := hS.out.size
   have hlen : ([o, nn, (l2 : Int)] ++ is.flatMap Iv.rank).length + 1 ≤ 1000000000 := by
    rw [List.length_append, rank_len, HL2.out]
    simp only [List.length_cons, List.length_nil]
    omega
   clear hk1
   go_wp2_with (at_builtin; refine push_row_f rfl _ _ 22 rfl RIn 3 8 _ Tryz.underlying22 HI.out rfl (by decide) W1.heap.size (.slice a m cc) ([o, nn, (l2 : Int)] ++ is.flatMap Iv.rank) [(l3 : Int)] _ _ rfl rfl _ 1 rfl rfl rfl hO.out hzB hlen ?_; intro aq lq cq wn hnn hOn hBn hPn)
   have HF := Lib.hid (HFIN.out wn aq lq cq W1.heap.size _ hOn.out HORD.out (HS1.out.trans (Below.mono (Below.trans hS.out hBn.out) HS1.out.size)))
   exact HF.out
end Go.Proofs.YtgnloodmbgdgdaaGreat
