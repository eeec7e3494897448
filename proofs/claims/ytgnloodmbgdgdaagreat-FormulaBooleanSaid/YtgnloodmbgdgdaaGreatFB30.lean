import Derived.Test.YtgnloodmbgdgdaaGreatFB29
import Derived.Test.YtgnloodmbgdgdaaGreatFB17
namespace Go.Proofs.YtgnloodmbgdgdaaGreat
open Go.RowKit Go.Shelf
theorem zipL_app {α : Type} (c : α → α → Int) : ∀ (la bs x y : List α), la.length = bs.length → zipL c (la ++ x) (bs ++ y) = if zipL c la bs = 0 then zipL c x y else zipL c la bs
 | [], [], x, y, _ => by rw [List.nil_append, List.nil_append, show zipL c ([] : List α) [] = 0 from by unfold zipL; rfl, if_pos rfl]
 | [], _ :: _, _, _, h => by simp at h
 | _ :: _, [], _, _, h => by simp at h
 | a :: la, b :: bs, x, y, h => by
  rw [List.cons_append, List.cons_append, zipL, zipL, zipL_app c la bs x y (by simpa using h)]
  by_cases h0 : c a b = 0
  ·rw [if_pos h0, if_pos h0]
  ·rw [if_neg h0, if_neg h0, if_neg h0]
theorem Iv.cmp_zip (x y : Iv) : Iv.cmp x y = zipL cmpI x.rank y.rank := by
 unfold Iv.cmp lenL
 rw [if_pos (by rw [show x.rank.length = 8 from rfl, show y.rank.length = 8 from rfl]; exact cmpI_self _)]
theorem zip_flat : ∀ is js : List Iv, is.length = js.length → zipL cmpI (is.flatMap Iv.rank) (js.flatMap Iv.rank) = zipL Iv.cmp is js
 | [], [], _ => by unfold zipL; rfl
 | [], _ :: _, h => by simp at h
 | _ :: _, [], h => by simp at h
 | x :: is, y :: js, h => by
  rw [List.flatMap_cons, List.flatMap_cons, zipL_app cmpI x.rank y.rank _ _ rfl, zip_flat is js (by simpa using h), ← Iv.cmp_zip]
  show _ = if Iv.cmp x y = 0 then zipL Iv.cmp is js else Iv.cmp x y
  rfl
def ordL (f : Fo) : List Int := [f.op, f.n, (f.is.length : Int)] ++ f.is.flatMap Iv.rank ++ [(f.ks.length : Int)]
theorem zip_one (a b : Int) : zipL cmpI [a] [b] = cmpI a b := by
 show (if cmpI a b = 0 then zipL cmpI [] [] else cmpI a b) = _
 rw [show zipL cmpI ([] : List Int) [] = 0 from by unfold zipL; rfl]
 by_cases h : cmpI a b = 0
 ·rw [if_pos h, h]
 ·rw [if_neg h]
theorem rank_len (is : List Iv) : (is.flatMap Iv.rank).length = is.length * 8 := by
 induction is with
 | nil => rfl
 | cons x is ih => rw [List.flatMap_cons, List.length_append, ih, List.length_cons, show x.rank.length = 8 from rfl]; omega
theorem fcmp_ordL (f g : Fo) : fcmp f g = if zipL cmpI (ordL f) (ordL g) = 0 then zipL fcmp f.ks g.ks else zipL cmpI (ordL f) (ordL g) := by
 rw [fcmp_eq]
 unfold ordL lenL
 rw [List.append_assoc, List.append_assoc]
 simp only [List.cons_append, List.nil_append, zipL, lexL]
 by_cases h1 : cmpI f.op g.op = 0
 ·simp only [if_pos h1]
  by_cases h2 : cmpI f.n g.n = 0
  ·simp only [if_pos h2]
   by_cases h3 : cmpI (f.is.length : Int) g.is.length = 0
   ·simp only [if_pos h3]
    have hl : f.is.length = g.is.length := by have := cmpI_zero.1 h3; omega
    rw [zipL_app cmpI _ _ _ _ (by rw [rank_len, rank_len, hl]), zip_flat _ _ hl, zip_one]
    by_cases h4 : zipL Iv.cmp f.is g.is = 0
    ·rw [if_pos h4, if_pos h4, if_pos trivial]
    ·rw [if_neg h4, if_neg h4, if_neg h4, if_pos trivial]
   ·simp only [if_neg h3, if_pos]
  ·simp only [if_neg h2]
 ·simp only [if_neg h1]
theorem ordL_kids {f g : Fo} (h : zipL cmpI (ordL f) (ordL g) = 0) : f.ks.length = g.ks.length := by
 unfold ordL at h
 rw [List.append_assoc, List.append_assoc] at h
 simp only [List.cons_append, List.nil_append, zipL] at h
 by_cases h1 : cmpI f.op g.op = 0
 ·rw [if_pos h1] at h
  by_cases h2 : cmpI f.n g.n = 0
  ·rw [if_pos h2] at h
   by_cases h3 : cmpI (f.is.length : Int) g.is.length = 0
   ·rw [if_pos h3] at h
    have hl : f.is.length = g.is.length := by have := cmpI_zero.1 h3; omega
    rw [zipL_app cmpI _ _ _ _ (by rw [rank_len, rank_len, hl]), zip_flat _ _ hl, zip_one] at h
    by_cases h4 : zipL Iv.cmp f.is g.is = 0
    ·rw [if_pos h4] at h
     have := cmpI_zero.1 h
     omega
    ·rw [if_neg h4] at h; exact absurd h h4
   ·rw [if_neg h3] at h; exact absurd h h3
  ·rw [if_neg h2] at h; exact absurd h h2
 ·rw [if_neg h1] at h; exact absurd h h1
end Go.Proofs.YtgnloodmbgdgdaaGreat
namespace Go.Proofs.YtgnloodmbgdgdaaGreat
open Go.RowKit Go.Shelf
theorem rone_any (b : Bool) (w : World) :
  Calls Tryz.prog 137 #[.bool b] w fun e w' => e = .returned (.int .i64 (bitI b)) ∧ w' = w := by
 cases b with
 | true =>
  go_enter Tryz.func137, Tryz.ntmps137
  go_wp2
  go_ret
  exact ⟨rfl, rfl⟩
 | false =>
  go_enter Tryz.func137, Tryz.ntmps137
  go_wp2
  go_ret
  exact ⟨rfl, rfl⟩
def OrdOut (f : Fo) (w : World) (e : Ending) (w' : World) : Prop := ∃ a m k, e = .returned (.slice a m k) ∧ Hid (Els .i64 w' (.slice a m k) (ordL f)) ∧ Hid (Below w.heap.size w w')
theorem OrdOut.fin {f : Fo} {w w' : World} {a : Option Addr} {m k : Nat} {B : Nat} {xs : List Int} (h : ROwn RIn 3 B w' (.slice a m k) xs) (hx : xs = ordL f) (hB : Below w.heap.size w w') : OrdOut f w (.returned (.slice a m k)) w' := ⟨a, m, k, rfl, Lib.hid (by rw [← hx]; exact rin_els h.els), Lib.hid hB⟩
set_option maxHeartbeats 16000000 in
set_option maxRecDepth 100000 in
theorem order_any (f : Fo) (hil : f.is.length ≤ 100000000) (c d : Value) (w : World) (hT : FAt w.heap.size w f c d) :
  Calls Tryz.prog 82 #[.agg #[.int .i64 f.op, .int .i64 f.n, c, d]] w (OrdOut f w) := by
 obtain ⟨a2, c2, a3, c3, rfl, rfl, hI, -, -⟩ := hT.shape
 obtain ⟨W1, hW1⟩ : ∃ W1, W1 = w.alloc (.cells #[.int .i64 f.op, .int .i64 f.n, .slice a2 f.is.length c2, .slice a3 f.ks.length c3] 29) := ⟨_, rfl⟩
 have hS1 : Since w W1 := by rw [hW1]; exact Since.alloc (since_r _) _
 have hX : BoxL w.heap.size [.int .i64 f.op, .int .i64 f.n, .slice a2 f.is.length c2, .slice a3 f.ks.length c3] W1 := by rw [hW1]; exact BoxL.made w _ _
 obtain ⟨W2, hW2⟩ : ∃ W2, W2 = W1.alloc (.cells #[.int .i64 f.op, .int .i64 f.n, .int .i64 (f.is.length : Int)] 3) := ⟨_, rfl⟩
 have hS2 : Since W1 W2 := by rw [hW2]; exact Since.alloc (since_r _) _
 have hO2 : ROwn RIn 3 W1.heap.size W2 (.slice (some ⟨W1.heap.size, 0, none⟩) 3 3) ([f.op, f.n, (f.is.length : Int)] ++ (f.is.take 0).flatMap Iv.rank) := by rw [hW2]; exact ROwn.new RIn 3 W1 [f.op, f.n, (f.is.length : Int)] _ rfl (by unfold maxLen; simp)
 have HIE := Lib.hid fun W (hs : Since W1 W) => REls.below (Since.step hS1 hs) hI
 have HORD : Hid ([f.op, f.n, (f.is.length : Int)] ++ f.is.flatMap Iv.rank ++ [(f.ks.length : Int)] = ordL f) := Lib.hid rfl
 have HKO := Lib.hid fun (b : Bool) W => rone_any b W
 have HFIN := Lib.hid fun (w' : World) (a : Option Addr) (m k : Nat) (B : Nat) (xs : List Int) (h : ROwn RIn 3 B w' (.slice a m k) xs) (hx : xs = ordL f) (hB : Below w.heap.size w w') => OrdOut.fin h hx hB
 generalize hQ : OrdOut f w = Q at *
 have HI : Hid ((Tryz.prog.info? 3).map (fun i => (i.zero, i.size, i.bytes)) = some (some (.int .i64 0), 1, 8)) := Lib.hid (by kernel_rfl)
 have HX := Lib.hid hX
 have HO2 := Lib.hid hO2
 have HS1 := Lib.hid hS1
 have HS2 := Lib.hid hS2
 obtain ⟨x0, x1, x2, x3, -⟩ := hX.open4
 generalize ordL f = OL at *
 generalize f.op = o at *
 generalize f.n = nn at *
 generalize f.is = is at *
 generalize hl2 : is.length = l2 at *
 have HL2 := Lib.hid hl2
 generalize f.ks.length = l3 at *
 clear hT hI hX hS1 hS2 hO2 hl2 hQ
 go_enter Tryz.func82, Tryz.ntmps82
 go_upto_region 1 with (fail)
 rw [← hW1]
 clear hW1
 go_upto_region 2 with (fail)
 rw [← hW2]
 clear hW2 x0 x1 x2 x3
 go_wp2
 go_loopw [3, 4] (fun l v wr => ∃ (k : Nat) (a : Option Addr) (m c : Nat), k ≤ l2 ∧ l = .slice a m c ∧ v = .int .i64 k ∧ Hid (ROwn RIn 3 W1.heap.size wr (.slice a m c) ([o, nn, (l2 : Int)] ++ (is.take k).flatMap Iv.rank)) ∧ Hid (Since W1 wr)) (fun _ v _ => l2 - (intOf v).toNat)
 case atStart => exact ⟨0, _, 3, 3, by omega, rfl, rfl, HO2, HS2⟩
 case round =>
  obtain ⟨k, a, m, cc, hk, rfl, rfl, hO, hS⟩ := hrel
  clear HO2 HS2
  obtain ⟨x0, x1, x2, x3, -⟩ := (HX.out.keep hS.out).open4
  by_cases hlt : k < l2
  ·have j1 : (k : Int) < l2 := by omega
   have j2 : (0 : Int) ≤ k := by omega
   have hie := HIE.out wr hS.out
   obtain ⟨g3, rfl, -⟩ := hie.get hlt
   obtain ⟨x, hx⟩ : ∃ x, is[k]? = some x := ⟨_, List.getElem?_eq_getElem (by rw [HL2.out]; exact hlt)⟩
   obtain ⟨p0, p1, p2, p3, p4, p5, p6, p7⟩ := fiv_at hie hx
   have HST : Hid ((is.take (k + 1)).flatMap Iv.rank = (is.take k).flatMap Iv.rank ++ x.rank) := Lib.hid (by rw [List.take_add_one, hx, List.flatMap_append]; simp)
   have hlen : ([o, nn, (l2 : Int)] ++ (is.take k).flatMap Iv.rank).length + 8 ≤ 1000000000 := by
    rw [List.length_append, rank_len, List.length_take]
    simp only [List.length_cons, List.length_nil]
    omega
   obtain ⟨xa, xb, xc, xd, xp, xq, xr, xs⟩ := x
   simp only at p0 p1 p2 p3 p4 p5 p6 p7
   obtain ⟨wx, hwx⟩ : ∃ wx, wx = wr.alloc (.cells #[.int .i64 xa, .int .i64 xb, .int .i64 xc, .int .i64 xd, .bool xp, .bool xq, .bool xr, .bool xs] 112) := ⟨_, rfl⟩
   have hSx : Since wr wx := by rw [hwx]; exact Since.alloc (since_r _) _
   have hX5 : BoxL wr.heap.size [.int .i64 xa, .int .i64 xb, .int .i64 xc, .int .i64 xd, .bool xp, .bool xq, .bool xr, .bool xs] wx := by rw [hwx]; exact BoxL.made wr _ _
   have HX5 := Lib.hid hX5
   have HOX := Lib.hid (ROwn.below hO.out hSx)
   have HSX := Lib.hid (Since.step hS.out hSx)
   clear hie hx
   go_upto_region 6 with (fail)
   rw [← hwx]
   clear hwx hSx p0 p1 p2 p3 p4 p5 p6 p7 x0 x1 x2 x3
   obtain ⟨p0, p1, p2, p3, p4, p5, p6, p7, -⟩ := hX5.open8
   clear hX5
   refine wp_region_noPanic ?_
   refine wp_region_held_drew (S := fun w' => w'.cell? ⟨wr.heap.size, 0, none⟩ = some (.int .i64 xa) ∧ w'.cell? ⟨wr.heap.size, 1, none⟩ = some (.int .i64 xb) ∧ w'.cell? ⟨wr.heap.size, 2, none⟩ = some (.int .i64 xc) ∧ w'.cell? ⟨wr.heap.size, 3, none⟩ = some (.int .i64 xd) ∧ w'.cell? ⟨wr.heap.size, 4, none⟩ = some (.bool xp) ∧ w'.cell? ⟨wr.heap.size, 5, none⟩ = some (.bool xq) ∧ w'.cell? ⟨wr.heap.size, 6, none⟩ = some (.bool xr) ∧ w'.cell? ⟨wr.heap.size, 7, none⟩ = some (.bool xs)) (by kernel_rfl) ⟨p0, p1, p2, p3, p4, p5, p6, p7⟩ (fun hHeld => ?_)
   refine wpAnyH_take (i := 0) (oi := ⟨some 26, Op.move (Operand.tmp 3), 22, _, _, none⟩) (v := ?_) rfl (by kernel_rfl) (by kernel_rfl) (by kernel_rfl) (fun _ _ _ h => h) (Or.inl ⟨by rfl, ?_⟩) (by assumption) ?_
   rotate_left 1
   ·(intro w hSw; (try dsimp only at hSw); go_simp; first | done | with_reducible rfl)
   try simp only [Act.put, List.setIfInBounds_toArray, List.set_cons_zero, List.set_cons_succ]
   refine wpAnyH_take (i := 1) (oi := ⟨some 27, Op.fieldAddr 112 (Operand.tmp 5) 4, 0, _, _, none⟩) (v := ?_) rfl (by kernel_rfl) (by kernel_rfl) (by kernel_rfl) (fun _ _ _ h => h) (Or.inl ⟨by rfl, ?_⟩) (by assumption) ?_
   rotate_left 1
   ·(intro w hSw; (try dsimp only at hSw); go_simp; first | done | with_reducible rfl)
   try simp only [Act.put, List.setIfInBounds_toArray, List.set_cons_zero, List.set_cons_succ]
   refine wpAnyH_take (i := 2) (oi := ⟨some 28, Op.load 4 (Operand.tmp 27), 4, _, _, none⟩) (v := ?_) rfl (by kernel_rfl) (by kernel_rfl) (by kernel_rfl) (fun _ _ _ h => h) (Or.inl ⟨by rfl, ?_⟩) (by assumption) ?_
   rotate_left 1
   ·(intro w hSw; (try dsimp only at hSw); go_simp; first | done | with_reducible rfl)
   try simp only [Act.put, List.setIfInBounds_toArray, List.set_cons_zero, List.set_cons_succ]
   refine wpAnyH_take (i := 4) (oi := ⟨some 30, Op.fieldAddr 112 (Operand.tmp 5) 2, 0, _, _, none⟩) (v := ?_) rfl (by kernel_rfl) (by kernel_rfl) (by kernel_rfl) (fun _ _ _ h => h) (Or.inl ⟨by rfl, ?_⟩) (by assumption) ?_
   rotate_left 1
   ·(intro w hSw; (try dsimp only at hSw); go_simp; first | done | with_reducible rfl)
   try simp only [Act.put, List.setIfInBounds_toArray, List.set_cons_zero, List.set_cons_succ]
   refine wpAnyH_take (i := 5) (oi := ⟨some 31, Op.load 4 (Operand.tmp 30), 4, _, _, none⟩) (v := ?_) rfl (by kernel_rfl) (by kernel_rfl) (by kernel_rfl) (fun _ _ _ h => h) (Or.inl ⟨by rfl, ?_⟩) (by assumption) ?_
   rotate_left 1
   ·(intro w hSw; (try dsimp only at hSw); go_simp; first | done | with_reducible rfl)
   try simp only [Act.put, List.setIfInBounds_toArray, List.set_cons_zero, List.set_cons_succ]
   refine wpAnyH_take (i := 7) (oi := ⟨some 33, Op.fieldAddr 112 (Operand.tmp 5) 0, 0, _, _, none⟩) (v := ?_) rfl (by kernel_rfl) (by kernel_rfl) (by kernel_rfl) (fun _ _ _ h => h) (Or.inl ⟨by rfl, ?_⟩) (by assumption) ?_
   rotate_left 1
   ·(intro w hSw; (try dsimp only at hSw); go_simp; first | done | with_reducible rfl)
   try simp only [Act.put, List.setIfInBounds_toArray, List.set_cons_zero, List.set_cons_succ]
   refine wpAnyH_take (i := 8) (oi := ⟨some 34, Op.fieldAddr 91 (Operand.tmp 33) 0, 0, _, _, none⟩) (v := ?_) rfl (by kernel_rfl) (by kernel_rfl) (by kernel_rfl) (fun _ _ _ h => h) (Or.inl ⟨by rfl, ?_⟩) (by assumption) ?_
   rotate_left 1
   ·(intro w hSw; (try dsimp only at hSw); go_simp; first | done | with_reducible rfl)
   try simp only [Act.put, List.setIfInBounds_toArray, List.set_cons_zero, List.set_cons_succ]
   refine wpAnyH_take (i := 9) (oi := ⟨some 35, Op.load 3 (Operand.tmp 34), 3, _, _, none⟩) (v := ?_) rfl (by kernel_rfl) (by kernel_rfl) (by kernel_rfl) (fun _ _ _ h => h) (Or.inl ⟨by rfl, ?_⟩) (by assumption) ?_
   rotate_left 1
   ·(intro w hSw; (try dsimp only at hSw); go_simp; first | done | with_reducible rfl)
   try simp only [Act.put, List.setIfInBounds_toArray, List.set_cons_zero, List.set_cons_succ]
   refine wpAnyH_take (i := 10) (oi := ⟨some 36, Op.fieldAddr 112 (Operand.tmp 5) 0, 0, _, _, none⟩) (v := ?_) rfl (by kernel_rfl) (by kernel_rfl) (by kernel_rfl) (fun _ _ _ h => h) (Or.inl ⟨by rfl, ?_⟩) (by assumption) ?_
   rotate_left 1
   ·(intro w hSw; (try dsimp only at hSw); go_simp; first | done | with_reducible rfl)
   try simp only [Act.put, List.setIfInBounds_toArray, List.set_cons_zero, List.set_cons_succ]
   refine wpAnyH_take (i := 11) (oi := ⟨some 37, Op.fieldAddr 91 (Operand.tmp 36) 1, 0, _, _, none⟩) (v := ?_) rfl (by kernel_rfl) (by kernel_rfl) (by kernel_rfl) (fun _ _ _ h => h) (Or.inl ⟨by rfl, ?_⟩) (by assumption) ?_
   rotate_left 1
   ·(intro w hSw; (try dsimp only at hSw); go_simp; first | done | with_reducible rfl)
   try simp only [Act.put, List.setIfInBounds_toArray, List.set_cons_zero, List.set_cons_succ]
   refine wpAnyH_take (i := 12) (oi := ⟨some 38, Op.load 3 (Operand.tmp 37), 3, _, _, none⟩) (v := ?_) rfl (by kernel_rfl) (by kernel_rfl) (by kernel_rfl) (fun _ _ _ h => h) (Or.inl ⟨by rfl, ?_⟩) (by assumption) ?_
   rotate_left 1
   ·(intro w hSw; (try dsimp only at hSw); go_simp; first | done | with_reducible rfl)
   try simp only [Act.put, List.setIfInBounds_toArray, List.set_cons_zero, List.set_cons_succ]
   refine wpAnyH_take (i := 13) (oi := ⟨some 39, Op.fieldAddr 112 (Operand.tmp 5) 5, 0, _, _, none⟩) (v := ?_) rfl (by kernel_rfl) (by kernel_rfl) (by kernel_rfl) (fun _ _ _ h => h) (Or.inl ⟨by rfl, ?_⟩) (by assumption) ?_
   rotate_left 1
   ·(intro w hSw; (try dsimp only at hSw); go_simp; first | done | with_reducible rfl)
   try simp only [Act.put, List.setIfInBounds_toArray, List.set_cons_zero, List.set_cons_succ]
   refine wpAnyH_take (i := 14) (oi := ⟨some 40, Op.load 4 (Operand.tmp 39), 4, _, _, none⟩) (v := ?_) rfl (by kernel_rfl) (by kernel_rfl) (by kernel_rfl) (fun _ _ _ h => h) (Or.inl ⟨by rfl, ?_⟩) (by assumption) ?_
   rotate_left 1
   ·(intro w hSw; (try dsimp only at hSw); go_simp; first | done | with_reducible rfl)
   try simp only [Act.put, List.setIfInBounds_toArray, List.set_cons_zero, List.set_cons_succ]
   refine wpAnyH_take (i := 16) (oi := ⟨some 42, Op.fieldAddr 112 (Operand.tmp 5) 3, 0, _, _, none⟩) (v := ?_) rfl (by kernel_rfl) (by kernel_rfl) (by kernel_rfl) (fun _ _ _ h => h) (Or.inl ⟨by rfl, ?_⟩) (by assumption) ?_
   rotate_left 1
   ·(intro w hSw; (try dsimp only at hSw); go_simp; first | done | with_reducible rfl)
   try simp only [Act.put, List.setIfInBounds_toArray, List.set_cons_zero, List.set_cons_succ]
   refine wpAnyH_take (i := 17) (oi := ⟨some 43, Op.load 4 (Operand.tmp 42), 4, _, _, none⟩) (v := ?_) rfl (by kernel_rfl) (by kernel_rfl) (by kernel_rfl) (fun _ _ _ h => h) (Or.inl ⟨by rfl, ?_⟩) (by assumption) ?_
   rotate_left 1
   ·(intro w hSw; (try dsimp only at hSw); go_simp; first | done | with_reducible rfl)
   try simp only [Act.put, List.setIfInBounds_toArray, List.set_cons_zero, List.set_cons_succ]
   refine wpAnyH_take (i := 19) (oi := ⟨some 45, Op.fieldAddr 112 (Operand.tmp 5) 1, 0, _, _, none⟩) (v := ?_) rfl (by kernel_rfl) (by kernel_rfl) (by kernel_rfl) (fun _ _ _ h => h) (Or.inl ⟨by rfl, ?_⟩) (by assumption) ?_
   rotate_left 1
   ·(intro w hSw; (try dsimp only at hSw); go_simp; first | done | with_reducible rfl)
   try simp only [Act.put, List.setIfInBounds_toArray, List.set_cons_zero, List.set_cons_succ]
   refine wpAnyH_take (i := 20) (oi := ⟨some 46, Op.fieldAddr 91 (Operand.tmp 45) 0, 0, _, _, none⟩) (v := ?_) rfl (by kernel_rfl) (by kernel_rfl) (by kernel_rfl) (fun _ _ _ h => h) (Or.inl ⟨by rfl, ?_⟩) (by assumption) ?_
   rotate_left 1
   ·(intro w hSw; (try dsimp only at hSw); go_simp; first | done | with_reducible rfl)
   try simp only [Act.put, List.setIfInBounds_toArray, List.set_cons_zero, List.set_cons_succ]
   refine wpAnyH_take (i := 21) (oi := ⟨some 47, Op.load 3 (Operand.tmp 46), 3, _, _, none⟩) (v := ?_) rfl (by kernel_rfl) (by kernel_rfl) (by kernel_rfl) (fun _ _ _ h => h) (Or.inl ⟨by rfl, ?_⟩) (by assumption) ?_
   rotate_left 1
   ·(intro w hSw; (try dsimp only at hSw); go_simp; first | done | with_reducible rfl)
   try simp only [Act.put, List.setIfInBounds_toArray, List.set_cons_zero, List.set_cons_succ]
   refine wpAnyH_take (i := 22) (oi := ⟨some 48, Op.fieldAddr 112 (Operand.tmp 5) 1, 0, _, _, none⟩) (v := ?_) rfl (by kernel_rfl) (by kernel_rfl) (by kernel_rfl) (fun _ _ _ h => h) (Or.inl ⟨by rfl, ?_⟩) (by assumption) ?_
   rotate_left 1
   ·(intro w hSw; (try dsimp only at hSw); go_simp; first | done | with_reducible rfl)
   try simp only [Act.put, List.setIfInBounds_toArray, List.set_cons_zero, List.set_cons_succ]
   refine wpAnyH_take (i := 23) (oi := ⟨some 49, Op.fieldAddr 91 (Operand.tmp 48) 1, 0, _, _, none⟩) (v := ?_) rfl (by kernel_rfl) (by kernel_rfl) (by kernel_rfl) (fun _ _ _ h => h) (Or.inl ⟨by rfl, ?_⟩) (by assumption) ?_
   rotate_left 1
   ·(intro w hSw; (try dsimp only at hSw); go_simp; first | done | with_reducible rfl)
   try simp only [Act.put, List.setIfInBounds_toArray, List.set_cons_zero, List.set_cons_succ]
   refine wpAnyH_take (i := 24) (oi := ⟨some 50, Op.load 3 (Operand.tmp 49), 3, _, _, none⟩) (v := ?_) rfl (by kernel_rfl) (by kernel_rfl) (by kernel_rfl) (fun _ _ _ h => h) (Or.inl ⟨by rfl, ?_⟩) (by assumption) ?_
   rotate_left 1
   ·(intro w hSw; (try dsimp only at hSw); go_simp; first | done | with_reducible rfl)
   try simp only [Act.put, List.setIfInBounds_toArray, List.set_cons_zero, List.set_cons_succ]
   refine wpAnyH_ready (rs := [3]) (by kernel_rfl) (by simp) ?_
   refine AllReadyH.cons (o := ⟨some 29, Op.call { callee := Callee.value (Operand.func 137), args := #[Operand.tmp 28], argTypes := #[4] }, 3, _, _, none⟩) rfl (fun K hK => ?_) AllReadyH.nil
   go_simp
   go_at_call 137
   refine (HKO.out _ _).mono ?_
   rintro e w' ⟨rfl, rfl⟩
   try go_wp2_with fail
   refine hK.out _ _ ?_ (fun hHeld => ?_)
   ·exact ⟨p0, p1, p2, p3, p4, p5, p6, p7⟩
   clear hK K
   try simp only [Act.put, List.setIfInBounds_toArray, List.set_cons_zero, List.set_cons_succ]
   refine wpAnyH_ready (rs := [6]) (by kernel_rfl) (by simp) ?_
   refine AllReadyH.cons (o := ⟨some 32, Op.call { callee := Callee.value (Operand.func 137), args := #[Operand.tmp 31], argTypes := #[4] }, 3, _, _, none⟩) rfl (fun K hK => ?_) AllReadyH.nil
   go_simp
   go_at_call 137
   refine (HKO.out _ _).mono ?_
   rintro e w' ⟨rfl, rfl⟩
   try go_wp2_with fail
   refine hK.out _ _ ?_ (fun hHeld => ?_)
   ·exact ⟨p0, p1, p2, p3, p4, p5, p6, p7⟩
   clear hK K
   try simp only [Act.put, List.setIfInBounds_toArray, List.set_cons_zero, List.set_cons_succ]
   refine wpAnyH_ready (rs := [15]) (by kernel_rfl) (by simp) ?_
   refine AllReadyH.cons (o := ⟨some 41, Op.call { callee := Callee.value (Operand.func 137), args := #[Operand.tmp 40], argTypes := #[4] }, 3, _, _, none⟩) rfl (fun K hK => ?_) AllReadyH.nil
   go_simp
   go_at_call 137
   refine (HKO.out _ _).mono ?_
   rintro e w' ⟨rfl, rfl⟩
   try go_wp2_with fail
   refine hK.out _ _ ?_ (fun hHeld => ?_)
   ·exact ⟨p0, p1, p2, p3, p4, p5, p6, p7⟩
   clear hK K
   try simp only [Act.put, List.setIfInBounds_toArray, List.set_cons_zero, List.set_cons_succ]
   refine wpAnyH_ready (rs := [18]) (by kernel_rfl) (by simp) ?_
   refine AllReadyH.cons (o := ⟨some 44, Op.call { callee := Callee.value (Operand.func 137), args := #[Operand.tmp 43], argTypes := #[4] }, 3, _, _, none⟩) rfl (fun K hK => ?_) AllReadyH.nil
   go_simp
   go_at_call 137
   refine (HKO.out _ _).mono ?_
   rintro e w' ⟨rfl, rfl⟩
   try go_wp2_with fail
   refine hK.out _ _ ?_ (fun hHeld => ?_)
   ·exact ⟨p0, p1, p2, p3, p4, p5, p6, p7⟩
   clear hK K
   try simp only [Act.put, List.setIfInBounds_toArray, List.set_cons_zero, List.set_cons_succ]
   refine wpAnyH_ready (rs := [25]) (by kernel_rfl) (by simp) ?_
   refine AllReadyH.cons (o := ⟨some 51, Op.buildSlice 22 8 #[(0, Operand.tmp 29), (1, Operand.tmp 32), (2, Operand.tmp 35), (3, Operand.tmp 38), (4, Operand.tmp 41), (5, Operand.tmp 44), (6, Operand.tmp 47), (7, Operand.tmp 50)], 22, _, _, none⟩) rfl (fun K hK => ?_) AllReadyH.nil
   go_simp
   try go_wp2_with fail
   obtain ⟨wy, hwy⟩ : ∃ wy, wy = (wx.alloc (.cells #[.int .i64 (bitI xr), .int .i64 (bitI xp), .int .i64 xa, .int .i64 xb, .int .i64 (bitI xs), .int .i64 (bitI xq), .int .i64 xc, .int .i64 xd] 3)).drew := ⟨_, rfl⟩
   rw [← hwy]
   have hSy : Since wx wy := by rw [hwy]; exact since_d (Since.alloc (since_r _) _)
   have hcl : ∀ j u, ((Iv.rank ⟨xa, xb, xc, xd, xp, xq, xr, xs⟩).flatMap RIn.cells)[j]? = some u → wy.cell? ⟨wx.heap.size, j, none⟩ = some u := by
    have hB := BoxL.keep (BoxL.made wx #[.int .i64 (bitI xr), .int .i64 (bitI xp), .int .i64 xa, .int .i64 xb, .int .i64 (bitI xs), .int .i64 (bitI xq), .int .i64 xc, .int .i64 xd] 3) (since_d (since_r _))
    rw [← hwy] at hB
    intro j u hu
    exact (hB.2 j u hu).1
   have HCL := Lib.hid hcl
   have HOY := Lib.hid (ROwn.below HOX.out hSy)
   have HXY := Lib.hid (HX5.out.keep hSy)
   have HSY := Lib.hid (Since.step HSX.out hSy)
   have hzB : W1.heap.size ≤ wy.heap.size := HSY.out.size
   have hNe : ∀ b, (.slice a m cc : Value).ownBlock = some b → b ≠ wr.heap.size := fun b e h => by have := (hO.out.lt b e).2; omega
   have HNE := Lib.hid (show (.slice a m cc : Value).ownBlock ≠ some wr.heap.size from fun e => hNe _ e rfl)
   generalize wx.heap.size = N9 at *
   clear hwy hSy hcl HOX HX5 HSX hNe
   obtain ⟨p0, p1, p2, p3, p4, p5, p6, p7, -⟩ := HXY.out.open8
   refine hK.out _ _ ?_ (fun hHeld => ?_)
   ·exact ⟨p0, p1, p2, p3, p4, p5, p6, p7⟩
   clear hK K
   try simp only [Act.put, List.setIfInBounds_toArray, List.set_cons_zero, List.set_cons_succ]
   refine wpAnyH_ready (rs := [26]) (by kernel_rfl) (by simp) ?_
   refine AllReadyH.cons (o := ⟨some 52, Op.call { callee := Callee.builtin Builtin.append, args := #[Operand.tmp 26, Operand.tmp 51], argTypes := #[22, 22] }, 22, _, _, none⟩) rfl (fun K hK => ?_) AllReadyH.nil
   refine wp_row1_f (.tmp 26) (.tmp 51) 22 rfl RIn 3 8 _ Tryz.underlying22 HI.out rfl (by decide) W1.heap.size (.slice a m cc) ([o, nn, (l2 : Int)] ++ (is.take k).flatMap Iv.rank) (Iv.rank ⟨xa, xb, xc, xd, xp, xq, xr, xs⟩) N9 8 8 rfl rfl rfl HCL.out HOY.out hzB hlen ?_
   intro aq lq cq wn hnn hOn hBn hPn
   obtain ⟨p0, p1, p2, p3, p4, p5, p6, p7, -⟩ := (BoxL.far HXY.out HNE.out hPn.out).open8
   refine hK.out _ _ ?_ (fun hHeld => ?_)
   ·exact ⟨p0, p1, p2, p3, p4, p5, p6, p7⟩
   clear hK K
   try simp only [Act.put, List.setIfInBounds_toArray, List.set_cons_zero, List.set_cons_succ]
   refine wpAnyH_take (i := 27) (oi := ⟨some 3, Op.assign (Operand.tmp 52), 22, _, _, none⟩) (v := ?_) rfl (by kernel_rfl) (by kernel_rfl) (by kernel_rfl) (fun _ _ _ h => h) (Or.inl ⟨by rfl, ?_⟩) (by assumption) ?_
   rotate_left 1
   ·(intro w hSw; (try dsimp only at hSw); go_simp; first | done | with_reducible rfl)
   try simp only [Act.put, List.setIfInBounds_toArray, List.set_cons_zero, List.set_cons_succ]
   refine wpAnyH_done (by kernel_rfl) ?_ _
   refine NoPanic.normal ?_
   have HO7 : Hid (ROwn RIn 3 W1.heap.size wn (.slice aq lq cq) ([o, nn, (l2 : Int)] ++ (is.take (k + 1)).flatMap Iv.rank)) := Lib.hid (by rw [HST.out, ← List.append_assoc]; exact hOn.out)
   have HS7 : Hid (Since W1 wn) := Lib.hid (Below.trans HSY.out hBn.out)
   clear p0 p1 p2 p3 p4 p5 p6 p7 HST hlen
   go_wp2
   go_roundw
   case rel => exact ⟨k + 1, aq, lq, cq, by omega, rfl, by go_num, HO7, HS7⟩
   case measure => simp [intOf] <;> omega
  ·have j1 : ¬ (k : Int) < l2 := by omega
   have hk1 : is.take k = is := List.take_of_length_le (by rw [HL2.out]; omega)
   rw [hk1] at hO
   have hzB : W1.heap.size ≤ wr.heap.size := hS.out.size
   have hlen : ([o, nn, (l2 : Int)] ++ is.flatMap Iv.rank).length + 1 ≤ 1000000000 := by
    rw [List.length_append, rank_len, HL2.out]
    simp only [List.length_cons, List.length_nil]
    omega
   clear hk1
   go_wp2_with (at_builtin; refine push_row_f rfl _ _ 22 rfl RIn 3 8 _ Tryz.underlying22 HI.out rfl (by decide) W1.heap.size (.slice a m cc) ([o, nn, (l2 : Int)] ++ is.flatMap Iv.rank) [(l3 : Int)] _ _ rfl rfl _ 1 rfl rfl rfl hO.out hzB hlen ?_; intro aq lq cq wn hnn hOn hBn hPn)
   have HF := Lib.hid (HFIN.out wn aq lq cq W1.heap.size _ hOn.out HORD.out (HS1.out.trans (Below.mono (Below.trans hS.out hBn.out) HS1.out.size)))
   exact HF.out
end Go.Proofs.YtgnloodmbgdgdaaGreat
namespace Go.Proofs.YtgnloodmbgdgdaaGreat
open Go.RowKit Go.Shelf
theorem zipL_cons {a b : Int} {la bs : List Int} {k : Nat} (ha : la[k]? = some a) (hb : bs[k]? = some b) : zipL cmpI (la.drop k) (bs.drop k) = if cmpI a b = 0 then zipL cmpI (la.drop (k + 1)) (bs.drop (k + 1)) else cmpI a b := zipL_step cmpI ha hb
theorem zipL_end {la bs : List Int} {k : Nat} (h : bs.length ≤ k) : zipL cmpI (la.drop k) (bs.drop k) = 0 := by
 rw [List.drop_of_length_le h]
 cases la.drop k with
 | nil => unfold zipL; rfl
 | cons a l => rfl
def RCmpK (m : Nat) : Prop := ∀ (f g : Fo), f.size ≤ m → g.size ≤ 1000000 → f.wf → g.wf → ∀ (c d c' d' : Value) (W : World), FAt W.heap.size W f c d → FAt W.heap.size W g c' d' →
 Calls Tryz.prog 43 #[.agg #[.int .i64 f.op, .int .i64 f.n, c, d], .agg #[.int .i64 g.op, .int .i64 g.n, c', d']] W fun e w' => e = .returned (.int .i64 (fcmp f g)) ∧ Below W.heap.size W w'
set_option maxHeartbeats 8000000 in
set_option maxRecDepth 100000 in
theorem rcmp_step {m : Nat} (hm : m ≤ 1000000) (K : Hid (RCmpK m)) : RCmpK (m + 1) := by
 intro f g hfs hgs hfw hgw c d c' d' w hF hG
 have hff := (Fo.wf_eq f).1 hfw
 have hgg := (Fo.wf_eq g).1 hgw
 have hs1 := f.size_eq
 have hs2 := g.size_eq
 have hl1 := Fo.sizes_len f.ks
 have hl2 := Fo.sizes_len g.ks
 have hfc := fcmp_ordL f g
 have hkl := fun h => ordL_kids (f := f) (g := g) h
 have hOL1 : (ordL f).length ≤ 20000000 := by unfold ordL; simp only [List.length_append, rank_len, List.length_cons, List.length_nil]; omega
 have hOL2 : (ordL g).length ≤ 20000000 := by unfold ordL; simp only [List.length_append, rank_len, List.length_cons, List.length_nil]; omega
 obtain ⟨W1, hW1⟩ : ∃ W1, W1 = w.alloc (.cells #[.int .i64 f.op, .int .i64 f.n, c, d] 29) := ⟨_, rfl⟩
 have hS1 : Since w W1 := by rw [hW1]; exact Since.alloc (since_r _) _
 have hz1 : W1.heap.size = w.heap.size + 1 := by rw [hW1, World.size_alloc]
 have hX1 : BoxL w.heap.size [.int .i64 f.op, .int .i64 f.n, c, d] W1 := by rw [hW1]; exact BoxL.made w _ _
 obtain ⟨W2, hW2⟩ : ∃ W2, W2 = W1.alloc (.cells #[.int .i64 g.op, .int .i64 g.n, c', d'] 29) := ⟨_, rfl⟩
 have hS2 : Since W1 W2 := by rw [hW2]; exact Since.alloc (since_r _) _
 have hX := hX1.keep hS2
 have hY : BoxL (w.heap.size + 1) [.int .i64 g.op, .int .i64 g.n, c', d'] W2 := by rw [hW2, ← hz1]; exact BoxL.made W1 _ _
 have hS := Since.step hS1 hS2
 have hF2 := FAt.below hS hF
 have hG2 := FAt.below hS hG
 have KO1 := Lib.hid (order_any f (by omega) c d W2 hF2)
 have KO2 := Lib.hid fun W (hs : Since W2 W) => order_any g (by omega) c' d' W (FAt.below hs hG2)
 obtain ⟨a1, c1, a2, c2, rfl, rfl, hI1, hK1, -⟩ := hF2.shape
 obtain ⟨a3, c3, a4, c4, rfl, rfl, hI2, hK2, -⟩ := hG2.shape
 have KC := Lib.hid fun (x : Fo) (hx : x ∈ f.ks) (y : Fo) (hy : y ∈ g.ks) (c d c' d' : Value) W hTx hTy => K.out x y (by have := Fo.sizes_mem hx; omega) (by have := Fo.sizes_mem hy; omega) (hff.2 x hx) (hgg.2 y hy) c d c' d' W hTx hTy
 have HX := Lib.hid hX
 have HY := Lib.hid hY
 have HS := Lib.hid hS
 have HK1 := Lib.hid hK1
 have HK2 := Lib.hid hK2
 obtain ⟨x0, x1, x2, x3, -⟩ := hX.open4
 obtain ⟨y0, y1, y2, y3, -⟩ := hY.open4
 have hn1 : f.ks.length ≤ 1000000 := by omega
 generalize fcmp f g = R at *
 have HFC := Lib.hid hfc
 have HKL := Lib.hid hkl
 have HOL1 := Lib.hid hOL1
 have HOL2 := Lib.hid hOL2
 generalize f.op = o1 at *
 generalize f.n = o2 at *
 generalize g.op = o3 at *
 generalize g.n = o4 at *
 generalize f.is.length = l1 at *
 generalize g.is.length = l3 at *
 clear hX1 hX hY hS1 hS2 hS hz1 hF2 hG2 hF hG hI1 hI2 hK1 hK2 hff hgg hs1 hs2 hl1 hl2 hfs hgs hfw hgw K hm hfc hkl hOL1 hOL2
 go_enter Tryz.func43, Tryz.ntmps43
 go_upto_region 1 with (fail)
 rw [← hW1, ← hW2]
 clear hW1 hW2
 go_wp2_with fail
 refine KO1.out.mono ?_
 rintro e w3 ⟨b1, m1, k1, rfl, hE1, hB3⟩
 have hS3 : Since W2 w3 := hB3.out
 obtain ⟨y0, y1, y2, y3, -⟩ := (HY.out.keep hS3).open4
 have KO3 := Lib.hid (KO2.out w3 hS3)
 have HS3 := Lib.hid hS3
 clear hS3 hB3 x0 x1 x2 x3 KO1 KO2
 go_wp2_with fail
 refine KO3.out.mono ?_
 rintro e w4 ⟨b2, m2, k2, rfl, hE2, hB4⟩
 have HE1 := Lib.hid (hE1.out.below hB4.out)
 have HS4 := Lib.hid (Since.step HS3.out hB4.out)
 have HM1 : Hid (m1 = (ordL f).length) := Lib.hid hE1.out.len
 have HM2 : Hid (m2 = (ordL g).length) := Lib.hid hE2.out.len
 have hm1 : m1 ≤ 20000000 := by rw [HM1.out]; exact HOL1.out
 have hm2 : m2 ≤ 20000000 := by rw [HM2.out]; exact HOL2.out
 have HST : Hid (zipL cmpI ((ordL f).drop 0) ((ordL g).drop 0) = zipL cmpI (ordL f) (ordL g)) := Lib.hid rfl
 obtain ⟨Z, hZ⟩ : ∃ Z, Z = zipL cmpI (ordL f) (ordL g) := ⟨_, rfl⟩
 rw [← hZ] at HFC HKL HST
 generalize ordL f = ox at *
 generalize ordL g = oy at *
 clear hZ hB4 hE1 y0 y1 y2 y3 KO3 HS3
 have HS0 : Hid (Since w4 w4) := Lib.hid (since_r _)
 go_wp2
 go_loopw [7] (fun v wr => ∃ k : Nat, k ≤ m1 ∧ k ≤ m2 ∧ v = .int .i64 k ∧ Hid (zipL cmpI (ox.drop k) (oy.drop k) = Z) ∧ Hid (Since w4 wr)) (fun v _ => m1 - (intOf v).toNat)
 case atStart => exact ⟨0, by omega, by omega, rfl, HST, HS0⟩
 case round =>
  obtain ⟨k, hk1, hk2, rfl, hV, hSr⟩ := hrel
  clear HST HS0
  by_cases hlt : k < m1 ∧ k < m2
  ·have j1 : (k : Int) < m1 := by omega
   have j2 : (k : Int) < m2 := by omega
   have j0 : (0 : Int) ≤ (k : Int) := by omega
   have j3 : k < m1 := hlt.1
   have j4 : k < m2 := hlt.2
   have jd : decide ((k : Int) < m1) = true := decide_eq_true j1
   obtain ⟨g1, p1, rfl, q1⟩ := (HE1.out.below hSr.out).at k hlt.1
   obtain ⟨g2, p2, rfl, q2⟩ := (hE2.out.below hSr.out).at k hlt.2
   have hx : ox[k]? = some (ox[k]?.getD 0) := by rw [List.getElem?_eq_getElem (by rw [← HM1.out]; exact hlt.1)]; rfl
   have hy : oy[k]? = some (oy[k]?.getD 0) := by rw [List.getElem?_eq_getElem (by rw [← HM2.out]; exact hlt.2)]; rfl
   generalize ox[k]?.getD 0 = x at *
   generalize oy[k]?.getD 0 = y at *
   have hstep := zipL_cons hx hy
   rw [hV.out] at hstep
   clear hx hy hV hlt
   by_cases h1 : x < y
   ·have hc : cmpI x y = -1 := by unfold cmpI; rw [if_pos h1]
    have hZ1 : Z = -1 := by rw [hstep, hc]; rfl
    have HR1 := Lib.hid (show R = -1 by rw [HFC.out, if_neg (by omega)]; exact hZ1)
    clear hstep hc hZ1
    go_wp2_with fail
    go_quiet (fail)
    have HS7 := Lib.hid (Since.step HS4.out (Since.step hSr.out (below_drewN (Below.refl _ _) nq)))
    go_wp2
    go_ret
    exact ⟨fret_int HR1.out.symm, HS.out.trans (Below.mono HS7.out HS.out.size)⟩
   ·by_cases h2 : y < x
    ·have hc : cmpI x y = 1 := by unfold cmpI; rw [if_neg h1, if_pos h2]
     have hZ1 : Z = 1 := by rw [hstep, hc]; rfl
     have HR1 := Lib.hid (show R = 1 by rw [HFC.out, if_neg (by omega)]; exact hZ1)
     clear hstep hc hZ1
     go_wp2_with fail
     go_quiet (fail)
     have hd6 : Since wr (wr.drewN nq) := below_drewN (Below.refl _ _) nq
     have HS6 := Lib.hid (Since.step hSr.out hd6)
     have q1 := Since.cell hd6 q1
     have q2 := Since.cell hd6 q2
     clear hd6
     generalize wr.drewN nq = w6 at *
     go_upto_region 8 with (fail)
     go_quiet (fail)
     have HS7 := Lib.hid (Since.step HS6.out (below_drewN (Below.refl w6.heap.size w6) nq))
     have HS8 := Lib.hid (Since.step HS4.out HS7.out)
     go_wp2
     go_ret
     exact ⟨fret_int HR1.out.symm, HS.out.trans (Below.mono HS8.out HS.out.size)⟩
    ·have hc : cmpI x y = 0 := by unfold cmpI; rw [if_neg h1, if_neg h2]
     rw [hc, if_pos rfl] at hstep
     have HV := Lib.hid hstep.symm
     clear hstep hc
     go_wp2_with fail
     go_quiet (fail)
     have hd6 : Since wr (wr.drewN nq) := below_drewN (Below.refl _ _) nq
     have HS6 := Lib.hid (Since.step hSr.out hd6)
     have q1 := Since.cell hd6 q1
     have q2 := Since.cell hd6 q2
     clear hd6
     generalize wr.drewN nq = w6 at *
     go_upto_region 8 with (fail)
     go_quiet (fail)
     have HS7 := Lib.hid (Since.step HS6.out (below_drewN (Below.refl w6.heap.size w6) nq))
     have HS8 := Lib.hid (Since.step HS4.out HS7.out)
     go_wp2
     go_roundw
     case rel => exact ⟨k + 1, by omega, by omega, by go_num, HV, HS7⟩
     case measure => simp [intOf]; omega
  ·have hZ0 : Z = 0 := by
    rw [← hV.out]
    by_cases h1 : k < m1
    ·exact zipL_end (by rw [← HM2.out]; omega)
    ·exact zipL_stop cmpI (by rw [← HM1.out]; omega)
   have HR0 := Lib.hid (show R = zipL fcmp f.ks g.ks by rw [HFC.out, if_pos hZ0])
   have HL0 := Lib.hid (HKL.out hZ0)
   have hj : ((k : Int) < m1 ∧ ¬ (k : Int) < m2 ∧ decide ((k : Int) < m1) = true) ∨ (¬ (k : Int) < m1 ∧ decide ((k : Int) < m1) = false) := by
    by_cases h1 : k < m1
    ·exact .inl ⟨by omega, by omega, decide_eq_true (by omega)⟩
    ·exact .inr ⟨by omega, decide_eq_false (by omega)⟩
   have HS9 := Lib.hid (Since.step HS4.out hSr.out)
   have HST : Hid (zipL fcmp (f.ks.drop 0) (g.ks.drop 0) = R) := Lib.hid HR0.out.symm
   have HSR : Hid (Since wr wr) := Lib.hid (since_r _)
   clear hZ0 hlt hV hSr HFC HKL HOL1 HOL2 HM1 HM2 HE1 hE2 HS4 HR0
   rename World => w8
   obtain ⟨x0, x1, x2, x3, -⟩ := (HX.out.keep HS9.out).open4
   have HLA : Hid (f.ks.length = f.ks.length) := Lib.hid rfl
   generalize hn7 : f.ks.length = n7 at *
   have HN7 := Lib.hid hn7
   clear hn7 HLA
   generalize g.ks.length = n8 at *
   rcases hj with ⟨i1, i2, i3⟩ | ⟨i1, i3⟩
   all_goals
    go_wp2
    go_loopw [8] (fun v wr => ∃ k : Nat, k ≤ n7 ∧ v = .int .i64 k ∧ Hid (zipL fcmp (f.ks.drop k) (g.ks.drop k) = R) ∧ Hid (Since w8 wr)) (fun v _ => n7 - (intOf v).toNat)
    case atStart => exact ⟨0, by omega, rfl, HST, HSR⟩
    case round =>
     obtain ⟨k, hk, rfl, hV, hS⟩ := hrel
     clear HST HSR x0 x1 x2 x3
     have hS9 := Since.step HS9.out hS.out
     obtain ⟨-, -, -, xx, -⟩ := (HX.out.keep hS9).open4
     obtain ⟨-, -, -, yy, -⟩ := (HY.out.keep hS9).open4
     by_cases hlt : k < n7
     ·have j1 : (k : Int) < n7 := by omega
      have j0 : (0 : Int) ≤ (k : Int) := by omega
      have j2 : k < n8 := by have := HL0.out; omega
      have j3 : (k : Int) < n8 := by omega
      obtain ⟨g1, x, rfl, -, -, -, hx, vc, vd, p0, p1, p2, p3, hTx⟩ := (Fs.below hS9 HK1.out).get (j := k) hlt
      obtain ⟨g2, y, rfl, -, -, -, hy, uc, ud, q0, q1, q2, q3, hTy⟩ := (Fs.below hS9 HK2.out).get (j := k) j2
      have hstep := zipL_step fcmp hx hy
      have hSd : Since wr wr.drew := since_d (since_r _)
      have KQ := Lib.hid (KC.out x (List.mem_of_getElem? hx) y (List.mem_of_getElem? hy) vc vd uc ud wr.drew (FAt.below hSd hTx) (FAt.below hSd hTy))
      obtain ⟨b1, d1, b2, d2, rfl, rfl, -⟩ := hTx.shape
      obtain ⟨b3, d3, b4, d4, rfl, rfl, -⟩ := hTy.shape
      generalize fcmp x y = v at *
      rw [hV.out] at hstep
      generalize x.op = x1 at *
      generalize x.n = x2 at *
      generalize x.is.length = x3 at *
      generalize x.ks.length = x4 at *
      generalize y.op = y1 at *
      generalize y.n = y2 at *
      generalize y.is.length = y3 at *
      generalize y.ks.length = y4 at *
      clear hTx hTy hS9
      by_cases hv : v = 0
      ·subst hv
       rw [if_pos rfl] at hstep
       have HV := Lib.hid hstep.symm
       clear hstep hx hy hV
       go_wp2_with fail
       go_region_held3 (fun w' => w'.cell? ⟨w.heap.size, 3, none⟩ = some (.slice (some ⟨g1, 0, none⟩) n7 c2) ∧ w'.cell? ⟨w.heap.size + 1, 3, none⟩ = some (.slice (some ⟨g2, 0, none⟩) n8 c4) ∧ w'.cell? ⟨g1, k * 4, none⟩ = some (.int .i64 x1) ∧ w'.cell? ⟨g1, k * 4 + 1, none⟩ = some (.int .i64 x2) ∧ w'.cell? ⟨g1, k * 4 + 2, none⟩ = some (.slice b1 x3 d1) ∧ w'.cell? ⟨g1, k * 4 + 3, none⟩ = some (.slice b2 x4 d2) ∧ w'.cell? ⟨g2, k * 4, none⟩ = some (.int .i64 y1) ∧ w'.cell? ⟨g2, k * 4 + 1, none⟩ = some (.int .i64 y2) ∧ w'.cell? ⟨g2, k * 4 + 2, none⟩ = some (.slice b3 y3 d3) ∧ w'.cell? ⟨g2, k * 4 + 3, none⟩ = some (.slice b4 y4 d4) ∧ Since wr w')
        ((with_reducible refine ⟨Since.cell ?_ xx, Since.cell ?_ yy, Since.cell ?_ p0, Since.cell ?_ p1, Since.cell ?_ p2, Since.cell ?_ p3, Since.cell ?_ q0, Since.cell ?_ q1, Since.cell ?_ q2, Since.cell ?_ q3, ?_⟩) <;> (repeat (first | with_reducible assumption | with_reducible exact since_r _ | with_reducible refine Since.alloc ?_ _ | with_reducible refine since_d ?_)))
        ((go_at_call 43; refine KQ.out.mono ?_; rintro e w' ⟨rfl, hr⟩; have hB4 : Since wr w' := Since.step hSd hr))
       have HB4 := Lib.hid (Since.step hS.out hB4)
       clear hB4 hr hSd p0 p1 p2 p3 q0 q1 q2 q3 xx yy
       go_wp2
       go_roundw
       case rel => exact ⟨k + 1, by omega, by go_num, HV, HB4⟩
       case measure => simp [intOf]; omega
      ·rw [if_neg hv] at hstep
       have HV := Lib.hid hstep
       have hv2 : (v != 0) = true := bne_iff_ne.2 hv
       clear hstep hx hy hV hv
       go_wp2_with fail
       go_region_held3 (fun w' => w'.cell? ⟨w.heap.size, 3, none⟩ = some (.slice (some ⟨g1, 0, none⟩) n7 c2) ∧ w'.cell? ⟨w.heap.size + 1, 3, none⟩ = some (.slice (some ⟨g2, 0, none⟩) n8 c4) ∧ w'.cell? ⟨g1, k * 4, none⟩ = some (.int .i64 x1) ∧ w'.cell? ⟨g1, k * 4 + 1, none⟩ = some (.int .i64 x2) ∧ w'.cell? ⟨g1, k * 4 + 2, none⟩ = some (.slice b1 x3 d1) ∧ w'.cell? ⟨g1, k * 4 + 3, none⟩ = some (.slice b2 x4 d2) ∧ w'.cell? ⟨g2, k * 4, none⟩ = some (.int .i64 y1) ∧ w'.cell? ⟨g2, k * 4 + 1, none⟩ = some (.int .i64 y2) ∧ w'.cell? ⟨g2, k * 4 + 2, none⟩ = some (.slice b3 y3 d3) ∧ w'.cell? ⟨g2, k * 4 + 3, none⟩ = some (.slice b4 y4 d4) ∧ Since wr w')
        ((with_reducible refine ⟨Since.cell ?_ xx, Since.cell ?_ yy, Since.cell ?_ p0, Since.cell ?_ p1, Since.cell ?_ p2, Since.cell ?_ p3, Since.cell ?_ q0, Since.cell ?_ q1, Since.cell ?_ q2, Since.cell ?_ q3, ?_⟩) <;> (repeat (first | with_reducible assumption | with_reducible exact since_r _ | with_reducible refine Since.alloc ?_ _ | with_reducible refine since_d ?_)))
        ((go_at_call 43; refine KQ.out.mono ?_; rintro e w' ⟨rfl, hr⟩; have hB4 : Since wr w' := Since.step hSd hr))
       have HB4 := Lib.hid (Since.step hS.out hB4)
       clear hB4 hr hSd p0 p1 p2 p3 q0 q1 q2 q3 xx yy
       go_wp2
       go_ret
       exact ⟨fret_int HV.out.symm, HS.out.trans (Below.mono (Since.step HS9.out HB4.out) HS.out.size)⟩
     ·have j1 : ¬ (k : Int) < n7 := by omega
      have hend := zipL_stop fcmp (la := f.ks) (bs := g.ks) (k := k) (by rw [HN7.out]; omega)
      rw [hV.out] at hend
      have HV := Lib.hid hend
      have HB := Lib.hid hS9
      clear hend hV hS9
      go_wp2
      go_ret
      exact ⟨fret_int HV.out.symm, HS.out.trans (Below.mono HB.out HS.out.size)⟩
theorem rcmp_all : ∀ m : Nat, m ≤ 1000000 → RCmpK m
 | 0, _ => fun f g hf => by
  have := f.size_pos
  omega
 | m + 1, h => rcmp_step (by omega) (Lib.hid (rcmp_all m (by omega)))
set_option maxHeartbeats 4000000 in
set_option maxRecDepth 100000 in
theorem rsame_any (f g : Fo) (hf : f.size ≤ 1000000) (hg : g.size ≤ 1000000) (hfw : f.wf) (hgw : g.wf) (c d c' d' : Value) (W : World) (hF : FAt W.heap.size W f c d) (hG : FAt W.heap.size W g c' d') :
  Calls Tryz.prog 29 #[.agg #[.int .i64 f.op, .int .i64 f.n, c, d], .agg #[.int .i64 g.op, .int .i64 g.n, c', d']] W fun e w' => e = .returned (.bool (fcmp f g == 0)) ∧ Below W.heap.size W w' := by
 obtain ⟨W1, hW1⟩ : ∃ W1, W1 = W.alloc (.cells #[.int .i64 f.op, .int .i64 f.n, c, d] 29) := ⟨_, rfl⟩
 have hS1 : Since W W1 := by rw [hW1]; exact Since.alloc (since_r _) _
 have hz1 : W1.heap.size = W.heap.size + 1 := by rw [hW1, World.size_alloc]
 have hX1 : BoxL W.heap.size [.int .i64 f.op, .int .i64 f.n, c, d] W1 := by rw [hW1]; exact BoxL.made W _ _
 obtain ⟨W2, hW2⟩ : ∃ W2, W2 = W1.alloc (.cells #[.int .i64 g.op, .int .i64 g.n, c', d'] 29) := ⟨_, rfl⟩
 have hS2 : Since W1 W2 := by rw [hW2]; exact Since.alloc (since_r _) _
 have hX := hX1.keep hS2
 have hY : BoxL (W.heap.size + 1) [.int .i64 g.op, .int .i64 g.n, c', d'] W2 := by rw [hW2, ← hz1]; exact BoxL.made W1 _ _
 have hS := Since.step hS1 hS2
 have hF2 := FAt.below hS hF
 have hG2 := FAt.below hS hG
 have KQ := Lib.hid (rcmp_all f.size hf f g (Nat.le_refl _) hg hfw hgw c d c' d' W2 hF2 hG2)
 obtain ⟨a1, c1, a2, c2, rfl, rfl, -⟩ := hF2.shape
 obtain ⟨a3, c3, a4, c4, rfl, rfl, -⟩ := hG2.shape
 obtain ⟨x0, x1, x2, x3, -⟩ := hX.open4
 obtain ⟨y0, y1, y2, y3, -⟩ := hY.open4
 have HS := Lib.hid hS
 generalize fcmp f g = v at *
 generalize f.op = o1 at *
 generalize f.n = o2 at *
 generalize g.op = o3 at *
 generalize g.n = o4 at *
 generalize f.is.length = l1 at *
 generalize f.ks.length = l2 at *
 generalize g.is.length = l3 at *
 generalize g.ks.length = l4 at *
 clear hX1 hX hY hS1 hS2 hS hz1 hF2 hG2 hF hG hf hg hfw hgw
 go_enter Tryz.func29, Tryz.ntmps29
 go_upto_region 1 with (fail)
 rw [← hW1, ← hW2]
 clear hW1 hW2
 go_wp2_with fail
 refine KQ.out.mono ?_
 rintro e w3 ⟨rfl, hr⟩
 have HB := Lib.hid (Since.step HS.out hr)
 clear hr x0 x1 x2 x3 y0 y1 y2 y3
 go_wp2
 go_ret
 exact ⟨rfl, HB.out⟩
end Go.Proofs.YtgnloodmbgdgdaaGreat
