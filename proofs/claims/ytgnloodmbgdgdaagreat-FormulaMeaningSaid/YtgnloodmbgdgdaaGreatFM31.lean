import Derived.Test.YtgnloodmbgdgdaaGreatFM30
import Derived.Test.YtgnloodmbgdgdaaGreatFM15
import Derived.Test.YtgnloodmbgdgdaaGreatFM21
import Derived.Test.YtgnloodmbgdgdaaGreatFM18
namespace Go.Proofs.YtgnloodmbgdgdaaGreat
open Go.RowKit Go.Shelf
def alwaysF : Fo := .mk 0 0 [] []
def neverF : Fo := .mk 5 0 [] []
def neverB (k : Fo) : Bool := decide (k.op = 5 ∧ k.ks.length = 0)
def flatP (op : Int) (idle : Fo) (ks : List Fo) : List Fo := ks.flatMap fun k => if fcmp k idle = 0 then [] else if k.op = op then k.ks else [k]
def outP (op : Int) (l : List Fo) (idle : Fo) : Fo :=
 match l with
 | [] => idle
 | [x] => x
 | l => .mk op 0 [] l
def joinP (op : Int) (ks : List Fo) (idle decisive : Fo) : Fo :=
 if (ks.any fun k => decide (fcmp k decisive = 0)) = true then decisive else outP op (ascO fcmp (flatP op idle ks)) idle
def kid0 (ks : List Fo) : Fo :=
 match ks with
 | [] => alwaysF
 | k :: _ => k
def oppF (k : Fo) : Fo := if k.op = 0 then neverF else if neverB k = true then alwaysF else if k.op = 6 then kid0 k.ks else .mk 6 0 [] [k]
def nodeS (op n : Int) (is : List Iv) (ks : List Fo) : Fo :=
 if op = 2 ∧ is.length = 0 then neverF
 else if op = 3 ∧ neverB (kid0 ks) = true then neverF
 else if op = 6 then oppF (kid0 ks)
 else if op = 4 then joinP 4 ks alwaysF neverF
 else if op = 5 then joinP 5 ks neverF alwaysF
 else .mk op n is ks
mutual
def simpleF : Fo → Fo
 | .mk op n is ks => nodeS op n is (simpleFs ks)
def simpleFs : List Fo → List Fo
 | [] => []
 | k :: ks => simpleF k :: simpleFs ks
end
theorem simpleFs_map : ∀ ks : List Fo, simpleFs ks = ks.map simpleF
 | [] => by rw [simpleFs]; rfl
 | k :: ks => by rw [simpleFs, simpleFs_map ks]; rfl
theorem simpleF_eq (f : Fo) : simpleF f = nodeS f.op f.n f.is (f.ks.map simpleF) := by
 cases f
 rw [simpleF, simpleFs_map]
 rfl
theorem Fo.goods_all {ks : List Fo} : Fo.goods ks = true ↔ ∀ k ∈ ks, k.good = true := by
 induction ks with
 | nil => simp [Fo.goods]
 | cons k ks ih => rw [Fo.goods, Bool.and_eq_true, ih]; simp
theorem Fo.clss_all {m : Int} {ks : List Fo} : Fo.clss m ks = true ↔ ∀ k ∈ ks, k.cls m = true := by
 induction ks with
 | nil => simp [Fo.clss]
 | cons k ks ih => rw [Fo.clss, Bool.and_eq_true, ih]; simp
theorem Fo.deeps_all {ks : List Fo} {d : Nat} : Fo.deeps ks ≤ d ↔ ∀ k ∈ ks, k.deep ≤ d := by
 induction ks with
 | nil => simp [Fo.deeps]
 | cons k ks ih =>
  rw [Fo.deeps]
  constructor
  ·intro h k hk
   rcases List.mem_cons.1 hk with rfl | hk
   ·omega
   ·exact ih.1 (by omega) k hk
  ·intro h
   have h1 := h k (List.mem_cons_self ..)
   have h2 := ih.2 fun x hx => h x (List.mem_cons_of_mem _ hx)
   omega
structure Fit7 (cl : Int) (s d : Nat) (g : Fo) : Prop where
 size : g.size ≤ s
 deep : g.deep ≤ d
 good : g.good = true
 wf : g.wf
 cls : g.cls cl = true
theorem putO_sizes (p : Fo) : ∀ l : List Fo, Fo.sizes (putO fcmp p l) ≤ p.size + Fo.sizes l
 | [] => by simp [putO, Fo.sizes]
 | x :: l => by
  rw [putO]
  split
  ·rw [Fo.sizes, Fo.sizes]; have := putO_sizes p l; omega
  ·split
   ·rw [Fo.sizes]; omega
   ·rw [Fo.sizes]; omega
theorem ascO_sizes_acc : ∀ cs a : List Fo, Fo.sizes (cs.foldl (fun a n => putO fcmp n a) a) ≤ Fo.sizes cs + Fo.sizes a
 | [], a => by simp [Fo.sizes]
 | c :: cs, a => by
  rw [List.foldl_cons, Fo.sizes]
  have h1 := ascO_sizes_acc cs (putO fcmp c a)
  have h2 := putO_sizes c a
  omega
theorem ascO_sizes (cs : List Fo) : Fo.sizes (ascO fcmp cs) ≤ Fo.sizes cs := by
 have := ascO_sizes_acc cs []
 simp only [Fo.sizes] at this
 exact this
theorem flatP_cons (op : Int) (idle k : Fo) (ks : List Fo) : flatP op idle (k :: ks) = (if fcmp k idle = 0 then [] else if k.op = op then k.ks else [k]) ++ flatP op idle ks := by
 unfold flatP
 rw [List.flatMap_cons]
theorem flatP_app (op : Int) (idle : Fo) (ls ks : List Fo) : flatP op idle (ls ++ ks) = flatP op idle ls ++ flatP op idle ks := by
 unfold flatP
 rw [List.flatMap_append]
theorem flatP_sizes (op : Int) (idle : Fo) : ∀ ks : List Fo, Fo.sizes (flatP op idle ks) ≤ Fo.sizes ks
 | [] => by simp [flatP, Fo.sizes]
 | k :: ks => by
  rw [flatP_cons, Fo.sizes_append, Fo.sizes]
  have ih := flatP_sizes op idle ks
  have := k.size_eq
  split
  ·simp only [Fo.sizes]; omega
  ·split
   ·omega
   ·simp only [Fo.sizes]; omega
theorem flatP_mem {op : Int} {idle : Fo} {ks : List Fo} {x : Fo} (h : x ∈ flatP op idle ks) : (x ∈ ks ∧ fcmp x idle ≠ 0 ∧ x.op ≠ op) ∨ ∃ k ∈ ks, fcmp k idle ≠ 0 ∧ k.op = op ∧ x ∈ k.ks := by
 unfold flatP at h
 obtain ⟨k, hk, hx⟩ := List.mem_flatMap.1 h
 split at hx
 ·cases hx
 ·split at hx
  ·next h1 h2 => exact .inr ⟨k, hk, h1, h2, hx⟩
  ·next h1 h2 =>
   rw [List.mem_singleton] at hx
   subst hx
   exact .inl ⟨hk, h1, h2⟩
theorem Fit7.kid {cl : Int} {s d : Nat} {g : Fo} (h : Fit7 cl s d g) {u : Fo} (hu : u ∈ g.ks) : Fit7 cl (s - 1) (d - 1) u := by
 have h1 := g.size_eq
 have h2 := Fo.sizes_mem hu
 have h3 := g.deep_eq
 have h4 := Fo.deeps_all.1 (Nat.le_refl (Fo.deeps g.ks)) u hu
 have h5 := h.size
 have h6 := h.deep
 have h7 := h.cls
 rw [g.cls_eq, Bool.and_eq_true] at h7
 exact ⟨by omega, by omega, good_kid h.good hu, ((Fo.wf_eq g).1 h.wf).2 u hu, Fo.clss_all.1 h7.2 u hu⟩
theorem Fit7.mono {cl : Int} {s s' d d' : Nat} {g : Fo} (h : Fit7 cl s d g) (hs : s ≤ s') (hd : d ≤ d') : Fit7 cl s' d' g := ⟨Nat.le_trans h.size hs, Nat.le_trans h.deep hd, h.good, h.wf, h.cls⟩
theorem fit_leaf {cl : Int} {s d : Nat} (op : Int) (ho : op = 0 ∨ op = 5) (hs : 1 ≤ s) (hd : 1 ≤ d) : Fit7 cl s d (.mk op 0 [] []) := by
 rcases ho with rfl | rfl
 ·exact ⟨by simp [Fo.size, Fo.sizes]; omega, by simp [Fo.deep, Fo.deeps]; omega, by simp [Fo.good, Fo.goods, properB], by simp [Fo.wf, Fo.wfs], by simp [Fo.cls, Fo.clss]⟩
 ·exact ⟨by simp [Fo.size, Fo.sizes]; omega, by simp [Fo.deep, Fo.deeps]; omega, by simp [Fo.good, Fo.goods, properB], by simp [Fo.wf, Fo.wfs], by simp [Fo.cls, Fo.clss]⟩
theorem fit_join {cl : Int} {s d : Nat} (op : Int) (ho : op = 4 ∨ op = 5) {l : List Fo} (hs : Fo.sizes l + 1 ≤ s) (hl : ∀ k ∈ l, Fit7 cl s d k) : Fit7 cl s (d + 1) (.mk op 0 [] l) := by
 refine ⟨by rw [Fo.size]; omega, ?_, ?_, ?_, ?_⟩
 ·rw [Fo.deep]
  have := Fo.deeps_all.2 fun k hk => (hl k hk).deep
  omega
 ·rw [Fo.good, Bool.and_eq_true]
  exact ⟨by rcases ho with rfl | rfl <;> simp [properB], Fo.goods_all.2 fun k hk => (hl k hk).good⟩
 ·rw [Fo.wf]
  exact ⟨⟨fun x hx => by simp at hx, by simp⟩, Fo.wfs_all.2 fun k hk => (hl k hk).wf⟩
 ·rw [Fo.cls, Bool.and_eq_true]
  exact ⟨by rcases ho with rfl | rfl <;> simp, Fo.clss_all.2 fun k hk => (hl k hk).cls⟩
theorem fit_out {cl : Int} {s d : Nat} (op : Int) (ho : op = 4 ∨ op = 5) {l : List Fo} {idle : Fo} (hs : Fo.sizes l + 1 ≤ s) (hl : ∀ k ∈ l, Fit7 cl s d k) (hi : Fit7 cl s (d + 1) idle) : Fit7 cl s (d + 1) (outP op l idle) := by
 unfold outP
 split
 ·exact hi
 ·exact (hl _ (List.mem_cons_self ..)).mono (Nat.le_refl _) (Nat.le_succ _)
 ·exact fit_join op ho hs hl
theorem fit_joinP {cl : Int} {s d : Nat} (op : Int) (ho : op = 4 ∨ op = 5) {ks : List Fo} {idle decisive : Fo} (hs : Fo.sizes ks + 1 ≤ s) (hl : ∀ k ∈ ks, Fit7 cl s d k) (hi : Fit7 cl s (d + 1) idle) (hd : Fit7 cl s (d + 1) decisive) : Fit7 cl s (d + 1) (joinP op ks idle decisive) := by
 unfold joinP
 split
 ·exact hd
 ·have h1 := ascO_sizes (flatP op idle ks)
  have h2 := flatP_sizes op idle ks
  refine fit_out op ho (by omega) (fun k hk => ?_) hi
  rcases flatP_mem ((ascO_mem fcmp_ord _ _).1 hk) with ⟨h, -, -⟩ | ⟨u, hu, -, -, h⟩
  ·exact hl k h
  ·exact ((hl u hu).kid h).mono (Nat.sub_le _ _) (Nat.sub_le _ _)
theorem fit_opp {cl : Int} {s d : Nat} {k : Fo} (hs : k.size + 1 ≤ s) (hk : Fit7 cl s d k) : Fit7 cl s (d + 1) (oppF k) := by
 unfold oppF
 split
 ·exact fit_leaf 5 (.inr rfl) (by omega) (by omega)
 ·split
  ·exact fit_leaf 0 (.inl rfl) (by omega) (by omega)
  ·split
   ·next h6 =>
    have hl := good_six hk.good h6
    obtain ⟨u, hu⟩ : ∃ u, k.ks = [u] := List.length_eq_one_iff.1 hl
    rw [hu]
    exact (hk.kid (u := u) (by rw [hu]; exact List.mem_cons_self ..)).mono (Nat.sub_le _ _) (by omega)
   ·refine ⟨by simp only [Fo.size, Fo.sizes]; omega, by simp only [Fo.deep, Fo.deeps]; have := hk.deep; omega, ?_, ?_, ?_⟩
    ·simp only [Fo.good, Fo.goods, hk.good]; simp [properB]
    ·simp only [Fo.wf, Fo.wfs]; exact ⟨⟨fun x hx => by simp at hx, by simp⟩, hk.wf, trivial⟩
    ·simp only [Fo.cls, Fo.clss, hk.cls]; simp
theorem map_sizes {g : Fo → Fo} : ∀ {ks : List Fo}, (∀ k ∈ ks, (g k).size ≤ k.size) → Fo.sizes (ks.map g) ≤ Fo.sizes ks
 | [], _ => by simp [Fo.sizes]
 | k :: ks, h => by
  rw [List.map_cons, Fo.sizes, Fo.sizes]
  have h1 := h k (List.mem_cons_self ..)
  have h2 := map_sizes (g := g) fun x hx => h x (List.mem_cons_of_mem _ hx)
  omega
theorem simple_fit (cl : Int) : ∀ (m : Nat) (f : Fo), f.size ≤ m → f.good = true → f.wf → f.cls cl = true → Fit7 cl f.size f.deep (simpleF f)
 | 0, f, h, _, _, _ => by have := f.size_pos; omega
 | m + 1, f, h, hg, hw, hc => by
  have hs := f.size_eq
  have hd := f.deep_eq
  have hwe := (Fo.wf_eq f).1 hw
  have hce := hc
  rw [f.cls_eq, Bool.and_eq_true] at hce
  have hge := hg
  rw [f.good_eq, Bool.and_eq_true] at hge
  have key : ∀ k ∈ f.ks, Fit7 cl k.size k.deep (simpleF k) := fun k hk => simple_fit cl m k (by have := Fo.sizes_mem hk; omega) (good_kid hg hk) (hwe.2 k hk) (Fo.clss_all.1 hce.2 k hk)
  have hsz : Fo.sizes (f.ks.map simpleF) + 1 ≤ f.size := by
   have := map_sizes fun k hk => (key k hk).size
   omega
  have hkid : ∀ k ∈ f.ks.map simpleF, Fit7 cl f.size (Fo.deeps f.ks) k := fun k hk => by
   obtain ⟨u, hu, rfl⟩ := List.mem_map.1 hk
   exact (key u hu).mono (by have := Fo.sizes_mem hu; omega) (Fo.deeps_all.1 (Nat.le_refl _) u hu)
  rw [simpleF_eq, hd]
  unfold nodeS
  have h1 := f.size_pos
  split
  ·exact fit_leaf 5 (.inr rfl) h1 (by omega)
  ·split
   ·exact fit_leaf 5 (.inr rfl) h1 (by omega)
   ·split
    ·next h6 =>
     have hl := good_six hg h6
     obtain ⟨u, hu⟩ : ∃ u, f.ks = [u] := List.length_eq_one_iff.1 hl
     rw [hu] at hkid hsz ⊢
     refine fit_opp (k := simpleF u) ?_ (hkid _ (List.mem_cons_self ..))
     simp only [List.map_cons, List.map_nil, Fo.sizes] at hsz
     omega
    ·split
     ·exact fit_joinP 4 (.inl rfl) hsz hkid (fit_leaf 0 (.inl rfl) h1 (by omega)) (fit_leaf 5 (.inr rfl) h1 (by omega))
     ·split
      ·exact fit_joinP 5 (.inr rfl) hsz hkid (fit_leaf 5 (.inr rfl) h1 (by omega)) (fit_leaf 0 (.inl rfl) h1 (by omega))
      ·refine ⟨by rw [Fo.size]; omega, ?_, ?_, ?_, ?_⟩
       ·rw [Fo.deep]
        have := Fo.deeps_all.2 fun k hk => (hkid k hk).deep
        omega
       ·rw [Fo.good, Bool.and_eq_true]
        refine ⟨?_, Fo.goods_all.2 fun k hk => (hkid k hk).good⟩
        rw [List.length_map]
        exact hge.1
       ·rw [Fo.wf]
        exact ⟨hwe.1, Fo.wfs_all.2 fun k hk => (hkid k hk).wf⟩
       ·rw [Fo.cls, Bool.and_eq_true]
        exact ⟨hce.1, Fo.clss_all.2 fun k hk => (hkid k hk).cls⟩
theorem good_cls : ∀ (m : Nat) (f : Fo), f.size ≤ m → f.good = true → f.cls 64 = true
 | 0, f, h, _ => by have := f.size_pos; omega
 | m + 1, f, h, hg => by
  have hs := f.size_eq
  rw [f.cls_eq, Bool.and_eq_true]
  refine ⟨?_, Fo.clss_all.2 fun k hk => good_cls m k (by have := Fo.sizes_mem hk; omega) (good_kid hg hk)⟩
  rw [f.good_eq, Bool.and_eq_true] at hg
  by_cases h1 : f.op = 1
  ·have h2 := hg.1
   unfold properB at h2
   simp [h1] at h2
   simp [h1]
   omega
  ·simp [h1]
theorem simple_keep (m : Nat) (f : Fo) (h : f.size ≤ m) (hg : f.good = true) (hw : f.wf) : (simpleF f).size ≤ f.size ∧ (simpleF f).good = true ∧ (simpleF f).wf := by
 have := simple_fit 64 m f h hg hw (good_cls m f h hg)
 exact ⟨this.size, this.good, this.wf⟩
end Go.Proofs.YtgnloodmbgdgdaaGreat
namespace Go.Proofs.YtgnloodmbgdgdaaGreat
open Go.RowKit Go.Shelf
theorem zipL_app {α : Type} (c : α → α → Int) : ∀ (la bs x y : List α), la.length = bs.length → zipL c (la ++ x) (bs ++ y) = if zipL c la bs = 0 then zipL c x y else zipL c la bs
 | [], [], x, y, _ => by rw [List.nil_append, List.nil_append, show zipL c ([] : List α) [] = 0 from by unfold zipL; rfl, if_pos rfl]
 | [], _ :: _, _, _, h => by simp at h
 | _ :: _, [], _, _, h => by simp at h
 | a :: la, b :: bs, x, y, h => by
  rw [List.cons_append, List.cons_append, zipL, zipL, zipL_app c la bs x y (by simpa using h)]
  by_cases h0 : c a b = 0
  ·rw [if_pos h0, if_pos h0]
  ·rw [if_neg h0, if_neg h0, if_neg h0]
theorem Iv.cmp_zip (x y : Iv) : Iv.cmp x y = zipL cmpI x.rank y.rank := by
 unfold Iv.cmp lenL
 rw [if_pos (by rw [show x.rank.length = 8 from rfl, show y.rank.length = 8 from rfl]; exact cmpI_self _)]
theorem zip_flat : ∀ is js : List Iv, is.length = js.length → zipL cmpI (is.flatMap Iv.rank) (js.flatMap Iv.rank) = zipL Iv.cmp is js
 | [], [], _ => by unfold zipL; rfl
 | [], _ :: _, h => by simp at h
 | _ :: _, [], h => by simp at h
 | x :: is, y :: js, h => by
  rw [List.flatMap_cons, List.flatMap_cons, zipL_app cmpI x.rank y.rank _ _ rfl, zip_flat is js (by simpa using h), ← Iv.cmp_zip]
  show _ = if Iv.cmp x y = 0 then zipL Iv.cmp is js else Iv.cmp x y
  rfl
def ordL (f : Fo) : List Int := [f.op, f.n, (f.is.length : Int)] ++ f.is.flatMap Iv.rank ++ [(f.ks.length : Int)]
theorem zip_one (a b : Int) : zipL cmpI [a] [b] = cmpI a b := by
 show (if cmpI a b = 0 then zipL cmpI [] [] else cmpI a b) = _
 rw [show zipL cmpI ([] : List Int) [] = 0 from by unfold zipL; rfl]
 by_cases h : cmpI a b = 0
 ·rw [if_pos h, h]
 ·rw [if_neg h]
theorem rank_len (is : List Iv) : (is.flatMap Iv.rank).length = is.length * 8 := by
 induction is with
 | nil => rfl
 | cons x is ih => rw [List.flatMap_cons, List.length_append, ih, List.length_cons, show x.rank.length = 8 from rfl]; omega
theorem fcmp_ordL (f g : Fo) : fcmp f g = if zipL cmpI (ordL f) (ordL g) = 0 then zipL fcmp f.ks g.ks else zipL cmpI (ordL f) (ordL g) := by
 rw [fcmp_eq]
 unfold ordL lenL
 rw [List.append_assoc, List.append_assoc]
 simp only [List.cons_append, List.nil_append, zipL, lexL]
 by_cases h1 : cmpI f.op g.op = 0
 ·simp only [if_pos h1]
  by_cases h2 : cmpI f.n g.n = 0
  ·simp only [if_pos h2]
   by_cases h3 : cmpI (f.is.length : Int) g.is.length = 0
   ·simp only [if_pos h3]
    have hl : f.is.length = g.is.length := by have := cmpI_zero.1 h3; omega
    rw [zipL_app cmpI _ _ _ _ (by rw [rank_len, rank_len, hl]), zip_flat _ _ hl, zip_one]
    by_cases h4 : zipL Iv.cmp f.is g.is = 0
    ·rw [if_pos h4, if_pos h4, if_pos trivial]
    ·rw [if_neg h4, if_neg h4, if_neg h4, if_pos trivial]
   ·simp only [if_neg h3, if_pos]
  ·simp only [if_neg h2]
 ·simp only [if_neg h1]
theorem ordL_kids {f g : Fo} (h : zipL cmpI (ordL f) (ordL g) = 0) : f.ks.length = g.ks.length := by
 unfold ordL at h
 rw [List.append_assoc, List.append_assoc] at h
 simp only [List.cons_append, List.nil_append, zipL] at h
 by_cases h1 : cmpI f.op g.op = 0
 ·rw [if_pos h1] at h
  by_cases h2 : cmpI f.n g.n = 0
  ·rw [if_pos h2] at h
   by_cases h3 : cmpI (f.is.length : Int) g.is.length = 0
   ·rw [if_pos h3] at h
    have hl : f.is.length = g.is.length := by have := cmpI_zero.1 h3; omega
    rw [zipL_app cmpI _ _ _ _ (by rw [rank_len, rank_len, hl]), zip_flat _ _ hl, zip_one] at h
    by_cases h4 : zipL Iv.cmp f.is g.is = 0
    ·rw [if_pos h4] at h
     have := cmpI_zero.1 h
     omega
    ·rw [if_neg h4] at h; exact absurd h h4
   ·rw [if_neg h3] at h; exact absurd h h3
  ·rw [if_neg h2] at h; exact absurd h h2
 ·rw [if_neg h1] at h; exact absurd h h1
end Go.Proofs.YtgnloodmbgdgdaaGreat
namespace Go.Proofs.YtgnloodmbgdgdaaGreat
open Go.RowKit Go.Shelf
theorem rone_any (b : Bool) (w : World) :
  Calls Tryz.prog 137 #[.bool b] w fun e w' => e = .returned (.int .i64 (bitI b)) ∧ w' = w := by
 cases b with
 | true =>
  go_enter Tryz.func137, Tryz.ntmps137
  go_wp2
  go_ret
  exact ⟨rfl, rfl⟩
 | false =>
  go_enter Tryz.func137, Tryz.ntmps137
  go_wp2
  go_ret
  exact ⟨rfl, rfl⟩
def OrdOut (f : Fo) (w : World) (e : Ending) (w' : World) : Prop := ∃ a m k, e = .returned (.slice a m k) ∧ Hid (Els .i64 w' (.slice a m k) (ordL f)) ∧ Hid (Below w.heap.size w w')
theorem OrdOut.fin {f : Fo} {w w' : World} {a : Option Addr} {m k : Nat} {B : Nat} {xs : List Int} (h : ROwn RIn 3 B w' (.slice a m k) xs) (hx : xs = ordL f) (hB : Below w.heap.size w w') : OrdOut f w (.returned (.slice a m k)) w' := ⟨a, m, k, rfl, Lib.hid (by rw [← hx]; exact rin_els h.els), Lib.hid hB⟩
set_option maxHeartbeats 16000000 in
set_option maxRecDepth 100000 in
theorem order_any (f : Fo) (hil : f.is.length ≤ 100000000) (c d : Value) (w : World) (hT : FAt w.heap.size w f c d) :
  Calls Tryz.prog 82 #[.agg #[.int .i64 f.op, .int .i64 f.n, c, d]] w (OrdOut f w) := by
 obtain ⟨a2, c2, a3, c3, rfl, rfl, hI, -, -⟩ := hT.shape
 obtain ⟨W1, hW1⟩ : ∃ W1, W1 = w.alloc (.cells #[.int .i64 f.op, .int .i64 f.n, .slice a2 f.is.length c2, .slice a3 f.ks.length c3] 29) := ⟨_, rfl⟩
 have hS1 : Since w W1 := by rw [hW1]; exact Since.alloc (since_r _) _
 have hX : BoxL w.heap.size [.int .i64 f.op, .int .i64 f.n, .slice a2 f.is.length c2, .slice a3 f.ks.length c3] W1 := by rw [hW1]; exact BoxL.made w _ _
 obtain ⟨W2, hW2⟩ : ∃ W2, W2 = W1.alloc (.cells #[.int .i64 f.op, .int .i64 f.n, .int .i64 (f.is.length : Int)] 3) := ⟨_, rfl⟩
 have hS2 : Since W1 W2 := by rw [hW2]; exact Since.alloc (since_r _) _
 have hO2 : ROwn RIn 3 W1.heap.size W2 (.slice (some ⟨W1.heap.size, 0, none⟩) 3 3) ([f.op, f.n, (f.is.length : Int)] ++ (f.is.take 0).flatMap Iv.rank) := by rw [hW2]; exact ROwn.new RIn 3 W1 [f.op, f.n, (f.is.length : Int)] _ rfl (by unfold maxLen; simp)
 have HIE := Lib.hid fun W (hs : Since W1 W) => REls.below (Since.step hS1 hs) hI
 have HORD : Hid ([f.op, f.n, (f.is.length : Int)] ++ f.is.flatMap Iv.rank ++ [(f.ks.length : Int)] = ordL f) := Lib.hid rfl
 have HKO := Lib.hid fun (b : Bool) W => rone_any b W
 have HFIN := Lib.hid fun (w' : World) (a : Option Addr) (m k : Nat) (B : Nat) (xs : List Int) (h : ROwn RIn 3 B w' (.slice a m k) xs) (hx : xs = ordL f) (hB : Below w.heap.size w w') => OrdOut.fin h hx hB
 generalize hQ : OrdOut f w = Q at *
 have HI : Hid ((Tryz.prog.info? 3).map (fun i => (i.zero, i.size, i.bytes)) = some (some (.int .i64 0), 1, 8)) := Lib.hid (by kernel_rfl)
 have HX := Lib.hid hX
 have HO2 := Lib.hid hO2
 have HS1 := Lib.hid hS1
 have HS2 := Lib.hid hS2
 obtain ⟨x0, x1, x2, x3, -⟩ := hX.open4
 generalize ordL f = OL at *
 generalize f.op = o at *
 generalize f.n = nn at *
 generalize f.is = is at *
 generalize hl2 : is.length = l2 at *
 have HL2 := Lib.hid hl2
 generalize f.ks.length = l3 at *
 clear hT hI hX hS1 hS2 hO2 hl2 hQ
 go_enter Tryz.func82, Tryz.ntmps82
 go_upto_region 1 with (fail)
 rw [← hW1]
 clear hW1
 go_upto_region 2 with (fail)
 rw [← hW2]
 clear hW2 x0 x1 x2 x3
 go_wp2
 go_loopw [3, 4] (fun l v wr => ∃ (k : Nat) (a : Option Addr) (m c : Nat), k ≤ l2 ∧ l = .slice a m c ∧ v = .int .i64 k ∧ Hid (ROwn RIn 3 W1.heap.size wr (.slice a m c) ([o, nn, (l2 : Int)] ++ (is.take k).flatMap Iv.rank)) ∧ Hid (Since W1 wr)) (fun _ v _ => l2 - (intOf v).toNat)
 case atStart => exact ⟨0, _, 3, 3, by omega, rfl, rfl, HO2, HS2⟩
 case round =>
  obtain ⟨k, a, m, cc, hk, rfl, rfl, hO, hS⟩ := hrel
  clear HO2 HS2
  obtain ⟨x0, x1, x2, x3, -⟩ := (HX.out.keep hS.out).open4
  by_cases hlt : k < l2
  ·have j1 : (k : Int) < l2 := by omega
   have j2 : (0 : Int) ≤ k := by omega
   have hie := HIE.out wr hS.out
   obtain ⟨g3, rfl, -⟩ := hie.get hlt
   obtain ⟨x, hx⟩ : ∃ x, is[k]? = some x := ⟨_, List.getElem?_eq_getElem (by rw [HL2.out]; exact hlt)⟩
   obtain ⟨p0, p1, p2, p3, p4, p5, p6, p7⟩ := fiv_at hie hx
   have HST : Hid ((is.take (k + 1)).flatMap Iv.rank = (is.take k).flatMap Iv.rank ++ x.rank) := Lib.hid (by rw [List.take_add_one, hx, List.flatMap_append]; simp)
   have hlen : ([o, nn, (l2 : Int)] ++ (is.take k).flatMap Iv.rank).length + 8 ≤ 1000000000 := by
    rw [List.length_append, rank_len, List.length_take]
    simp only [List.length_cons, List.length_nil]
    omega
   obtain ⟨xa, xb, xc, xd, xp, xq, xr, xs⟩ := x
   simp only at p0 p1 p2 p3 p4 p5 p6 p7
   obtain ⟨wx, hwx⟩ : ∃ wx, wx = wr.alloc (.cells #[.int .i64 xa, .int .i64 xb, .int .i64 xc, .int .i64 xd, .bool xp, .bool xq, .bool xr, .bool xs] 112) := ⟨_, rfl⟩
   have hSx : Since wr wx := by rw [hwx]; exact Since.alloc (since_r _) _
   have hX5 : BoxL wr.heap.size [.int .i64 xa, .int .i64 xb, .int .i64 xc, .int .i64 xd, .bool xp, .bool xq, .bool xr, .bool xs] wx := by rw [hwx]; exact BoxL.made wr _ _
   have HX5 := Lib.hid hX5
   have HOX := Lib.hid (ROwn.below hO.out hSx)
   have HSX := Lib.hid (Since.step hS.out hSx)
   clear hie hx
   go_upto_region 6 with (fail)
   rw [← hwx]
   clear hwx hSx p0 p1 p2 p3 p4 p5 p6 p7 x0 x1 x2 x3
   obtain ⟨p0, p1, p2, p3, p4, p5, p6, p7, -⟩ := hX5.open8
   clear hX5
   refine wp_region_noPanic ?_
   refine wp_region_held_drew (S := fun w' => w'.cell? ⟨wr.heap.size, 0, none⟩ = some (.int .i64 xa) ∧ w'.cell? ⟨wr.heap.size, 1, none⟩ = some (.int .i64 xb) ∧ w'.cell? ⟨wr.heap.size, 2, none⟩ = some (.int .i64 xc) ∧ w'.cell? ⟨wr.heap.size, 3, none⟩ = some (.int .i64 xd) ∧ w'.cell? ⟨wr.heap.size, 4, none⟩ = some (.bool xp) ∧ w'.cell? ⟨wr.heap.size, 5, none⟩ = some (.bool xq) ∧ w'.cell? ⟨wr.heap.size, 6, none⟩ = some (.bool xr) ∧ w'.cell? ⟨wr.heap.size, 7, none⟩ = some (.bool xs)) (by kernel_rfl) ⟨p0, p1, p2, p3, p4, p5, p6, p7⟩ (fun hHeld => ?_)
   refine wpAnyH_take (i := 0) (oi := ⟨some 26, Op.move (Operand.tmp 3), 22, _, _, none⟩) (v := ?_) rfl (by kernel_rfl) (by kernel_rfl) (by kernel_rfl) (fun _ _ _ h => h) (Or.inl ⟨by rfl, ?_⟩) (by assumption) ?_
   rotate_left 1
   ·(intro w hSw; (try dsimp only at hSw); go_simp; first | done | with_reducible rfl)
   try simp only [Act.put, List.setIfInBounds_toArray, List.set_cons_zero, List.set_cons_succ]
   refine wpAnyH_take (i := 1) (oi := ⟨some 27, Op.fieldAddr 112 (Operand.tmp 5) 4, 0, _, _, none⟩) (v := ?_) rfl (by kernel_rfl) (by kernel_rfl) (by kernel_rfl) (fun _ _ _ h => h) (Or.inl ⟨by rfl, ?_⟩) (by assumption) ?_
   rotate_left 1
   ·(intro w hSw; (try dsimp only at hSw); go_simp; first | done | with_reducible rfl)
   try simp only [Act.put, List.setIfInBounds_toArray, List.set_cons_zero, List.set_cons_succ]
   refine wpAnyH_take (i := 2) (oi := ⟨some 28, Op.load 4 (Operand.tmp 27), 4, _, _, none⟩) (v := ?_) rfl (by kernel_rfl) (by kernel_rfl) (by kernel_rfl) (fun _ _ _ h => h) (Or.inl ⟨by rfl, ?_⟩) (by assumption) ?_
   rotate_left 1
   ·(intro w hSw; (try dsimp only at hSw); go_simp; first | done | with_reducible rfl)
   try simp only [Act.put, List.setIfInBounds_toArray, List.set_cons_zero, List.set_cons_succ]
   refine wpAnyH_take (i := 4) (oi := ⟨some 30, Op.fieldAddr 112 (Operand.tmp 5) 2, 0, _, _, none⟩) (v := ?_) rfl (by kernel_rfl) (by kernel_rfl) (by kernel_rfl) (fun _ _ _ h => h) (Or.inl ⟨by rfl, ?_⟩) (by assumption) ?_
   rotate_left 1
   ·(intro w hSw; (try dsimp only at hSw); go_simp; first | done | with_reducible rfl)
   try simp only [Act.put, List.setIfInBounds_toArray, List.set_cons_zero, List.set_cons_succ]
   refine wpAnyH_take (i := 5) (oi := ⟨some 31, Op.load 4 (Operand.tmp 30), 4, _, _, none⟩) (v := ?_) rfl (by kernel_rfl) (by kernel_rfl) (by kernel_rfl) (fun _ _ _ h => h) (Or.inl ⟨by rfl, ?_⟩) (by assumption) ?_
   rotate_left 1
   ·(intro w hSw; (try dsimp only at hSw); go_simp; first | done | with_reducible rfl)
   try simp only [Act.put, List.setIfInBounds_toArray, List.set_cons_zero, List.set_cons_succ]
   refine wpAnyH_take (i := 7) (oi := ⟨some 33, Op.fieldAddr 112 (Operand.tmp 5) 0, 0, _, _, none⟩) (v := ?_) rfl (by kernel_rfl) (by kernel_rfl) (by kernel_rfl) (fun _ _ _ h => h) (Or.inl ⟨by rfl, ?_⟩) (by assumption) ?_
   rotate_left 1
   ·(intro w hSw; (try dsimp only at hSw); go_simp; first | done | with_reducible rfl)
   try simp only [Act.put, List.setIfInBounds_toArray, List.set_cons_zero, List.set_cons_succ]
   refine wpAnyH_take (i := 8) (oi := ⟨some 34, Op.fieldAddr 91 (Operand.tmp 33) 0, 0, _, _, none⟩) (v := ?_) rfl (by kernel_rfl) (by kernel_rfl) (by kernel_rfl) (fun _ _ _ h => h) (Or.inl ⟨by rfl, ?_⟩) (by assumption) ?_
   rotate_left 1
   ·(intro w hSw; (try dsimp only at hSw); go_simp; first | done | with_reducible rfl)
   try simp only [Act.put, List.setIfInBounds_toArray, List.set_cons_zero, List.set_cons_succ]
   refine wpAnyH_take (i := 9) (oi := ⟨some 35, Op.load 3 (Operand.tmp 34), 3, _, _, none⟩) (v := ?_) rfl (by kernel_rfl) (by kernel_rfl) (by kernel_rfl) (fun _ _ _ h => h) (Or.inl ⟨by rfl, ?_⟩) (by assumption) ?_
   rotate_left 1
   ·(intro w hSw; (try dsimp only at hSw); go_simp; first | done | with_reducible rfl)
   try simp only [Act.put, List.setIfInBounds_toArray, List.set_cons_zero, List.set_cons_succ]
   refine wpAnyH_take (i := 10) (oi := ⟨some 36, Op.fieldAddr 112 (Operand.tmp 5) 0, 0, _, _, none⟩) (v := ?_) rfl (by kernel_rfl) (by kernel_rfl) (by kernel_rfl) (fun _ _ _ h => h) (Or.inl ⟨by rfl, ?_⟩) (by assumption) ?_
   rotate_left 1
   ·(intro w hSw; (try dsimp only at hSw); go_simp; first | done | with_reducible rfl)
   try simp only [Act.put, List.setIfInBounds_toArray, List.set_cons_zero, List.set_cons_succ]
   refine wpAnyH_take (i := 11) (oi := ⟨some 37, Op.fieldAddr 91 (Operand.tmp 36) 1, 0, _, _, none⟩) (v := ?_) rfl (by kernel_rfl) (by kernel_rfl) (by kernel_rfl) (fun _ _ _ h => h) (Or.inl ⟨by rfl, ?_⟩) (by assumption) ?_
   rotate_left 1
   ·(intro w hSw; (try dsimp only at hSw); go_simp; first | done | with_reducible rfl)
   try simp only [Act.put, List.setIfInBounds_toArray, List.set_cons_zero, List.set_cons_succ]
   refine wpAnyH_take (i := 12) (oi := ⟨some 38, Op.load 3 (Operand.tmp 37), 3, _, _, none⟩) (v := ?_) rfl (by kernel_rfl) (by kernel_rfl) (by kernel_rfl) (fun _ _ _ h => h) (Or.inl ⟨by rfl, ?_⟩) (by assumption) ?_
   rotate_left 1
   ·(intro w hSw; (try dsimp only at hSw); go_simp; first | done | with_reducible rfl)
   try simp only [Act.put, List.setIfInBounds_toArray, List.set_cons_zero, List.set_cons_succ]
   refine wpAnyH_take (i := 13) (oi := ⟨some 39, Op.fieldAddr 112 (Operand.tmp 5) 5, 0, _, _, none⟩) (v := ?_) rfl (by kernel_rfl) (by kernel_rfl) (by kernel_rfl) (fun _ _ _ h => h) (Or.inl ⟨by rfl, ?_⟩) (by assumption) ?_
   rotate_left 1
   ·(intro w hSw; (try dsimp only at hSw); go_simp; first | done | with_reducible rfl)
   try simp only [Act.put, List.setIfInBounds_toArray, List.set_cons_zero, List.set_cons_succ]
   refine wpAnyH_take (i := 14) (oi := ⟨some 40, Op.load 4 (Operand.tmp 39), 4, _, _, none⟩) (v := ?_) rfl (by kernel_rfl) (by kernel_rfl) (by kernel_rfl) (fun _ _ _ h => h) (Or.inl ⟨by rfl, ?_⟩) (by assumption) ?_
   rotate_left 1
   ·(intro w hSw; (try dsimp only at hSw); go_simp; first | done | with_reducible rfl)
   try simp only [Act.put, List.setIfInBounds_toArray, List.set_cons_zero, List.set_cons_succ]
   refine wpAnyH_take (i := 16) (oi := ⟨some 42, Op.fieldAddr 112 (Operand.tmp 5) 3, 0, _, _, none⟩) (v := ?_) rfl (by kernel_rfl) (by kernel_rfl) (by kernel_rfl) (fun _ _ _ h => h) (Or.inl ⟨by rfl, ?_⟩) (by assumption) ?_
   rotate_left 1
   ·(intro w hSw; (try dsimp only at hSw); go_simp; first | done | with_reducible rfl)
   try simp only [Act.put, List.setIfInBounds_toArray, List.set_cons_zero, List.set_cons_succ]
   refine wpAnyH_take (i := 17) (oi := ⟨some 43, Op.load 4 (Operand.tmp 42), 4, _, _, none⟩) (v := ?_) rfl (by kernel_rfl) (by kernel_rfl) (by kernel_rfl) (fun _ _ _ h => h) (Or.inl ⟨by rfl, ?_⟩) (by assumption) ?_
   rotate_left 1
   ·(intro w hSw; (try dsimp only at hSw); go_simp; first | done | with_reducible rfl)
   try simp only [Act.put, List.setIfInBounds_toArray, List.set_cons_zero, List.set_cons_succ]
   refine wpAnyH_take (i := 19) (oi := ⟨some 45, Op.fieldAddr 112 (Operand.tmp 5) 1, 0, _, _, none⟩) (v := ?_) rfl (by kernel_rfl) (by kernel_rfl) (by kernel_rfl) (fun _ _ _ h => h) (Or.inl ⟨by rfl, ?_⟩) (by assumption) ?_
   rotate_left 1
   ·(intro w hSw; (try dsimp only at hSw); go_simp; first | done | with_reducible rfl)
   try simp only [Act.put, List.setIfInBounds_toArray, List.set_cons_zero, List.set_cons_succ]
   refine wpAnyH_take (i := 20) (oi := ⟨some 46, Op.fieldAddr 91 (Operand.tmp 45) 0, 0, _, _, none⟩) (v := ?_) rfl (by kernel_rfl) (by kernel_rfl) (by kernel_rfl) (fun _ _ _ h => h) (Or.inl ⟨by rfl, ?_⟩) (by assumption) ?_
   rotate_left 1
   ·(intro w hSw; (try dsimp only at hSw); go_simp; first | done | with_reducible rfl)
   try simp only [Act.put, List.setIfInBounds_toArray, List.set_cons_zero, List.set_cons_succ]
   refine wpAnyH_take (i := 21) (oi := ⟨some 47, Op.load 3 (Operand.tmp 46), 3, _, _, none⟩) (v := ?_) rfl (by kernel_rfl) (by kernel_rfl) (by kernel_rfl) (fun _ _ _ h => h) (Or.inl ⟨by rfl, ?_⟩) (by assumption) ?_
   rotate_left 1
   ·(intro w hSw; (try dsimp only at hSw); go_simp; first | done | with_reducible rfl)
   try simp only [Act.put, List.setIfInBounds_toArray, List.set_cons_zero, List.set_cons_succ]
   refine wpAnyH_take (i := 22) (oi := ⟨some 48, Op.fieldAddr 112 (Operand.tmp 5) 1, 0, _, _, none⟩) (v := ?_) rfl (by kernel_rfl) (by kernel_rfl) (by kernel_rfl) (fun _ _ _ h => h) (Or.inl ⟨by rfl, ?_⟩) (by assumption) ?_
   rotate_left 1
   ·(intro w hSw; (try dsimp only at hSw); go_simp; first | done | with_reducible rfl)
   try simp only [Act.put, List.setIfInBounds_toArray, List.set_cons_zero, List.set_cons_succ]
   refine wpAnyH_take (i := 23) (oi := ⟨some 49, Op.fieldAddr 91 (Operand.tmp 48) 1, 0, _, _, none⟩) (v := ?_) rfl (by kernel_rfl) (by kernel_rfl) (by kernel_rfl) (fun _ _ _ h => h) (Or.inl ⟨by rfl, ?_⟩) (by assumption) ?_
   rotate_left 1
   ·(intro w hSw; (try dsimp only at hSw); go_simp; first | done | with_reducible rfl)
   try simp only [Act.put, List.setIfInBounds_toArray, List.set_cons_zero, List.set_cons_succ]
   refine wpAnyH_take (i := 24) (oi := ⟨some 50, Op.load 3 (Operand.tmp 49), 3, _, _, none⟩) (v := ?_) rfl (by kernel_rfl) (by kernel_rfl) (by kernel_rfl) (fun _ _ _ h => h) (Or.inl ⟨by rfl, ?_⟩) (by assumption) ?_
   rotate_left 1
   ·(intro w hSw; (try dsimp only at hSw); go_simp; first | done | with_reducible rfl)
   try simp only [Act.put, List.setIfInBounds_toArray, List.set_cons_zero, List.set_cons_succ]
   refine wpAnyH_ready (rs := [3]) (by kernel_rfl) (by simp) ?_
   refine AllReadyH.cons (o := ⟨some 29, Op.call { callee := Callee.value (Operand.func 137), args := #[Operand.tmp 28], argTypes := #[4] }, 3, _, _, none⟩) rfl (fun K hK => ?_) AllReadyH.nil
   go_simp
   go_at_call 137
   refine (HKO.out _ _).mono ?_
   rintro e w' ⟨rfl, rfl⟩
   try go_wp2_with fail
   refine hK.out _ _ ?_ (fun hHeld => ?_)
   ·exact ⟨p0, p1, p2, p3, p4, p5, p6, p7⟩
   clear hK K
   try simp only [Act.put, List.setIfInBounds_toArray, List.set_cons_zero, List.set_cons_succ]
   refine wpAnyH_ready (rs := [6]) (by kernel_rfl) (by simp) ?_
   refine AllReadyH.cons (o := ⟨some 32, Op.call { callee := Callee.value (Operand.func 137), args := #[Operand.tmp 31], argTypes := #[4] }, 3, _, _, none⟩) rfl (fun K hK => ?_) AllReadyH.nil
   go_simp
   go_at_call 137
   refine (HKO.out _ _).mono ?_
   rintro e w' ⟨rfl, rfl⟩
   try go_wp2_with fail
   refine hK.out _ _ ?_ (fun hHeld => ?_)
   ·exact ⟨p0, p1, p2, p3, p4, p5, p6, p7⟩
   clear hK K
   try simp only [Act.put, List.setIfInBounds_toArray, List.set_cons_zero, List.set_cons_succ]
   refine wpAnyH_ready (rs := [15]) (by kernel_rfl) (by simp) ?_
   refine AllReadyH.cons (o := ⟨some 41, Op.call { callee := Callee.value (Operand.func 137), args := #[Operand.tmp 40], argTypes := #[4] }, 3, _, _, none⟩) rfl (fun K hK => ?_) AllReadyH.nil
   go_simp
   go_at_call 137
   refine (HKO.out _ _).mono ?_
   rintro e w' ⟨rfl, rfl⟩
   try go_wp2_with fail
   refine hK.out _ _ ?_ (fun hHeld => ?_)
   ·exact ⟨p0, p1, p2, p3, p4, p5, p6, p7⟩
   clear hK K
   try simp only [Act.put, List.setIfInBounds_toArray, List.set_cons_zero, List.set_cons_succ]
   refine wpAnyH_ready (rs := [18]) (by kernel_rfl) (by simp) ?_
   refine AllReadyH.cons (o := ⟨some 44, Op.call { callee := Callee.value (Operand.func 137), args := #[Operand.tmp 43], argTypes := #[4] }, 3, _, _, none⟩) rfl (fun K hK => ?_) AllReadyH.nil
   go_simp
   go_at_call 137
   refine (HKO.out _ _).mono ?_
   rintro e w' ⟨rfl, rfl⟩
   try go_wp2_with fail
   refine hK.out _ _ ?_ (fun hHeld => ?_)
   ·exact ⟨p0, p1, p2, p3, p4, p5, p6, p7⟩
   clear hK K
   try simp only [Act.put, List.setIfInBounds_toArray, List.set_cons_zero, List.set_cons_succ]
   refine wpAnyH_ready (rs := [25]) (by kernel_rfl) (by simp) ?_
   refine AllReadyH.cons (o := ⟨some 51, Op.buildSlice 22 8 #[(0, Operand.tmp 29), (1, Operand.tmp 32), (2, Operand.tmp 35), (3, Operand.tmp 38), (4, Operand.tmp 41), (5, Operand.tmp 44), (6, Operand.tmp 47), (7, Operand.tmp 50)], 22, _, _, none⟩) rfl (fun K hK => ?_) AllReadyH.nil
   go_simp
   try go_wp2_with fail
   obtain ⟨wy, hwy⟩ : ∃ wy, wy = (wx.alloc (.cells #[.int .i64 (bitI xr), .int .i64 (bitI xp), .int .i64 xa, .int .i64 xb, .int .i64 (bitI xs), .int .i64 (bitI xq), .int .i64 xc, .int .i64 xd] 3)).drew := ⟨_, rfl⟩
   rw [← hwy]
   have hSy : Since wx wy := by rw [hwy]; exact since_d (Since.alloc (since_r _) _)
   have hcl : ∀ j u, ((Iv.rank ⟨xa, xb, xc, xd, xp, xq, xr, xs⟩).flatMap RIn.cells)[j]? = some u → wy.cell? ⟨wx.heap.size, j, none⟩ = some u := by
    have hB := BoxL.keep (BoxL.made wx #[.int .i64 (bitI xr), .int .i64 (bitI xp), .int .i64 xa, .int .i64 xb, .int .i64 (bitI xs), .int .i64 (bitI xq), .int .i64 xc, .int .i64 xd] 3) (since_d (since_r _))
    rw [← hwy] at hB
    intro j u hu
    exact (hB.2 j u hu).1
   have HCL := Lib.hid hcl
   have HOY := Lib.hid (ROwn.below HOX.out hSy)
   have HXY := Lib.hid (HX5.out.keep hSy)
   have HSY := Lib.hid (Since.step HSX.out hSy)
   have hzB : W1.heap.size ≤ wy.heap.size := HSY.out.size
   have hNe : ∀ b, (.slice a m cc : Value).ownBlock = some b → b ≠ wr.heap.size := fun b e h => by have := (hO.out.lt b e).2; omega
   have HNE := Lib.hid (show (.slice a m cc : Value).ownBlock ≠ some wr.heap.size from fun e => hNe _ e rfl)
   generalize wx.heap.size = N9 at *
   clear hwy hSy hcl HOX HX5 HSX hNe
   obtain ⟨p0, p1, p2, p3, p4, p5, p6, p7, -⟩ := HXY.out.open8
   refine hK.out _ _ ?_ (fun hHeld => ?_)
   ·exact ⟨p0, p1, p2, p3, p4, p5, p6, p7⟩
   clear hK K
   try simp only [Act.put, List.setIfInBounds_toArray, List.set_cons_zero, List.set_cons_succ]
   refine wpAnyH_ready (rs := [26]) (by kernel_rfl) (by simp) ?_
   refine AllReadyH.cons (o := ⟨some 52, Op.call { callee := Callee.builtin Builtin.append, args := #[Operand.tmp 26, Operand.tmp 51], argTypes := #[22, 22] }, 22, _, _, none⟩) rfl (fun K hK => ?_) AllReadyH.nil
   refine wp_row1_f (.tmp 26) (.tmp 51) 22 rfl RIn 3 8 _ Tryz.underlying22 HI.out rfl (by decide) W1.heap.size (.slice a m cc) ([o, nn, (l2 : Int)] ++ (is.take k).flatMap Iv.rank) (Iv.rank ⟨xa, xb, xc, xd, xp, xq, xr, xs⟩) N9 8 8 rfl rfl rfl HCL.out HOY.out hzB hlen ?_
   intro aq lq cq wn hnn hOn hBn hPn
   obtain ⟨p0, p1, p2, p3, p4, p5, p6, p7, -⟩ := (BoxL.far HXY.out HNE.out hPn.out).open8
   refine hK.out _ _ ?_ (fun hHeld => ?_)
   ·exact ⟨p0, p1, p2, p3, p4, p5, p6, p7⟩
   clear hK K
   try simp only [Act.put, List.setIfInBounds_toArray, List.set_cons_zero, List.set_cons_succ]
   refine wpAnyH_take (i := 27) (oi := ⟨some 3, Op.assign (Operand.tmp 52), 22, _, _, none⟩) (v := ?_) rfl (by kernel_rfl) (by kernel_rfl) (by kernel_rfl) (fun _ _ _ h => h) (Or.inl ⟨by rfl, ?_⟩) (by assumption) ?_
   rotate_left 1
   ·(intro w hSw; (try dsimp only at hSw); go_simp; first | done | with_reducible rfl)
   try simp only [Act.put, List.setIfInBounds_toArray, List.set_cons_zero, List.set_cons_succ]
   refine wpAnyH_done (by kernel_rfl) ?_ _
   refine NoPanic.normal ?_
   have HO7 : Hid (ROwn RIn 3 W1.heap.size wn (.slice aq lq cq) ([o, nn, (l2 : Int)] ++ (is.take (k + 1)).flatMap Iv.rank)) := Lib.hid (by rw [HST.out, ← List.append_assoc]; exact hOn.out)
   have HS7 : Hid (Since W1 wn) := Lib.hid (Below.trans HSY.out hBn.out)
   clear p0 p1 p2 p3 p4 p5 p6 p7 HST hlen
   go_wp2
   go_roundw
   case rel => exact ⟨k + 1, aq, lq, cq, by omega, rfl, by go_num, HO7, HS7⟩
   case measure => simp [intOf] <;> omega
  ·have j1 : ¬ (k : Int) < l2 := by omega
   have hk1 : is.take k = is := List.take_of_length_le (by rw [HL2.out]; omega)
   rw [hk1] at hO
   have hzB : W1.heap.size ≤ wr.heap.size := hS.out.size
   have hlen : ([o, nn, (l2 : Int)] ++ is.flatMap Iv.rank).length + 1 ≤ 1000000000 := by
    rw [List.length_append, rank_len, HL2.out]
    simp only [List.length_cons, List.length_nil]
    omega
   clear hk1
   go_wp2_with (at_builtin; refine push_row_f rfl _ _ 22 rfl RIn 3 8 _ Tryz.underlying22 HI.out rfl (by decide) W1.heap.size (.slice a m cc) ([o, nn, (l2 : Int)] ++ is.flatMap Iv.rank) [(l3 : Int)] _ _ rfl rfl _ 1 rfl rfl rfl hO.out hzB hlen ?_; intro aq lq cq wn hnn hOn hBn hPn)
   have HF := Lib.hid (HFIN.out wn aq lq cq W1.heap.size _ hOn.out HORD.out (HS1.out.trans (Below.mono (Below.trans hS.out hBn.out) HS1.out.size)))
   exact HF.out
end Go.Proofs.YtgnloodmbgdgdaaGreat
