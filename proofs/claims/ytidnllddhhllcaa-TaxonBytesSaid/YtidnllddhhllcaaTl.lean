/- Contracts of package taxon: Len, Is, Up, Down. -/
import Derived.Test.YtidnllddhhllcaaTc
namespace Go.Proofs.Ytidnllddhhllcaa
open Go.RowKit Go.Shelf

/-- A slice of numbers in blocks of which S holds. -/
def EIn (S : Nat → Prop) (w : World) (sv : Value) (zs : List Int) : Prop :=
  (Emp sv ∧ zs = []) ∨ ∃ b off cap, S b ∧ b < w.heap.size ∧ sv = .slice (some ⟨b, off, none⟩) zs.length cap ∧ zs.length ≤ cap ∧ ∀ j, j < zs.length → w.cell? ⟨b, off + j, none⟩ = some (.int .i64 (zs[j]?.getD 0))

theorem EIn.els {S : Nat → Prop} {w : World} {sv : Value} {zs : List Int} : EIn S w sv zs → Els .i64 w sv zs
  | .inl h => .inl h
  | .inr ⟨b, off, cap, _, r⟩ => .inr ⟨b, off, cap, r⟩

theorem Els.ein {w : World} {sv : Value} {zs : List Int} : Els .i64 w sv zs → EIn (fun _ => True) w sv zs
  | .inl h => .inl h
  | .inr ⟨b, off, cap, r⟩ => .inr ⟨b, off, cap, trivial, r⟩

theorem EIn.keep {S : Nat → Prop} {w W : World} (hs : w.heap.size ≤ W.heap.size) (hk : ∀ b, S b → b < w.heap.size → W.heap[b]? = w.heap[b]?) {sv : Value} {zs : List Int} : EIn S w sv zs → EIn S W sv zs
  | .inl h => .inl h
  | .inr ⟨b, off, cap, h1, h2, h3, h4, h5⟩ => .inr ⟨b, off, cap, h1, Nat.lt_of_lt_of_le h2 hs, h3, h4, fun j hj => (cell_of_block (hk b h1 h2) _).trans (h5 j hj)⟩

theorem EIn.mono {S S' : Nat → Prop} {w : World} (h : ∀ b, b < w.heap.size → S b → S' b) {sv : Value} {zs : List Int} : EIn S w sv zs → EIn S' w sv zs
  | .inl h => .inl h
  | .inr ⟨b, off, cap, h1, h2, r⟩ => .inr ⟨b, off, cap, h b h2 h1, h2, r⟩

/-- A slice of slices of numbers, in such blocks. -/
def LIn (S : Nat → Prop) (w : World) (sv : Value) (P : List (List Int)) : Prop :=
  (Emp sv ∧ P = []) ∨ ∃ b cap, S b ∧ b < w.heap.size ∧ sv = .slice (some ⟨b, 0, none⟩) P.length cap ∧ P.length ≤ cap ∧ ∀ (j : Nat) (l : List Int), P[j]? = some l → ∃ v, w.cell? ⟨b, j, none⟩ = some v ∧ EIn S w v l

theorem LIn.keep {S : Nat → Prop} {w W : World} (hs : w.heap.size ≤ W.heap.size) (hk : ∀ b, S b → b < w.heap.size → W.heap[b]? = w.heap[b]?) {sv : Value} {P : List (List Int)} : LIn S w sv P → LIn S W sv P
  | .inl h => .inl h
  | .inr ⟨b, cap, h1, h2, h3, h4, h5⟩ => .inr ⟨b, cap, h1, Nat.lt_of_lt_of_le h2 hs, h3, h4, fun j l hl => by
      obtain ⟨v, hv, he⟩ := h5 j l hl
      exact ⟨v, (cell_of_block (hk b h1 h2) _).trans hv, he.keep hs hk⟩⟩

theorem LIn.mono {S S' : Nat → Prop} {w : World} (h : ∀ b, b < w.heap.size → S b → S' b) {sv : Value} {P : List (List Int)} : LIn S w sv P → LIn S' w sv P
  | .inl h => .inl h
  | .inr ⟨b, cap, h1, h2, h3, h4, h5⟩ => .inr ⟨b, cap, h b h2 h1, h2, h3, h4, fun j l hl => by
      obtain ⟨v, hv, he⟩ := h5 j l hl
      exact ⟨v, hv, he.mono h⟩⟩

/-- A slice of slices of numbers. -/
def LE (w : World) (sv : Value) (P : List (List Int)) : Prop := LIn (fun _ => True) w sv P

theorem LIn.le {S : Nat → Prop} {w : World} {sv : Value} {P : List (List Int)} (h : LIn S w sv P) : LE w sv P := h.mono fun _ _ _ => trivial

theorem LE.below {w W : World} (hB : Below w.heap.size w W) {sv : Value} {P : List (List Int)} (h : LE w sv P) : LE W sv P := LIn.keep hB.size (fun b _ hb => hB.block b hb) h

theorem LIn.shape {S : Nat → Prop} {w : World} {sv : Value} {P : List (List Int)} (h : LIn S w sv P) : ∃ a cap, sv = .slice a P.length cap := by
  rcases h with ⟨he, rfl⟩ | ⟨b, cap, _, _, rfl, _⟩
  · exact he.shape
  · exact ⟨_, _, rfl⟩

theorem LIn.len {S : Nat → Prop} {w : World} {a : Option Addr} {n cap : Nat} {P : List (List Int)} (h : LIn S w (.slice a n cap) P) : n = P.length := by
  obtain ⟨a, c, he⟩ := h.shape
  cases he
  rfl

theorem LIn.at {S : Nat → Prop} {w : World} {a : Option Addr} {n cap : Nat} {P : List (List Int)} (h : LIn S w (.slice a n cap) P) (j : Nat) (hj : j < n) :
    ∃ b aj nj cj, a = some ⟨b, 0, none⟩ ∧ w.cell? ⟨b, j, none⟩ = some (.slice aj nj cj) ∧ EIn S w (.slice aj nj cj) (Tx.row P j) ∧ nj = (Tx.row P j).length ∧ S b := by
  have hn := h.len
  rcases h with ⟨he, rfl⟩ | ⟨b, c, hS, _, he, _, hat⟩
  · simp at hn; omega
  · cases he
    have hl : P[j]? = some (Tx.row P j) := by unfold Tx.row; rw [List.getElem?_eq_getElem hj]; rfl
    obtain ⟨v, hv, hE⟩ := hat j _ hl
    obtain ⟨aj, cj, rfl⟩ := hE.els.shape
    exact ⟨b, aj, _, cj, rfl, hv, hE, rfl, hS⟩

/-- A taxonomy that New returned. -/
def TxAt (N : Nat) (P : List (List Int)) (w : World) : Prop := Tx.Good P ∧ ∃ pa pc A ac, w.cell? ⟨N, 0, none⟩ = some (.slice pa P.length pc) ∧ w.cell? ⟨N, 1, none⟩ = some (.slice (some ⟨A, 0, none⟩) P.length ac) ∧ A < w.heap.size ∧
  LE w (.slice pa P.length pc) P ∧ ∀ c, c < P.length → w.rangeAt A (c * 64) (bl (Tx.inh P c))

theorem TxAt.below {N : Nat} {P : List (List Int)} {w W : World} (h : TxAt N P w) (hB : Below w.heap.size w W) : TxAt N P W := by
  obtain ⟨hg, pa, pc, A, ac, h0, h1, hA, hL, hR⟩ := h
  exact ⟨hg, pa, pc, A, ac, (hB.cell (p := ⟨N, 0, none⟩) (block_there h0)).trans h0, (hB.cell (p := ⟨N, 1, none⟩) (block_there h1)).trans h1, Nat.lt_of_lt_of_le hA hB.size, hL.below hB, fun c hc => range_below hB (hR c hc) hA⟩

theorem tlen_any (N : Nat) (P : List (List Int)) (w : World) (h : TxAt N P w) :
    Calls Try.prog 14 #[.pointer (some ⟨N, 0, none⟩)] w fun e w' => e = .returned (.int .i64 P.length) ∧ w = w' := by
  obtain ⟨hg, pa, pc, A, ac, h0, h1, hA, hL, hR⟩ := h
  clear hg h1 hA hL hR
  go_enter Try.func14, Try.ntmps14
  go_wp2
  go_ret
  exact ⟨rfl, rfl⟩

/-- What Is returns. -/
noncomputable def isB (P : List (List Int)) (c d : Int) : Bool := clsB P.length c && clsB P.length d && Tx.inh P c.toNat d.toNat

theorem clsB_true {n : Nat} {c : Int} (h : clsB n c = true) : ∃ k : Nat, c = k ∧ k < n := by
  unfold clsB at h
  have := of_decide_eq_true h
  obtain ⟨k, rfl⟩ := Int.eq_ofNat_of_zero_le this.1
  exact ⟨k, rfl, by omega⟩

theorem clsB_nat {n k : Nat} (h : k < n) : clsB n (k : Int) = true := by unfold clsB; exact decide_eq_true ⟨by omega, by omega⟩

set_option maxHeartbeats 2000000 in
theorem tis_any (N : Nat) (P : List (List Int)) (c d : Int) (w : World) (h : TxAt N P w) :
    Calls Try.prog 19 #[.pointer (some ⟨N, 0, none⟩), .int .i64 c, .int .i64 d] w fun e w' => e = .returned (.bool (isB P c d)) ∧ w = w' := by
  obtain ⟨hg, pa, pc, A, ac, h0, h1, hA, hL, hR⟩ := h
  have k1 := thas_any N P.length pc pa c w h0
  have k2 := thas_any N P.length pc pa d w h0
  unfold isB
  by_cases hc : clsB P.length c = true
  · by_cases hd : clsB P.length d = true
    · obtain ⟨x, rfl, hx⟩ := clsB_true hc
      obtain ⟨y, rfl, hy⟩ := clsB_true hd
      rw [hc] at k1
      rw [hd] at k2
      rw [hc, hd]
      have hcl := hR x hx y _ ((bits_bl (Tx.inh P x)).2 y (by have := hg.len; omega))
      simp only [Bool.true_and, Int.toNat_natCast]
      generalize Tx.inh P x y = B at *
      have hxi : (x : Int) < P.length := by omega
      have hyi : (y : Int) < 64 := by have := hg.len; omega
      generalize P.length = n at *
      have K1 := Lib.hid k1
      have K2 := Lib.hid k2
      clear k1 k2 hR hL hg hc hd
      go_enter Try.func19, Try.ntmps19
      go_wp2_with fail
      refine (K1.out).mono ?_
      rintro e w' ⟨rfl, rfl⟩
      go_wp2_with fail
      refine (K2.out).mono ?_
      rintro e w' ⟨rfl, rfl⟩
      go_wp2
      go_ret
      exact ⟨rfl, rfl⟩
    · have hd' : clsB P.length d = false := by simpa using hd
      rw [hc] at k1
      rw [hd'] at k2
      rw [hc, hd']
      generalize P.length = n at *
      have K1 := Lib.hid k1
      have K2 := Lib.hid k2
      clear k1 k2 hR hL hg hc hd hd'
      go_enter Try.func19, Try.ntmps19
      go_wp2_with fail
      refine (K1.out).mono ?_
      rintro e w' ⟨rfl, rfl⟩
      go_wp2_with fail
      refine (K2.out).mono ?_
      rintro e w' ⟨rfl, rfl⟩
      go_wp2
      go_ret
      exact ⟨rfl, rfl⟩
  · have hc' : clsB P.length c = false := by simpa using hc
    rw [hc'] at k1
    rw [hc']
    generalize P.length = n at *
    have K1 := Lib.hid k1
    clear k1 k2 hR hL hg hc hc'
    go_enter Try.func19, Try.ntmps19
    go_wp2_with fail
    refine (K1.out).mono ?_
    rintro e w' ⟨rfl, rfl⟩
    go_wp2
    go_ret
    exact ⟨rfl, rfl⟩

/-- What a call leaves that makes a slice, or an error. -/
def MakesE (zs : List Int) (er : Int) (w : World) (e : Ending) (w' : World) : Prop :=
  ∃ a n c, e = .returned (.tuple #[.slice a n c, .int .i64 er]) ∧ Hid (n = zs.length) ∧ Hid (Own .i64 3 w.heap.size w' (.slice a n c) zs) ∧ Hid (Below w.heap.size w w')

/-- The error of Up and Least. -/
def noneE (n : Nat) (zs : List Int) : Int := if allB n zs = true then 0 else 7

/-- What Up returns. -/
noncomputable def upL (P : List (List Int)) (zs : List Int) : List Int := if allB P.length zs = true then ones (anyB (Tx.inh P) zs) 64 else []

theorem allB_mem {n : Nat} {zs : List Int} (h : allB n zs = true) : ∀ z ∈ zs, 0 ≤ z ∧ z < n := fun z hz => of_decide_eq_true (List.all_eq_true.1 h z hz)

theorem own_base {E : TypeId} {B B' : Nat} {w : World} {sv : Value} {zs : List Int} (h : Own .i64 E B w sv zs) (hB : B' ≤ B) : Own .i64 E B' w sv zs := by
  obtain ⟨h1, h2 | ⟨g, cap, cur, hv, hg, r⟩⟩ := h
  · exact ⟨h1, .inl h2⟩
  · exact ⟨h1, .inr ⟨g, cap, cur, hv, Nat.le_trans hB hg, r⟩⟩

set_option maxHeartbeats 2000000 in
set_option maxRecDepth 100000 in
theorem tup_any (N : Nat) (P : List (List Int)) (sv : Value) (zs : List Int) (w : World) (h : TxAt N P w) (hl : Els .i64 w sv zs) (hlen : zs.length ≤ 100000) :
    Calls Try.prog 25 #[.pointer (some ⟨N, 0, none⟩), sv] w (MakesE (upL P zs) (noneE P.length zs) w) := by
  obtain ⟨a, cap, rfl⟩ := hl.shape
  obtain ⟨hg, pa, pc, A, ac, h0, h1, hA, hL, hR⟩ := h
  have k1 := thasAll_any _ zs N P.length pc pa w hl hlen h0
  unfold upL noneE
  by_cases ha : allB P.length zs = true
  · have k2 := fun (W : World) (hB : Below w.heap.size w W) => collect_any N A P.length ac _ zs (Tx.inh P) W ((hB.cell (p := ⟨N, 1, none⟩) (block_there h1)).trans h1) (allB_mem ha) hg.len (Nat.lt_of_lt_of_le hA hB.size)
      (fun z hz => range_below hB (hR z.toNat (by have := allB_mem ha z hz; omega)) hA) (fun x _ c _ hxc d hcd => Tx.inh_eq.2 ((Tx.inh_eq.1 hxc).trans (Tx.inh_eq.1 hcd))) (hl.below hB) hlen
    have k3 := fun W => list_any _ _ W (bits_bl (anyB (Tx.inh P) zs))
    rw [if_pos ha, if_pos ha]
    rw [ha] at k1
    generalize anyB (Tx.inh P) zs = F at *
    have K1 := Lib.hid k1
    have K2 := Lib.hid k2
    have K3 := Lib.hid k3
    have HB0 := Lib.hid (Below.refl w.heap.size w)
    generalize zs.length = m at *
    generalize hbl : (bl F).toArray = ba at *
    clear k1 k2 k3 hR hL hg h0 h1 hA ha hl
    go_enter Try.func25, Try.ntmps25
    go_wp2_with fail
    refine (K1.out).mono ?_
    rintro e w1 ⟨rfl, hB⟩
    have B1 := Lib.hid hB
    have HB1 := Lib.hid (HB0.out.trans (hB.mono HB0.out.size))
    clear hB
    go_wp2_with fail
    refine (K2.out _ HB1.out).mono ?_
    rintro e w2 ⟨rfl, hB⟩
    have B2 := Lib.hid hB
    have HB2 := Lib.hid (HB1.out.trans (hB.mono HB1.out.size))
    clear hB
    go_wp2_with fail
    refine (K3.out _).mono ?_
    rintro e w3 ⟨a3, n3, c3, rfl, HN3, O3, hB⟩
    have B3 := Lib.hid hB.out
    have HB3 := Lib.hid (HB2.out.trans (hB.out.mono HB2.out.size))
    have HE3 := Lib.hid O3.out.els
    clear hB
    go_wp2
    go_ret2
    exact ⟨a3, n3, c3, rfl, HN3, Lib.hid (own_base O3.out HB2.out.size), HB3⟩
  · have ha' : allB P.length zs = false := by simpa using ha
    rw [if_neg ha, if_neg ha]
    rw [ha'] at k1
    have K1 := Lib.hid k1
    have HB0 := Lib.hid (Below.refl w.heap.size w)
    clear k1 hR hL hg h0 h1 hA ha ha' hl
    go_enter Try.func25, Try.ntmps25
    go_wp2_with fail
    refine (K1.out).mono ?_
    rintro e w1 ⟨rfl, hB⟩
    have B1 := Lib.hid hB
    have HB1 := Lib.hid (HB0.out.trans (hB.mono HB0.out.size))
    clear hB
    go_wp2
    go_ret2
    exact ⟨none, 0, 0, rfl, rfl, Lib.hid (World.ownsRow_nil _ _ _ _), HB1⟩

end Go.Proofs.Ytidnllddhhllcaa
