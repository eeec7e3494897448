/- Contracts of package taxon: Down, Least. -/
import Derived.Test.YtidnllddhhllcaaTl
namespace Go.Proofs.Ytidnllddhhllcaa
open Go.RowKit Go.Shelf

/-- What Down returns. -/
noncomputable def downL (P : List (List Int)) (c : Int) : List Int := if clsB P.length c = true then ones (fun d => decide (d < P.length) && Tx.inh P d c.toNat) 64 else []

/-- The error of Down. -/
def downE (n : Nat) (c : Int) : Int := if clsB n c = true then 0 else 7

theorem arr_down (w : World) (P : List (List Int)) (k x : Nat) : arr w (fun d => if d = k then Tx.inh P k x else decide (d < k) && Tx.inh P d x) = arr w (fun d => decide (d < k + 1) && Tx.inh P d x) := by
  refine arr_ext fun d _ => ?_
  by_cases e : d = k
  · subst e; simp
  · by_cases e2 : d < k
    · simp [e, e2, show d < k + 1 by omega]
    · simp [e, e2, show ¬ d < k + 1 by omega]

set_option maxHeartbeats 4000000 in
set_option maxRecDepth 100000 in
theorem tdown_any (N : Nat) (P : List (List Int)) (c : Int) (w : World) (h : TxAt N P w) :
    Calls Try.prog 21 #[.pointer (some ⟨N, 0, none⟩), .int .i64 c] w (MakesE (downL P c) (downE P.length c) w) := by
  obtain ⟨hg, pa, pc, A, ac, h0, h1, hA, hL, hR⟩ := h
  have k1 := thas_any N P.length pc pa c w h0
  unfold downL downE
  by_cases hc : clsB P.length c = true
  · rw [if_pos hc, if_pos hc]
    rw [hc] at k1
    obtain ⟨x, rfl, hx⟩ := clsB_true hc
    simp only [Int.toNat_natCast]
    have hn := hg.len
    have hcl := fun d (hd : d < P.length) => hR d hd x _ ((bits_bl (Tx.inh P d)).2 x (by omega))
    have hNb := block_there h1
    generalize P.length = n at *
    have K1 := Lib.hid k1
    have HC := Lib.hid hcl
    have k3 := fun W => list_any _ _ W (bits_bl (fun d => decide (d < n) && Tx.inh P d x))
    have K3 := Lib.hid k3
    clear k1 k3 hcl hL hg hc hR h0
    go_enter Try.func21, Try.ntmps21
    go_wp2_with fail
    refine (K1.out).mono ?_
    rintro e w' ⟨rfl, rfl⟩
    have h1' := cell_alloc_l (.cells #[] 0) h1
    clear h1'
    have hx2 : (x : Int) < 64 := by omega
    go_upto_region 5 with (fail)
    go_loopw [17] (fun i wr => ∃ k : Nat, k ≤ n ∧ i = .int .i64 k ∧ wr = arr w (fun d => decide (d < k) && Tx.inh P d x)) (fun i _ => n - (intOf i).toNat)
    case atStart => exact ⟨0, Nat.zero_le _, rfl, by rfl⟩
    case round =>
      obtain ⟨k, hk, rfl, rfl⟩ := hrel
      have HB := Lib.hid (arr_below w (fun d => decide (d < k) && Tx.inh P d x))
      by_cases hlt : k < n
      · have hcj := arr_cell w (fun d => decide (d < k) && Tx.inh P d x) (j := k) (by omega)
        have hst := arr_set w (fun d => decide (d < k) && Tx.inh P d x) k (Tx.inh P k x)
        have hrd := Since.cell HB.out (HC.out k hlt)
        have h1k := Since.cell HB.out h1
        obtain ⟨hcj, hfj⟩ := hcj
        have hk2 : (k : Int) < 64 := by omega
        generalize hG : (fun d => decide (d < k) && Tx.inh P d x) = G at *
        have HG := Lib.hid hG
        clear hG
        go_wp2
        go_roundw
        case rel => exact ⟨k + 1, by omega, by go_num, arr_down w P k x⟩
        case measure => simp [intOf]; omega
      · have hkn : k = n := by omega
        subst hkn
        have hrg := arr_range w (fun d => decide (d < k) && Tx.inh P d x)
        generalize hF : (fun d => decide (d < k) && Tx.inh P d x) = F at *
        have HF := Lib.hid hF
        clear hF
        go_upto_region 9 with (fail)
        refine wp_region_lit ?_
        refine wpList_load_mid (by rfl) _ _ (by rfl) w.heap.size 0 rfl (bl F) _ hrg Try.underBits rfl (bits_bl _).size ?_
        generalize hbl : (bl F).toArray = ba at *
        clear hrg hbl
        have HB0 := HB
        clear HB
        go_wp2_with fail
        refine (K3.out _).mono ?_
        rintro e w1 ⟨a1, n1, c1, rfl, HN1, O1, hB⟩
        have B1 := Lib.hid hB.out
        have HB1 := Lib.hid (HB0.out.trans (hB.out.mono HB0.out.size))
        have HE1 := Lib.hid O1.out.els
        clear hB
        go_wp2
        go_ret2
        have hF := HF.out
        subst hF
        exact ⟨a1, n1, c1, rfl, HN1, Lib.hid (own_base O1.out HB0.out.size), HB1⟩
  · have hc' : clsB P.length c = false := by simpa using hc
    rw [if_neg hc, if_neg hc]
    rw [hc'] at k1
    have K1 := Lib.hid k1
    clear k1 hR hL hg h0 h1 hA hc hc'
    go_enter Try.func21, Try.ntmps21
    go_wp2_with fail
    refine (K1.out).mono ?_
    rintro e w' ⟨rfl, rfl⟩
    go_wp2
    go_ret2
    exact ⟨none, 0, 0, rfl, rfl, Lib.hid (World.ownsRow_nil _ _ _ _), Lib.hid (Below.refl _ _)⟩

end Go.Proofs.Ytidnllddhhllcaa
