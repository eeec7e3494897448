/- Contracts of package taxon: inherit. -/
import Derived.Test.YtidnllddhhllcaaTw
namespace Go.Proofs.Ytidnllddhhllcaa
open Go.RowKit Go.Shelf

/-- The world in which the search begins, but for the variable that holds the function. -/
def inhW (w : World) (N : Nat) : World := (arr (arr (w.alloc (.cells #[.pointer (some ⟨N, 0, none⟩)] 27)) fun _ => false) fun _ => false).alloc (.cells #[.nilFunc] 66)

/-- The function that searches. -/
def visitF (s : Nat) : Value := .func (.func 58) #[] #[.pointer (some ⟨s + 1, 0, none⟩), .pointer (some ⟨s + 1 + 1, 0, none⟩), .pointer (some ⟨s, 0, none⟩), .pointer (some ⟨s + 1 + 1 + 1, 0, none⟩)]

theorem inhW_size (w : World) (N : Nat) : (inhW w N).heap.size = w.heap.size + 1 + 1 + 1 + 1 := by simp [inhW, arr]

theorem inhW_below (w : World) (N : Nat) : Below w.heap.size w (inhW w N) := by
  unfold inhW arr
  exact ((((Below.refl _ w).alloc (Nat.le_refl _) _).alloc (by simp) _).alloc (by simp; omega) _).alloc (by simp; omega) _

theorem inhW_last (w : World) (N : Nat) : Cel (inhW w N) (w.heap.size + 1 + 1 + 1) 0 .nilFunc := by
  have h := cell_new_l (arr (arr (w.alloc (.cells #[.pointer (some ⟨N, 0, none⟩)] 27)) fun _ => false) fun _ => false) .nilFunc 66
  have e : (arr (arr (w.alloc (.cells #[.pointer (some ⟨N, 0, none⟩)] 27)) fun _ => false) fun _ => false).heap.size = w.heap.size + 1 + 1 + 1 := by simp [arr]
  rw [e] at h
  exact h

theorem inhW_e (w : World) (N : Nat) {i : Nat} (hi : i < 64) : Cel (inhW w N) (w.heap.size + 1) i (.bool false) := by
  obtain ⟨h1, h2⟩ := arr_cell (w.alloc (.cells #[.pointer (some ⟨N, 0, none⟩)] 27)) (fun _ => false) hi
  have e : (w.alloc (.cells #[.pointer (some ⟨N, 0, none⟩)] 27)).heap.size = w.heap.size + 1 := by simp
  rw [e] at h1 h2
  have h3 := cell_alloc_l (.cells (bl fun _ => false).toArray 68) h1
  have h4 := frozen_alloc_l (.cells (bl fun _ => false).toArray 68) h1 h2
  exact ⟨cell_alloc_l _ h3, frozen_alloc_l _ h3 h4⟩

theorem inhW_l (w : World) (N : Nat) {i : Nat} (hi : i < 64) : Cel (inhW w N) (w.heap.size + 1 + 1) i (.bool false) := by
  obtain ⟨h1, h2⟩ := arr_cell (arr (w.alloc (.cells #[.pointer (some ⟨N, 0, none⟩)] 27)) fun _ => false) (fun _ => false) hi
  have e : (arr (w.alloc (.cells #[.pointer (some ⟨N, 0, none⟩)] 27)) fun _ => false).heap.size = w.heap.size + 1 + 1 := by simp [arr]
  rw [e] at h1 h2
  exact ⟨cell_alloc_l _ h1, frozen_alloc_l _ h1 h2⟩

theorem inhW_t (w : World) (N : Nat) : (inhW w N).cell? ⟨w.heap.size, 0, none⟩ = some (.pointer (some ⟨N, 0, none⟩)) :=
  cell_alloc_l _ (cell_alloc_l _ (cell_alloc_l _ (cell_new_l w (.pointer (some ⟨N, 0, none⟩)) 27).1))

/-- The world in which the search begins. -/
theorem inh_start (P : List (List Int)) (b0 N A pc ac : Nat) (pa : Option Addr) (w : World) (hok : Tx.okAll P.length P = true) (hlen : P.length ≤ 64) (hsh : ∀ c, (Tx.row P c).length ≤ 100000) (hb : b0 ≤ w.heap.size) (hbA : b0 ≤ A) (hA : A < w.heap.size) (hNA : N ≠ A)
    (h0 : w.cell? ⟨N, 0, none⟩ = some (.slice pa P.length pc)) (h1 : w.cell? ⟨N, 1, none⟩ = some (.slice (some ⟨A, 0, none⟩) P.length ac)) (hL : LIn (fun b => b ≠ A) w (.slice pa P.length pc) P)
    (hT : ∀ c, c < P.length → ∀ d, d < 64 → Cel w A (c * 64 + d) (.bool false)) :
    VF P b0 (w.heap.size + 1) (w.heap.size + 1 + 1) w.heap.size (w.heap.size + 1 + 1 + 1) N A pa pc ac ((inhW w N).setCell ⟨w.heap.size + 1 + 1 + 1, 0, none⟩ (visitF w.heap.size)) ∧
    VS P.length b0 (w.heap.size + 1) (w.heap.size + 1 + 1) A (fun _ => false) (fun _ => false) (fun _ _ => false) ((inhW w N).setCell ⟨w.heap.size + 1 + 1 + 1, 0, none⟩ (visitF w.heap.size)) ((inhW w N).setCell ⟨w.heap.size + 1 + 1 + 1, 0, none⟩ (visitF w.heap.size)) := by
  have hB : Below w.heap.size w ((inhW w N).setCell ⟨w.heap.size + 1 + 1 + 1, 0, none⟩ (visitF w.heap.size)) := (inhW_below w N).setCell (p := ⟨w.heap.size + 1 + 1 + 1, 0, none⟩) (show w.heap.size ≤ w.heap.size + 1 + 1 + 1 by omega) _
  have hN : N < w.heap.size := block_there h0
  refine ⟨⟨hok, hlen, hsh, by omega, by omega, hbA, Nat.le_trans hb hB.size, by omega, by omega, by omega, ⟨by omega, by omega, by omega⟩, ⟨by omega, by omega, by omega⟩, ⟨by omega, by omega, hNA⟩, ?_, (inhW_last w N).set_same.1, (hB.cell (p := ⟨N, 0, none⟩) hN).trans h0, (hB.cell (p := ⟨N, 1, none⟩) hN).trans h1, ?_⟩, ⟨Below.refl _ _, fun _ _ _ => rfl, fun i hi => ?_, fun i hi => ?_, fun c hc d hd => (hT c hc d hd).below hB⟩⟩
  · rw [World.cell?_setCell_other _ _ _ _ (fun e => by injection e; omega)]
    exact inhW_t w N
  · exact (hL.mono fun b hb h => ⟨by omega, by omega, h⟩).keep hB.size fun b _ hb => hB.block b hb
  · exact (inhW_e w N hi).set_other (.inl (by omega))
  · exact (inhW_l w N hi).set_other (.inl (by omega))

/-- What inherit leaves. -/
def InhPost (P : List (List Int)) (b0 A : Nat) (w : World) (x : Ending) (w' : World) : Prop :=
  ∃ b : Bool, x = .returned (.bool b) ∧ Below b0 w w' ∧ (∀ k, k < w.heap.size → k ≠ A → w'.heap[k]? = w.heap[k]?) ∧ (b = true → ¬ Tx.Cyc P ∧ ∀ c, c < P.length → w'.rangeAt A (c * 64) (bl (Tx.inh P c))) ∧ (b = false → Tx.Cyc P)

theorem dfs_none (P : List (List Int)) : Tx.Dfs P (fun _ => false) (fun _ => false) (fun _ _ => false) := ⟨fun _ h => (by cases h), fun _ h => (by cases h), fun _ h => (by cases h), fun _ h => (by cases h), fun _ h => (by cases h)⟩

theorem inh_end {P : List (List Int)} {b0 e l A : Nat} {E L : Nat → Bool} {F : Nat → Nat → Bool} {w W0 W : World} (hB : Below b0 w W0) (hK : ∀ k, k < w.heap.size → W0.heap[k]? = w.heap[k]?) (hs : w.heap.size ≤ W0.heap.size) (he : w.heap.size ≤ e) (hl : w.heap.size ≤ l) (hv : VS P.length b0 e l A E L F W0 W) :
    Below b0 w W ∧ ∀ k, k < w.heap.size → k ≠ A → W.heap[k]? = w.heap[k]? :=
  ⟨hB.trans hv.base, fun k hk hA => (hv.rest k (by omega) ⟨by omega, by omega, hA⟩).trans (hK k hk)⟩

set_option maxHeartbeats 8000000 in
set_option maxRecDepth 100000 in
theorem inherit_any (P : List (List Int)) (b0 N A pc ac : Nat) (pa : Option Addr) (w : World) (hok : Tx.okAll P.length P = true) (hlen : P.length ≤ 64) (hsh : ∀ c, (Tx.row P c).length ≤ 100000) (hb : b0 ≤ w.heap.size) (hbA : b0 ≤ A) (hA : A < w.heap.size) (hNA : N ≠ A)
    (h0 : w.cell? ⟨N, 0, none⟩ = some (.slice pa P.length pc)) (h1 : w.cell? ⟨N, 1, none⟩ = some (.slice (some ⟨A, 0, none⟩) P.length ac)) (hL : LIn (fun b => b ≠ A) w (.slice pa P.length pc) P)
    (hT : ∀ c, c < P.length → ∀ d, d < 64 → Cel w A (c * 64 + d) (.bool false)) :
    Calls Try.prog 40 #[.pointer (some ⟨N, 0, none⟩)] w (InhPost P b0 A w) := by
  obtain ⟨hf, hv⟩ := inh_start P b0 N A pc ac pa w hok hlen hsh hb hbA hA hNA h0 h1 hL hT
  have hBw : Below w.heap.size w ((inhW w N).setCell ⟨w.heap.size + 1 + 1 + 1, 0, none⟩ (visitF w.heap.size)) := (inhW_below w N).setCell (p := ⟨w.heap.size + 1 + 1 + 1, 0, none⟩) (show w.heap.size ≤ w.heap.size + 1 + 1 + 1 by omega) _
  have HK := Lib.hid hBw.block
  have HSZ := Lib.hid hBw.size
  have HB0 := Lib.hid (hBw.mono hb)
  have hla := inhW_last w N
  have kv := visit_any P b0 _ _ _ _ N A pa pc ac _ hf
  have HF := Lib.hid hf
  have HV := Lib.hid hv
  have KV := Lib.hid kv
  have HDN := Lib.hid (dfs_none P)
  clear hf hv hBw kv hok hsh hb hbA hA hNA h0 h1 hL hT
  have hst : (store ⟨w.heap.size + 1 + 1 + 1, 0, none⟩ (visitF w.heap.size)).run Try.prog (inhW w N) = .ok () ((inhW w N).setCell ⟨w.heap.size + 1 + 1 + 1, 0, none⟩ (visitF w.heap.size)) := by
    rw [run_store _ _ _ _ _ rfl, hla.1, hla.2]; rfl
  generalize (inhW w N).setCell ⟨w.heap.size + 1 + 1 + 1, 0, none⟩ (visitF w.heap.size) = W0 at *
  unfold visitF at hst
  clear hla
  go_enter Try.func40, Try.ntmps40
  go_upto_region 3 with (fail)
  change Code.wp _ _ _ _ (inhW w N)
  go_upto_region 4 with (fail)
  clear hst
  have ct := HV.out.cell HF.out.tbE HF.out.ctb
  have c0 := HV.out.cell HF.out.NE HF.out.cN0
  go_wp2
  clear ct c0
  go_loopw [13] (fun i wr => ∃ k : Nat, k ≤ P.length ∧ i = .int .i64 k ∧ ∃ E L F, Hid (VS P.length b0 (w.heap.size + 1) (w.heap.size + 1 + 1) A E L F W0 wr) ∧ Hid (Tx.Dfs P E L F) ∧ Hid (∀ x, E x = true → L x = true) ∧ Hid (∀ j, j < k → L j = true)) (fun i _ => P.length - (intOf i).toNat)
  case atStart => exact ⟨0, Nat.zero_le _, rfl, _, _, _, HV, HDN, Lib.hid fun _ h => h, Lib.hid fun j hj => by omega⟩
  case round =>
    obtain ⟨k, hk, rfl, E, L, F, hVk, hDk, hSk, hLk⟩ := hrel
    by_cases hlt : k < P.length
    · have hvb := hVk.out.cell HF.out.vbE HF.out.cvb
      have k1 := Lib.hid (KV.out (Tx.left E P.length + 1) k E L F wr hVk.out hDk.out (fun x h1 h2 => by rw [hSk.out x h1] at h2; cases h2) hlt (Nat.lt_succ_self _))
      have hki : (k : Int) < P.length := by omega
      have hk2 : (P.length : Int) ≤ 64 := by omega
      go_wp2_with fail
      refine (k1.out).mono ?_
      rintro x w2 ⟨b2, E2, L2, F2, rfl, hV2, hT, hFa⟩
      have HT := Lib.hid hT
      have HFa := Lib.hid hFa
      have HV2 := Lib.hid hV2
      clear hT hFa hV2
      cases b2
      case false =>
        go_wp2
        go_ret
        obtain ⟨e1, e2⟩ := inh_end HB0.out HK.out HSZ.out (by omega) (by omega) HV2.out
        exact ⟨false, rfl, e1, e2, fun h => (by cases h), fun _ => HFa.out (by first | rfl | trivial)⟩
      case true =>
        go_wp2
        go_roundw
        case rel =>
          have hT := HT.out (by first | rfl | trivial)
          refine ⟨k + 1, by omega, by go_num, E2, L2, F2, HV2, Lib.hid hT.1.dfs, Lib.hid fun x hx => ?_, Lib.hid fun j hj => ?_⟩
          · cases h : L2 x with
            | true => rfl
            | false =>
              have := hT.1.stack x hx h
              rw [hSk.out x this.1] at this
              cases this.2
          · by_cases e : j = k
            · subst e; exact hT.2
            · exact hT.1.mono j (hLk.out j (by omega))
        case measure => simp [intOf]; omega
    · have hkn : k = P.length := by omega
      have hki : (P.length : Int) ≤ (k : Int) := by omega
      have HKN := Lib.hid hkn
      clear hkn
      go_wp2
      go_ret
      obtain ⟨e1, e2⟩ := inh_end HB0.out HK.out HSZ.out (by omega) (by omega) hVk.out
      have hall : ∀ c, c < P.length → L c = true := fun c hc => hLk.out c (by rw [HKN.out]; exact hc)
      refine ⟨true, rfl, e1, e2, fun _ => ⟨hDk.out.all hall, fun c hc j v hj => ?_⟩, fun h => (by cases h)⟩
      have hj64 : j < 64 := by rw [← bl_len (Tx.inh P c)]; exact (List.getElem?_eq_some_iff.1 hj).1
      rw [(bits_bl _).2 j hj64] at hj
      cases hj
      rw [(hVk.out.tab c hc j hj64).1, hDk.out.tab c (hall c hc) j hj64]

end Go.Proofs.Ytidnllddhhllcaa
