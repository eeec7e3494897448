import Derived.Test.YtgnloodmbgdgdaaGreatFB05
namespace Go.Proofs.YtgnloodmbgdgdaaGreat
open Go.RowKit Go.Shelf
def VPost (P : List (List Int)) (b0 e l A : Nat) (c : Nat) (E L : Nat → Bool) (w0 : World) (x : Ending) (w' : World) : Prop :=
 ∃ (b : Bool) (E' L' : Nat → Bool) (F' : Nat → Nat → Bool), x = .returned (.bool b) ∧ VS P.length b0 e l A E' L' F' w0 w' ∧ (b = true → Tx.Went P E L E' L' F' ∧ L' c = true) ∧ (b = false → Tx.Cyc P)
theorem collect_vs {P : List (List Int)} {b0 e l tb vb N A pc ac nj cj : Nat} {pa aj : Option Addr} {Ek Lk L' : Nat → Bool} {Fk : Nat → Nat → Bool} {w0 : World} (hf : VF P b0 e l tb vb N A pa pc ac w0) (hd : Tx.Dfs P Ek Lk Fk) {c : Nat} (hc : c < P.length) (hall : ∀ q : Nat, (q : Int) ∈ Tx.row P c → Lk q = true)
  (he : EIn (fun b => b ≠ e ∧ b ≠ l ∧ b ≠ A) w0 (.slice aj nj cj) (Tx.row P c)) {W : World} (hv : VS P.length b0 e l A Ek L' Fk w0 W) :
  Calls Tryz.prog 151 #[.pointer (some ⟨N, 0, none⟩), .slice aj nj cj] W fun e w' => e = .returned (.agg (bl (anyB (Tx.inh P) (Tx.row P c))).toArray) ∧ Below W.heap.size W w' := by
 refine collect_any N A P.length ac _ (Tx.row P c) (Tx.inh P) W (hv.cell hf.NE hf.cN1) (fun z hz => Tx.ok_row hf.ok hz) hf.len ?_ (fun z hz j v hj => ?_) (fun x _ c _ hxc d hcd => Tx.inh_eq.2 ((Tx.inh_eq.1 hxc).trans (Tx.inh_eq.1 hcd))) ((he.keep hv.base.size fun b hb hs => hv.rest b hs hb).els) (hf.short c)
 ·exact block_there (hv.tab c hc 0 (by omega)).1
 ·have hzr := Tx.ok_row hf.ok hz
  obtain ⟨q, rfl⟩ := Int.eq_ofNat_of_zero_le hzr.1
  have hq : q < P.length := by omega
  have hj64 : j < 64 := by rw [← bl_len (Tx.inh P (q : Int).toNat)]; exact (List.getElem?_eq_some_iff.1 hj).1
  rw [(bits_bl _).2 j hj64] at hj
  cases hj
  have := (hv.tab q hq j hj64).1
  rw [hd.tab q (hall q hz) j hj64] at this
  exact this
theorem row_inh {P : List (List Int)} (ok : Tx.okAll P.length P = true) (c : Nat) : ∀ d, d < 64 → Tx.put (anyB (Tx.inh P) (Tx.row P c)) c d = Tx.inh P c d := by
 intro d _
 by_cases e : d = c
 ·subst e
  rw [Tx.put_same]
  exact (Tx.inh_eq.2 (.refl d)).symm
 ·rw [Tx.put_other e]
  apply Bool.eq_iff_iff.2
  rw [Tx.inh_eq]
  unfold anyB
  rw [List.any_eq_true]
  constructor
  ·rintro ⟨z, hz, hi⟩
   have hz0 := (Tx.ok_row ok hz).1
   obtain ⟨p, rfl⟩ := Int.eq_ofNat_of_zero_le hz0
   exact .step hz (Tx.inh_eq.1 hi)
  ·intro h
   rcases h.cases' with h | ⟨p, hp, hi⟩
   ·exact absurd h.symm e
   ·exact ⟨(p : Int), hp, Tx.inh_eq.2 hi⟩
theorem setRow_twice (F : Nat → Nat → Bool) (f : Nat → Bool) (c : Nat) : Tx.setRow (Tx.setRow F c f) c (Tx.put (Tx.setRow F c f c) c) = Tx.setRow F c (Tx.put f c) := by
 funext x
 unfold Tx.setRow
 by_cases e : x = c
 ·subst e; simp
 ·simp [e]
theorem VS.there {n b0 e l A : Nat} {E L : Nat → Bool} {F : Nat → Nat → Bool} {w0 W : World} (hv : VS n b0 e l A E L F w0 W) {c : Nat} (hc : c < n) : W.there A (c * 64) 64 := fun j hj =>
 ⟨by rw [(hv.tab c hc j hj).1]; rfl, (hv.tab c hc j hj).2⟩
set_option maxHeartbeats 8000000 in
set_option maxRecDepth 100000 in
theorem visit_any (P : List (List Int)) (b0 e l tb vb N A : Nat) (pa : Option Addr) (pc ac : Nat) (w0 : World) (hf : VF P b0 e l tb vb N A pa pc ac w0) :
  ∀ (m : Nat) (c : Nat) (E L : Nat → Bool) (F : Nat → Nat → Bool) (w : World), VS P.length b0 e l A E L F w0 w → Tx.Dfs P E L F → Tx.Stack P E L c → c < P.length → Tx.left E P.length < m →
   Calls Tryz.prog 150 #[.int .i64 (c : Int), .pointer (some ⟨e, 0, none⟩), .pointer (some ⟨l, 0, none⟩), .pointer (some ⟨tb, 0, none⟩), .pointer (some ⟨vb, 0, none⟩)] w (VPost P b0 e l A c E L w0)
 | 0, _, _, _, _, _, _, _, _, _, h => by omega
 | m + 1, c, E, L, F, w, hv, hd, hs, hc, hm => by
  have ih := fun c E L F w h1 h2 h3 h4 h5 => visit_any P b0 e l tb vb N A pa pc ac w0 hf m c E L F w h1 h2 h3 h4 h5
  have IH := Lib.hid ih
  have HF := Lib.hid hf
  have hc64 : c < 64 := Nat.lt_of_lt_of_le hc hf.len
  have hci : (c : Int) < 64 := by omega
  have hec := hv.ent c hc64
  have hlc := hv.lft c hc64
  have HV := Lib.hid hv
  have HD := Lib.hid hd
  have HS := Lib.hid hs
  have HM := Lib.hid hm
  have HCn := Lib.hid hc
  clear ih hf hv hd hs hm
  by_cases hE : E c = true
  ·rw [hE] at hec
   have hec := hec.1
   by_cases hL : L c = true
   ·rw [hL] at hlc
    have hlc := hlc.1
    go_enter Tryz.func150, Tryz.ntmps150
    go_wp2
    go_ret
    exact ⟨true, E, L, F, rfl, HV.out, fun _ => ⟨.refl HD.out, hL⟩, fun h => (by cases h)⟩
   ·have hL' : L c = false := by simpa using hL
    rw [hL'] at hlc
    have hlc := hlc.1
    go_enter Tryz.func150, Tryz.ntmps150
    go_wp2
    go_ret
    exact ⟨false, E, L, F, rfl, HV.out, fun h => (by cases h), fun _ => (HS.out c hE hL').elim fun p hp => ⟨c, p, hp.1, hp.2⟩⟩
  ·have hE' : E c = false := by simpa using hE
   have hL' : L c = false := by
    cases h : L c with
    | false => rfl
    | true => exact absurd (HD.out.le c h) hE
   have HE' := Lib.hid hE'
   have HL' := Lib.hid hL'
   rw [hE'] at hec
   obtain ⟨hec, hef⟩ := hec
   have hv1 := HV.out.setE HF.out hc64
   have hd1 := HD.out.enter HCn.out
   have hleft := Tx.left_put hE' P.length HCn.out
   have HLE := Lib.hid hleft
   have HD1 := Lib.hid hd1
   clear hE hE' hL' hlc hd1 hleft
   go_enter Tryz.func150, Tryz.ntmps150
   go_upto_region 4 with (fail)
   generalize w.setCell ⟨e, c, none⟩ (.bool true) = w1 at *
   have HV1 := Lib.hid hv1
   clear hec hef hv1
   have ct := HV1.out.cell HF.out.tbE HF.out.ctb
   have cn := HV1.out.cell HF.out.NE HF.out.cN0
   obtain ⟨b, aj, nj, cj, rfl, hrow0, hER, hnj, hSb⟩ := HF.out.lists.at c HCn.out
   have hrow := HV1.out.cell hSb hrow0
   have hpl : (c : Int) < P.length := by have := HCn.out; omega
   have HER := Lib.hid hER
   have HNJ := Lib.hid hnj
   have hnl : nj ≤ 100000 := by rw [hnj]; exact HF.out.short c
   have HSb := Lib.hid hSb
   have HR0 := Lib.hid hrow0
   clear hER hnj hSb hrow0
   go_wp2
   clear ct cn hrow
   go_loopw [25] (fun i wr => ∃ k : Nat, k ≤ nj ∧ i = .int .i64 k ∧ ∃ Ek Lk Fk, Hid (VS P.length b0 e l A Ek Lk Fk w0 wr) ∧ Hid (Tx.Went P (Tx.put E c) L Ek Lk Fk) ∧ Hid (∀ j, j < k → ∀ p : Nat, (Tx.row P c)[j]?.getD 0 = (p : Int) → Lk p = true)) (fun i _ => nj - (intOf i).toNat)
   case atStart => exact ⟨0, Nat.zero_le _, rfl, _, _, _, HV1, Lib.hid (.refl HD1.out), Lib.hid fun j hj => by omega⟩
   case round =>
    obtain ⟨k, hk, rfl, Ek, Lk, Fk, hVk, hWk, hLk⟩ := hrel
    by_cases hlt : k < nj
    ·have hels := (HER.out.keep hVk.out.base.size fun b hb hs => hVk.out.rest b hs hb).els
     obtain ⟨b1, off, rfl, hcl⟩ := hels.at k hlt
     have hmem : (Tx.row P c)[k]?.getD 0 ∈ Tx.row P c := by rw [List.getElem?_eq_getElem (by rw [← HNJ.out]; exact hlt)]; exact List.getElem_mem _
     have hrk := Tx.ok_row HF.out.ok hmem
     obtain ⟨p, hp⟩ := Int.eq_ofNat_of_zero_le hrk.1
     have hlk' : ∀ L2 : Nat → Bool, (∀ x, Lk x = true → L2 x = true) → L2 p = true → ∀ j, j < k + 1 → ∀ q : Nat, (Tx.row P c)[j]?.getD 0 = (q : Int) → L2 q = true := fun L2 h1 h2 j hj q hq => by
      by_cases e : j = k
      ·subst e
       rw [hp] at hq
       have : p = q := by omega
       rw [← this]; exact h2
      ·exact h1 q (hLk.out j (by omega) q hq)
     rw [hp] at hcl hmem hrk
     have hpn : p < P.length := by omega
     have hvb := hVk.out.cell HF.out.vbE HF.out.cvb
     have hle := Tx.left_mono hWk.out.more P.length
     have k1 := Lib.hid (IH.out p Ek Lk Fk wr hVk.out hWk.out.dfs (HS.out.parent hWk.out hmem) hpn (by have := HM.out; have := HLE.out; omega))
     have HLK := Lib.hid hlk'
     clear hels hmem hrk hp hpn hle hlk'
     go_wp2_with fail
     refine (k1.out).mono ?_
     rintro x w2 ⟨b2, E2, L2, F2, rfl, hV2, hT, hFa⟩
     have HT := Lib.hid hT
     have HFa := Lib.hid hFa
     have HV2 := Lib.hid hV2
     clear hT hFa hV2
     cases b2
     case false =>
      go_wp2
      go_ret
      exact ⟨false, E2, L2, F2, rfl, HV2.out, fun h => (by cases h), fun _ => HFa.out (by first | rfl | trivial)⟩
     case true =>
      go_wp2
      go_roundw
      case rel => exact ⟨k + 1, by omega, by go_num, E2, L2, F2, HV2, Lib.hid (hWk.out.trans (HT.out (by first | rfl | trivial)).1), Lib.hid (HLK.out L2 (HT.out (by first | rfl | trivial)).1.mono (HT.out (by first | rfl | trivial)).2)⟩
      case measure => simp [intOf]; omega
    ·have hkn : k = nj := by omega
     subst hkn
     have hflc := hVk.out.lft c hc64
     have hv3 := hVk.out.setL HF.out hc64
     obtain ⟨hflc, hfr⟩ := hflc
     go_upto_region 11 with (fail)
     generalize wr.setCell ⟨l, c, none⟩ (.bool true) = w3 at *
     have HV3 := Lib.hid hv3
     clear hflc hfr hv3
     have hn64 := HF.out.len
     have hall : ∀ q : Nat, (q : Int) ∈ Tx.row P c → Lk q = true := fun q hq => by
      obtain ⟨j, hj, he⟩ := List.getElem_of_mem hq
      exact hLk.out j (by rw [HNJ.out]; exact hj) q (by rw [List.getElem?_eq_getElem hj, he]; rfl)
     have HALL := Lib.hid hall
     have kc := fun (W : World) (hB : Below w3.heap.size w3 W) => collect_vs HF.out hWk.out.dfs HCn.out hall HER.out (HV3.out.below HF.out.bs hB)
     have ct := HV3.out.cell HF.out.tbE HF.out.ctb
     have c0 := HV3.out.cell HF.out.NE HF.out.cN0
     have c1 := HV3.out.cell HF.out.NE HF.out.cN1
     have hrow := HV3.out.cell HSb.out HR0.out
     have hVX := fun (W : World) (hB : Below w3.heap.size w3 W) => VS.setRow HF.out (HV3.out.below HF.out.bs hB) HCn.out (anyB (Tx.inh P) (Tx.row P c))
     have hth := fun (W : World) (hB : Below w3.heap.size w3 W) => (HV3.out.below HF.out.bs hB).there HCn.out
     have hb1 := bl_one (anyB (Tx.inh P) (Tx.row P c))
     have hb2 := bl_len (anyB (Tx.inh P) (Tx.row P c))
     have hb3 := Tryz.infoBits
     have HTH := Lib.hid hth
     clear hall
     generalize hbl : bl (anyB (Tx.inh P) (Tx.row P c)) = bs at *
     have KC := Lib.hid kc
     have HVX := Lib.hid hVX
     clear kc hVX hth hbl
     go_cut [] (fun wx => VS P.length b0 e l A Ek (Tx.put Lk c) (Tx.setRow Fk c (anyB (Tx.inh P) (Tx.row P c))) w0 wx)
     case first =>
      have hSd : Since w3 w3.drew := Below.drew (Below.refl _ _)
      go_region_held3 (fun x => x.cell? ⟨tb, 0, none⟩ = some (.pointer (some ⟨N, 0, none⟩)) ∧ x.cell? ⟨N, 0, none⟩ = some (.slice (some ⟨b, 0, none⟩) P.length pc) ∧ x.cell? ⟨N, 1, none⟩ = some (.slice (some ⟨A, 0, none⟩) P.length ac) ∧ x.cell? ⟨b, c, none⟩ = some (.slice aj k cj) ∧ (Since w3 x ∨ VS P.length b0 e l A Ek (Tx.put Lk c) (Tx.setRow Fk c (anyB (Tx.inh P) (Tx.row P c))) w0 x))
       (first | exact ⟨ct, c0, c1, hrow, .inl hSd⟩ | (with_reducible exact ⟨Since.cell hB ct, Since.cell hB c0, Since.cell hB c1, Since.cell hB hrow, .inl hB⟩) | (with_reducible exact ⟨hVW.out.cell HF.out.tbE HF.out.ctb, hVW.out.cell HF.out.NE HF.out.cN0, hVW.out.cell HF.out.NE HF.out.cN1, hVW.out.cell HSb.out HR0.out, .inr hVW.out⟩))
       ((go_at_call 151; refine (KC.out _ hSd).mono ?_; rintro x w' ⟨rfl, hr⟩; have hB := Since.step hSd hr; clear hr; have hth := HTH.out _ hB; have hVW := Lib.hid (HVX.out _ hB)))
      all_goals (go_wp2_with fail; go_meet; exact hVW.out)
     case rest =>
      have HV4 := Lib.hid hcut
      clear hcut ct c0 c1 hrow hb1 hb2 hb3
      rename World => w4
      have ct := HV4.out.cell HF.out.tbE HF.out.ctb
      have c1 := HV4.out.cell HF.out.NE HF.out.cN1
      have hcc := HV4.out.tab c HCn.out c hc64
      obtain ⟨hcc, hfc⟩ := hcc
      have hv5 := HV4.out.setOne HF.out HCn.out hc64
      have hw := Tx.Went.leave HE'.out hWk.out HL'.out HCn.out HALL.out (Tx.put (anyB (Tx.inh P) (Tx.row P c)) c) (row_inh HF.out.ok c)
      rw [setRow_twice] at hv5
      go_wp2
      generalize w4.setCell ⟨A, c * 64 + c, none⟩ (.bool true) = w5 at *
      go_ret
      exact ⟨true, Ek, Tx.put Lk c, _, rfl, hv5, fun _ => ⟨hw, Tx.put_same _ _⟩, fun h => (by cases h)⟩
end Go.Proofs.YtgnloodmbgdgdaaGreat
namespace Go.Proofs.YtgnloodmbgdgdaaGreat
open Go.RowKit Go.Shelf
def inhW (w : World) (N : Nat) : World := (arr (arr (w.alloc (.cells #[.pointer (some ⟨N, 0, none⟩)] 33)) fun _ => false) fun _ => false).alloc (.cells #[.nilFunc] 124)
def visitF (s : Nat) : Value := .func (.func 150) #[] #[.pointer (some ⟨s + 1, 0, none⟩), .pointer (some ⟨s + 1 + 1, 0, none⟩), .pointer (some ⟨s, 0, none⟩), .pointer (some ⟨s + 1 + 1 + 1, 0, none⟩)]
theorem inhW_below (w : World) (N : Nat) : Below w.heap.size w (inhW w N) := by
 unfold inhW arr
 exact ((((Below.refl _ w).alloc (Nat.le_refl _) _).alloc (by simp) _).alloc (by simp; omega) _).alloc (by simp; omega) _
theorem inhW_last (w : World) (N : Nat) : Cel (inhW w N) (w.heap.size + 1 + 1 + 1) 0 .nilFunc := by
 have h := cell_new_l (arr (arr (w.alloc (.cells #[.pointer (some ⟨N, 0, none⟩)] 33)) fun _ => false) fun _ => false) .nilFunc 124
 have e : (arr (arr (w.alloc (.cells #[.pointer (some ⟨N, 0, none⟩)] 33)) fun _ => false) fun _ => false).heap.size = w.heap.size + 1 + 1 + 1 := by simp [arr]
 rw [e] at h
 exact h
theorem inhW_e (w : World) (N : Nat) {i : Nat} (hi : i < 64) : Cel (inhW w N) (w.heap.size + 1) i (.bool false) := by
 obtain ⟨h1, h2⟩ := arr_cell (w.alloc (.cells #[.pointer (some ⟨N, 0, none⟩)] 33)) (fun _ => false) hi
 have e : (w.alloc (.cells #[.pointer (some ⟨N, 0, none⟩)] 33)).heap.size = w.heap.size + 1 := by simp
 rw [e] at h1 h2
 have h3 := cell_alloc_l (.cells (bl fun _ => false).toArray 126) h1
 have h4 := frozen_alloc_l (.cells (bl fun _ => false).toArray 126) h1 h2
 exact ⟨cell_alloc_l _ h3, frozen_alloc_l _ h3 h4⟩
theorem inhW_l (w : World) (N : Nat) {i : Nat} (hi : i < 64) : Cel (inhW w N) (w.heap.size + 1 + 1) i (.bool false) := by
 obtain ⟨h1, h2⟩ := arr_cell (arr (w.alloc (.cells #[.pointer (some ⟨N, 0, none⟩)] 33)) fun _ => false) (fun _ => false) hi
 have e : (arr (w.alloc (.cells #[.pointer (some ⟨N, 0, none⟩)] 33)) fun _ => false).heap.size = w.heap.size + 1 + 1 := by simp [arr]
 rw [e] at h1 h2
 exact ⟨cell_alloc_l _ h1, frozen_alloc_l _ h1 h2⟩
theorem inhW_t (w : World) (N : Nat) : (inhW w N).cell? ⟨w.heap.size, 0, none⟩ = some (.pointer (some ⟨N, 0, none⟩)) :=
 cell_alloc_l _ (cell_alloc_l _ (cell_alloc_l _ (cell_new_l w (.pointer (some ⟨N, 0, none⟩)) 33).1))
theorem inh_start (P : List (List Int)) (b0 N A pc ac : Nat) (pa : Option Addr) (w : World) (hok : Tx.okAll P.length P = true) (hlen : P.length ≤ 64) (hsh : ∀ c, (Tx.row P c).length ≤ 100000) (hb : b0 ≤ w.heap.size) (hbA : b0 ≤ A) (hA : A < w.heap.size) (hNA : N ≠ A)
  (h0 : w.cell? ⟨N, 0, none⟩ = some (.slice pa P.length pc)) (h1 : w.cell? ⟨N, 1, none⟩ = some (.slice (some ⟨A, 0, none⟩) P.length ac)) (hL : LIn (fun b => b ≠ A) w (.slice pa P.length pc) P)
  (hT : ∀ c, c < P.length → ∀ d, d < 64 → Cel w A (c * 64 + d) (.bool false)) :
  VF P b0 (w.heap.size + 1) (w.heap.size + 1 + 1) w.heap.size (w.heap.size + 1 + 1 + 1) N A pa pc ac ((inhW w N).setCell ⟨w.heap.size + 1 + 1 + 1, 0, none⟩ (visitF w.heap.size)) ∧
  VS P.length b0 (w.heap.size + 1) (w.heap.size + 1 + 1) A (fun _ => false) (fun _ => false) (fun _ _ => false) ((inhW w N).setCell ⟨w.heap.size + 1 + 1 + 1, 0, none⟩ (visitF w.heap.size)) ((inhW w N).setCell ⟨w.heap.size + 1 + 1 + 1, 0, none⟩ (visitF w.heap.size)) := by
 have hB : Below w.heap.size w ((inhW w N).setCell ⟨w.heap.size + 1 + 1 + 1, 0, none⟩ (visitF w.heap.size)) := (inhW_below w N).setCell (p := ⟨w.heap.size + 1 + 1 + 1, 0, none⟩) (show w.heap.size ≤ w.heap.size + 1 + 1 + 1 by omega) _
 have hN : N < w.heap.size := block_there h0
 refine ⟨⟨hok, hlen, hsh, by omega, by omega, hbA, Nat.le_trans hb hB.size, by omega, by omega, by omega, ⟨by omega, by omega, by omega⟩, ⟨by omega, by omega, by omega⟩, ⟨by omega, by omega, hNA⟩, ?_, (inhW_last w N).set_same.1, (hB.cell (p := ⟨N, 0, none⟩) hN).trans h0, (hB.cell (p := ⟨N, 1, none⟩) hN).trans h1, ?_⟩, ⟨Below.refl _ _, fun _ _ _ => rfl, fun i hi => ?_, fun i hi => ?_, fun c hc d hd => (hT c hc d hd).below hB⟩⟩
 ·rw [World.cell?_setCell_other _ _ _ _ (fun e => by injection e; omega)]
  exact inhW_t w N
 ·exact (hL.mono fun b hb h => ⟨by omega, by omega, h⟩).keep hB.size fun b _ hb => hB.block b hb
 ·exact (inhW_e w N hi).set_other (.inl (by omega))
 ·exact (inhW_l w N hi).set_other (.inl (by omega))
def InhPost (P : List (List Int)) (b0 A : Nat) (w : World) (x : Ending) (w' : World) : Prop :=
 ∃ b : Bool, x = .returned (.bool b) ∧ Below b0 w w' ∧ (∀ k, k < w.heap.size → k ≠ A → w'.heap[k]? = w.heap[k]?) ∧ (b = true → ¬ Tx.Cyc P ∧ ∀ c, c < P.length → w'.rangeAt A (c * 64) (bl (Tx.inh P c))) ∧ (b = false → Tx.Cyc P)
theorem dfs_none (P : List (List Int)) : Tx.Dfs P (fun _ => false) (fun _ => false) (fun _ _ => false) := ⟨fun _ h => (by cases h), fun _ h => (by cases h), fun _ h => (by cases h), fun _ h => (by cases h), fun _ h => (by cases h)⟩
theorem inh_end {P : List (List Int)} {b0 e l A : Nat} {E L : Nat → Bool} {F : Nat → Nat → Bool} {w W0 W : World} (hB : Below b0 w W0) (hK : ∀ k, k < w.heap.size → W0.heap[k]? = w.heap[k]?) (hs : w.heap.size ≤ W0.heap.size) (he : w.heap.size ≤ e) (hl : w.heap.size ≤ l) (hv : VS P.length b0 e l A E L F W0 W) :
  Below b0 w W ∧ ∀ k, k < w.heap.size → k ≠ A → W.heap[k]? = w.heap[k]? :=
 ⟨hB.trans hv.base, fun k hk hA => (hv.rest k (by omega) ⟨by omega, by omega, hA⟩).trans (hK k hk)⟩
set_option maxHeartbeats 8000000 in
set_option maxRecDepth 100000 in
theorem inherit_any (P : List (List Int)) (b0 N A pc ac : Nat) (pa : Option Addr) (w : World) (hok : Tx.okAll P.length P = true) (hlen : P.length ≤ 64) (hsh : ∀ c, (Tx.row P c).length ≤ 100000) (hb : b0 ≤ w.heap.size) (hbA : b0 ≤ A) (hA : A < w.heap.size) (hNA : N ≠ A)
  (h0 : w.cell? ⟨N, 0, none⟩ = some (.slice pa P.length pc)) (h1 : w.cell? ⟨N, 1, none⟩ = some (.slice (some ⟨A, 0, none⟩) P.length ac)) (hL : LIn (fun b => b ≠ A) w (.slice pa P.length pc) P)
  (hT : ∀ c, c < P.length → ∀ d, d < 64 → Cel w A (c * 64 + d) (.bool false)) :
  Calls Tryz.prog 97 #[.pointer (some ⟨N, 0, none⟩)] w (InhPost P b0 A w) := by
 obtain ⟨hf, hv⟩ := inh_start P b0 N A pc ac pa w hok hlen hsh hb hbA hA hNA h0 h1 hL hT
 have hBw : Below w.heap.size w ((inhW w N).setCell ⟨w.heap.size + 1 + 1 + 1, 0, none⟩ (visitF w.heap.size)) := (inhW_below w N).setCell (p := ⟨w.heap.size + 1 + 1 + 1, 0, none⟩) (show w.heap.size ≤ w.heap.size + 1 + 1 + 1 by omega) _
 have HK := Lib.hid hBw.block
 have HSZ := Lib.hid hBw.size
 have HB0 := Lib.hid (hBw.mono hb)
 have hla := inhW_last w N
 have kv := visit_any P b0 _ _ _ _ N A pa pc ac _ hf
 have HF := Lib.hid hf
 have HV := Lib.hid hv
 have KV := Lib.hid kv
 have HDN := Lib.hid (dfs_none P)
 clear hf hv hBw kv hok hsh hb hbA hA hNA h0 h1 hL hT
 have hst : (store ⟨w.heap.size + 1 + 1 + 1, 0, none⟩ (visitF w.heap.size)).run Tryz.prog (inhW w N) = .ok () ((inhW w N).setCell ⟨w.heap.size + 1 + 1 + 1, 0, none⟩ (visitF w.heap.size)) := by
  rw [run_store _ _ _ _ _ rfl, hla.1, hla.2]; rfl
 generalize (inhW w N).setCell ⟨w.heap.size + 1 + 1 + 1, 0, none⟩ (visitF w.heap.size) = W0 at *
 unfold visitF at hst
 clear hla
 go_enter Tryz.func97, Tryz.ntmps97
 go_upto_region 3 with (fail)
 change Code.wp _ _ _ _ (inhW w N)
 go_upto_region 4 with (fail)
 clear hst
 have ct := HV.out.cell HF.out.tbE HF.out.ctb
 have c0 := HV.out.cell HF.out.NE HF.out.cN0
 go_wp2
 clear ct c0
 go_loopw [13] (fun i wr => ∃ k : Nat, k ≤ P.length ∧ i = .int .i64 k ∧ ∃ E L F, Hid (VS P.length b0 (w.heap.size + 1) (w.heap.size + 1 + 1) A E L F W0 wr) ∧ Hid (Tx.Dfs P E L F) ∧ Hid (∀ x, E x = true → L x = true) ∧ Hid (∀ j, j < k → L j = true)) (fun i _ => P.length - (intOf i).toNat)
 case atStart => exact ⟨0, Nat.zero_le _, rfl, _, _, _, HV, HDN, Lib.hid fun _ h => h, Lib.hid fun j hj => by omega⟩
 case round =>
  obtain ⟨k, hk, rfl, E, L, F, hVk, hDk, hSk, hLk⟩ := hrel
  by_cases hlt : k < P.length
  ·have hvb := hVk.out.cell HF.out.vbE HF.out.cvb
   have k1 := Lib.hid (KV.out (Tx.left E P.length + 1) k E L F wr hVk.out hDk.out (fun x h1 h2 => by rw [hSk.out x h1] at h2; cases h2) hlt (Nat.lt_succ_self _))
   have hki : (k : Int) < P.length := by omega
   have hk2 : (P.length : Int) ≤ 64 := by omega
   go_wp2_with fail
   refine (k1.out).mono ?_
   rintro x w2 ⟨b2, E2, L2, F2, rfl, hV2, hT, hFa⟩
   have HT := Lib.hid hT
   have HFa := Lib.hid hFa
   have HV2 := Lib.hid hV2
   clear hT hFa hV2
   cases b2
   case false =>
    go_wp2
    go_ret
    obtain ⟨e1, e2⟩ := inh_end HB0.out HK.out HSZ.out (by omega) (by omega) HV2.out
    exact ⟨false, rfl, e1, e2, fun h => (by cases h), fun _ => HFa.out (by first | rfl | trivial)⟩
   case true =>
    go_wp2
    go_roundw
    case rel =>
     have hT := HT.out (by first | rfl | trivial)
     refine ⟨k + 1, by omega, by go_num, E2, L2, F2, HV2, Lib.hid hT.1.dfs, Lib.hid fun x hx => ?_, Lib.hid fun j hj => ?_⟩
     ·cases h : L2 x with
      | true => rfl
      | false =>
       have := hT.1.stack x hx h
       rw [hSk.out x this.1] at this
       cases this.2
     ·by_cases e : j = k
      ·subst e; exact hT.2
      ·exact hT.1.mono j (hLk.out j (by omega))
    case measure => simp [intOf]; omega
  ·have hkn : k = P.length := by omega
   have hki : (P.length : Int) ≤ (k : Int) := by omega
   have HKN := Lib.hid hkn
   clear hkn
   go_wp2
   go_ret
   obtain ⟨e1, e2⟩ := inh_end HB0.out HK.out HSZ.out (by omega) (by omega) hVk.out
   have hall : ∀ c, c < P.length → L c = true := fun c hc => hLk.out c (by rw [HKN.out]; exact hc)
   refine ⟨true, rfl, e1, e2, fun _ => ⟨hDk.out.all hall, fun c hc j v hj => ?_⟩, fun h => (by cases h)⟩
   have hj64 : j < 64 := by rw [← bl_len (Tx.inh P c)]; exact (List.getElem?_eq_some_iff.1 hj).1
   rw [(bits_bl _).2 j hj64] at hj
   cases hj
   rw [(hVk.out.tab c hc j hj64).1, hDk.out.tab c (hall c hc) j hj64]
end Go.Proofs.YtgnloodmbgdgdaaGreat
