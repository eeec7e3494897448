/- Contracts of package taxon: the search for cycles. -/
import Derived.Test.YtidnllddhhllcaaTv
namespace Go.Proofs.Ytidnllddhhllcaa
open Go.RowKit Go.Shelf

/-- What a visit leaves. -/
def VPost (P : List (List Int)) (b0 e l A : Nat) (c : Nat) (E L : Nat → Bool) (w0 : World) (x : Ending) (w' : World) : Prop :=
  ∃ (b : Bool) (E' L' : Nat → Bool) (F' : Nat → Nat → Bool), x = .returned (.bool b) ∧ VS P.length b0 e l A E' L' F' w0 w' ∧ (b = true → Tx.Went P E L E' L' F' ∧ L' c = true) ∧ (b = false → Tx.Cyc P)

theorem collect_vs {P : List (List Int)} {b0 e l tb vb N A pc ac nj cj : Nat} {pa aj : Option Addr} {Ek Lk L' : Nat → Bool} {Fk : Nat → Nat → Bool} {w0 : World} (hf : VF P b0 e l tb vb N A pa pc ac w0) (hd : Tx.Dfs P Ek Lk Fk) {c : Nat} (hc : c < P.length) (hall : ∀ q : Nat, (q : Int) ∈ Tx.row P c → Lk q = true)
    (he : EIn (fun b => b ≠ e ∧ b ≠ l ∧ b ≠ A) w0 (.slice aj nj cj) (Tx.row P c)) {W : World} (hv : VS P.length b0 e l A Ek L' Fk w0 W) :
    Calls Try.prog 46 #[.pointer (some ⟨N, 0, none⟩), .slice aj nj cj] W fun e w' => e = .returned (.agg (bl (anyB (Tx.inh P) (Tx.row P c))).toArray) ∧ Below W.heap.size W w' := by
  refine collect_any N A P.length ac _ (Tx.row P c) (Tx.inh P) W (hv.cell hf.NE hf.cN1) (fun z hz => Tx.ok_row hf.ok hz) hf.len ?_ (fun z hz j v hj => ?_) (fun x _ c _ hxc d hcd => Tx.inh_eq.2 ((Tx.inh_eq.1 hxc).trans (Tx.inh_eq.1 hcd))) ((he.keep hv.base.size fun b hb hs => hv.rest b hs hb).els) (hf.short c)
  · exact block_there (hv.tab c hc 0 (by omega)).1
  · have hzr := Tx.ok_row hf.ok hz
    obtain ⟨q, rfl⟩ := Int.eq_ofNat_of_zero_le hzr.1
    have hq : q < P.length := by omega
    have hj64 : j < 64 := by rw [← bl_len (Tx.inh P (q : Int).toNat)]; exact (List.getElem?_eq_some_iff.1 hj).1
    rw [(bits_bl _).2 j hj64] at hj
    cases hj
    have := (hv.tab q hq j hj64).1
    rw [hd.tab q (hall q hz) j hj64] at this
    exact this

theorem row_inh {P : List (List Int)} (ok : Tx.okAll P.length P = true) (c : Nat) : ∀ d, d < 64 → Tx.put (anyB (Tx.inh P) (Tx.row P c)) c d = Tx.inh P c d := by
  intro d _
  by_cases e : d = c
  · subst e
    rw [Tx.put_same]
    exact (Tx.inh_eq.2 (.refl d)).symm
  · rw [Tx.put_other e]
    apply Bool.eq_iff_iff.2
    rw [Tx.inh_eq]
    unfold anyB
    rw [List.any_eq_true]
    constructor
    · rintro ⟨z, hz, hi⟩
      have hz0 := (Tx.ok_row ok hz).1
      obtain ⟨p, rfl⟩ := Int.eq_ofNat_of_zero_le hz0
      exact .step hz (Tx.inh_eq.1 hi)
    · intro h
      rcases h.cases' with h | ⟨p, hp, hi⟩
      · exact absurd h.symm e
      · exact ⟨(p : Int), hp, Tx.inh_eq.2 hi⟩

theorem setRow_twice (F : Nat → Nat → Bool) (f : Nat → Bool) (c : Nat) : Tx.setRow (Tx.setRow F c f) c (Tx.put (Tx.setRow F c f c) c) = Tx.setRow F c (Tx.put f c) := by
  funext x
  unfold Tx.setRow
  by_cases e : x = c
  · subst e; simp
  · simp [e]

theorem VS.there {n b0 e l A : Nat} {E L : Nat → Bool} {F : Nat → Nat → Bool} {w0 W : World} (hv : VS n b0 e l A E L F w0 W) {c : Nat} (hc : c < n) : W.there A (c * 64) 64 := fun j hj =>
  ⟨by rw [(hv.tab c hc j hj).1]; rfl, (hv.tab c hc j hj).2⟩

set_option maxHeartbeats 8000000 in
set_option maxRecDepth 100000 in
theorem visit_any (P : List (List Int)) (b0 e l tb vb N A : Nat) (pa : Option Addr) (pc ac : Nat) (w0 : World) (hf : VF P b0 e l tb vb N A pa pc ac w0) :
    ∀ (m : Nat) (c : Nat) (E L : Nat → Bool) (F : Nat → Nat → Bool) (w : World), VS P.length b0 e l A E L F w0 w → Tx.Dfs P E L F → Tx.Stack P E L c → c < P.length → Tx.left E P.length < m →
      Calls Try.prog 58 #[.int .i64 (c : Int), .pointer (some ⟨e, 0, none⟩), .pointer (some ⟨l, 0, none⟩), .pointer (some ⟨tb, 0, none⟩), .pointer (some ⟨vb, 0, none⟩)] w (VPost P b0 e l A c E L w0)
  | 0, _, _, _, _, _, _, _, _, _, h => by omega
  | m + 1, c, E, L, F, w, hv, hd, hs, hc, hm => by
    have ih := fun c E L F w h1 h2 h3 h4 h5 => visit_any P b0 e l tb vb N A pa pc ac w0 hf m c E L F w h1 h2 h3 h4 h5
    have IH := Lib.hid ih
    have HF := Lib.hid hf
    have hc64 : c < 64 := Nat.lt_of_lt_of_le hc hf.len
    have hci : (c : Int) < 64 := by omega
    have hec := hv.ent c hc64
    have hlc := hv.lft c hc64
    have HV := Lib.hid hv
    have HD := Lib.hid hd
    have HS := Lib.hid hs
    have HM := Lib.hid hm
    have HCn := Lib.hid hc
    clear ih hf hv hd hs hm
    by_cases hE : E c = true
    · rw [hE] at hec
      have hec := hec.1
      by_cases hL : L c = true
      · rw [hL] at hlc
        have hlc := hlc.1
        go_enter Try.func58, Try.ntmps58
        go_wp2
        go_ret
        exact ⟨true, E, L, F, rfl, HV.out, fun _ => ⟨.refl HD.out, hL⟩, fun h => (by cases h)⟩
      · have hL' : L c = false := by simpa using hL
        rw [hL'] at hlc
        have hlc := hlc.1
        go_enter Try.func58, Try.ntmps58
        go_wp2
        go_ret
        exact ⟨false, E, L, F, rfl, HV.out, fun h => (by cases h), fun _ => (HS.out c hE hL').elim fun p hp => ⟨c, p, hp.1, hp.2⟩⟩
    · have hE' : E c = false := by simpa using hE
      have hL' : L c = false := by
        cases h : L c with
        | false => rfl
        | true => exact absurd (HD.out.le c h) hE
      have HE' := Lib.hid hE'
      have HL' := Lib.hid hL'
      rw [hE'] at hec
      obtain ⟨hec, hef⟩ := hec
      have hv1 := HV.out.setE HF.out hc64
      have hd1 := HD.out.enter HCn.out
      have hleft := Tx.left_put hE' P.length HCn.out
      have HLE := Lib.hid hleft
      have HD1 := Lib.hid hd1
      clear hE hE' hL' hlc hd1 hleft
      go_enter Try.func58, Try.ntmps58
      go_upto_region 4 with (fail)
      generalize w.setCell ⟨e, c, none⟩ (.bool true) = w1 at *
      have HV1 := Lib.hid hv1
      clear hec hef hv1
      have ct := HV1.out.cell HF.out.tbE HF.out.ctb
      have cn := HV1.out.cell HF.out.NE HF.out.cN0
      obtain ⟨b, aj, nj, cj, rfl, hrow0, hER, hnj, hSb⟩ := HF.out.lists.at c HCn.out
      have hrow := HV1.out.cell hSb hrow0
      have hpl : (c : Int) < P.length := by have := HCn.out; omega
      have HER := Lib.hid hER
      have HNJ := Lib.hid hnj
      have hnl : nj ≤ 100000 := by rw [hnj]; exact HF.out.short c
      have HSb := Lib.hid hSb
      have HR0 := Lib.hid hrow0
      clear hER hnj hSb hrow0
      go_wp2
      clear ct cn hrow
      go_loopw [25] (fun i wr => ∃ k : Nat, k ≤ nj ∧ i = .int .i64 k ∧ ∃ Ek Lk Fk, Hid (VS P.length b0 e l A Ek Lk Fk w0 wr) ∧ Hid (Tx.Went P (Tx.put E c) L Ek Lk Fk) ∧ Hid (∀ j, j < k → ∀ p : Nat, (Tx.row P c)[j]?.getD 0 = (p : Int) → Lk p = true)) (fun i _ => nj - (intOf i).toNat)
      case atStart => exact ⟨0, Nat.zero_le _, rfl, _, _, _, HV1, Lib.hid (.refl HD1.out), Lib.hid fun j hj => by omega⟩
      case round =>
        obtain ⟨k, hk, rfl, Ek, Lk, Fk, hVk, hWk, hLk⟩ := hrel
        by_cases hlt : k < nj
        · have hels := (HER.out.keep hVk.out.base.size fun b hb hs => hVk.out.rest b hs hb).els
          obtain ⟨b1, off, rfl, hcl⟩ := hels.at k hlt
          have hmem : (Tx.row P c)[k]?.getD 0 ∈ Tx.row P c := by rw [List.getElem?_eq_getElem (by rw [← HNJ.out]; exact hlt)]; exact List.getElem_mem _
          have hrk := Tx.ok_row HF.out.ok hmem
          obtain ⟨p, hp⟩ := Int.eq_ofNat_of_zero_le hrk.1
          have hlk' : ∀ L2 : Nat → Bool, (∀ x, Lk x = true → L2 x = true) → L2 p = true → ∀ j, j < k + 1 → ∀ q : Nat, (Tx.row P c)[j]?.getD 0 = (q : Int) → L2 q = true := fun L2 h1 h2 j hj q hq => by
            by_cases e : j = k
            · subst e
              rw [hp] at hq
              have : p = q := by omega
              rw [← this]; exact h2
            · exact h1 q (hLk.out j (by omega) q hq)
          rw [hp] at hcl hmem hrk
          have hpn : p < P.length := by omega
          have hvb := hVk.out.cell HF.out.vbE HF.out.cvb
          have hle := Tx.left_mono hWk.out.more P.length
          have k1 := Lib.hid (IH.out p Ek Lk Fk wr hVk.out hWk.out.dfs (HS.out.parent hWk.out hmem) hpn (by have := HM.out; have := HLE.out; omega))
          have HLK := Lib.hid hlk'
          clear hels hmem hrk hp hpn hle hlk'
          go_wp2_with fail
          refine (k1.out).mono ?_
          rintro x w2 ⟨b2, E2, L2, F2, rfl, hV2, hT, hFa⟩
          have HT := Lib.hid hT
          have HFa := Lib.hid hFa
          have HV2 := Lib.hid hV2
          clear hT hFa hV2
          cases b2
          case false =>
            go_wp2
            go_ret
            exact ⟨false, E2, L2, F2, rfl, HV2.out, fun h => (by cases h), fun _ => HFa.out (by first | rfl | trivial)⟩
          case true =>
            go_wp2
            go_roundw
            case rel => exact ⟨k + 1, by omega, by go_num, E2, L2, F2, HV2, Lib.hid (hWk.out.trans (HT.out (by first | rfl | trivial)).1), Lib.hid (HLK.out L2 (HT.out (by first | rfl | trivial)).1.mono (HT.out (by first | rfl | trivial)).2)⟩
            case measure => simp [intOf]; omega
        · have hkn : k = nj := by omega
          subst hkn
          have hflc := hVk.out.lft c hc64
          have hv3 := hVk.out.setL HF.out hc64
          obtain ⟨hflc, hfr⟩ := hflc
          go_upto_region 11 with (fail)
          generalize wr.setCell ⟨l, c, none⟩ (.bool true) = w3 at *
          have HV3 := Lib.hid hv3
          clear hflc hfr hv3
          have hn64 := HF.out.len
          have hall : ∀ q : Nat, (q : Int) ∈ Tx.row P c → Lk q = true := fun q hq => by
            obtain ⟨j, hj, he⟩ := List.getElem_of_mem hq
            exact hLk.out j (by rw [HNJ.out]; exact hj) q (by rw [List.getElem?_eq_getElem hj, he]; rfl)
          have HALL := Lib.hid hall
          have kc := fun (W : World) (hB : Below w3.heap.size w3 W) => collect_vs HF.out hWk.out.dfs HCn.out hall HER.out (HV3.out.below HF.out.bs hB)
          have ct := HV3.out.cell HF.out.tbE HF.out.ctb
          have c0 := HV3.out.cell HF.out.NE HF.out.cN0
          have c1 := HV3.out.cell HF.out.NE HF.out.cN1
          have hrow := HV3.out.cell HSb.out HR0.out
          have hVX := fun (W : World) (hB : Below w3.heap.size w3 W) => VS.setRow HF.out (HV3.out.below HF.out.bs hB) HCn.out (anyB (Tx.inh P) (Tx.row P c))
          have hth := fun (W : World) (hB : Below w3.heap.size w3 W) => (HV3.out.below HF.out.bs hB).there HCn.out
          have hb1 := bl_one (anyB (Tx.inh P) (Tx.row P c))
          have hb2 := bl_len (anyB (Tx.inh P) (Tx.row P c))
          have hb3 := Try.infoBits
          have HTH := Lib.hid hth
          clear hall
          generalize hbl : bl (anyB (Tx.inh P) (Tx.row P c)) = bs at *
          have KC := Lib.hid kc
          have HVX := Lib.hid hVX
          clear kc hVX hth hbl
          go_cut [] (fun wx => VS P.length b0 e l A Ek (Tx.put Lk c) (Tx.setRow Fk c (anyB (Tx.inh P) (Tx.row P c))) w0 wx)
          case first =>
            have hSd : Since w3 w3.drew := Below.drew (Below.refl _ _)
            go_region_held3 (fun x => x.cell? ⟨tb, 0, none⟩ = some (.pointer (some ⟨N, 0, none⟩)) ∧ x.cell? ⟨N, 0, none⟩ = some (.slice (some ⟨b, 0, none⟩) P.length pc) ∧ x.cell? ⟨N, 1, none⟩ = some (.slice (some ⟨A, 0, none⟩) P.length ac) ∧ x.cell? ⟨b, c, none⟩ = some (.slice aj k cj) ∧ (Since w3 x ∨ VS P.length b0 e l A Ek (Tx.put Lk c) (Tx.setRow Fk c (anyB (Tx.inh P) (Tx.row P c))) w0 x))
              (first | exact ⟨ct, c0, c1, hrow, .inl hSd⟩ | (with_reducible exact ⟨Since.cell hB ct, Since.cell hB c0, Since.cell hB c1, Since.cell hB hrow, .inl hB⟩) | (with_reducible exact ⟨hVW.out.cell HF.out.tbE HF.out.ctb, hVW.out.cell HF.out.NE HF.out.cN0, hVW.out.cell HF.out.NE HF.out.cN1, hVW.out.cell HSb.out HR0.out, .inr hVW.out⟩))
              ((go_at_call 46; refine (KC.out _ hSd).mono ?_; rintro x w' ⟨rfl, hr⟩; have hB := Since.step hSd hr; clear hr; have hth := HTH.out _ hB; have hVW := Lib.hid (HVX.out _ hB)))
            all_goals (go_wp2_with fail; go_meet; exact hVW.out)
          case rest =>
            have HV4 := Lib.hid hcut
            clear hcut ct c0 c1 hrow hb1 hb2 hb3
            rename World => w4
            have ct := HV4.out.cell HF.out.tbE HF.out.ctb
            have c1 := HV4.out.cell HF.out.NE HF.out.cN1
            have hcc := HV4.out.tab c HCn.out c hc64
            obtain ⟨hcc, hfc⟩ := hcc
            have hv5 := HV4.out.setOne HF.out HCn.out hc64
            have hw := Tx.Went.leave HE'.out hWk.out HL'.out HCn.out HALL.out (Tx.put (anyB (Tx.inh P) (Tx.row P c)) c) (row_inh HF.out.ok c)
            rw [setRow_twice] at hv5
            go_wp2
            generalize w4.setCell ⟨A, c * 64 + c, none⟩ (.bool true) = w5 at *
            go_ret
            exact ⟨true, Ek, Tx.put Lk c, _, rfl, hv5, fun _ => ⟨hw, Tx.put_same _ _⟩, fun h => (by cases h)⟩

end Go.Proofs.Ytidnllddhhllcaa
