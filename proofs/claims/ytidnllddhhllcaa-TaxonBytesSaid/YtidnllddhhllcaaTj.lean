/- Decode of package taxon. -/
import Derived.Test.YtidnllddhhllcaaTk
namespace Go.Proofs.Ytidnllddhhllcaa
open Go.RowKit Go.Shelf

/-- One element appended to a slice of the call's own, as a step of a region that draws its order. -/
theorem step_one {P : Program} {ops : Array Oper} {o : Oper} {act : Act} {K : Act → World → Prop} {Q : Exit → Act → World → Prop} {E : Prop} {w : World} (hgd : o.guard = none) (s x : Operand) (t : TypeId)
    (ho : o.op = .call { callee := .builtin .append, args := #[s, x], argTypes := #[t, t] }) (k : IntKind) (e : TypeId) (bytes : Nat) (ht : P.underlying t = some (.slice e))
    (info : (P.info? e).map (fun i => (i.zero, i.size, i.bytes)) = some (some (.int k 0), 1, bytes)) (hby : bytes ≤ 8) (B : Nat) (v : Value) (zs : List Int) (ad : Addr) (z : Int)
    (hs : act.eval s = v) (hx : act.eval x = .slice (some ad) 1 1) (hc : w.cell? ad = some (.int k z)) (hown : Own k e B w v zs) (hB : B ≤ w.heap.size) (hl : zs.length ≤ 1000000000000)
    (h : ∀ a n c w', Hid (n = zs.length + 1) → Hid (Own k e B w' (.slice a n c) (zs ++ [z])) → Hid (Below B w w') → K (act.put o.dst (.slice a n c)) w') :
    if Region.wanted o (yielded ops act.tmps) = true then Oper.wp P o act w K Q else E := by
  have hw : Region.wanted o (yielded ops act.tmps) = true := by simp [Region.wanted, hgd]
  rw [if_pos hw]
  obtain ⟨i0, hi, hz0, hz1, hz2⟩ := info_parts info
  have hmul : (zs.length + 1) * bytes ≤ (zs.length + 1) * 8 := Nat.mul_le_mul_left _ hby
  refine wp_append_own w s x t ho B e i0 (.int k 0) 1 bytes ht hi hz0 hz1 hz2 rfl (by decide) v zs.length _ hs hown ad 1 1 [.int k z] hx rfl ?_ (by simp [Value.oneCell']) (by unfold maxLen; omega) (by omega) hB ?_
  · intro j u hu
    match j with
    | 0 =>
      simp at hu
      subst hu
      simpa [Addr.add] using hc
    | j + 1 => simp at hu
  · intro v' w1 hown' hgrow _
    obtain ⟨a, n, c, rfl, hn, hO⟩ := Own.slice (Own.more hown')
    refine h a n c w1 ?_ hO ((Below.refl B w).grown hgrow hB fun j hj => hown.lt j hj)
    have := hn.out
    rw [List.length_append] at this
    exact this

theorem Rd.set {p d G k : Nat} {w : World} {l : List Int} {e : Int} {v : Value} (h : Rd p d w l e) (hp : p ≠ G) (hd : d ≠ G) : Rd p d (w.setCell ⟨G, k, none⟩ v) l e := by
  have hb : ∀ b, b ≠ G → (w.setCell ⟨G, k, none⟩ v).heap[b]? = w.heap[b]? := fun b hb => Below.heap_setCell _ _ _ _ hb
  obtain ⟨x, T, h1, h2 | ⟨h3, h4, h5⟩⟩ := h
  · exact ⟨x, T, (hb p hp).trans h1, .inl h2⟩
  · exact ⟨x, T, (hb p hp).trans h1, .inr ⟨h3, by simp [World.setCell]; exact h4, h5.keep (hb d hd)⟩⟩

/-- The lists that were read so far. -/
def DL (acc : List (List Int)) (p G n B : Nat) (E : TypeId) (w : World) : Prop :=
  ∃ vs : List Value, w.ownsRow B E 1 (.slice (some ⟨G, 0, none⟩) n n) n vs ∧ vs.length = n ∧ ∀ j, j < acc.length → ∃ v, vs[j]? = some v ∧ EIn (fun b => b ≠ G ∧ b ≠ p) w v (Tx.row acc j)

theorem DL.cell {acc : List (List Int)} {p G n B : Nat} {E : TypeId} {w : World} (h : DL acc p G n B E w) {j : Nat} (hj : j < n) : ∃ v, w.cell? ⟨G, j, none⟩ = some v ∧ w.frozen? ⟨G, j, none⟩ = false := by
  obtain ⟨vs, hO, hl, _⟩ := h
  exact ⟨_, (hO.cellAt j (by omega)).trans (List.getElem?_eq_getElem (by omega)), hO.frozenAt j⟩

theorem DL.lt {acc : List (List Int)} {p G n B : Nat} {E : TypeId} {w : World} (h : DL acc p G n B E w) : G < w.heap.size ∧ B ≤ G := by
  obtain ⟨vs, hO, hl, _⟩ := h
  have := World.ownsRow.lt hO G rfl
  exact ⟨this.2, this.1⟩

theorem row_snoc {acc : List (List Int)} {l : List Int} : Tx.row (acc ++ [l]) acc.length = l := by
  unfold Tx.row
  rw [List.getElem?_append_right (Nat.le_refl _)]
  simp

theorem row_old {acc : List (List Int)} {l : List Int} {j : Nat} (h : j < acc.length) : Tx.row (acc ++ [l]) j = Tx.row acc j := by
  unfold Tx.row
  rw [List.getElem?_append_left h]

theorem DL.kept {acc : List (List Int)} {p G n B : Nat} {E : TypeId} {w w1 : World} (h : DL acc p G n B E w) (hG : w.grownBy w1 (some p)) (hp : p ≠ G) : DL acc p G n B E w1 := by
  have hlt := h.lt
  obtain ⟨vs, hO, hl, hat⟩ := h
  have hk : ∀ b, b < w.heap.size → b ≠ p → w1.heap[b]? = w.heap[b]? := fun b hb hn => hG.block b hb (fun e => hn ((Option.some.inj e).symm ▸ rfl))
  refine ⟨vs, ?_, hl, fun j hj => ?_⟩
  · obtain ⟨hx, hv | ⟨g, cap, cur, hv, hg, hc, hr⟩⟩ := hO
    · exact ⟨hx, .inl hv⟩
    · cases hv
      exact ⟨hx, .inr ⟨G, n, cur, rfl, hg, (hk G hlt.1 (Ne.symm hp)).trans hc, hr⟩⟩
  · obtain ⟨v, hv, hE⟩ := hat j hj
    exact ⟨v, hv, hE.keep hG.size fun b hb hbs => hk b hbs hb.2⟩

theorem DL.step {acc : List (List Int)} {p G n B : Nat} {E E2 : TypeId} {w w1 : World} (h : DL acc p G n B E w) (hG : w.grownBy w1 (some p)) (hp : p ≠ G) (hpw : p < w.heap.size) {v : Value} {l : List Int} (hv : Own .i64 E2 w.heap.size w1 v l) (hk : acc.length < n) :
    DL (acc ++ [l]) p G n B E (w1.setCell ⟨G, acc.length, none⟩ v) := by
  have hlt := h.lt
  obtain ⟨vs, hO, hl, hat⟩ := h.kept hG hp
  refine ⟨vs.set acc.length v, (hO.stored acc.length v).1, by rw [List.length_set]; exact hl, fun j hj => ?_⟩
  have keepS : ∀ {u : Value} {zs : List Int}, EIn (fun b => b ≠ G ∧ b ≠ p) w1 u zs → EIn (fun b => b ≠ G ∧ b ≠ p) (w1.setCell ⟨G, acc.length, none⟩ v) u zs := fun h => h.keep (by simp [World.setCell]) fun b hb _ => Below.heap_setCell _ _ _ _ hb.1
  by_cases e : j = acc.length
  · subst e
    rw [row_snoc]
    exact ⟨v, by rw [List.getElem?_set_self (by omega)], keepS (hv.ein.mono fun b _ hb => ⟨by omega, by omega⟩)⟩
  · have hj2 : j < acc.length := by rw [List.length_append] at hj; simp at hj; omega
    rw [row_old hj2]
    obtain ⟨u, hu, hE⟩ := hat j hj2
    exact ⟨u, by rw [List.getElem?_set_ne (Ne.symm e)]; exact hu, keepS hE⟩

theorem DL.le {acc : List (List Int)} {p G n B : Nat} {E : TypeId} {w : World} (h : DL acc p G n B E w) (hn : acc.length = n) : LE w (.slice (some ⟨G, 0, none⟩) n n) acc := by
  have hlt := h.lt
  subst hn
  obtain ⟨vs, hO, hl, hat⟩ := h
  refine .inr ⟨G, acc.length, trivial, hlt.1, rfl, Nat.le_refl _, fun j l hj => ?_⟩
  have hjl := (List.getElem?_eq_some_iff.1 hj).1
  obtain ⟨v, hv, hE⟩ := hat j hjl
  refine ⟨v, (hO.cellAt j (by omega)).trans hv, ?_⟩
  have e : Tx.row acc j = l := by unfold Tx.row; rw [hj]; rfl
  rw [← e]
  exact hE.mono fun b _ _ => trivial

/-- What Decode leaves. -/
def DecPost (b : List Int) (w : World) (e : Ending) (w' : World) : Prop :=
  (∃ P N, dec b = some P ∧ Tx.newE P = 0 ∧ e = .returned (.tuple #[.pointer (some ⟨N, 0, none⟩), .int .i64 0]) ∧ Hid (TxAt N P w') ∧ Hid (Below w.heap.size w w')) ∨
  ((∀ P, dec b = some P → Tx.newE P ≠ 0) ∧ e = .returned (.tuple #[.pointer none, .int .i64 2]) ∧ Hid (Below w.heap.size w w'))

theorem reads_below {p : Nat} {a b : World} {B : Nat} (h : a.grownBy b (some p)) (hB : B ≤ p) (hs : B ≤ a.heap.size) : Below B a b :=
  (Below.refl B a).grown h hs fun j hj => by injection hj with e; omega

set_option maxHeartbeats 8000000 in
set_option maxRecDepth 100000 in
theorem decode_any (sv : Value) (b : List Int) (w : World) (hl : Els .u8 w sv b) (hb : Hm.Byt b) (hlen : b.length ≤ 100000) :
    Calls Try.prog 30 #[sv] w (DecPost b w) := by
  obtain ⟨a, cap, rfl⟩ := hl.shape
  obtain ⟨i0, hi0, hz0, hz1, hz2⟩ := info_parts Try.infoSl
  have HI := Lib.hid hi0
  have HZ := Lib.hid hz0
  have HZ1 := Lib.hid hz1
  have HZ2 := Lib.hid hz2
  have k1 := rread_any _ b w (by omega) hl
  have k2 := fun p d W (h : Rd p d W b 0) => rint_any p d b 0 W h hb (by omega)
  have hd1 : (Hm.unzig (Hm.rU b 0).1 < 0 ∨ 64 < Hm.unzig (Hm.rU b 0).1) → dec b = none := fun h => by unfold dec; rw [if_pos h]
  have hd2 : ¬ (Hm.unzig (Hm.rU b 0).1 < 0 ∨ 64 < Hm.unzig (Hm.rU b 0).1) → dec b = (if Hm.rEnd (rowsI (Hm.unzig (Hm.rU b 0).1).toNat (Hm.rU b 0).2.1 (Hm.rU b 0).2.2 []).2.1 (rowsI (Hm.unzig (Hm.rU b 0).1).toNat (Hm.rU b 0).2.1 (Hm.rU b 0).2.2 []).2.2 = 0 then some (rowsI (Hm.unzig (Hm.rU b 0).1).toNat (Hm.rU b 0).2.1 (Hm.rU b 0).2.2 []).1 else none) := fun h => by unfold dec; rw [if_neg h]
  have hleft := Hm.rU_left hb 0
  have hrl := fun n => rowsI_len n (Hm.rU b 0).2.1 (Hm.rU b 0).2.2 [] b.length hleft.1 hleft.2 (fun x hx => by simp at hx)
  generalize (Hm.rU b 0).1 = z at *
  generalize (Hm.rU b 0).2.1 = l1 at *
  generalize (Hm.rU b 0).2.2 = e1 at *
  generalize Hm.unzig z = c at *
  have HDP : Hid (∀ w e w', DecPost b w e w' = DecPost b w e w') := fun _ _ _ => rfl
  have K1 := Lib.hid k1
  have K2 := Lib.hid k2
  generalize hD : dec b = D at *
  generalize hbl : b.length = bl at *
  have HDD := Lib.hid hD
  clear k1 k2 hi0 hz0 hz1 hz2 hl hD HDP
  by_cases hc : c < 0 ∨ 64 < c
  · have hnone := hd1 hc
    subst hnone
    have hpost : Hid (∀ P, dec b = some P → Tx.newE P ≠ 0) := fun P h => by rw [HDD.out] at h; cases h
    have hcc : (decide (c < 0) = true) ∨ (decide (c < 0) = false ∧ decide (c > 64) = true) := by
      by_cases h0 : c < 0
      · exact .inl (decide_eq_true h0)
      · exact .inr ⟨decide_eq_false h0, decide_eq_true (by omega)⟩
    clear hd1 hd2 hleft hrl hc
    rcases hcc with hcc | ⟨hcc, hcc2⟩
    all_goals
      go_enter Try.func30, Try.ntmps30
      go_wp2_with fail
      refine (K1.out).mono ?_
      rintro e w1 ⟨p, d, rfl, hp, hd, hdl, HR1, HB1⟩
      go_wp2_with fail
      refine (K2.out p d w1 HR1.out).mono ?_
      rintro e w2 ⟨rfl, HR2, hG2⟩
      have HB2 := Lib.hid (Below.trans HB1.out (reads_below hG2 hp HB1.out.size))
      clear HR2 hG2
      go_wp2
      go_ret2
      exact .inr ⟨hpost.out, rfl, HB2⟩
  · have hD2 := hd2 hc
    obtain ⟨n, rfl⟩ := Int.eq_ofNat_of_zero_le (show 0 ≤ c by omega)
    have hn64 : n ≤ 64 := by omega
    have hcc : decide ((n : Int) < 0) = false := decide_eq_false (by omega)
    have hcc2 : decide ((n : Int) > 64) = false := decide_eq_false (by omega)
    have hrl := hrl n
    rw [Int.toNat_natCast] at hD2
    generalize hR : rowsI n l1 e1 [] = R at *
    obtain ⟨RP, rl, re⟩ := R
    simp only [List.length_nil, Nat.zero_add] at hrl hD2
    have HRES := Lib.hid hR
    have HRL := Lib.hid hrl
    have HD2 := Lib.hid hD2
    have HLF := Lib.hid hleft
    clear hd1 hd2 hc hR hrl hD2 hleft
    go_enter Try.func30, Try.ntmps30
    go_wp2_with fail
    refine (K1.out).mono ?_
    rintro e w1 ⟨p, d, rfl, hp, hd, hdl, HR1, HB1⟩
    go_wp2_with fail
    refine (K2.out p d w1 HR1.out).mono ?_
    rintro e w2 ⟨rfl, HR2, hG2⟩
    have HR2 := Lib.hid HR2
    have hdl2 : d < w2.heap.size := Nat.lt_of_lt_of_le hdl hG2.size
    have hpl2 : p < w2.heap.size := HR2.out.lt
    have HB2 := Lib.hid (Below.trans HB1.out (reads_below hG2 hp HB1.out.size))
    clear hG2 HR1 HB1 hdl
    go_wp2_with (at_make; go_loud (refine wpList_make_full _ rfl _ _ 23 rfl w2.heap.size 22 i0 (.slice none 0 0) 1 Try.underlying23 HI.out HZ.out HZ1.out .i64 .i64 n n n rfl rfl rfl rfl (by rw [HZ2.out]; omega) (by unfold maxLen; omega) (Nat.le_refl _) ?_); intro w3 hown hgrow; have HO3 := Lib.hid hown; have HG3 := Lib.hid hgrow; clear hown hgrow)
    generalize hG : w2.heap.size = G at *
    have hpG : p ≠ G := by omega
    have hdG : d ≠ G := by omega
    have HB3 := Lib.hid (HB2.out.grown HG3.out (by have := HB2.out.size; omega) (fun j hj => by cases hj))
    have HR3 : Hid (Rd p d w3 l1 e1) := HR2.out.below (by rw [hG]; exact (Below.refl G w2).grown HG3.out (Nat.le_of_eq hG.symm) (fun j hj => by cases hj))
    have hdl3 : d < w3.heap.size := Nat.lt_of_lt_of_le (by rw [hG]; exact hdl2) HG3.out.size
    have HC0 : Hid (DL [] p G n G 22 w3) := ⟨_, HO3.out, by rw [Array.length_toList, size_madeCells, Nat.mul_one], fun j hj => by simp at hj⟩
    have hwG : w.heap.size ≤ G := by have := HB2.out.size; omega
    clear HO3 HG3 HR2 HB2 hG
    go_loopw [24] (fun i wr => ∃ k : Nat, k ≤ n ∧ i = .int .i64 k ∧ ∃ acc l e, Hid (acc.length = k) ∧ Hid (rowsI (n - k) l e acc = (RP, rl, re)) ∧ Hid (Rd p d wr l e) ∧ Hid (Hm.Byt l ∧ l.length ≤ bl) ∧ Hid (DL acc p G n G 22 wr) ∧ d < wr.heap.size ∧ Hid (Below w.heap.size w wr)) (fun i _ => n - (intOf i).toNat)
    case atStart => exact ⟨0, Nat.zero_le _, rfl, [], l1, e1, rfl, HRES, HR3, HLF, HC0, hdl3, HB3⟩
    case round =>
      obtain ⟨k, hk, rfl, acc, l, er, hacc, hres, hRd, hbl, hDL, hdw, hB⟩ := hrel
      by_cases hlt : k < n
      · have hki : (k : Int) < n := by omega
        have k3 := rints_any p d l er wr hRd.out hdw hbl.out.1 (by have := hbl.out.2; omega)
        have hst : rowsI (n - (k + 1)) (Hm.rInts l er).2.1 (Hm.rInts l er).2.2 (acc ++ [(Hm.rInts l er).1]) = (RP, rl, re) := by
          have h1 := hres.out
          rw [show n - k = (n - (k + 1)) + 1 by omega, rowsI] at h1
          exact h1
        have hlb := rInts_byt hbl.out.1 er
        generalize (Hm.rInts l er).1 = row at *
        generalize (Hm.rInts l er).2.1 = l' at *
        generalize (Hm.rInts l er).2.2 = er' at *
        have K3 := Lib.hid k3
        have HST := Lib.hid hst
        have HLB : Hid (Hm.Byt l' ∧ l'.length ≤ bl) := ⟨hlb.1, Nat.le_trans hlb.2 hbl.out.2⟩
        clear k3 hst hlb
        go_wp2_with fail
        refine (K3.out).mono ?_
        rintro e w4 ⟨a4, n4, c4, rfl, HN4, O4, HR4, HG4⟩
        obtain ⟨v, hcv, hcf⟩ := (hDL.out.kept HG4.out hpG).cell hlt
        have hpw := hRd.out.lt
        have hstp := hDL.out.step HG4.out hpG hpw O4.out (by rw [hacc.out]; exact hlt)
        rw [hacc.out] at hstp
        have HSTP := Lib.hid hstp
        have HRS := Lib.hid (HR4.out.set (k := k) (v := .slice a4 n4 c4) hpG hdG)
        have hbx := (reads_below HG4.out hp (Nat.le_trans hB.out.size (Nat.le_refl _)))
        have HBX := Lib.hid ((Below.trans hB.out hbx).setCell (p := ⟨G, k, none⟩) hwG (.slice a4 n4 c4))
        have hds : d < (w4.setCell ⟨G, k, none⟩ (.slice a4 n4 c4)).heap.size := by
          have : w4.heap.size = (w4.setCell ⟨G, k, none⟩ (.slice a4 n4 c4)).heap.size := by simp [World.setCell]
          rw [← this]
          exact Nat.lt_of_lt_of_le hdw HG4.out.size
        clear hstp hbx
        go_wp2
        go_roundw
        case rel => exact ⟨k + 1, by omega, by go_num, acc ++ [row], l', er', Lib.hid (by rw [List.length_append, hacc.out]; rfl), HST, HRS, HLB, HSTP, hds, HBX⟩
        case measure => simp [intOf]; omega
      · have hki : ¬ (k : Int) < n := by omega
        have hkn : k = n := by omega
        subst hkn
        have hr := hres.out
        rw [Nat.sub_self, rowsI] at hr
        simp only [Prod.mk.injEq] at hr
        obtain ⟨rfl, rfl, rfl⟩ := hr
        have hLE := hDL.out.le hacc.out
        have k4 := rend_any p d l er wr hRd.out (by have := hbl.out.2; omega)
        have hD2 := HD2.out
        have k5 := new_any _ acc wr hLE (by rw [hacc.out]; omega) (fun x hx => by have := HRL.out.2 x hx; omega)
        have HRB := Lib.hid HRES
        generalize Hm.rEnd l er = q at *
        have K4 := Lib.hid k4
        have K5 := Lib.hid k5
        clear k4 k5 hLE hres HD2 HRB
        by_cases hq : q = 0
        · subst hq
          rw [if_pos rfl] at hD2
          subst hD2
          go_wp2_with fail
          refine (K4.out).mono ?_
          rintro e w' ⟨rfl, rfl⟩
          go_wp2_with fail
          refine (K5.out).mono ?_
          rintro e w5 hnew
          rcases hnew with ⟨hE0, rfl, HB5⟩ | ⟨hE0, N, rfl, HX5, HB5⟩
          · have hE1 := Lib.hid hE0
            generalize hEE : Tx.newE acc = E at *
            have HEE := Lib.hid hEE
            clear hEE
            have hz : (E != 0) = true := by rw [bne_iff_ne]; exact hE0
            clear hE0
            go_wp2
            go_ret2
            exact .inr ⟨(fun P h => by rw [HDD.out] at h; injection h with h; subst h; rw [HEE.out]; exact hE1.out), rfl, Lib.hid (Since.step hB.out HB5.out)⟩
          · have HE0 := Lib.hid hE0
            clear hE0
            go_wp2
            go_ret2
            exact .inl ⟨acc, N, HDD.out, HE0.out, rfl, HX5, Lib.hid (Since.step hB.out HB5.out)⟩
        · rw [if_neg hq] at hD2
          subst hD2
          have hz : (q != 0) = true := by rw [bne_iff_ne]; exact hq
          have HQ := Lib.hid hq
          clear hq
          go_wp2_with fail
          refine (K4.out).mono ?_
          rintro e w' ⟨rfl, rfl⟩
          go_wp2
          go_ret2
          exact .inr ⟨(fun P h => by rw [HDD.out] at h; cases h), rfl, hB⟩

end Go.Proofs.Ytidnllddhhllcaa
