/- The law ThingOrder. -/
import Derived.Test.YtejllfpcffeogaaYo
import Derived.Test.YtejllfpcffeogaaYq
import Derived.Test.YtejllfpcffeogaaCe
import Derived.Test.YtejllfpcffeogaaDd
import Derived.Test.YtejllfpcffeogaaZe
import Derived.Test.YtejllfpcffeogaaZb
import Derived.Deep.CutBlock
namespace Go.Proofs.Ytejllfpcffeogaa
open Go.RowKit Go.Shelf

/-- A row of things that can be read. -/
structure ThsRd (W : World) (sv : Value) (rs : List Tr) (ts : List Th) : Prop where
  els : REls RTh W sv rs
  len : rs.length = ts.length
  at' : ∀ (j : Nat) (r : Tr) (t : Th), rs[j]? = some r → ts[j]? = some t → TAt W.heap.size W t (.slice r.a1 r.n1 r.c1) (.slice r.a2 r.n2 r.c2) (.slice r.a3 r.n3 r.c3)

theorem ThsRd.below {W W' : World} {sv : Value} {rs : List Tr} {ts : List Th} (h : ThsRd W sv rs ts) (hB : Since W W') : ThsRd W' sv rs ts :=
  ⟨h.els.below hB, h.len, fun j r t hr ht => TAt.below hB (h.at' j r t hr ht)⟩

theorem ThsRd.get {W : World} {a : Option Addr} {n c : Nat} {rs : List Tr} {ts : List Th} (h : ThsRd W (.slice a n c) rs ts) {j : Nat} (hj : j < n) :
    ∃ (g : Nat) (r : Tr) (t : Th), a = some ⟨g, 0, none⟩ ∧ n ≤ c ∧ rs[j]? = some r ∧ ts[j]? = some t ∧ W.cell? ⟨g, j * 3, none⟩ = some (.slice r.a1 r.n1 r.c1) ∧ W.cell? ⟨g, j * 3 + 1, none⟩ = some (.slice r.a2 r.n2 r.c2) ∧ W.cell? ⟨g, j * 3 + 2, none⟩ = some (.slice r.a3 r.n3 r.c3) ∧ TAt W.heap.size W t (.slice r.a1 r.n1 r.c1) (.slice r.a2 r.n2 r.c2) (.slice r.a3 r.n3 r.c3) ∧ g < W.heap.size := by
  have hE := h.els
  have hn := hE.len
  obtain ⟨g, rfl, hg, hc, hat⟩ := hE.get hj
  obtain ⟨r, hr⟩ : ∃ r, rs[j]? = some r := ⟨rs[j]'(by omega), List.getElem?_eq_getElem _⟩
  obtain ⟨t, ht⟩ : ∃ t, ts[j]? = some t := ⟨ts[j]'(by rw [← h.len]; omega), List.getElem?_eq_getElem _⟩
  exact ⟨g, r, t, rfl, hc, hr, ht, hat j r hr 0 _ rfl, hat j r hr 1 _ rfl, hat j r hr 2 _ rfl, h.at' j r t hr ht, hg⟩

/-- Things of the row lie apart from it. -/
theorem ThsAt.apart {B : Nat} {W V : World} {va : Value} {rs : List Tr} {ts : List Th} (h : ThsAt B W va rs ts) (hS : Since W V) {j : Nat} {r : Tr} {t : Th} (hr : rs[j]? = some r) (ht : ts[j]? = some t) :
    TS (fun k => va.ownBlock ≠ some k ∧ k < V.heap.size) V t (.slice r.a1 r.n1 r.c1) (.slice r.a2 r.n2 r.c2) (.slice r.a3 r.n3 r.c3) := by
  have hz := hS.size
  by_cases hg : ∃ g, va.ownBlock = some g
  · obtain ⟨g, hg⟩ := hg
    have hl := (h.own.lt g hg).2
    have h1 := TAt.low (Below.mono hS (Nat.le_of_lt hl)) t (h.far g hg j r t hr ht)
    have h2 := TS.keep (S' := fun k => va.ownBlock ≠ some k) ⟨Nat.le_refl _, fun _ _ _ => rfl⟩ (fun k _ hk => by rw [hg]; intro e; injection e with e; omega) t (TAt.ts t h1)
    exact h2
  · have h1 := TAt.below hS (h.at' j r t hr ht)
    have h2 := TS.keep (S' := fun k => va.ownBlock ≠ some k) ⟨Nat.le_refl _, fun _ _ _ => rfl⟩ (fun k _ _ e => hg ⟨k, e⟩) t (TAt.ts t h1)
    exact h2

/-- More things appended. -/
theorem ThsAt.append {B : Nat} {W V wn : World} {va vn : Value} {rs ns : List Tr} {ts us : List Th} (h : ThsAt B W va rs ts) (hS : Since W V) (hP : PF va V wn vn) (hO : ROwn RTh 29 B wn vn (rs ++ ns)) (hl : ns.length = us.length)
    (hu : ∀ (j : Nat) (r : Tr) (t : Th), ns[j]? = some r → us[j]? = some t → TS (fun k => va.ownBlock ≠ some k ∧ k < V.heap.size) V t (.slice r.a1 r.n1 r.c1) (.slice r.a2 r.n2 r.c2) (.slice r.a3 r.n3 r.c3)) : ThsRd wn vn (rs ++ ns) (ts ++ us) := by
  have key : ∀ (r : Tr) (t : Th), TS (fun k => va.ownBlock ≠ some k ∧ k < V.heap.size) V t (.slice r.a1 r.n1 r.c1) (.slice r.a2 r.n2 r.c2) (.slice r.a3 r.n3 r.c3) → TAt wn.heap.size wn t (.slice r.a1 r.n1 r.c1) (.slice r.a2 r.n2 r.c2) (.slice r.a3 r.n3 r.c3) := fun r t hT =>
    TS.tat (fun _ h => h.2) t (TS.keep (S' := fun _ => True) ⟨hP.1.1, fun b hb hl => hP.1.2 b hb.1 hl⟩ (fun _ _ _ => trivial) t hT)
  refine ⟨hO.els, by simp [h.len, hl], fun j r t hr ht => key r t ?_⟩
  by_cases hj : j < ts.length
  · rw [List.getElem?_append_left (by rw [h.len]; exact hj)] at hr
    rw [List.getElem?_append_left hj] at ht
    exact h.apart hS hr ht
  · rw [List.getElem?_append_right (by rw [h.len]; omega)] at hr
    rw [List.getElem?_append_right (by omega)] at ht
    rw [h.len] at hr
    exact hu _ r t hr ht

theorem GenOk.cmp {t : Th} (h : GenOk t) : CmpOk t := ⟨h.1, by have := h.size; omega⟩
theorem GenOk.turn {t : Th} (h : GenOk t) : GenOk t.turn := ⟨Th.turn_wf t h.1, by rw [Th.turn_wt]; exact h.2⟩

theorem cmp_swap (t u : Th) : Th.cmp u t = - Th.cmp t u := Th.cmp_anti t.size t (Nat.le_refl _) u
theorem cmp_rng (t u : Th) : -1 ≤ Th.cmp t u ∧ Th.cmp t u ≤ 1 := Th.cmp_range t.size t (Nat.le_refl _) u
theorem cmp_same (t : Th) : Th.cmp t t = 0 := Th.cmp_self t.size t (Nat.le_refl _)
open Classical in
theorem cmp_enc {t u : Th} (h : GenOk t) (h' : GenOk u) : decide (t.enc = u.enc) = (Th.cmp t u == 0) := by
  by_cases hc : Th.cmp t u = 0
  · have := Th.cmp_zero t.size t (Nat.le_refl _) u hc
    rw [hc, this, decide_eq_true rfl]; rfl
  · rw [decide_eq_false fun he => hc (by rw [(enc_eq_iff h.1 (by have := h.2; omega) h'.1 (by have := h'.2; omega)).1 he]; exact cmp_same u)]
    exact (beq_eq_false_iff_ne.2 hc).symm

set_option maxHeartbeats 16000000 in
set_option maxRecDepth 100000 in
open Classical in
theorem law_order (a0 : Option Addr) (len0 cap0 : Nat) (z0 : List Int) (a1 : Option Addr) (len1 cap1 : Nat) (z1 : List Int) (a2 a3 a4 : Int) (w : World) (w0 : Came .i64 w a0 len0 cap0 z0) (w1 : Came .i64 w a1 len1 cap1 z1) (w2 : (Lit.int .i64 a2).wf = true) (w3 : (Lit.int .i64 a3).wf = true) (w4 : (Lit.int .i64 a4).wf = true) :
    Calls Try.prog 4 #[.slice a0 len0 cap0, .slice a1 len1 cap1, .int .i64 a2, .int .i64 a3, .int .i64 a4] w fun e w' => e = .returned (.bool true) ∧ Below w.heap.size w w' := by
  have K0 := Lib.hid (things_any _ _ _ _ a2 a3 a4 w w0.els w1.els (fun z hz => w0.wf z (List.mem_of_mem_take hz)) (fun z hz => w1.wf z (List.mem_of_mem_take hz)) (i64_of_wf w2) (i64_of_wf w3) (i64_of_wf w4))
  clear w0 w1 w2 w3 w4
  go_enter Try.func4, Try.ntmps4
  go_wp2_with fail
  refine K0.out.mono ?_
  rintro e W1 ⟨as1, ns, cs1, rs, ts, rfl, hn4, hlen, hAT, hG, hB1⟩
  subst hn4
  clear K0
  obtain ⟨g, hg⟩ : ∃ g, as1 = some ⟨g, 0, none⟩ := by
    obtain ⟨g, e, -⟩ := hAT.out.own.els.get (j := 0) (by omega)
    exact ⟨g, e⟩
  subst hg
  obtain ⟨hb1, hz1, hcap, hcc, hat⟩ : ∃ b, g = b ∧ 4 ≤ cs1 ∧ g < W1.heap.size ∧ (∀ (j : Nat) (x : Tr), rs[j]? = some x → ∀ (i : Nat) (v : Value), (RTh.cells x)[i]? = some v → W1.cell? ⟨g, j * RTh.k + i, none⟩ = some v) := by
    obtain ⟨b, e, hb, hc, hat⟩ := hAT.out.own.els.get (j := 0) (by omega)
    cases e
    exact ⟨g, rfl, hc, hb, hat⟩
  clear hz1
  have hr4 : rs.length = 4 := hAT.out.len.trans hlen.out
  obtain ⟨⟨q1, qm1, qd1, q2, qm2, qd2, q3, qm3, qd3⟩, hr⟩ : ∃ r, rs[0]? = some r := ⟨rs[0]'(by omega), List.getElem?_eq_getElem _⟩
  obtain ⟨t0, ht0⟩ : ∃ t, ts[0]? = some t := ⟨ts[0]'(by rw [hlen.out]; omega), List.getElem?_eq_getElem _⟩
  have p0 := hat 0 _ hr 0 _ rfl
  have p1 := hat 0 _ hr 1 _ rfl
  have p2 := hat 0 _ hr 2 _ rfl
  rw [show 0 * RTh.k + 0 = 0 by rfl] at p0
  rw [show 0 * RTh.k + 1 = 1 by rfl] at p1
  rw [show 0 * RTh.k + 2 = 2 by rfl] at p2
  have hg0 := hG.out t0 (List.mem_of_getElem? ht0)
  have hT0 := hAT.out.at' 0 _ _ hr ht0
  have KT := Lib.hid fun W (h : Since W1 W) => turn_all t0.size t0 (Nat.le_refl _) hg0.1 (by have := hg0.2; omega) _ _ _ W (TAt.below h hT0)
  have HG6 : Hid (∀ t ∈ ts ++ [t0.turn, t0], GenOk t) := Lib.hid fun t ht => by
    rcases List.mem_append.1 ht with h | h
    · exact hG.out t h
    · simp only [List.mem_cons, List.not_mem_nil, or_false] at h
      rcases h with rfl | rfl
      · exact hg0.turn
      · exact hg0
  have HL6 : Hid ((ts ++ [t0.turn, t0]).length = 6) := Lib.hid (by rw [List.length_append, hlen.out]; rfl)
  have hl6 : rs.length + 2 ≤ 1000000000 := by omega
  have HR0 := Lib.hid hr
  have HT0 := Lib.hid ht0
  have HR4 := Lib.hid hr4
  simp only at KT hT0
  clear hat hb1 hg0 hr ht0 hT0 hG hlen hr4
  go_upto_region 2 with (fail)
  go_cut [11] (fun s wx => ∃ (a : Option Addr) (c : Nat) (rs' : List Tr), s = .slice a 6 c ∧ Hid (ThsRd wx (.slice a 6 c) rs' (ts ++ [t0.turn, t0])) ∧ Hid (Below w.heap.size w wx))
  case first =>
    refine wp_region_noPanic ?_
    refine wp_region_held_drew (S := fun _ => True) (by kernel_rfl) trivial (fun hHeld => ?_)
    have d0 := Since.cell (Since.drew (Since.refl W1)) p0
    have d1 := Since.cell (Since.drew (Since.refl W1)) p1
    have d2 := Since.cell (Since.drew (Since.refl W1)) p2
    refine wpAnyH_take (i := 0) (oi := ⟨some 26, Op.move (Operand.tmp 11), 23, _, _, none⟩) (v := ?_) rfl (by kernel_rfl) (by kernel_rfl) (by kernel_rfl) (fun _ _ _ h => h) (Or.inl ⟨by rfl, ?_⟩) (by assumption) ?_
    rotate_left 1
    · (intro w hSw; (try dsimp only at hSw); go_simp; first | done | with_reducible rfl)
    try simp only [Act.put, List.setIfInBounds_toArray, List.set_cons_zero, List.set_cons_succ]
    refine wpAnyH_take (i := 1) (oi := ⟨some 27, Op.move (Operand.tmp 11), 23, _, _, none⟩) (v := ?_) rfl (by kernel_rfl) (by kernel_rfl) (by kernel_rfl) (fun _ _ _ h => h) (Or.inl ⟨by rfl, ?_⟩) (by assumption) ?_
    rotate_left 1
    · (intro w hSw; (try dsimp only at hSw); go_simp; first | done | with_reducible rfl)
    try simp only [Act.put, List.setIfInBounds_toArray, List.set_cons_zero, List.set_cons_succ]
    refine wpAnyH_take (i := 2) (oi := ⟨some 28, Op.indexAddr 23 (Operand.tmp 27) (Operand.const (Value.int IntKind.i64 0)), 0, _, _, none⟩) (v := ?_) rfl (by kernel_rfl) (by kernel_rfl) (by kernel_rfl) (fun _ _ _ h => h) (Or.inl ⟨by rfl, ?_⟩) (by assumption) ?_
    rotate_left 1
    · (intro w hSw; (try dsimp only at hSw); go_simp; first | done | with_reducible rfl)
    try simp only [Act.put, List.setIfInBounds_toArray, List.set_cons_zero, List.set_cons_succ]
    refine wpAnyH_take (i := 5) (oi := ⟨some 31, Op.move (Operand.tmp 11), 23, _, _, none⟩) (v := ?_) rfl (by kernel_rfl) (by kernel_rfl) (by kernel_rfl) (fun _ _ _ h => h) (Or.inl ⟨by rfl, ?_⟩) (by assumption) ?_
    rotate_left 1
    · (intro w hSw; (try dsimp only at hSw); go_simp; first | done | with_reducible rfl)
    try simp only [Act.put, List.setIfInBounds_toArray, List.set_cons_zero, List.set_cons_succ]
    refine wpAnyH_take (i := 6) (oi := ⟨some 32, Op.indexAddr 23 (Operand.tmp 31) (Operand.const (Value.int IntKind.i64 0)), 0, _, _, none⟩) (v := ?_) rfl (by kernel_rfl) (by kernel_rfl) (by kernel_rfl) (fun _ _ _ h => h) (Or.inl ⟨by rfl, ?_⟩) (by assumption) ?_
    rotate_left 1
    · (intro w hSw; (try dsimp only at hSw); go_simp; first | done | with_reducible rfl)
    try simp only [Act.put, List.setIfInBounds_toArray, List.set_cons_zero, List.set_cons_succ]
    refine wpAnyH_ready (rs := [3, 7]) (by kernel_rfl) (by simp) ?_
    refine AllReadyH.cons (o := ⟨some 29, Op.load 29 (Operand.tmp 28), 29, _, _, none⟩) rfl (fun K hK => ?_) (AllReadyH.cons (o := ⟨some 33, Op.load 29 (Operand.tmp 32), 29, _, _, none⟩) rfl (fun K hK => ?_) AllReadyH.nil)
    · go_simp
      try go_wp2_with fail
      refine hK.out _ _ ?_ (fun hHeld => ?_)
      · trivial
      clear hK K
      try simp only [Act.put, List.setIfInBounds_toArray, List.set_cons_zero, List.set_cons_succ]
      refine wpAnyH_ready (rs := [4, 7]) (by kernel_rfl) (by simp) ?_
      refine AllReadyH.cons (o := ⟨some 30, Op.call { callee := Callee.value (Operand.func 18), args := #[Operand.tmp 29], argTypes := #[29] }, 29, _, _, none⟩) rfl (fun K hK => ?_) (AllReadyH.cons (o := ⟨some 33, Op.load 29 (Operand.tmp 32), 29, _, _, none⟩) rfl (fun K hK => ?_) AllReadyH.nil)
      · go_simp
        refine (KT.out _ (by (repeat (first | with_reducible assumption | with_reducible exact Since.refl _ | with_reducible refine Since.alloc ?_ _ | with_reducible refine Since.drew ?_)))).mono ?_
        rintro e v9 ⟨u9, ⟨s1, t1, u1, s2, t2, u2, s3, t3, u3⟩, rfl, hT9, HP9, hB9⟩
        try simp only
        have hsv : Since W1 v9 := by (with_reducible refine Since.step ?_ hB9.out); (repeat (first | with_reducible assumption | with_reducible exact Since.refl _ | with_reducible refine Since.alloc ?_ _ | with_reducible refine Since.drew ?_))
        have f0 := Since.cell hsv p0
        have f1 := Since.cell hsv p1
        have f2 := Since.cell hsv p2
        have f3 := Since.cell (Since.drew hsv) p0
        have f4 := Since.cell (Since.drew hsv) p1
        have f5 := Since.cell (Since.drew hsv) p2
        try go_wp2_with fail
        refine hK.out _ _ ?_ (fun hHeld => ?_)
        · trivial
        clear hK K
        try simp only [Act.put, List.setIfInBounds_toArray, List.set_cons_zero, List.set_cons_succ]
        refine wpAnyH_ready (rs := [7]) (by kernel_rfl) (by simp) ?_
        refine AllReadyH.cons (o := ⟨some 33, Op.load 29 (Operand.tmp 32), 29, _, _, none⟩) rfl (fun K hK => ?_) AllReadyH.nil
        go_simp
        try go_wp2_with fail
        refine hK.out _ _ ?_ (fun hHeld => ?_)
        · trivial
        clear hK K
        try simp only [Act.put, List.setIfInBounds_toArray, List.set_cons_zero, List.set_cons_succ]
        refine wpAnyH_ready (rs := [8]) (by kernel_rfl) (by simp) ?_
        refine AllReadyH.cons (o := ⟨some 34, Op.buildSlice 23 2 #[(0, Operand.tmp 30), (1, Operand.tmp 33)], 23, _, _, none⟩) rfl (fun K hK => ?_) AllReadyH.nil
        go_simp
        try go_wp2_with fail
        refine hK.out _ _ ?_ (fun hHeld => ?_)
        · trivial
        clear hK K
        try simp only [Act.put, List.setIfInBounds_toArray, List.set_cons_zero, List.set_cons_succ]
        have hsa : Since W1 (v9.alloc (.cells #[.slice s1 t1 u1, .slice s2 t2 u2, .slice s3 t3 u3, .slice q1 qm1 qd1, .slice q2 qm2 qd2, .slice q3 qm3 qd3] 29)) := Since.alloc hsv _
        have hcl : ∀ j u, ([(⟨s1, t1, u1, s2, t2, u2, s3, t3, u3⟩ : Tr), ⟨q1, qm1, qd1, q2, qm2, qd2, q3, qm3, qd3⟩].flatMap RTh.cells)[j]? = some u → (v9.alloc (.cells #[.slice s1 t1 u1, .slice s2 t2 u2, .slice s3 t3 u3, .slice q1 qm1 qd1, .slice q2 qm2 qd2, .slice q3 qm3 qd3] 29)).cell? ⟨v9.heap.size, j, none⟩ = some u := fun j u hu => ((BoxL.made v9 _ _).2 j u (by simpa [RTh] using hu)).1
        have hzB : w.heap.size ≤ (v9.alloc (.cells #[.slice s1 t1 u1, .slice s2 t2 u2, .slice s3 t3 u3, .slice q1 qm1 qd1, .slice q2 qm2 qd2, .slice q3 qm3 qd3] 29)).heap.size := Nat.le_trans hB1.out.size (since_size hsa)
        have HOA := Lib.hid (hAT.out.own.below hsa)
        refine wpAnyH_ready (rs := [9]) (by kernel_rfl) (by simp) ?_
        refine AllReadyH.cons (o := ⟨some 35, Op.call { callee := Callee.builtin Builtin.append, args := #[Operand.tmp 26, Operand.tmp 34], argTypes := #[23, 23] }, 23, _, _, none⟩) rfl (fun K hK => ?_) AllReadyH.nil
        refine wp_row1_f (.tmp 26) (.tmp 34) 23 rfl RTh 29 72 _ Try.underlying23 Try.infoTh rfl (by decide) w.heap.size (.slice (some ⟨g, 0, none⟩) 4 cs1) rs [⟨s1, t1, u1, s2, t2, u2, s3, t3, u3⟩, ⟨q1, qm1, qd1, q2, qm2, qd2, q3, qm3, qd3⟩] v9.heap.size 2 2 rfl rfl rfl hcl HOA.out hzB hl6 ?_
        intro ak lk ck wn hnn hOn hBn hPn
        have hlk : lk = 6 := by rw [hnn.out, HR4.out]
        subst hlk
        have HRD : Hid (ThsRd wn (.slice ak 6 ck) (rs ++ [⟨s1, t1, u1, s2, t2, u2, s3, t3, u3⟩, ⟨q1, qm1, qd1, q2, qm2, qd2, q3, qm3, qd3⟩]) (ts ++ [t0.turn, t0])) := Lib.hid (by
          rw [← HP9.out]
          refine hAT.out.append hsa hPn.out hOn.out rfl fun j r t hr ht => ?_
          match j with
          | 0 =>
            cases hr; cases ht
            refine TS.keep (S' := fun k => (Value.slice (some ⟨g, 0, none⟩) 4 cs1).ownBlock ≠ some k) (w := v9) ⟨by simp, fun b _ hl => Below.heap_alloc _ _ _ hl⟩ (fun k _ hk e => ?_) u9 hT9.out
            have h1 := (hAT.out.own.lt k e).2
            have h2 : W1.heap.size ≤ k := by rcases hk.1 with h | h; exact h.elim; exact h
            omega
          | 1 =>
            cases hr; cases ht
            exact hAT.out.apart hsa HR0.out HT0.out
          | j + 2 => simp at hr)
        have HBN : Hid (Below w.heap.size w wn) := Lib.hid (Below.trans (Below.trans hB1.out (Below.mono hsa hB1.out.size)) hBn.out)
        refine hK.out _ _ ?_ (fun hHeld => ?_)
        · trivial
        clear hK K
        try simp only [Act.put, List.setIfInBounds_toArray, List.set_cons_zero, List.set_cons_succ]
        refine wpAnyH_take (i := 10) (oi := ⟨some 11, Op.assign (Operand.tmp 35), 23, _, _, none⟩) (v := ?_) rfl (by kernel_rfl) (by kernel_rfl) (by kernel_rfl) (fun _ _ _ h => h) (Or.inl ⟨by rfl, ?_⟩) (by assumption) ?_
        rotate_left 1
        · (intro w hSw; (try dsimp only at hSw); go_simp; first | done | with_reducible rfl)
        try simp only [Act.put, List.setIfInBounds_toArray, List.set_cons_zero, List.set_cons_succ]
        refine wpAnyH_done (by kernel_rfl) ?_ _
        refine NoPanic.normal ?_
        go_wp2_with fail
        go_meet
        exact ⟨ak, ck, _, rfl, HRD, HBN⟩
      · go_simp
        try go_wp2_with fail
        refine hK.out _ _ ?_ (fun hHeld => ?_)
        · trivial
        clear hK K
        try simp only [Act.put, List.setIfInBounds_toArray, List.set_cons_zero, List.set_cons_succ]
        refine wpAnyH_ready (rs := [4]) (by kernel_rfl) (by simp) ?_
        refine AllReadyH.cons (o := ⟨some 30, Op.call { callee := Callee.value (Operand.func 18), args := #[Operand.tmp 29], argTypes := #[29] }, 29, _, _, none⟩) rfl (fun K hK => ?_) AllReadyH.nil
        go_simp
        refine (KT.out _ (by (repeat (first | with_reducible assumption | with_reducible exact Since.refl _ | with_reducible refine Since.alloc ?_ _ | with_reducible refine Since.drew ?_)))).mono ?_
        rintro e v9 ⟨u9, ⟨s1, t1, u1, s2, t2, u2, s3, t3, u3⟩, rfl, hT9, HP9, hB9⟩
        try simp only
        have hsv : Since W1 v9 := by (with_reducible refine Since.step ?_ hB9.out); (repeat (first | with_reducible assumption | with_reducible exact Since.refl _ | with_reducible refine Since.alloc ?_ _ | with_reducible refine Since.drew ?_))
        have f0 := Since.cell hsv p0
        have f1 := Since.cell hsv p1
        have f2 := Since.cell hsv p2
        have f3 := Since.cell (Since.drew hsv) p0
        have f4 := Since.cell (Since.drew hsv) p1
        have f5 := Since.cell (Since.drew hsv) p2
        try go_wp2_with fail
        refine hK.out _ _ ?_ (fun hHeld => ?_)
        · trivial
        clear hK K
        try simp only [Act.put, List.setIfInBounds_toArray, List.set_cons_zero, List.set_cons_succ]
        refine wpAnyH_ready (rs := [8]) (by kernel_rfl) (by simp) ?_
        refine AllReadyH.cons (o := ⟨some 34, Op.buildSlice 23 2 #[(0, Operand.tmp 30), (1, Operand.tmp 33)], 23, _, _, none⟩) rfl (fun K hK => ?_) AllReadyH.nil
        go_simp
        try go_wp2_with fail
        refine hK.out _ _ ?_ (fun hHeld => ?_)
        · trivial
        clear hK K
        try simp only [Act.put, List.setIfInBounds_toArray, List.set_cons_zero, List.set_cons_succ]
        have hsa : Since W1 (v9.alloc (.cells #[.slice s1 t1 u1, .slice s2 t2 u2, .slice s3 t3 u3, .slice q1 qm1 qd1, .slice q2 qm2 qd2, .slice q3 qm3 qd3] 29)) := Since.alloc hsv _
        have hcl : ∀ j u, ([(⟨s1, t1, u1, s2, t2, u2, s3, t3, u3⟩ : Tr), ⟨q1, qm1, qd1, q2, qm2, qd2, q3, qm3, qd3⟩].flatMap RTh.cells)[j]? = some u → (v9.alloc (.cells #[.slice s1 t1 u1, .slice s2 t2 u2, .slice s3 t3 u3, .slice q1 qm1 qd1, .slice q2 qm2 qd2, .slice q3 qm3 qd3] 29)).cell? ⟨v9.heap.size, j, none⟩ = some u := fun j u hu => ((BoxL.made v9 _ _).2 j u (by simpa [RTh] using hu)).1
        have hzB : w.heap.size ≤ (v9.alloc (.cells #[.slice s1 t1 u1, .slice s2 t2 u2, .slice s3 t3 u3, .slice q1 qm1 qd1, .slice q2 qm2 qd2, .slice q3 qm3 qd3] 29)).heap.size := Nat.le_trans hB1.out.size (since_size hsa)
        have HOA := Lib.hid (hAT.out.own.below hsa)
        refine wpAnyH_ready (rs := [9]) (by kernel_rfl) (by simp) ?_
        refine AllReadyH.cons (o := ⟨some 35, Op.call { callee := Callee.builtin Builtin.append, args := #[Operand.tmp 26, Operand.tmp 34], argTypes := #[23, 23] }, 23, _, _, none⟩) rfl (fun K hK => ?_) AllReadyH.nil
        refine wp_row1_f (.tmp 26) (.tmp 34) 23 rfl RTh 29 72 _ Try.underlying23 Try.infoTh rfl (by decide) w.heap.size (.slice (some ⟨g, 0, none⟩) 4 cs1) rs [⟨s1, t1, u1, s2, t2, u2, s3, t3, u3⟩, ⟨q1, qm1, qd1, q2, qm2, qd2, q3, qm3, qd3⟩] v9.heap.size 2 2 rfl rfl rfl hcl HOA.out hzB hl6 ?_
        intro ak lk ck wn hnn hOn hBn hPn
        have hlk : lk = 6 := by rw [hnn.out, HR4.out]
        subst hlk
        have HRD : Hid (ThsRd wn (.slice ak 6 ck) (rs ++ [⟨s1, t1, u1, s2, t2, u2, s3, t3, u3⟩, ⟨q1, qm1, qd1, q2, qm2, qd2, q3, qm3, qd3⟩]) (ts ++ [t0.turn, t0])) := Lib.hid (by
          rw [← HP9.out]
          refine hAT.out.append hsa hPn.out hOn.out rfl fun j r t hr ht => ?_
          match j with
          | 0 =>
            cases hr; cases ht
            refine TS.keep (S' := fun k => (Value.slice (some ⟨g, 0, none⟩) 4 cs1).ownBlock ≠ some k) (w := v9) ⟨by simp, fun b _ hl => Below.heap_alloc _ _ _ hl⟩ (fun k _ hk e => ?_) u9 hT9.out
            have h1 := (hAT.out.own.lt k e).2
            have h2 : W1.heap.size ≤ k := by rcases hk.1 with h | h; exact h.elim; exact h
            omega
          | 1 =>
            cases hr; cases ht
            exact hAT.out.apart hsa HR0.out HT0.out
          | j + 2 => simp at hr)
        have HBN : Hid (Below w.heap.size w wn) := Lib.hid (Below.trans (Below.trans hB1.out (Below.mono hsa hB1.out.size)) hBn.out)
        refine hK.out _ _ ?_ (fun hHeld => ?_)
        · trivial
        clear hK K
        try simp only [Act.put, List.setIfInBounds_toArray, List.set_cons_zero, List.set_cons_succ]
        refine wpAnyH_take (i := 10) (oi := ⟨some 11, Op.assign (Operand.tmp 35), 23, _, _, none⟩) (v := ?_) rfl (by kernel_rfl) (by kernel_rfl) (by kernel_rfl) (fun _ _ _ h => h) (Or.inl ⟨by rfl, ?_⟩) (by assumption) ?_
        rotate_left 1
        · (intro w hSw; (try dsimp only at hSw); go_simp; first | done | with_reducible rfl)
        try simp only [Act.put, List.setIfInBounds_toArray, List.set_cons_zero, List.set_cons_succ]
        refine wpAnyH_done (by kernel_rfl) ?_ _
        refine NoPanic.normal ?_
        go_wp2_with fail
        go_meet
        exact ⟨ak, ck, _, rfl, HRD, HBN⟩
    · go_simp
      try go_wp2_with fail
      refine hK.out _ _ ?_ (fun hHeld => ?_)
      · trivial
      clear hK K
      try simp only [Act.put, List.setIfInBounds_toArray, List.set_cons_zero, List.set_cons_succ]
      refine wpAnyH_ready (rs := [3]) (by kernel_rfl) (by simp) ?_
      refine AllReadyH.cons (o := ⟨some 29, Op.load 29 (Operand.tmp 28), 29, _, _, none⟩) rfl (fun K hK => ?_) AllReadyH.nil
      go_simp
      try go_wp2_with fail
      refine hK.out _ _ ?_ (fun hHeld => ?_)
      · trivial
      clear hK K
      try simp only [Act.put, List.setIfInBounds_toArray, List.set_cons_zero, List.set_cons_succ]
      refine wpAnyH_ready (rs := [4]) (by kernel_rfl) (by simp) ?_
      refine AllReadyH.cons (o := ⟨some 30, Op.call { callee := Callee.value (Operand.func 18), args := #[Operand.tmp 29], argTypes := #[29] }, 29, _, _, none⟩) rfl (fun K hK => ?_) AllReadyH.nil
      go_simp
      refine (KT.out _ (by (repeat (first | with_reducible assumption | with_reducible exact Since.refl _ | with_reducible refine Since.alloc ?_ _ | with_reducible refine Since.drew ?_)))).mono ?_
      rintro e v9 ⟨u9, ⟨s1, t1, u1, s2, t2, u2, s3, t3, u3⟩, rfl, hT9, HP9, hB9⟩
      try simp only
      have hsv : Since W1 v9 := by (with_reducible refine Since.step ?_ hB9.out); (repeat (first | with_reducible assumption | with_reducible exact Since.refl _ | with_reducible refine Since.alloc ?_ _ | with_reducible refine Since.drew ?_))
      have f0 := Since.cell hsv p0
      have f1 := Since.cell hsv p1
      have f2 := Since.cell hsv p2
      have f3 := Since.cell (Since.drew hsv) p0
      have f4 := Since.cell (Since.drew hsv) p1
      have f5 := Since.cell (Since.drew hsv) p2
      try go_wp2_with fail
      refine hK.out _ _ ?_ (fun hHeld => ?_)
      · trivial
      clear hK K
      try simp only [Act.put, List.setIfInBounds_toArray, List.set_cons_zero, List.set_cons_succ]
      refine wpAnyH_ready (rs := [8]) (by kernel_rfl) (by simp) ?_
      refine AllReadyH.cons (o := ⟨some 34, Op.buildSlice 23 2 #[(0, Operand.tmp 30), (1, Operand.tmp 33)], 23, _, _, none⟩) rfl (fun K hK => ?_) AllReadyH.nil
      go_simp
      try go_wp2_with fail
      refine hK.out _ _ ?_ (fun hHeld => ?_)
      · trivial
      clear hK K
      try simp only [Act.put, List.setIfInBounds_toArray, List.set_cons_zero, List.set_cons_succ]
      have hsa : Since W1 (v9.alloc (.cells #[.slice s1 t1 u1, .slice s2 t2 u2, .slice s3 t3 u3, .slice q1 qm1 qd1, .slice q2 qm2 qd2, .slice q3 qm3 qd3] 29)) := Since.alloc hsv _
      have hcl : ∀ j u, ([(⟨s1, t1, u1, s2, t2, u2, s3, t3, u3⟩ : Tr), ⟨q1, qm1, qd1, q2, qm2, qd2, q3, qm3, qd3⟩].flatMap RTh.cells)[j]? = some u → (v9.alloc (.cells #[.slice s1 t1 u1, .slice s2 t2 u2, .slice s3 t3 u3, .slice q1 qm1 qd1, .slice q2 qm2 qd2, .slice q3 qm3 qd3] 29)).cell? ⟨v9.heap.size, j, none⟩ = some u := fun j u hu => ((BoxL.made v9 _ _).2 j u (by simpa [RTh] using hu)).1
      have hzB : w.heap.size ≤ (v9.alloc (.cells #[.slice s1 t1 u1, .slice s2 t2 u2, .slice s3 t3 u3, .slice q1 qm1 qd1, .slice q2 qm2 qd2, .slice q3 qm3 qd3] 29)).heap.size := Nat.le_trans hB1.out.size (since_size hsa)
      have HOA := Lib.hid (hAT.out.own.below hsa)
      refine wpAnyH_ready (rs := [9]) (by kernel_rfl) (by simp) ?_
      refine AllReadyH.cons (o := ⟨some 35, Op.call { callee := Callee.builtin Builtin.append, args := #[Operand.tmp 26, Operand.tmp 34], argTypes := #[23, 23] }, 23, _, _, none⟩) rfl (fun K hK => ?_) AllReadyH.nil
      refine wp_row1_f (.tmp 26) (.tmp 34) 23 rfl RTh 29 72 _ Try.underlying23 Try.infoTh rfl (by decide) w.heap.size (.slice (some ⟨g, 0, none⟩) 4 cs1) rs [⟨s1, t1, u1, s2, t2, u2, s3, t3, u3⟩, ⟨q1, qm1, qd1, q2, qm2, qd2, q3, qm3, qd3⟩] v9.heap.size 2 2 rfl rfl rfl hcl HOA.out hzB hl6 ?_
      intro ak lk ck wn hnn hOn hBn hPn
      have hlk : lk = 6 := by rw [hnn.out, HR4.out]
      subst hlk
      have HRD : Hid (ThsRd wn (.slice ak 6 ck) (rs ++ [⟨s1, t1, u1, s2, t2, u2, s3, t3, u3⟩, ⟨q1, qm1, qd1, q2, qm2, qd2, q3, qm3, qd3⟩]) (ts ++ [t0.turn, t0])) := Lib.hid (by
        rw [← HP9.out]
        refine hAT.out.append hsa hPn.out hOn.out rfl fun j r t hr ht => ?_
        match j with
        | 0 =>
          cases hr; cases ht
          refine TS.keep (S' := fun k => (Value.slice (some ⟨g, 0, none⟩) 4 cs1).ownBlock ≠ some k) (w := v9) ⟨by simp, fun b _ hl => Below.heap_alloc _ _ _ hl⟩ (fun k _ hk e => ?_) u9 hT9.out
          have h1 := (hAT.out.own.lt k e).2
          have h2 : W1.heap.size ≤ k := by rcases hk.1 with h | h; exact h.elim; exact h
          omega
        | 1 =>
          cases hr; cases ht
          exact hAT.out.apart hsa HR0.out HT0.out
        | j + 2 => simp at hr)
      have HBN : Hid (Below w.heap.size w wn) := Lib.hid (Below.trans (Below.trans hB1.out (Below.mono hsa hB1.out.size)) hBn.out)
      refine hK.out _ _ ?_ (fun hHeld => ?_)
      · trivial
      clear hK K
      try simp only [Act.put, List.setIfInBounds_toArray, List.set_cons_zero, List.set_cons_succ]
      refine wpAnyH_take (i := 10) (oi := ⟨some 11, Op.assign (Operand.tmp 35), 23, _, _, none⟩) (v := ?_) rfl (by kernel_rfl) (by kernel_rfl) (by kernel_rfl) (fun _ _ _ h => h) (Or.inl ⟨by rfl, ?_⟩) (by assumption) ?_
      rotate_left 1
      · (intro w hSw; (try dsimp only at hSw); go_simp; first | done | with_reducible rfl)
      try simp only [Act.put, List.setIfInBounds_toArray, List.set_cons_zero, List.set_cons_succ]
      refine wpAnyH_done (by kernel_rfl) ?_ _
      refine NoPanic.normal ?_
      go_wp2_with fail
      go_meet
      exact ⟨ak, ck, _, rfl, HRD, HBN⟩
  case rest =>
    obtain ⟨as6, cs6, rs6, rfl, hRD, hB⟩ := hcut
    rename World => W5
    clear hAT p0 p1 p2 KT hB1 hl6 HR0 HT0 HR4 hcap hcc
    generalize ts ++ [t0.turn, t0] = ts6 at *
    have HS0 : Hid (Since W5 W5) := Lib.hid (Since.refl _)
    go_wp2
    go_loopw [12] (fun x wr => ∃ k : Nat, k ≤ 6 ∧ x = .int .i64 k ∧ Hid (Since W5 wr)) (fun x _ => 6 - (intOf x).toNat)
    case atStart => exact ⟨0, by omega, rfl, HS0⟩
    case round =>
      clear HS0
      obtain ⟨i, hi, rfl, hS⟩ := hrel
      rename World => wi
      have i8 : IntKind.i64.wrap ((i : Int) + 1) = (i : Int) + 1 := IntWalk.i64_in _ (by omega)
      by_cases hli : i < 6
      · have i4 : (i : Int) < 6 := by omega
        go_wp2
        go_loopw [13] (fun x wr => ∃ k : Nat, k ≤ 6 ∧ x = .int .i64 k ∧ Hid (Since W5 wr)) (fun x _ => 6 - (intOf x).toNat)
        case atStart => exact ⟨0, by omega, rfl, hS⟩
        case round =>
          clear hS
          obtain ⟨k, hk, rfl, hS⟩ := hrel
          rename World => wk
          have k8 : IntKind.i64.wrap ((k : Int) + 1) = (k : Int) + 1 := IntWalk.i64_in _ (by omega)
          by_cases hlk : k < 6
          · have k4 : (k : Int) < 6 := by omega
            obtain ⟨g6, ra, ta, rfl, hcap, hra, hta, x0, x1, x2, hTa, hg6⟩ := (hRD.out.below hS.out).get hli
            obtain ⟨g7, rb, tb, e7, -, hrb, htb, y0, y1, y2, hTb, -⟩ := (hRD.out.below hS.out).get hlk
            cases e7
            have hga := HG6.out ta (List.mem_of_getElem? hta)
            have hgb := HG6.out tb (List.mem_of_getElem? htb)
            have hsame : i = k → Th.cmp ta tb = 0 := fun h => by subst h; rw [hta] at htb; cases htb; exact cmp_same ta
            have hsw := cmp_swap ta tb
            have hrng := cmp_rng ta tb
            have henc := cmp_enc hga hgb
            have K1 := Lib.hid fun W (h : Since wk W) => tcmp_all ta.size ta (Nat.le_refl _) hga.cmp tb hgb.cmp _ _ _ _ _ _ W (TAt.below h hTa) (TAt.below h hTb)
            have K2 := Lib.hid fun W (h : Since wk W) => rcmp_all ta.size ta (Nat.le_refl _) hga.cmp tb hgb.cmp _ _ _ _ _ _ W (TAt.below h hTa) (TAt.below h hTb)
            have K3 := Lib.hid fun W (h : Since wk W) => tcmp_all tb.size tb (Nat.le_refl _) hgb.cmp ta hga.cmp _ _ _ _ _ _ W (TAt.below h hTb) (TAt.below h hTa)
            have KEa := Lib.hid fun W (h : Since wk W) => tenc_any ta (by have := hga.size; omega) hga.1 _ _ _ W (TAt.below h hTa)
            have KEb := Lib.hid fun W (h : Since wk W) => tenc_any tb (by have := hgb.size; omega) hgb.1 _ _ _ W (TAt.below h hTb)
            have hel : ta.enc.length ≤ 1000000 := by have := Th.enc_len ta hga.1 (by have := hga.2; omega); have := hga.2; omega
            have HTR : Hid (∀ u ∈ ts6, Th.cmp ta tb ≤ 0 → Th.cmp tb u ≤ 0 → Th.cmp ta u ≤ 0) := Lib.hid fun u _ h1 h2 => Th.cmp_trans ta.size ta (Nat.le_refl _) tb u h1 h2
            have HTA := Lib.hid hTa
            have HTB := Lib.hid hTb
            have HGA := Lib.hid hga
            have HGB := Lib.hid hgb
            rw [hsw] at K3
            have HENC := Lib.hid henc
            have HEL := Lib.hid hel
            generalize ta.enc = ea at *
            generalize tb.enc = eb at *
            generalize validT ta = va at *
            generalize validT tb = vb at *
            generalize Th.cmp ta tb = c at *
            obtain ⟨a1, am1, ad1, a2, am2, ad2, a3, am3, ad3⟩ := ra
            obtain ⟨b1, bm1, bd1, b2, bm2, bd2, b3, bm3, bd3⟩ := rb
            simp only at x0 x1 x2 y0 y1 y2 K1 K2 K3 KEa KEb HTA HTB
            obtain ⟨hc1, hc2⟩ := hrng
            have hneg : IntKind.i64.wrap (-c) = -c := IntWalk.i64_in _ (by omega)
            clear hra hta hrb htb hTa hTb hga hgb hsw henc hel
            have HX0 := Lib.hid x0
            have HX1 := Lib.hid x1
            have HX2 := Lib.hid x2
            have HY0 := Lib.hid y0
            have HY1 := Lib.hid y1
            have HY2 := Lib.hid y2
            have hSd : Since wk wk.drew := Since.drew (Since.refl _)
            go_upto_region 9 with (fail)
            go_cut [14] (fun s wx => s = .int .i64 c ∧ Since wk wx)
            case first =>
              go_region_held3 (fun w' => w'.cell? ⟨g6, i * 3, none⟩ = some (.slice a1 am1 ad1) ∧ w'.cell? ⟨g6, i * 3 + 1, none⟩ = some (.slice a2 am2 ad2) ∧ w'.cell? ⟨g6, i * 3 + 2, none⟩ = some (.slice a3 am3 ad3) ∧ w'.cell? ⟨g6, k * 3, none⟩ = some (.slice b1 bm1 bd1) ∧ w'.cell? ⟨g6, k * 3 + 1, none⟩ = some (.slice b2 bm2 bd2) ∧ w'.cell? ⟨g6, k * 3 + 2, none⟩ = some (.slice b3 bm3 bd3) ∧ Since wk w')
                ((with_reducible refine ⟨Since.cell ?_ x0, Since.cell ?_ x1, Since.cell ?_ x2, Since.cell ?_ y0, Since.cell ?_ y1, Since.cell ?_ y2, ?_⟩) <;> (repeat (first | with_reducible assumption | with_reducible exact Since.refl _ | with_reducible refine Since.alloc ?_ _ | with_reducible refine Since.drew ?_)))
                ((go_at_call 19; refine (K1.out _ (by (repeat (first | with_reducible assumption | with_reducible exact Since.refl _ | with_reducible refine Since.alloc ?_ _ | with_reducible refine Since.drew ?_)))).mono ?_; rintro e w' ⟨rfl, hr⟩; have hB2 : Since wk w' := (by (with_reducible refine Since.step ?_ hr); (repeat (first | with_reducible assumption | with_reducible exact Since.refl _ | with_reducible refine Since.alloc ?_ _ | with_reducible refine Since.drew ?_))); clear hr))
              go_wp2_with fail
              go_meet
              exact ⟨rfl, hB2⟩
            case rest =>
              obtain ⟨rfl, hs9⟩ := hcut
              rename World => wk2
              have x0 := Since.cell hs9 x0
              have x1 := Since.cell hs9 x1
              have x2 := Since.cell hs9 x2
              have y0 := Since.cell hs9 y0
              have y1 := Since.cell hs9 y1
              have y2 := Since.cell hs9 y2
              have K2 := Lib.hid fun W (h : Since wk2 W) => K2.out W (Since.step hs9 h)
              have K3 := Lib.hid fun W (h : Since wk2 W) => K3.out W (Since.step hs9 h)
              go_upto_region 10 with (fail)
              go_cut [90] (fun s wx => s = .bool false ∧ Since wk2 wx)
              case first =>
                by_cases hik : i = k
                · have hcz := hsame hik
                  subst hik
                  obtain ⟨rfl, rfl, rfl⟩ : a1 = b1 ∧ am1 = bm1 ∧ ad1 = bd1 := by simpa using x0.symm.trans y0
                  obtain ⟨rfl, rfl, rfl⟩ : a2 = b2 ∧ am2 = bm2 ∧ ad2 = bd2 := by simpa using x1.symm.trans y1
                  obtain ⟨rfl, rfl, rfl⟩ : a3 = b3 ∧ am3 = bm3 ∧ ad3 = bd3 := by simpa using x2.symm.trans y2
                  subst hcz
                  refine wp_region_noPanic ?_
                  refine wp_region_held_drew (S := fun w' => w'.cell? ⟨g6, i * 3, none⟩ = some (.slice a1 am1 ad1) ∧ w'.cell? ⟨g6, i * 3 + 1, none⟩ = some (.slice a2 am2 ad2) ∧ w'.cell? ⟨g6, i * 3 + 2, none⟩ = some (.slice a3 am3 ad3) ∧ w'.cell? ⟨g6, i * 3, none⟩ = some (.slice a1 am1 ad1) ∧ w'.cell? ⟨g6, i * 3 + 1, none⟩ = some (.slice a2 am2 ad2) ∧ w'.cell? ⟨g6, i * 3 + 2, none⟩ = some (.slice a3 am3 ad3) ∧ Since wk2 w') (by kernel_rfl) (by (with_reducible refine ⟨Since.cell ?_ x0, Since.cell ?_ x1, Since.cell ?_ x2, Since.cell ?_ y0, Since.cell ?_ y1, Since.cell ?_ y2, ?_⟩) <;> (repeat (first | with_reducible assumption | with_reducible exact Since.refl _ | with_reducible refine Since.alloc ?_ _ | with_reducible refine Since.drew ?_))) (fun hHeld => ?_)
                  refine wpAnyH_take (i := 0) (oi := ⟨some 57, Op.move (Operand.tmp 14), 3, _, _, none⟩) (v := ?_) rfl (by kernel_rfl) (by kernel_rfl) (by kernel_rfl) (fun _ _ _ h => h) (Or.inl ⟨by rfl, ?_⟩) (by assumption) ?_
                  rotate_left 1
                  · (intro w hSw; (try dsimp only at hSw); go_simp; first | done | with_reducible rfl)
                  try simp only [Act.put, List.setIfInBounds_toArray, List.set_cons_zero, List.set_cons_succ]
                  refine wpAnyH_take (i := 1) (oi := ⟨some 58, Op.move (Operand.tmp 11), 23, _, _, none⟩) (v := ?_) rfl (by kernel_rfl) (by kernel_rfl) (by kernel_rfl) (fun _ _ _ h => h) (Or.inl ⟨by rfl, ?_⟩) (by assumption) ?_
                  rotate_left 1
                  · (intro w hSw; (try dsimp only at hSw); go_simp; first | done | with_reducible rfl)
                  try simp only [Act.put, List.setIfInBounds_toArray, List.set_cons_zero, List.set_cons_succ]
                  refine wpAnyH_take (i := 2) (oi := ⟨some 59, Op.move (Operand.tmp 12), 3, _, _, none⟩) (v := ?_) rfl (by kernel_rfl) (by kernel_rfl) (by kernel_rfl) (fun _ _ _ h => h) (Or.inl ⟨by rfl, ?_⟩) (by assumption) ?_
                  rotate_left 1
                  · (intro w hSw; (try dsimp only at hSw); go_simp; first | done | with_reducible rfl)
                  try simp only [Act.put, List.setIfInBounds_toArray, List.set_cons_zero, List.set_cons_succ]
                  refine wpAnyH_take (i := 3) (oi := ⟨some 60, Op.indexAddr 23 (Operand.tmp 58) (Operand.tmp 59), 0, _, _, none⟩) (v := ?_) rfl (by kernel_rfl) (by kernel_rfl) (by kernel_rfl) (fun _ _ _ h => h) (Or.inl ⟨by rfl, ?_⟩) (by assumption) ?_
                  rotate_left 1
                  · (intro w hSw; (try dsimp only at hSw); go_simp; first | done | with_reducible rfl)
                  try simp only [Act.put, List.setIfInBounds_toArray, List.set_cons_zero, List.set_cons_succ]
                  refine wpAnyH_take (i := 4) (oi := ⟨some 61, Op.load 29 (Operand.tmp 60), 29, _, _, none⟩) (v := ?_) rfl (by kernel_rfl) (by kernel_rfl) (by kernel_rfl) (fun _ _ _ h => h) (Or.inl ⟨by rfl, ?_⟩) (by assumption) ?_
                  rotate_left 1
                  · (intro w hSw; (try dsimp only at hSw); go_simp; first | done | with_reducible rfl)
                  try simp only [Act.put, List.setIfInBounds_toArray, List.set_cons_zero, List.set_cons_succ]
                  refine wpAnyH_take (i := 5) (oi := ⟨some 62, Op.move (Operand.tmp 11), 23, _, _, none⟩) (v := ?_) rfl (by kernel_rfl) (by kernel_rfl) (by kernel_rfl) (fun _ _ _ h => h) (Or.inl ⟨by rfl, ?_⟩) (by assumption) ?_
                  rotate_left 1
                  · (intro w hSw; (try dsimp only at hSw); go_simp; first | done | with_reducible rfl)
                  try simp only [Act.put, List.setIfInBounds_toArray, List.set_cons_zero, List.set_cons_succ]
                  refine wpAnyH_take (i := 6) (oi := ⟨some 63, Op.move (Operand.tmp 13), 3, _, _, none⟩) (v := ?_) rfl (by kernel_rfl) (by kernel_rfl) (by kernel_rfl) (fun _ _ _ h => h) (Or.inl ⟨by rfl, ?_⟩) (by assumption) ?_
                  rotate_left 1
                  · (intro w hSw; (try dsimp only at hSw); go_simp; first | done | with_reducible rfl)
                  try simp only [Act.put, List.setIfInBounds_toArray, List.set_cons_zero, List.set_cons_succ]
                  refine wpAnyH_take (i := 7) (oi := ⟨some 64, Op.indexAddr 23 (Operand.tmp 62) (Operand.tmp 63), 0, _, _, none⟩) (v := ?_) rfl (by kernel_rfl) (by kernel_rfl) (by kernel_rfl) (fun _ _ _ h => h) (Or.inl ⟨by rfl, ?_⟩) (by assumption) ?_
                  rotate_left 1
                  · (intro w hSw; (try dsimp only at hSw); go_simp; first | done | with_reducible rfl)
                  try simp only [Act.put, List.setIfInBounds_toArray, List.set_cons_zero, List.set_cons_succ]
                  refine wpAnyH_take (i := 8) (oi := ⟨some 65, Op.load 29 (Operand.tmp 64), 29, _, _, none⟩) (v := ?_) rfl (by kernel_rfl) (by kernel_rfl) (by kernel_rfl) (fun _ _ _ h => h) (Or.inl ⟨by rfl, ?_⟩) (by assumption) ?_
                  rotate_left 1
                  · (intro w hSw; (try dsimp only at hSw); go_simp; first | done | with_reducible rfl)
                  try simp only [Act.put, List.setIfInBounds_toArray, List.set_cons_zero, List.set_cons_succ]
                  refine wpAnyH_ready (rs := [9]) (by kernel_rfl) (by simp) ?_
                  refine AllReadyH.cons (o := ⟨some 66, Op.call { callee := Callee.value (Operand.func 20), args := #[Operand.tmp 61, Operand.tmp 65], argTypes := #[29, 29] }, 3, _, _, none⟩) rfl (fun K hK => ?_) AllReadyH.nil
                  go_simp
                  with_reducible refine (K2.out _ (by (repeat (first | with_reducible assumption | with_reducible exact Since.refl _ | with_reducible refine Since.alloc ?_ _ | with_reducible refine Since.drew ?_)))).mono ?_
                  rintro e v1 ⟨rfl, hr⟩
                  have hv1 : Since wk2 v1 := by (with_reducible refine Since.step ?_ hr); (repeat (first | with_reducible assumption | with_reducible exact Since.refl _ | with_reducible refine Since.alloc ?_ _ | with_reducible refine Since.drew ?_))
                  clear hr
                  refine hK.out _ _ ?_ (fun hHeld => ?_)
                  · (with_reducible refine ⟨Since.cell ?_ x0, Since.cell ?_ x1, Since.cell ?_ x2, Since.cell ?_ y0, Since.cell ?_ y1, Since.cell ?_ y2, ?_⟩) <;> (repeat (first | with_reducible assumption | with_reducible exact Since.refl _ | with_reducible refine Since.alloc ?_ _ | with_reducible refine Since.drew ?_))
                  clear hK K
                  try simp only [Act.put, List.setIfInBounds_toArray, List.set_cons_zero, List.set_cons_succ]
                  refine wpAnyH_take (i := 10) (oi := ⟨some 67, Op.binOp BinOp.neq 3 (Operand.tmp 57) (Operand.tmp 66) 3, 4, _, _, none⟩) (v := ?_) rfl (by kernel_rfl) (by kernel_rfl) (by kernel_rfl) (fun _ _ _ h => h) (Or.inl ⟨by rfl, ?_⟩) (by assumption) ?_
                  rotate_left 1
                  · (intro w hSw; (try dsimp only at hSw); go_simp; first | done | with_reducible rfl)
                  try simp only [Act.put, List.setIfInBounds_toArray, List.set_cons_zero, List.set_cons_succ]
                  refine wpAnyH_take (i := 11) (oi := ⟨some 68, Op.move (Operand.tmp 67), 4, _, _, none⟩) (v := ?_) rfl (by kernel_rfl) (by kernel_rfl) (by kernel_rfl) (fun _ _ _ h => h) (Or.inl ⟨by rfl, ?_⟩) (by assumption) ?_
                  rotate_left 1
                  · (intro w hSw; (try dsimp only at hSw); go_simp; first | done | with_reducible rfl)
                  try simp only [Act.put, List.setIfInBounds_toArray, List.set_cons_zero, List.set_cons_succ]
                  refine wpAnyH_take (i := 12) (oi := ⟨some 69, Op.move (Operand.tmp 11), 23, _, _, some (11, false)⟩) (v := ?_) rfl (by kernel_rfl) (by kernel_rfl) (by kernel_rfl) (fun _ _ _ h => h) (Or.inl ⟨by rfl, ?_⟩) (by assumption) ?_
                  rotate_left 1
                  · (intro w hSw; (try dsimp only at hSw); go_simp; first | done | with_reducible rfl)
                  try simp only [Act.put, List.setIfInBounds_toArray, List.set_cons_zero, List.set_cons_succ]
                  refine wpAnyH_take (i := 13) (oi := ⟨some 70, Op.move (Operand.tmp 13), 3, _, _, some (11, false)⟩) (v := ?_) rfl (by kernel_rfl) (by kernel_rfl) (by kernel_rfl) (fun _ _ _ h => h) (Or.inl ⟨by rfl, ?_⟩) (by assumption) ?_
                  rotate_left 1
                  · (intro w hSw; (try dsimp only at hSw); go_simp; first | done | with_reducible rfl)
                  try simp only [Act.put, List.setIfInBounds_toArray, List.set_cons_zero, List.set_cons_succ]
                  refine wpAnyH_take (i := 14) (oi := ⟨some 71, Op.indexAddr 23 (Operand.tmp 69) (Operand.tmp 70), 0, _, _, some (11, false)⟩) (v := ?_) rfl (by kernel_rfl) (by kernel_rfl) (by kernel_rfl) (fun _ _ _ h => h) (Or.inl ⟨by rfl, ?_⟩) (by assumption) ?_
                  rotate_left 1
                  · (intro w hSw; (try dsimp only at hSw); go_simp; first | done | with_reducible rfl)
                  try simp only [Act.put, List.setIfInBounds_toArray, List.set_cons_zero, List.set_cons_succ]
                  refine wpAnyH_take (i := 15) (oi := ⟨some 72, Op.load 29 (Operand.tmp 71), 29, _, _, some (11, false)⟩) (v := ?_) rfl (by kernel_rfl) (by kernel_rfl) (by kernel_rfl) (fun _ _ _ h => h) (Or.inl ⟨by rfl, ?_⟩) (by assumption) ?_
                  rotate_left 1
                  · (intro w hSw; (try dsimp only at hSw); go_simp; first | done | with_reducible rfl)
                  try simp only [Act.put, List.setIfInBounds_toArray, List.set_cons_zero, List.set_cons_succ]
                  refine wpAnyH_take (i := 16) (oi := ⟨some 73, Op.move (Operand.tmp 11), 23, _, _, some (11, false)⟩) (v := ?_) rfl (by kernel_rfl) (by kernel_rfl) (by kernel_rfl) (fun _ _ _ h => h) (Or.inl ⟨by rfl, ?_⟩) (by assumption) ?_
                  rotate_left 1
                  · (intro w hSw; (try dsimp only at hSw); go_simp; first | done | with_reducible rfl)
                  try simp only [Act.put, List.setIfInBounds_toArray, List.set_cons_zero, List.set_cons_succ]
                  refine wpAnyH_take (i := 17) (oi := ⟨some 74, Op.move (Operand.tmp 12), 3, _, _, some (11, false)⟩) (v := ?_) rfl (by kernel_rfl) (by kernel_rfl) (by kernel_rfl) (fun _ _ _ h => h) (Or.inl ⟨by rfl, ?_⟩) (by assumption) ?_
                  rotate_left 1
                  · (intro w hSw; (try dsimp only at hSw); go_simp; first | done | with_reducible rfl)
                  try simp only [Act.put, List.setIfInBounds_toArray, List.set_cons_zero, List.set_cons_succ]
                  refine wpAnyH_take (i := 18) (oi := ⟨some 75, Op.indexAddr 23 (Operand.tmp 73) (Operand.tmp 74), 0, _, _, some (11, false)⟩) (v := ?_) rfl (by kernel_rfl) (by kernel_rfl) (by kernel_rfl) (fun _ _ _ h => h) (Or.inl ⟨by rfl, ?_⟩) (by assumption) ?_
                  rotate_left 1
                  · (intro w hSw; (try dsimp only at hSw); go_simp; first | done | with_reducible rfl)
                  try simp only [Act.put, List.setIfInBounds_toArray, List.set_cons_zero, List.set_cons_succ]
                  refine wpAnyH_take (i := 19) (oi := ⟨some 76, Op.load 29 (Operand.tmp 75), 29, _, _, some (11, false)⟩) (v := ?_) rfl (by kernel_rfl) (by kernel_rfl) (by kernel_rfl) (fun _ _ _ h => h) (Or.inl ⟨by rfl, ?_⟩) (by assumption) ?_
                  rotate_left 1
                  · (intro w hSw; (try dsimp only at hSw); go_simp; first | done | with_reducible rfl)
                  try simp only [Act.put, List.setIfInBounds_toArray, List.set_cons_zero, List.set_cons_succ]
                  refine wpAnyH_take (i := 21) (oi := ⟨some 78, Op.move (Operand.tmp 14), 3, _, _, some (11, false)⟩) (v := ?_) rfl (by kernel_rfl) (by kernel_rfl) (by kernel_rfl) (fun _ _ _ h => h) (Or.inl ⟨by rfl, ?_⟩) (by assumption) ?_
                  rotate_left 1
                  · (intro w hSw; (try dsimp only at hSw); go_simp; first | done | with_reducible rfl)
                  try simp only [Act.put, List.setIfInBounds_toArray, List.set_cons_zero, List.set_cons_succ]
                  refine wpAnyH_take (i := 22) (oi := ⟨some 79, Op.unOp UnOp.neg 3 (Operand.tmp 78), 3, _, _, some (11, false)⟩) (v := ?_) rfl (by kernel_rfl) (by kernel_rfl) (by kernel_rfl) (fun _ _ _ h => h) (Or.inl ⟨by rfl, ?_⟩) (by assumption) ?_
                  rotate_left 1
                  · (intro w hSw; (try dsimp only at hSw); go_simp; first | done | with_reducible rfl)
                  try simp only [Act.put, List.setIfInBounds_toArray, List.set_cons_zero, List.set_cons_succ]
                  refine wpAnyH_ready (rs := [20]) (by kernel_rfl) (by simp) ?_
                  refine AllReadyH.cons (o := ⟨some 77, Op.call { callee := Callee.value (Operand.func 19), args := #[Operand.tmp 72, Operand.tmp 76], argTypes := #[29, 29] }, 3, _, _, some (11, false)⟩) rfl (fun K hK => ?_) AllReadyH.nil
                  go_simp
                  with_reducible refine (K3.out _ (by (repeat (first | with_reducible assumption | with_reducible exact Since.refl _ | with_reducible refine Since.alloc ?_ _ | with_reducible refine Since.drew ?_)))).mono ?_
                  rintro e v2 ⟨rfl, hr⟩
                  have hv2 : Since wk2 v2 := by (with_reducible refine Since.step ?_ hr); (repeat (first | with_reducible assumption | with_reducible exact Since.refl _ | with_reducible refine Since.alloc ?_ _ | with_reducible refine Since.drew ?_))
                  clear hr
                  refine hK.out _ _ ?_ (fun hHeld => ?_)
                  · (with_reducible refine ⟨Since.cell ?_ x0, Since.cell ?_ x1, Since.cell ?_ x2, Since.cell ?_ y0, Since.cell ?_ y1, Since.cell ?_ y2, ?_⟩) <;> (repeat (first | with_reducible assumption | with_reducible exact Since.refl _ | with_reducible refine Since.alloc ?_ _ | with_reducible refine Since.drew ?_))
                  clear hK K
                  try simp only [Act.put, List.setIfInBounds_toArray, List.set_cons_zero, List.set_cons_succ]
                  refine wpAnyH_take (i := 23) (oi := ⟨some 80, Op.binOp BinOp.neq 3 (Operand.tmp 77) (Operand.tmp 79) 3, 4, _, _, some (11, false)⟩) (v := ?_) rfl (by kernel_rfl) (by kernel_rfl) (by kernel_rfl) (fun _ _ _ h => h) (Or.inl ⟨by rfl, ?_⟩) (by assumption) ?_
                  rotate_left 1
                  · (intro w hSw; (try dsimp only at hSw); go_simp; first | done | with_reducible rfl)
                  try simp only [Act.put, List.setIfInBounds_toArray, List.set_cons_zero, List.set_cons_succ]
                  refine wpAnyH_take (i := 24) (oi := ⟨some 81, Op.pick (Operand.tmp 68) (Operand.const (Value.bool true)) (Operand.tmp 80), 4, _, _, none⟩) (v := ?_) rfl (by kernel_rfl) (by kernel_rfl) (by kernel_rfl) (fun _ _ _ h => h) (Or.inl ⟨by rfl, ?_⟩) (by assumption) ?_
                  rotate_left 1
                  · (intro w hSw; (try dsimp only at hSw); go_simp; first | done | with_reducible rfl)
                  try simp only [Act.put, List.setIfInBounds_toArray, List.set_cons_zero, List.set_cons_succ]
                  refine wpAnyH_take (i := 25) (oi := ⟨some 82, Op.move (Operand.tmp 81), 4, _, _, none⟩) (v := ?_) rfl (by kernel_rfl) (by kernel_rfl) (by kernel_rfl) (fun _ _ _ h => h) (Or.inl ⟨by rfl, ?_⟩) (by assumption) ?_
                  rotate_left 1
                  · (intro w hSw; (try dsimp only at hSw); go_simp; first | done | with_reducible rfl)
                  try simp only [Act.put, List.setIfInBounds_toArray, List.set_cons_zero, List.set_cons_succ]
                  refine wpAnyH_take (i := 26) (oi := ⟨some 83, Op.move (Operand.tmp 12), 3, _, _, some (25, false)⟩) (v := ?_) rfl (by kernel_rfl) (by kernel_rfl) (by kernel_rfl) (fun _ _ _ h => h) (Or.inl ⟨by rfl, ?_⟩) (by assumption) ?_
                  rotate_left 1
                  · (intro w hSw; (try dsimp only at hSw); go_simp; first | done | with_reducible rfl)
                  try simp only [Act.put, List.setIfInBounds_toArray, List.set_cons_zero, List.set_cons_succ]
                  refine wpAnyH_take (i := 27) (oi := ⟨some 84, Op.move (Operand.tmp 13), 3, _, _, some (25, false)⟩) (v := ?_) rfl (by kernel_rfl) (by kernel_rfl) (by kernel_rfl) (fun _ _ _ h => h) (Or.inl ⟨by rfl, ?_⟩) (by assumption) ?_
                  rotate_left 1
                  · (intro w hSw; (try dsimp only at hSw); go_simp; first | done | with_reducible rfl)
                  try simp only [Act.put, List.setIfInBounds_toArray, List.set_cons_zero, List.set_cons_succ]
                  refine wpAnyH_take (i := 28) (oi := ⟨some 85, Op.binOp BinOp.eql 3 (Operand.tmp 83) (Operand.tmp 84) 3, 4, _, _, some (25, false)⟩) (v := ?_) rfl (by kernel_rfl) (by kernel_rfl) (by kernel_rfl) (fun _ _ _ h => h) (Or.inl ⟨by rfl, ?_⟩) (by assumption) ?_
                  rotate_left 1
                  · (intro w hSw; (try dsimp only at hSw); go_simp; first | done | with_reducible rfl)
                  try simp only [Act.put, List.setIfInBounds_toArray, List.set_cons_zero, List.set_cons_succ]
                  refine wpAnyH_take (i := 29) (oi := ⟨some 86, Op.move (Operand.tmp 85), 4, _, _, some (25, false)⟩) (v := ?_) rfl (by kernel_rfl) (by kernel_rfl) (by kernel_rfl) (fun _ _ _ h => h) (Or.inl ⟨by rfl, ?_⟩) (by assumption) ?_
                  rotate_left 1
                  · (intro w hSw; (try dsimp only at hSw); go_simp; first | done | with_reducible rfl)
                  try simp only [Act.put, List.setIfInBounds_toArray, List.set_cons_zero, List.set_cons_succ]
                  refine wpAnyH_take (i := 30) (oi := ⟨some 87, Op.move (Operand.tmp 14), 3, _, _, some (29, true)⟩) (v := ?_) rfl (by kernel_rfl) (by kernel_rfl) (by kernel_rfl) (fun _ _ _ h => h) (Or.inl ⟨by rfl, ?_⟩) (by assumption) ?_
                  rotate_left 1
                  · (intro w hSw; (try dsimp only at hSw); go_simp; first | done | with_reducible rfl)
                  try simp only [Act.put, List.setIfInBounds_toArray, List.set_cons_zero, List.set_cons_succ]
                  refine wpAnyH_take (i := 31) (oi := ⟨some 88, Op.binOp BinOp.neq 3 (Operand.tmp 87) (Operand.const (Value.int IntKind.i64 0)) 3, 4, _, _, some (29, true)⟩) (v := ?_) rfl (by kernel_rfl) (by kernel_rfl) (by kernel_rfl) (fun _ _ _ h => h) (Or.inl ⟨by rfl, ?_⟩) (by assumption) ?_
                  rotate_left 1
                  · (intro w hSw; (try dsimp only at hSw); go_simp; first | done | with_reducible rfl)
                  try simp only [Act.put, List.setIfInBounds_toArray, List.set_cons_zero, List.set_cons_succ]
                  refine wpAnyH_take (i := 32) (oi := ⟨some 89, Op.pick (Operand.tmp 86) (Operand.tmp 88) (Operand.const (Value.bool false)), 4, _, _, some (25, false)⟩) (v := ?_) rfl (by kernel_rfl) (by kernel_rfl) (by kernel_rfl) (fun _ _ _ h => h) (Or.inl ⟨by rfl, ?_⟩) (by assumption) ?_
                  rotate_left 1
                  · (intro w hSw; (try dsimp only at hSw); go_simp; first | done | with_reducible rfl)
                  try simp only [Act.put, List.setIfInBounds_toArray, List.set_cons_zero, List.set_cons_succ]
                  refine wpAnyH_take (i := 33) (oi := ⟨some 90, Op.pick (Operand.tmp 82) (Operand.const (Value.bool true)) (Operand.tmp 89), 4, _, _, none⟩) (v := ?_) rfl (by kernel_rfl) (by kernel_rfl) (by kernel_rfl) (fun _ _ _ h => h) (Or.inl ⟨by rfl, ?_⟩) (by assumption) ?_
                  rotate_left 1
                  · (intro w hSw; (try dsimp only at hSw); go_simp; first | done | with_reducible rfl)
                  try simp only [Act.put, List.setIfInBounds_toArray, List.set_cons_zero, List.set_cons_succ]
                  refine wpAnyH_done (by kernel_rfl) ?_ _
                  refine NoPanic.normal ?_
                  go_wp2_with fail
                  go_meet
                  exact ⟨rfl, hv2⟩
                · have hikf : ((i : Int) == (k : Int)) = false := beq_eq_false_iff_ne.2 (by omega)
                  refine wp_region_noPanic ?_
                  refine wp_region_held_drew (S := fun w' => w'.cell? ⟨g6, i * 3, none⟩ = some (.slice a1 am1 ad1) ∧ w'.cell? ⟨g6, i * 3 + 1, none⟩ = some (.slice a2 am2 ad2) ∧ w'.cell? ⟨g6, i * 3 + 2, none⟩ = some (.slice a3 am3 ad3) ∧ w'.cell? ⟨g6, k * 3, none⟩ = some (.slice b1 bm1 bd1) ∧ w'.cell? ⟨g6, k * 3 + 1, none⟩ = some (.slice b2 bm2 bd2) ∧ w'.cell? ⟨g6, k * 3 + 2, none⟩ = some (.slice b3 bm3 bd3) ∧ Since wk2 w') (by kernel_rfl) (by (with_reducible refine ⟨Since.cell ?_ x0, Since.cell ?_ x1, Since.cell ?_ x2, Since.cell ?_ y0, Since.cell ?_ y1, Since.cell ?_ y2, ?_⟩) <;> (repeat (first | with_reducible assumption | with_reducible exact Since.refl _ | with_reducible refine Since.alloc ?_ _ | with_reducible refine Since.drew ?_))) (fun hHeld => ?_)
                  refine wpAnyH_take (i := 0) (oi := ⟨some 57, Op.move (Operand.tmp 14), 3, _, _, none⟩) (v := ?_) rfl (by kernel_rfl) (by kernel_rfl) (by kernel_rfl) (fun _ _ _ h => h) (Or.inl ⟨by rfl, ?_⟩) (by assumption) ?_
                  rotate_left 1
                  · (intro w hSw; (try dsimp only at hSw); go_simp; first | done | with_reducible rfl)
                  try simp only [Act.put, List.setIfInBounds_toArray, List.set_cons_zero, List.set_cons_succ]
                  refine wpAnyH_take (i := 1) (oi := ⟨some 58, Op.move (Operand.tmp 11), 23, _, _, none⟩) (v := ?_) rfl (by kernel_rfl) (by kernel_rfl) (by kernel_rfl) (fun _ _ _ h => h) (Or.inl ⟨by rfl, ?_⟩) (by assumption) ?_
                  rotate_left 1
                  · (intro w hSw; (try dsimp only at hSw); go_simp; first | done | with_reducible rfl)
                  try simp only [Act.put, List.setIfInBounds_toArray, List.set_cons_zero, List.set_cons_succ]
                  refine wpAnyH_take (i := 2) (oi := ⟨some 59, Op.move (Operand.tmp 12), 3, _, _, none⟩) (v := ?_) rfl (by kernel_rfl) (by kernel_rfl) (by kernel_rfl) (fun _ _ _ h => h) (Or.inl ⟨by rfl, ?_⟩) (by assumption) ?_
                  rotate_left 1
                  · (intro w hSw; (try dsimp only at hSw); go_simp; first | done | with_reducible rfl)
                  try simp only [Act.put, List.setIfInBounds_toArray, List.set_cons_zero, List.set_cons_succ]
                  refine wpAnyH_take (i := 3) (oi := ⟨some 60, Op.indexAddr 23 (Operand.tmp 58) (Operand.tmp 59), 0, _, _, none⟩) (v := ?_) rfl (by kernel_rfl) (by kernel_rfl) (by kernel_rfl) (fun _ _ _ h => h) (Or.inl ⟨by rfl, ?_⟩) (by assumption) ?_
                  rotate_left 1
                  · (intro w hSw; (try dsimp only at hSw); go_simp; first | done | with_reducible rfl)
                  try simp only [Act.put, List.setIfInBounds_toArray, List.set_cons_zero, List.set_cons_succ]
                  refine wpAnyH_take (i := 4) (oi := ⟨some 61, Op.load 29 (Operand.tmp 60), 29, _, _, none⟩) (v := ?_) rfl (by kernel_rfl) (by kernel_rfl) (by kernel_rfl) (fun _ _ _ h => h) (Or.inl ⟨by rfl, ?_⟩) (by assumption) ?_
                  rotate_left 1
                  · (intro w hSw; (try dsimp only at hSw); go_simp; first | done | with_reducible rfl)
                  try simp only [Act.put, List.setIfInBounds_toArray, List.set_cons_zero, List.set_cons_succ]
                  refine wpAnyH_take (i := 5) (oi := ⟨some 62, Op.move (Operand.tmp 11), 23, _, _, none⟩) (v := ?_) rfl (by kernel_rfl) (by kernel_rfl) (by kernel_rfl) (fun _ _ _ h => h) (Or.inl ⟨by rfl, ?_⟩) (by assumption) ?_
                  rotate_left 1
                  · (intro w hSw; (try dsimp only at hSw); go_simp; first | done | with_reducible rfl)
                  try simp only [Act.put, List.setIfInBounds_toArray, List.set_cons_zero, List.set_cons_succ]
                  refine wpAnyH_take (i := 6) (oi := ⟨some 63, Op.move (Operand.tmp 13), 3, _, _, none⟩) (v := ?_) rfl (by kernel_rfl) (by kernel_rfl) (by kernel_rfl) (fun _ _ _ h => h) (Or.inl ⟨by rfl, ?_⟩) (by assumption) ?_
                  rotate_left 1
                  · (intro w hSw; (try dsimp only at hSw); go_simp; first | done | with_reducible rfl)
                  try simp only [Act.put, List.setIfInBounds_toArray, List.set_cons_zero, List.set_cons_succ]
                  refine wpAnyH_take (i := 7) (oi := ⟨some 64, Op.indexAddr 23 (Operand.tmp 62) (Operand.tmp 63), 0, _, _, none⟩) (v := ?_) rfl (by kernel_rfl) (by kernel_rfl) (by kernel_rfl) (fun _ _ _ h => h) (Or.inl ⟨by rfl, ?_⟩) (by assumption) ?_
                  rotate_left 1
                  · (intro w hSw; (try dsimp only at hSw); go_simp; first | done | with_reducible rfl)
                  try simp only [Act.put, List.setIfInBounds_toArray, List.set_cons_zero, List.set_cons_succ]
                  refine wpAnyH_take (i := 8) (oi := ⟨some 65, Op.load 29 (Operand.tmp 64), 29, _, _, none⟩) (v := ?_) rfl (by kernel_rfl) (by kernel_rfl) (by kernel_rfl) (fun _ _ _ h => h) (Or.inl ⟨by rfl, ?_⟩) (by assumption) ?_
                  rotate_left 1
                  · (intro w hSw; (try dsimp only at hSw); go_simp; first | done | with_reducible rfl)
                  try simp only [Act.put, List.setIfInBounds_toArray, List.set_cons_zero, List.set_cons_succ]
                  refine wpAnyH_ready (rs := [9]) (by kernel_rfl) (by simp) ?_
                  refine AllReadyH.cons (o := ⟨some 66, Op.call { callee := Callee.value (Operand.func 20), args := #[Operand.tmp 61, Operand.tmp 65], argTypes := #[29, 29] }, 3, _, _, none⟩) rfl (fun K hK => ?_) AllReadyH.nil
                  go_simp
                  with_reducible refine (K2.out _ (by (repeat (first | with_reducible assumption | with_reducible exact Since.refl _ | with_reducible refine Since.alloc ?_ _ | with_reducible refine Since.drew ?_)))).mono ?_
                  rintro e v1 ⟨rfl, hr⟩
                  have hv1 : Since wk2 v1 := by (with_reducible refine Since.step ?_ hr); (repeat (first | with_reducible assumption | with_reducible exact Since.refl _ | with_reducible refine Since.alloc ?_ _ | with_reducible refine Since.drew ?_))
                  clear hr
                  refine hK.out _ _ ?_ (fun hHeld => ?_)
                  · (with_reducible refine ⟨Since.cell ?_ x0, Since.cell ?_ x1, Since.cell ?_ x2, Since.cell ?_ y0, Since.cell ?_ y1, Since.cell ?_ y2, ?_⟩) <;> (repeat (first | with_reducible assumption | with_reducible exact Since.refl _ | with_reducible refine Since.alloc ?_ _ | with_reducible refine Since.drew ?_))
                  clear hK K
                  try simp only [Act.put, List.setIfInBounds_toArray, List.set_cons_zero, List.set_cons_succ]
                  refine wpAnyH_take (i := 10) (oi := ⟨some 67, Op.binOp BinOp.neq 3 (Operand.tmp 57) (Operand.tmp 66) 3, 4, _, _, none⟩) (v := ?_) rfl (by kernel_rfl) (by kernel_rfl) (by kernel_rfl) (fun _ _ _ h => h) (Or.inl ⟨by rfl, ?_⟩) (by assumption) ?_
                  rotate_left 1
                  · (intro w hSw; (try dsimp only at hSw); go_simp; first | done | with_reducible rfl)
                  try simp only [Act.put, List.setIfInBounds_toArray, List.set_cons_zero, List.set_cons_succ]
                  refine wpAnyH_take (i := 11) (oi := ⟨some 68, Op.move (Operand.tmp 67), 4, _, _, none⟩) (v := ?_) rfl (by kernel_rfl) (by kernel_rfl) (by kernel_rfl) (fun _ _ _ h => h) (Or.inl ⟨by rfl, ?_⟩) (by assumption) ?_
                  rotate_left 1
                  · (intro w hSw; (try dsimp only at hSw); go_simp; first | done | with_reducible rfl)
                  try simp only [Act.put, List.setIfInBounds_toArray, List.set_cons_zero, List.set_cons_succ]
                  refine wpAnyH_take (i := 12) (oi := ⟨some 69, Op.move (Operand.tmp 11), 23, _, _, some (11, false)⟩) (v := ?_) rfl (by kernel_rfl) (by kernel_rfl) (by kernel_rfl) (fun _ _ _ h => h) (Or.inl ⟨by rfl, ?_⟩) (by assumption) ?_
                  rotate_left 1
                  · (intro w hSw; (try dsimp only at hSw); go_simp; first | done | with_reducible rfl)
                  try simp only [Act.put, List.setIfInBounds_toArray, List.set_cons_zero, List.set_cons_succ]
                  refine wpAnyH_take (i := 13) (oi := ⟨some 70, Op.move (Operand.tmp 13), 3, _, _, some (11, false)⟩) (v := ?_) rfl (by kernel_rfl) (by kernel_rfl) (by kernel_rfl) (fun _ _ _ h => h) (Or.inl ⟨by rfl, ?_⟩) (by assumption) ?_
                  rotate_left 1
                  · (intro w hSw; (try dsimp only at hSw); go_simp; first | done | with_reducible rfl)
                  try simp only [Act.put, List.setIfInBounds_toArray, List.set_cons_zero, List.set_cons_succ]
                  refine wpAnyH_take (i := 14) (oi := ⟨some 71, Op.indexAddr 23 (Operand.tmp 69) (Operand.tmp 70), 0, _, _, some (11, false)⟩) (v := ?_) rfl (by kernel_rfl) (by kernel_rfl) (by kernel_rfl) (fun _ _ _ h => h) (Or.inl ⟨by rfl, ?_⟩) (by assumption) ?_
                  rotate_left 1
                  · (intro w hSw; (try dsimp only at hSw); go_simp; first | done | with_reducible rfl)
                  try simp only [Act.put, List.setIfInBounds_toArray, List.set_cons_zero, List.set_cons_succ]
                  refine wpAnyH_take (i := 15) (oi := ⟨some 72, Op.load 29 (Operand.tmp 71), 29, _, _, some (11, false)⟩) (v := ?_) rfl (by kernel_rfl) (by kernel_rfl) (by kernel_rfl) (fun _ _ _ h => h) (Or.inl ⟨by rfl, ?_⟩) (by assumption) ?_
                  rotate_left 1
                  · (intro w hSw; (try dsimp only at hSw); go_simp; first | done | with_reducible rfl)
                  try simp only [Act.put, List.setIfInBounds_toArray, List.set_cons_zero, List.set_cons_succ]
                  refine wpAnyH_take (i := 16) (oi := ⟨some 73, Op.move (Operand.tmp 11), 23, _, _, some (11, false)⟩) (v := ?_) rfl (by kernel_rfl) (by kernel_rfl) (by kernel_rfl) (fun _ _ _ h => h) (Or.inl ⟨by rfl, ?_⟩) (by assumption) ?_
                  rotate_left 1
                  · (intro w hSw; (try dsimp only at hSw); go_simp; first | done | with_reducible rfl)
                  try simp only [Act.put, List.setIfInBounds_toArray, List.set_cons_zero, List.set_cons_succ]
                  refine wpAnyH_take (i := 17) (oi := ⟨some 74, Op.move (Operand.tmp 12), 3, _, _, some (11, false)⟩) (v := ?_) rfl (by kernel_rfl) (by kernel_rfl) (by kernel_rfl) (fun _ _ _ h => h) (Or.inl ⟨by rfl, ?_⟩) (by assumption) ?_
                  rotate_left 1
                  · (intro w hSw; (try dsimp only at hSw); go_simp; first | done | with_reducible rfl)
                  try simp only [Act.put, List.setIfInBounds_toArray, List.set_cons_zero, List.set_cons_succ]
                  refine wpAnyH_take (i := 18) (oi := ⟨some 75, Op.indexAddr 23 (Operand.tmp 73) (Operand.tmp 74), 0, _, _, some (11, false)⟩) (v := ?_) rfl (by kernel_rfl) (by kernel_rfl) (by kernel_rfl) (fun _ _ _ h => h) (Or.inl ⟨by rfl, ?_⟩) (by assumption) ?_
                  rotate_left 1
                  · (intro w hSw; (try dsimp only at hSw); go_simp; first | done | with_reducible rfl)
                  try simp only [Act.put, List.setIfInBounds_toArray, List.set_cons_zero, List.set_cons_succ]
                  refine wpAnyH_take (i := 19) (oi := ⟨some 76, Op.load 29 (Operand.tmp 75), 29, _, _, some (11, false)⟩) (v := ?_) rfl (by kernel_rfl) (by kernel_rfl) (by kernel_rfl) (fun _ _ _ h => h) (Or.inl ⟨by rfl, ?_⟩) (by assumption) ?_
                  rotate_left 1
                  · (intro w hSw; (try dsimp only at hSw); go_simp; first | done | with_reducible rfl)
                  try simp only [Act.put, List.setIfInBounds_toArray, List.set_cons_zero, List.set_cons_succ]
                  refine wpAnyH_take (i := 21) (oi := ⟨some 78, Op.move (Operand.tmp 14), 3, _, _, some (11, false)⟩) (v := ?_) rfl (by kernel_rfl) (by kernel_rfl) (by kernel_rfl) (fun _ _ _ h => h) (Or.inl ⟨by rfl, ?_⟩) (by assumption) ?_
                  rotate_left 1
                  · (intro w hSw; (try dsimp only at hSw); go_simp; first | done | with_reducible rfl)
                  try simp only [Act.put, List.setIfInBounds_toArray, List.set_cons_zero, List.set_cons_succ]
                  refine wpAnyH_take (i := 22) (oi := ⟨some 79, Op.unOp UnOp.neg 3 (Operand.tmp 78), 3, _, _, some (11, false)⟩) (v := ?_) rfl (by kernel_rfl) (by kernel_rfl) (by kernel_rfl) (fun _ _ _ h => h) (Or.inl ⟨by rfl, ?_⟩) (by assumption) ?_
                  rotate_left 1
                  · (intro w hSw; (try dsimp only at hSw); go_simp; first | done | with_reducible rfl)
                  try simp only [Act.put, List.setIfInBounds_toArray, List.set_cons_zero, List.set_cons_succ]
                  refine wpAnyH_ready (rs := [20]) (by kernel_rfl) (by simp) ?_
                  refine AllReadyH.cons (o := ⟨some 77, Op.call { callee := Callee.value (Operand.func 19), args := #[Operand.tmp 72, Operand.tmp 76], argTypes := #[29, 29] }, 3, _, _, some (11, false)⟩) rfl (fun K hK => ?_) AllReadyH.nil
                  go_simp
                  with_reducible refine (K3.out _ (by (repeat (first | with_reducible assumption | with_reducible exact Since.refl _ | with_reducible refine Since.alloc ?_ _ | with_reducible refine Since.drew ?_)))).mono ?_
                  rintro e v2 ⟨rfl, hr⟩
                  have hv2 : Since wk2 v2 := by (with_reducible refine Since.step ?_ hr); (repeat (first | with_reducible assumption | with_reducible exact Since.refl _ | with_reducible refine Since.alloc ?_ _ | with_reducible refine Since.drew ?_))
                  clear hr
                  refine hK.out _ _ ?_ (fun hHeld => ?_)
                  · (with_reducible refine ⟨Since.cell ?_ x0, Since.cell ?_ x1, Since.cell ?_ x2, Since.cell ?_ y0, Since.cell ?_ y1, Since.cell ?_ y2, ?_⟩) <;> (repeat (first | with_reducible assumption | with_reducible exact Since.refl _ | with_reducible refine Since.alloc ?_ _ | with_reducible refine Since.drew ?_))
                  clear hK K
                  try simp only [Act.put, List.setIfInBounds_toArray, List.set_cons_zero, List.set_cons_succ]
                  refine wpAnyH_take (i := 23) (oi := ⟨some 80, Op.binOp BinOp.neq 3 (Operand.tmp 77) (Operand.tmp 79) 3, 4, _, _, some (11, false)⟩) (v := ?_) rfl (by kernel_rfl) (by kernel_rfl) (by kernel_rfl) (fun _ _ _ h => h) (Or.inl ⟨by rfl, ?_⟩) (by assumption) ?_
                  rotate_left 1
                  · (intro w hSw; (try dsimp only at hSw); go_simp; first | done | with_reducible rfl)
                  try simp only [Act.put, List.setIfInBounds_toArray, List.set_cons_zero, List.set_cons_succ]
                  refine wpAnyH_take (i := 24) (oi := ⟨some 81, Op.pick (Operand.tmp 68) (Operand.const (Value.bool true)) (Operand.tmp 80), 4, _, _, none⟩) (v := ?_) rfl (by kernel_rfl) (by kernel_rfl) (by kernel_rfl) (fun _ _ _ h => h) (Or.inl ⟨by rfl, ?_⟩) (by assumption) ?_
                  rotate_left 1
                  · (intro w hSw; (try dsimp only at hSw); go_simp; first | done | with_reducible rfl)
                  try simp only [Act.put, List.setIfInBounds_toArray, List.set_cons_zero, List.set_cons_succ]
                  refine wpAnyH_take (i := 25) (oi := ⟨some 82, Op.move (Operand.tmp 81), 4, _, _, none⟩) (v := ?_) rfl (by kernel_rfl) (by kernel_rfl) (by kernel_rfl) (fun _ _ _ h => h) (Or.inl ⟨by rfl, ?_⟩) (by assumption) ?_
                  rotate_left 1
                  · (intro w hSw; (try dsimp only at hSw); go_simp; first | done | with_reducible rfl)
                  try simp only [Act.put, List.setIfInBounds_toArray, List.set_cons_zero, List.set_cons_succ]
                  refine wpAnyH_take (i := 26) (oi := ⟨some 83, Op.move (Operand.tmp 12), 3, _, _, some (25, false)⟩) (v := ?_) rfl (by kernel_rfl) (by kernel_rfl) (by kernel_rfl) (fun _ _ _ h => h) (Or.inl ⟨by rfl, ?_⟩) (by assumption) ?_
                  rotate_left 1
                  · (intro w hSw; (try dsimp only at hSw); go_simp; first | done | with_reducible rfl)
                  try simp only [Act.put, List.setIfInBounds_toArray, List.set_cons_zero, List.set_cons_succ]
                  refine wpAnyH_take (i := 27) (oi := ⟨some 84, Op.move (Operand.tmp 13), 3, _, _, some (25, false)⟩) (v := ?_) rfl (by kernel_rfl) (by kernel_rfl) (by kernel_rfl) (fun _ _ _ h => h) (Or.inl ⟨by rfl, ?_⟩) (by assumption) ?_
                  rotate_left 1
                  · (intro w hSw; (try dsimp only at hSw); go_simp; first | done | with_reducible rfl)
                  try simp only [Act.put, List.setIfInBounds_toArray, List.set_cons_zero, List.set_cons_succ]
                  refine wpAnyH_take (i := 28) (oi := ⟨some 85, Op.binOp BinOp.eql 3 (Operand.tmp 83) (Operand.tmp 84) 3, 4, _, _, some (25, false)⟩) (v := ?_) rfl (by kernel_rfl) (by kernel_rfl) (by kernel_rfl) (fun _ _ _ h => h) (Or.inl ⟨by rfl, ?_⟩) (by assumption) ?_
                  rotate_left 1
                  · (intro w hSw; (try dsimp only at hSw); go_simp; first | done | with_reducible rfl)
                  try simp only [Act.put, List.setIfInBounds_toArray, List.set_cons_zero, List.set_cons_succ]
                  refine wpAnyH_take (i := 29) (oi := ⟨some 86, Op.move (Operand.tmp 85), 4, _, _, some (25, false)⟩) (v := ?_) rfl (by kernel_rfl) (by kernel_rfl) (by kernel_rfl) (fun _ _ _ h => h) (Or.inl ⟨by rfl, ?_⟩) (by assumption) ?_
                  rotate_left 1
                  · (intro w hSw; (try dsimp only at hSw); go_simp; first | done | with_reducible rfl)
                  try simp only [Act.put, List.setIfInBounds_toArray, List.set_cons_zero, List.set_cons_succ]
                  refine wpAnyH_take (i := 30) (oi := ⟨some 87, Op.move (Operand.tmp 14), 3, _, _, some (29, true)⟩) (v := undef) rfl (by kernel_rfl) (by kernel_rfl) (by kernel_rfl) (fun _ _ _ h => h) (Or.inr ⟨by rfl, rfl⟩) (by assumption) ?_
                  try simp only [Act.put, List.setIfInBounds_toArray, List.set_cons_zero, List.set_cons_succ]
                  refine wpAnyH_take (i := 31) (oi := ⟨some 88, Op.binOp BinOp.neq 3 (Operand.tmp 87) (Operand.const (Value.int IntKind.i64 0)) 3, 4, _, _, some (29, true)⟩) (v := undef) rfl (by kernel_rfl) (by kernel_rfl) (by kernel_rfl) (fun _ _ _ h => h) (Or.inr ⟨by rfl, rfl⟩) (by assumption) ?_
                  try simp only [Act.put, List.setIfInBounds_toArray, List.set_cons_zero, List.set_cons_succ]
                  refine wpAnyH_take (i := 32) (oi := ⟨some 89, Op.pick (Operand.tmp 86) (Operand.tmp 88) (Operand.const (Value.bool false)), 4, _, _, some (25, false)⟩) (v := ?_) rfl (by kernel_rfl) (by kernel_rfl) (by kernel_rfl) (fun _ _ _ h => h) (Or.inl ⟨by rfl, ?_⟩) (by assumption) ?_
                  rotate_left 1
                  · (intro w hSw; (try dsimp only at hSw); go_simp; first | done | with_reducible rfl)
                  try simp only [Act.put, List.setIfInBounds_toArray, List.set_cons_zero, List.set_cons_succ]
                  refine wpAnyH_take (i := 33) (oi := ⟨some 90, Op.pick (Operand.tmp 82) (Operand.const (Value.bool true)) (Operand.tmp 89), 4, _, _, none⟩) (v := ?_) rfl (by kernel_rfl) (by kernel_rfl) (by kernel_rfl) (fun _ _ _ h => h) (Or.inl ⟨by rfl, ?_⟩) (by assumption) ?_
                  rotate_left 1
                  · (intro w hSw; (try dsimp only at hSw); go_simp; first | done | with_reducible rfl)
                  try simp only [Act.put, List.setIfInBounds_toArray, List.set_cons_zero, List.set_cons_succ]
                  refine wpAnyH_done (by kernel_rfl) ?_ _
                  refine NoPanic.normal ?_
                  go_wp2_with fail
                  go_meet
                  exact ⟨rfl, hv2⟩
              case rest =>
                obtain ⟨rfl, hs10⟩ := hcut
                rename World => wk3
                have hS10 := Since.step hs9 hs10
                have x0 := Since.cell hs10 x0
                have x1 := Since.cell hs10 x1
                have x2 := Since.cell hs10 x2
                have y0 := Since.cell hs10 y0
                have y1 := Since.cell hs10 y1
                have y2 := Since.cell hs10 y2
                go_wp2_with fail
                refine (KEa.out wk3 hS10).mono ?_
                intro e w12 hE1
                clear K1 K2 K3 hSd
                obtain ⟨m1, sa, na, ca, rfl, hA, hs11⟩ : ∃ (m1 : Unit) (sa : Option Addr) (na ca : Nat), e = .returned (.tuple #[.slice sa na ca, .int .i64 va]) ∧ Hid (va = 0 → Els .u8 w12 (.slice sa na ca) ea) ∧ Hid (Since wk3 w12) := by
                  rcases hE1 with ⟨h0, a, n, cc, rfl, -, hO, hr⟩ | ⟨h0, rfl, hr⟩
                  · exact ⟨(), a, n, cc, by rw [h0], Lib.hid fun _ => hO.out.els, hr⟩
                  · exact ⟨(), none, 0, 0, rfl, Lib.hid fun h => absurd h h0, hr⟩
                clear hE1
                have x0 := Since.cell hs11.out x0
                have x1 := Since.cell hs11.out x1
                have x2 := Since.cell hs11.out x2
                have y0 := Since.cell hs11.out y0
                have y1 := Since.cell hs11.out y1
                have y2 := Since.cell hs11.out y2
                go_wp2_with fail
                refine (KEb.out w12 (Since.step hS10 hs11.out)).mono ?_
                intro e w13 hE1
                obtain ⟨m2, sb, nb, cb, rfl, hBB, hs12⟩ : ∃ (m1 : Unit) (sa : Option Addr) (na ca : Nat), e = .returned (.tuple #[.slice sa na ca, .int .i64 vb]) ∧ Hid (vb = 0 → Els .u8 w13 (.slice sa na ca) eb) ∧ Hid (Since w12 w13) := by
                  rcases hE1 with ⟨h0, a, n, cc, rfl, -, hO, hr⟩ | ⟨h0, rfl, hr⟩
                  · exact ⟨(), a, n, cc, by rw [h0], Lib.hid fun _ => hO.out.els, hr⟩
                  · exact ⟨(), none, 0, 0, rfl, Lib.hid fun h => absurd h h0, hr⟩
                clear hE1
                have hS13 := Since.step (Since.step hS10 hs11.out) hs12.out
                clear x0 x1 x2 y0 y1 y2
                go_upto_region 14 with (fail)
                go_cut [120] (fun s wx => s = .bool false ∧ Since w13 wx)
                case first =>
                  by_cases hva : va = 0
                  · by_cases hvb : vb = 0
                    · have KSB := Lib.hid (sameB_any _ _ ea eb w13 ((hA.out hva).below hs12.out) (hBB.out hvb) HEL.out)
                      rw [HENC.out] at KSB
                      subst hva
                      subst hvb
                      go_wp2_with fail
                      refine KSB.out.mono ?_
                      rintro e w14 ⟨rfl, hr⟩
                      go_wp2_with fail
                      go_meet
                      exact ⟨by simp, hr⟩
                    · have hvb2 : (vb == 0) = false := beq_eq_false_iff_ne.2 hvb
                      subst hva
                      clear hvb
                      go_wp2_with fail
                      go_meet
                      exact ⟨rfl, Since.refl _⟩
                  · have hva2 : (va == 0) = false := beq_eq_false_iff_ne.2 hva
                    clear hva
                    go_wp2_with fail
                    go_meet
                    exact ⟨rfl, Since.refl _⟩
                case rest =>
                  obtain ⟨rfl, hs14⟩ := hcut
                  rename World => w15
                  have HS15 := Lib.hid (Since.step hS13 hs14)
                  have HS5 := Lib.hid (Since.step hS.out HS15.out)
                  clear hs9 hs10 hS10 hs11 hs12 hS13 hs14 KEa KEb hA hBB HENC HEL
                  go_wp2
                  go_loopw [19] (fun x wr => ∃ j : Nat, j ≤ 6 ∧ x = .int .i64 j ∧ Hid (Since w15 wr)) (fun x _ => 6 - (intOf x).toNat)
                  case atStart => exact ⟨0, by omega, rfl, Lib.hid (Since.refl _)⟩
                  case round =>
                    obtain ⟨j, hj, rfl, hSj⟩ := hrel
                    rename World => wj
                    have j8 : IntKind.i64.wrap ((j : Int) + 1) = (j : Int) + 1 := IntWalk.i64_in _ (by omega)
                    have hSk := Since.step HS15.out hSj.out
                    have hS5 := Since.step HS5.out hSj.out
                    by_cases hlj : j < 6
                    · have j4 : (j : Int) < 6 := by omega
                      obtain ⟨g7, rc, tc, e7, -, hrc, htc, z0, z1, z2, hTc, -⟩ := (hRD.out.below hS5).get hlj
                      cases e7
                      obtain ⟨c1, cm1, cd1, c2, cm2, cd2, c3, cm3, cd3⟩ := rc
                      simp only at z0 z1 z2 hTc
                      have hgc := HG6.out tc (List.mem_of_getElem? htc)
                      have K4 := Lib.hid fun W (h : Since wj W) => tcmp_all tb.size tb (Nat.le_refl _) HGB.out.cmp tc hgc.cmp _ _ _ _ _ _ W (TAt.below (Since.step hSk h) HTB.out) (TAt.below h hTc)
                      have K5 := Lib.hid fun W (h : Since wj W) => tcmp_all ta.size ta (Nat.le_refl _) HGA.out.cmp tc hgc.cmp _ _ _ _ _ _ W (TAt.below (Since.step hSk h) HTA.out) (TAt.below h hTc)
                      have htr := HTR.out tc (List.mem_of_getElem? htc)
                      have x0 := Since.cell hSk HX0.out
                      have x1 := Since.cell hSk HX1.out
                      have x2 := Since.cell hSk HX2.out
                      have y0 := Since.cell hSk HY0.out
                      have y1 := Since.cell hSk HY1.out
                      have y2 := Since.cell hSk HY2.out
                      generalize Th.cmp tb tc = d at *
                      generalize Th.cmp ta tc = f at *
                      have HSJ := Lib.hid hSj.out
                      clear hrc htc hTc hgc hS5 hSk
                      go_upto_region 19 with (fail)
                      by_cases hc0 : c ≤ 0
                      · have hct : decide (c ≤ 0) = true := decide_eq_true hc0
                        by_cases hd0 : d ≤ 0
                        · have hdt : decide (d ≤ 0) = true := decide_eq_true hd0
                          have hff : decide (f > 0) = false := decide_eq_false (by have := htr hc0 hd0; omega)
                          refine wp_region_noPanic ?_
                          refine wp_region_held_drew (S := fun w' => w'.cell? ⟨g6, i * 3, none⟩ = some (.slice a1 am1 ad1) ∧ w'.cell? ⟨g6, i * 3 + 1, none⟩ = some (.slice a2 am2 ad2) ∧ w'.cell? ⟨g6, i * 3 + 2, none⟩ = some (.slice a3 am3 ad3) ∧ w'.cell? ⟨g6, k * 3, none⟩ = some (.slice b1 bm1 bd1) ∧ w'.cell? ⟨g6, k * 3 + 1, none⟩ = some (.slice b2 bm2 bd2) ∧ w'.cell? ⟨g6, k * 3 + 2, none⟩ = some (.slice b3 bm3 bd3) ∧ w'.cell? ⟨g6, j * 3, none⟩ = some (.slice c1 cm1 cd1) ∧ w'.cell? ⟨g6, j * 3 + 1, none⟩ = some (.slice c2 cm2 cd2) ∧ w'.cell? ⟨g6, j * 3 + 2, none⟩ = some (.slice c3 cm3 cd3) ∧ Since wj w') (by kernel_rfl) (by (with_reducible refine ⟨Since.cell ?_ x0, Since.cell ?_ x1, Since.cell ?_ x2, Since.cell ?_ y0, Since.cell ?_ y1, Since.cell ?_ y2, Since.cell ?_ z0, Since.cell ?_ z1, Since.cell ?_ z2, ?_⟩) <;> (repeat (first | with_reducible assumption | with_reducible exact Since.refl _ | with_reducible refine Since.alloc ?_ _ | with_reducible refine Since.drew ?_))) (fun hHeld => ?_)
                          refine wpAnyH_take (i := 0) (oi := ⟨some 127, Op.move (Operand.tmp 14), 3, _, _, none⟩) (v := ?_) rfl (by kernel_rfl) (by kernel_rfl) (by kernel_rfl) (fun _ _ _ h => h) (Or.inl ⟨by rfl, ?_⟩) (by assumption) ?_
                          rotate_left 1
                          · (intro w hSw; (try dsimp only at hSw); go_simp; first | done | with_reducible rfl)
                          try simp only [Act.put, List.setIfInBounds_toArray, List.set_cons_zero, List.set_cons_succ]
                          refine wpAnyH_take (i := 1) (oi := ⟨some 128, Op.binOp BinOp.leq 3 (Operand.tmp 127) (Operand.const (Value.int IntKind.i64 0)) 3, 4, _, _, none⟩) (v := ?_) rfl (by kernel_rfl) (by kernel_rfl) (by kernel_rfl) (fun _ _ _ h => h) (Or.inl ⟨by rfl, ?_⟩) (by assumption) ?_
                          rotate_left 1
                          · (intro w hSw; (try dsimp only at hSw); go_simp; first | done | with_reducible rfl)
                          try simp only [Act.put, List.setIfInBounds_toArray, List.set_cons_zero, List.set_cons_succ]
                          refine wpAnyH_take (i := 2) (oi := ⟨some 129, Op.move (Operand.tmp 128), 4, _, _, none⟩) (v := ?_) rfl (by kernel_rfl) (by kernel_rfl) (by kernel_rfl) (fun _ _ _ h => h) (Or.inl ⟨by rfl, ?_⟩) (by assumption) ?_
                          rotate_left 1
                          · (intro w hSw; (try dsimp only at hSw); go_simp; first | done | with_reducible rfl)
                          try simp only [Act.put, List.setIfInBounds_toArray, List.set_cons_zero, List.set_cons_succ]
                          refine wpAnyH_take (i := 3) (oi := ⟨some 130, Op.move (Operand.tmp 11), 23, _, _, some (2, true)⟩) (v := ?_) rfl (by kernel_rfl) (by kernel_rfl) (by kernel_rfl) (fun _ _ _ h => h) (Or.inl ⟨by rfl, ?_⟩) (by assumption) ?_
                          rotate_left 1
                          · (intro w hSw; (try dsimp only at hSw); go_simp; first | done | with_reducible rfl)
                          try simp only [Act.put, List.setIfInBounds_toArray, List.set_cons_zero, List.set_cons_succ]
                          refine wpAnyH_take (i := 4) (oi := ⟨some 131, Op.move (Operand.tmp 13), 3, _, _, some (2, true)⟩) (v := ?_) rfl (by kernel_rfl) (by kernel_rfl) (by kernel_rfl) (fun _ _ _ h => h) (Or.inl ⟨by rfl, ?_⟩) (by assumption) ?_
                          rotate_left 1
                          · (intro w hSw; (try dsimp only at hSw); go_simp; first | done | with_reducible rfl)
                          try simp only [Act.put, List.setIfInBounds_toArray, List.set_cons_zero, List.set_cons_succ]
                          refine wpAnyH_take (i := 5) (oi := ⟨some 132, Op.indexAddr 23 (Operand.tmp 130) (Operand.tmp 131), 0, _, _, some (2, true)⟩) (v := ?_) rfl (by kernel_rfl) (by kernel_rfl) (by kernel_rfl) (fun _ _ _ h => h) (Or.inl ⟨by rfl, ?_⟩) (by assumption) ?_
                          rotate_left 1
                          · (intro w hSw; (try dsimp only at hSw); go_simp; first | done | with_reducible rfl)
                          try simp only [Act.put, List.setIfInBounds_toArray, List.set_cons_zero, List.set_cons_succ]
                          refine wpAnyH_take (i := 6) (oi := ⟨some 133, Op.load 29 (Operand.tmp 132), 29, _, _, some (2, true)⟩) (v := ?_) rfl (by kernel_rfl) (by kernel_rfl) (by kernel_rfl) (fun _ _ _ h => h) (Or.inl ⟨by rfl, ?_⟩) (by assumption) ?_
                          rotate_left 1
                          · (intro w hSw; (try dsimp only at hSw); go_simp; first | done | with_reducible rfl)
                          try simp only [Act.put, List.setIfInBounds_toArray, List.set_cons_zero, List.set_cons_succ]
                          refine wpAnyH_take (i := 7) (oi := ⟨some 134, Op.move (Operand.tmp 11), 23, _, _, some (2, true)⟩) (v := ?_) rfl (by kernel_rfl) (by kernel_rfl) (by kernel_rfl) (fun _ _ _ h => h) (Or.inl ⟨by rfl, ?_⟩) (by assumption) ?_
                          rotate_left 1
                          · (intro w hSw; (try dsimp only at hSw); go_simp; first | done | with_reducible rfl)
                          try simp only [Act.put, List.setIfInBounds_toArray, List.set_cons_zero, List.set_cons_succ]
                          refine wpAnyH_take (i := 8) (oi := ⟨some 135, Op.move (Operand.tmp 19), 3, _, _, some (2, true)⟩) (v := ?_) rfl (by kernel_rfl) (by kernel_rfl) (by kernel_rfl) (fun _ _ _ h => h) (Or.inl ⟨by rfl, ?_⟩) (by assumption) ?_
                          rotate_left 1
                          · (intro w hSw; (try dsimp only at hSw); go_simp; first | done | with_reducible rfl)
                          try simp only [Act.put, List.setIfInBounds_toArray, List.set_cons_zero, List.set_cons_succ]
                          refine wpAnyH_take (i := 9) (oi := ⟨some 136, Op.indexAddr 23 (Operand.tmp 134) (Operand.tmp 135), 0, _, _, some (2, true)⟩) (v := ?_) rfl (by kernel_rfl) (by kernel_rfl) (by kernel_rfl) (fun _ _ _ h => h) (Or.inl ⟨by rfl, ?_⟩) (by assumption) ?_
                          rotate_left 1
                          · (intro w hSw; (try dsimp only at hSw); go_simp; first | done | with_reducible rfl)
                          try simp only [Act.put, List.setIfInBounds_toArray, List.set_cons_zero, List.set_cons_succ]
                          refine wpAnyH_take (i := 10) (oi := ⟨some 137, Op.load 29 (Operand.tmp 136), 29, _, _, some (2, true)⟩) (v := ?_) rfl (by kernel_rfl) (by kernel_rfl) (by kernel_rfl) (fun _ _ _ h => h) (Or.inl ⟨by rfl, ?_⟩) (by assumption) ?_
                          rotate_left 1
                          · (intro w hSw; (try dsimp only at hSw); go_simp; first | done | with_reducible rfl)
                          try simp only [Act.put, List.setIfInBounds_toArray, List.set_cons_zero, List.set_cons_succ]
                          refine wpAnyH_ready (rs := [11]) (by kernel_rfl) (by simp) ?_
                          refine AllReadyH.cons (o := ⟨some 138, Op.call { callee := Callee.value (Operand.func 19), args := #[Operand.tmp 133, Operand.tmp 137], argTypes := #[29, 29] }, 3, _, _, some (2, true)⟩) rfl (fun K hK => ?_) AllReadyH.nil
                          go_simp
                          with_reducible refine (K4.out _ (by (repeat (first | with_reducible assumption | with_reducible exact Since.refl _ | with_reducible refine Since.alloc ?_ _ | with_reducible refine Since.drew ?_)))).mono ?_
                          rintro e v1 ⟨rfl, hr⟩
                          have hv1 : Since wj v1 := by (with_reducible refine Since.step ?_ hr); (repeat (first | with_reducible assumption | with_reducible exact Since.refl _ | with_reducible refine Since.alloc ?_ _ | with_reducible refine Since.drew ?_))
                          clear hr
                          refine hK.out _ _ ?_ (fun hHeld => ?_)
                          · (with_reducible refine ⟨Since.cell ?_ x0, Since.cell ?_ x1, Since.cell ?_ x2, Since.cell ?_ y0, Since.cell ?_ y1, Since.cell ?_ y2, Since.cell ?_ z0, Since.cell ?_ z1, Since.cell ?_ z2, ?_⟩) <;> (repeat (first | with_reducible assumption | with_reducible exact Since.refl _ | with_reducible refine Since.alloc ?_ _ | with_reducible refine Since.drew ?_))
                          clear hK K
                          try simp only [Act.put, List.setIfInBounds_toArray, List.set_cons_zero, List.set_cons_succ]
                          refine wpAnyH_take (i := 12) (oi := ⟨some 139, Op.binOp BinOp.leq 3 (Operand.tmp 138) (Operand.const (Value.int IntKind.i64 0)) 3, 4, _, _, some (2, true)⟩) (v := ?_) rfl (by kernel_rfl) (by kernel_rfl) (by kernel_rfl) (fun _ _ _ h => h) (Or.inl ⟨by rfl, ?_⟩) (by assumption) ?_
                          rotate_left 1
                          · (intro w hSw; (try dsimp only at hSw); go_simp; first | done | with_reducible rfl)
                          try simp only [Act.put, List.setIfInBounds_toArray, List.set_cons_zero, List.set_cons_succ]
                          refine wpAnyH_take (i := 13) (oi := ⟨some 140, Op.pick (Operand.tmp 129) (Operand.tmp 139) (Operand.const (Value.bool false)), 4, _, _, none⟩) (v := ?_) rfl (by kernel_rfl) (by kernel_rfl) (by kernel_rfl) (fun _ _ _ h => h) (Or.inl ⟨by rfl, ?_⟩) (by assumption) ?_
                          rotate_left 1
                          · (intro w hSw; (try dsimp only at hSw); go_simp; first | done | with_reducible rfl)
                          try simp only [Act.put, List.setIfInBounds_toArray, List.set_cons_zero, List.set_cons_succ]
                          refine wpAnyH_take (i := 14) (oi := ⟨some 141, Op.move (Operand.tmp 140), 4, _, _, none⟩) (v := ?_) rfl (by kernel_rfl) (by kernel_rfl) (by kernel_rfl) (fun _ _ _ h => h) (Or.inl ⟨by rfl, ?_⟩) (by assumption) ?_
                          rotate_left 1
                          · (intro w hSw; (try dsimp only at hSw); go_simp; first | done | with_reducible rfl)
                          try simp only [Act.put, List.setIfInBounds_toArray, List.set_cons_zero, List.set_cons_succ]
                          refine wpAnyH_take (i := 15) (oi := ⟨some 142, Op.move (Operand.tmp 11), 23, _, _, some (14, true)⟩) (v := ?_) rfl (by kernel_rfl) (by kernel_rfl) (by kernel_rfl) (fun _ _ _ h => h) (Or.inl ⟨by rfl, ?_⟩) (by assumption) ?_
                          rotate_left 1
                          · (intro w hSw; (try dsimp only at hSw); go_simp; first | done | with_reducible rfl)
                          try simp only [Act.put, List.setIfInBounds_toArray, List.set_cons_zero, List.set_cons_succ]
                          refine wpAnyH_take (i := 16) (oi := ⟨some 143, Op.move (Operand.tmp 12), 3, _, _, some (14, true)⟩) (v := ?_) rfl (by kernel_rfl) (by kernel_rfl) (by kernel_rfl) (fun _ _ _ h => h) (Or.inl ⟨by rfl, ?_⟩) (by assumption) ?_
                          rotate_left 1
                          · (intro w hSw; (try dsimp only at hSw); go_simp; first | done | with_reducible rfl)
                          try simp only [Act.put, List.setIfInBounds_toArray, List.set_cons_zero, List.set_cons_succ]
                          refine wpAnyH_take (i := 17) (oi := ⟨some 144, Op.indexAddr 23 (Operand.tmp 142) (Operand.tmp 143), 0, _, _, some (14, true)⟩) (v := ?_) rfl (by kernel_rfl) (by kernel_rfl) (by kernel_rfl) (fun _ _ _ h => h) (Or.inl ⟨by rfl, ?_⟩) (by assumption) ?_
                          rotate_left 1
                          · (intro w hSw; (try dsimp only at hSw); go_simp; first | done | with_reducible rfl)
                          try simp only [Act.put, List.setIfInBounds_toArray, List.set_cons_zero, List.set_cons_succ]
                          refine wpAnyH_take (i := 18) (oi := ⟨some 145, Op.load 29 (Operand.tmp 144), 29, _, _, some (14, true)⟩) (v := ?_) rfl (by kernel_rfl) (by kernel_rfl) (by kernel_rfl) (fun _ _ _ h => h) (Or.inl ⟨by rfl, ?_⟩) (by assumption) ?_
                          rotate_left 1
                          · (intro w hSw; (try dsimp only at hSw); go_simp; first | done | with_reducible rfl)
                          try simp only [Act.put, List.setIfInBounds_toArray, List.set_cons_zero, List.set_cons_succ]
                          refine wpAnyH_take (i := 19) (oi := ⟨some 146, Op.move (Operand.tmp 11), 23, _, _, some (14, true)⟩) (v := ?_) rfl (by kernel_rfl) (by kernel_rfl) (by kernel_rfl) (fun _ _ _ h => h) (Or.inl ⟨by rfl, ?_⟩) (by assumption) ?_
                          rotate_left 1
                          · (intro w hSw; (try dsimp only at hSw); go_simp; first | done | with_reducible rfl)
                          try simp only [Act.put, List.setIfInBounds_toArray, List.set_cons_zero, List.set_cons_succ]
                          refine wpAnyH_take (i := 20) (oi := ⟨some 147, Op.move (Operand.tmp 19), 3, _, _, some (14, true)⟩) (v := ?_) rfl (by kernel_rfl) (by kernel_rfl) (by kernel_rfl) (fun _ _ _ h => h) (Or.inl ⟨by rfl, ?_⟩) (by assumption) ?_
                          rotate_left 1
                          · (intro w hSw; (try dsimp only at hSw); go_simp; first | done | with_reducible rfl)
                          try simp only [Act.put, List.setIfInBounds_toArray, List.set_cons_zero, List.set_cons_succ]
                          refine wpAnyH_take (i := 21) (oi := ⟨some 148, Op.indexAddr 23 (Operand.tmp 146) (Operand.tmp 147), 0, _, _, some (14, true)⟩) (v := ?_) rfl (by kernel_rfl) (by kernel_rfl) (by kernel_rfl) (fun _ _ _ h => h) (Or.inl ⟨by rfl, ?_⟩) (by assumption) ?_
                          rotate_left 1
                          · (intro w hSw; (try dsimp only at hSw); go_simp; first | done | with_reducible rfl)
                          try simp only [Act.put, List.setIfInBounds_toArray, List.set_cons_zero, List.set_cons_succ]
                          refine wpAnyH_take (i := 22) (oi := ⟨some 149, Op.load 29 (Operand.tmp 148), 29, _, _, some (14, true)⟩) (v := ?_) rfl (by kernel_rfl) (by kernel_rfl) (by kernel_rfl) (fun _ _ _ h => h) (Or.inl ⟨by rfl, ?_⟩) (by assumption) ?_
                          rotate_left 1
                          · (intro w hSw; (try dsimp only at hSw); go_simp; first | done | with_reducible rfl)
                          try simp only [Act.put, List.setIfInBounds_toArray, List.set_cons_zero, List.set_cons_succ]
                          refine wpAnyH_ready (rs := [23]) (by kernel_rfl) (by simp) ?_
                          refine AllReadyH.cons (o := ⟨some 150, Op.call { callee := Callee.value (Operand.func 19), args := #[Operand.tmp 145, Operand.tmp 149], argTypes := #[29, 29] }, 3, _, _, some (14, true)⟩) rfl (fun K hK => ?_) AllReadyH.nil
                          go_simp
                          with_reducible refine (K5.out _ (by (repeat (first | with_reducible assumption | with_reducible exact Since.refl _ | with_reducible refine Since.alloc ?_ _ | with_reducible refine Since.drew ?_)))).mono ?_
                          rintro e v2 ⟨rfl, hr⟩
                          have hv2 : Since wj v2 := by (with_reducible refine Since.step ?_ hr); (repeat (first | with_reducible assumption | with_reducible exact Since.refl _ | with_reducible refine Since.alloc ?_ _ | with_reducible refine Since.drew ?_))
                          clear hr
                          refine hK.out _ _ ?_ (fun hHeld => ?_)
                          · (with_reducible refine ⟨Since.cell ?_ x0, Since.cell ?_ x1, Since.cell ?_ x2, Since.cell ?_ y0, Since.cell ?_ y1, Since.cell ?_ y2, Since.cell ?_ z0, Since.cell ?_ z1, Since.cell ?_ z2, ?_⟩) <;> (repeat (first | with_reducible assumption | with_reducible exact Since.refl _ | with_reducible refine Since.alloc ?_ _ | with_reducible refine Since.drew ?_))
                          clear hK K
                          try simp only [Act.put, List.setIfInBounds_toArray, List.set_cons_zero, List.set_cons_succ]
                          refine wpAnyH_take (i := 24) (oi := ⟨some 151, Op.binOp BinOp.gtr 3 (Operand.tmp 150) (Operand.const (Value.int IntKind.i64 0)) 3, 4, _, _, some (14, true)⟩) (v := ?_) rfl (by kernel_rfl) (by kernel_rfl) (by kernel_rfl) (fun _ _ _ h => h) (Or.inl ⟨by rfl, ?_⟩) (by assumption) ?_
                          rotate_left 1
                          · (intro w hSw; (try dsimp only at hSw); go_simp; first | done | with_reducible rfl)
                          try simp only [Act.put, List.setIfInBounds_toArray, List.set_cons_zero, List.set_cons_succ]
                          refine wpAnyH_take (i := 25) (oi := ⟨some 152, Op.pick (Operand.tmp 141) (Operand.tmp 151) (Operand.const (Value.bool false)), 4, _, _, none⟩) (v := ?_) rfl (by kernel_rfl) (by kernel_rfl) (by kernel_rfl) (fun _ _ _ h => h) (Or.inl ⟨by rfl, ?_⟩) (by assumption) ?_
                          rotate_left 1
                          · (intro w hSw; (try dsimp only at hSw); go_simp; first | done | with_reducible rfl)
                          try simp only [Act.put, List.setIfInBounds_toArray, List.set_cons_zero, List.set_cons_succ]
                          refine wpAnyH_done (by kernel_rfl) ?_ _
                          refine NoPanic.normal ?_
                          have HSN := Lib.hid (Since.step HSJ.out hv2)
                          go_wp2
                          go_roundw
                          case rel => exact ⟨j + 1, by omega, by go_num, HSN⟩
                          case measure => simp [intOf]; omega
                        · have hdf : decide (d ≤ 0) = false := decide_eq_false hd0
                          refine wp_region_noPanic ?_
                          refine wp_region_held_drew (S := fun w' => w'.cell? ⟨g6, i * 3, none⟩ = some (.slice a1 am1 ad1) ∧ w'.cell? ⟨g6, i * 3 + 1, none⟩ = some (.slice a2 am2 ad2) ∧ w'.cell? ⟨g6, i * 3 + 2, none⟩ = some (.slice a3 am3 ad3) ∧ w'.cell? ⟨g6, k * 3, none⟩ = some (.slice b1 bm1 bd1) ∧ w'.cell? ⟨g6, k * 3 + 1, none⟩ = some (.slice b2 bm2 bd2) ∧ w'.cell? ⟨g6, k * 3 + 2, none⟩ = some (.slice b3 bm3 bd3) ∧ w'.cell? ⟨g6, j * 3, none⟩ = some (.slice c1 cm1 cd1) ∧ w'.cell? ⟨g6, j * 3 + 1, none⟩ = some (.slice c2 cm2 cd2) ∧ w'.cell? ⟨g6, j * 3 + 2, none⟩ = some (.slice c3 cm3 cd3) ∧ Since wj w') (by kernel_rfl) (by (with_reducible refine ⟨Since.cell ?_ x0, Since.cell ?_ x1, Since.cell ?_ x2, Since.cell ?_ y0, Since.cell ?_ y1, Since.cell ?_ y2, Since.cell ?_ z0, Since.cell ?_ z1, Since.cell ?_ z2, ?_⟩) <;> (repeat (first | with_reducible assumption | with_reducible exact Since.refl _ | with_reducible refine Since.alloc ?_ _ | with_reducible refine Since.drew ?_))) (fun hHeld => ?_)
                          refine wpAnyH_take (i := 0) (oi := ⟨some 127, Op.move (Operand.tmp 14), 3, _, _, none⟩) (v := ?_) rfl (by kernel_rfl) (by kernel_rfl) (by kernel_rfl) (fun _ _ _ h => h) (Or.inl ⟨by rfl, ?_⟩) (by assumption) ?_
                          rotate_left 1
                          · (intro w hSw; (try dsimp only at hSw); go_simp; first | done | with_reducible rfl)
                          try simp only [Act.put, List.setIfInBounds_toArray, List.set_cons_zero, List.set_cons_succ]
                          refine wpAnyH_take (i := 1) (oi := ⟨some 128, Op.binOp BinOp.leq 3 (Operand.tmp 127) (Operand.const (Value.int IntKind.i64 0)) 3, 4, _, _, none⟩) (v := ?_) rfl (by kernel_rfl) (by kernel_rfl) (by kernel_rfl) (fun _ _ _ h => h) (Or.inl ⟨by rfl, ?_⟩) (by assumption) ?_
                          rotate_left 1
                          · (intro w hSw; (try dsimp only at hSw); go_simp; first | done | with_reducible rfl)
                          try simp only [Act.put, List.setIfInBounds_toArray, List.set_cons_zero, List.set_cons_succ]
                          refine wpAnyH_take (i := 2) (oi := ⟨some 129, Op.move (Operand.tmp 128), 4, _, _, none⟩) (v := ?_) rfl (by kernel_rfl) (by kernel_rfl) (by kernel_rfl) (fun _ _ _ h => h) (Or.inl ⟨by rfl, ?_⟩) (by assumption) ?_
                          rotate_left 1
                          · (intro w hSw; (try dsimp only at hSw); go_simp; first | done | with_reducible rfl)
                          try simp only [Act.put, List.setIfInBounds_toArray, List.set_cons_zero, List.set_cons_succ]
                          refine wpAnyH_take (i := 3) (oi := ⟨some 130, Op.move (Operand.tmp 11), 23, _, _, some (2, true)⟩) (v := ?_) rfl (by kernel_rfl) (by kernel_rfl) (by kernel_rfl) (fun _ _ _ h => h) (Or.inl ⟨by rfl, ?_⟩) (by assumption) ?_
                          rotate_left 1
                          · (intro w hSw; (try dsimp only at hSw); go_simp; first | done | with_reducible rfl)
                          try simp only [Act.put, List.setIfInBounds_toArray, List.set_cons_zero, List.set_cons_succ]
                          refine wpAnyH_take (i := 4) (oi := ⟨some 131, Op.move (Operand.tmp 13), 3, _, _, some (2, true)⟩) (v := ?_) rfl (by kernel_rfl) (by kernel_rfl) (by kernel_rfl) (fun _ _ _ h => h) (Or.inl ⟨by rfl, ?_⟩) (by assumption) ?_
                          rotate_left 1
                          · (intro w hSw; (try dsimp only at hSw); go_simp; first | done | with_reducible rfl)
                          try simp only [Act.put, List.setIfInBounds_toArray, List.set_cons_zero, List.set_cons_succ]
                          refine wpAnyH_take (i := 5) (oi := ⟨some 132, Op.indexAddr 23 (Operand.tmp 130) (Operand.tmp 131), 0, _, _, some (2, true)⟩) (v := ?_) rfl (by kernel_rfl) (by kernel_rfl) (by kernel_rfl) (fun _ _ _ h => h) (Or.inl ⟨by rfl, ?_⟩) (by assumption) ?_
                          rotate_left 1
                          · (intro w hSw; (try dsimp only at hSw); go_simp; first | done | with_reducible rfl)
                          try simp only [Act.put, List.setIfInBounds_toArray, List.set_cons_zero, List.set_cons_succ]
                          refine wpAnyH_take (i := 6) (oi := ⟨some 133, Op.load 29 (Operand.tmp 132), 29, _, _, some (2, true)⟩) (v := ?_) rfl (by kernel_rfl) (by kernel_rfl) (by kernel_rfl) (fun _ _ _ h => h) (Or.inl ⟨by rfl, ?_⟩) (by assumption) ?_
                          rotate_left 1
                          · (intro w hSw; (try dsimp only at hSw); go_simp; first | done | with_reducible rfl)
                          try simp only [Act.put, List.setIfInBounds_toArray, List.set_cons_zero, List.set_cons_succ]
                          refine wpAnyH_take (i := 7) (oi := ⟨some 134, Op.move (Operand.tmp 11), 23, _, _, some (2, true)⟩) (v := ?_) rfl (by kernel_rfl) (by kernel_rfl) (by kernel_rfl) (fun _ _ _ h => h) (Or.inl ⟨by rfl, ?_⟩) (by assumption) ?_
                          rotate_left 1
                          · (intro w hSw; (try dsimp only at hSw); go_simp; first | done | with_reducible rfl)
                          try simp only [Act.put, List.setIfInBounds_toArray, List.set_cons_zero, List.set_cons_succ]
                          refine wpAnyH_take (i := 8) (oi := ⟨some 135, Op.move (Operand.tmp 19), 3, _, _, some (2, true)⟩) (v := ?_) rfl (by kernel_rfl) (by kernel_rfl) (by kernel_rfl) (fun _ _ _ h => h) (Or.inl ⟨by rfl, ?_⟩) (by assumption) ?_
                          rotate_left 1
                          · (intro w hSw; (try dsimp only at hSw); go_simp; first | done | with_reducible rfl)
                          try simp only [Act.put, List.setIfInBounds_toArray, List.set_cons_zero, List.set_cons_succ]
                          refine wpAnyH_take (i := 9) (oi := ⟨some 136, Op.indexAddr 23 (Operand.tmp 134) (Operand.tmp 135), 0, _, _, some (2, true)⟩) (v := ?_) rfl (by kernel_rfl) (by kernel_rfl) (by kernel_rfl) (fun _ _ _ h => h) (Or.inl ⟨by rfl, ?_⟩) (by assumption) ?_
                          rotate_left 1
                          · (intro w hSw; (try dsimp only at hSw); go_simp; first | done | with_reducible rfl)
                          try simp only [Act.put, List.setIfInBounds_toArray, List.set_cons_zero, List.set_cons_succ]
                          refine wpAnyH_take (i := 10) (oi := ⟨some 137, Op.load 29 (Operand.tmp 136), 29, _, _, some (2, true)⟩) (v := ?_) rfl (by kernel_rfl) (by kernel_rfl) (by kernel_rfl) (fun _ _ _ h => h) (Or.inl ⟨by rfl, ?_⟩) (by assumption) ?_
                          rotate_left 1
                          · (intro w hSw; (try dsimp only at hSw); go_simp; first | done | with_reducible rfl)
                          try simp only [Act.put, List.setIfInBounds_toArray, List.set_cons_zero, List.set_cons_succ]
                          refine wpAnyH_ready (rs := [11]) (by kernel_rfl) (by simp) ?_
                          refine AllReadyH.cons (o := ⟨some 138, Op.call { callee := Callee.value (Operand.func 19), args := #[Operand.tmp 133, Operand.tmp 137], argTypes := #[29, 29] }, 3, _, _, some (2, true)⟩) rfl (fun K hK => ?_) AllReadyH.nil
                          go_simp
                          with_reducible refine (K4.out _ (by (repeat (first | with_reducible assumption | with_reducible exact Since.refl _ | with_reducible refine Since.alloc ?_ _ | with_reducible refine Since.drew ?_)))).mono ?_
                          rintro e v1 ⟨rfl, hr⟩
                          have hv1 : Since wj v1 := by (with_reducible refine Since.step ?_ hr); (repeat (first | with_reducible assumption | with_reducible exact Since.refl _ | with_reducible refine Since.alloc ?_ _ | with_reducible refine Since.drew ?_))
                          clear hr
                          refine hK.out _ _ ?_ (fun hHeld => ?_)
                          · (with_reducible refine ⟨Since.cell ?_ x0, Since.cell ?_ x1, Since.cell ?_ x2, Since.cell ?_ y0, Since.cell ?_ y1, Since.cell ?_ y2, Since.cell ?_ z0, Since.cell ?_ z1, Since.cell ?_ z2, ?_⟩) <;> (repeat (first | with_reducible assumption | with_reducible exact Since.refl _ | with_reducible refine Since.alloc ?_ _ | with_reducible refine Since.drew ?_))
                          clear hK K
                          try simp only [Act.put, List.setIfInBounds_toArray, List.set_cons_zero, List.set_cons_succ]
                          refine wpAnyH_take (i := 12) (oi := ⟨some 139, Op.binOp BinOp.leq 3 (Operand.tmp 138) (Operand.const (Value.int IntKind.i64 0)) 3, 4, _, _, some (2, true)⟩) (v := ?_) rfl (by kernel_rfl) (by kernel_rfl) (by kernel_rfl) (fun _ _ _ h => h) (Or.inl ⟨by rfl, ?_⟩) (by assumption) ?_
                          rotate_left 1
                          · (intro w hSw; (try dsimp only at hSw); go_simp; first | done | with_reducible rfl)
                          try simp only [Act.put, List.setIfInBounds_toArray, List.set_cons_zero, List.set_cons_succ]
                          refine wpAnyH_take (i := 13) (oi := ⟨some 140, Op.pick (Operand.tmp 129) (Operand.tmp 139) (Operand.const (Value.bool false)), 4, _, _, none⟩) (v := ?_) rfl (by kernel_rfl) (by kernel_rfl) (by kernel_rfl) (fun _ _ _ h => h) (Or.inl ⟨by rfl, ?_⟩) (by assumption) ?_
                          rotate_left 1
                          · (intro w hSw; (try dsimp only at hSw); go_simp; first | done | with_reducible rfl)
                          try simp only [Act.put, List.setIfInBounds_toArray, List.set_cons_zero, List.set_cons_succ]
                          refine wpAnyH_take (i := 14) (oi := ⟨some 141, Op.move (Operand.tmp 140), 4, _, _, none⟩) (v := ?_) rfl (by kernel_rfl) (by kernel_rfl) (by kernel_rfl) (fun _ _ _ h => h) (Or.inl ⟨by rfl, ?_⟩) (by assumption) ?_
                          rotate_left 1
                          · (intro w hSw; (try dsimp only at hSw); go_simp; first | done | with_reducible rfl)
                          try simp only [Act.put, List.setIfInBounds_toArray, List.set_cons_zero, List.set_cons_succ]
                          refine wpAnyH_take (i := 15) (oi := ⟨some 142, Op.move (Operand.tmp 11), 23, _, _, some (14, true)⟩) (v := undef) rfl (by kernel_rfl) (by kernel_rfl) (by kernel_rfl) (fun _ _ _ h => h) (Or.inr ⟨by rfl, rfl⟩) (by assumption) ?_
                          try simp only [Act.put, List.setIfInBounds_toArray, List.set_cons_zero, List.set_cons_succ]
                          refine wpAnyH_take (i := 16) (oi := ⟨some 143, Op.move (Operand.tmp 12), 3, _, _, some (14, true)⟩) (v := undef) rfl (by kernel_rfl) (by kernel_rfl) (by kernel_rfl) (fun _ _ _ h => h) (Or.inr ⟨by rfl, rfl⟩) (by assumption) ?_
                          try simp only [Act.put, List.setIfInBounds_toArray, List.set_cons_zero, List.set_cons_succ]
                          refine wpAnyH_take (i := 17) (oi := ⟨some 144, Op.indexAddr 23 (Operand.tmp 142) (Operand.tmp 143), 0, _, _, some (14, true)⟩) (v := undef) rfl (by kernel_rfl) (by kernel_rfl) (by kernel_rfl) (fun _ _ _ h => h) (Or.inr ⟨by rfl, rfl⟩) (by assumption) ?_
                          try simp only [Act.put, List.setIfInBounds_toArray, List.set_cons_zero, List.set_cons_succ]
                          refine wpAnyH_take (i := 18) (oi := ⟨some 145, Op.load 29 (Operand.tmp 144), 29, _, _, some (14, true)⟩) (v := undef) rfl (by kernel_rfl) (by kernel_rfl) (by kernel_rfl) (fun _ _ _ h => h) (Or.inr ⟨by rfl, rfl⟩) (by assumption) ?_
                          try simp only [Act.put, List.setIfInBounds_toArray, List.set_cons_zero, List.set_cons_succ]
                          refine wpAnyH_take (i := 19) (oi := ⟨some 146, Op.move (Operand.tmp 11), 23, _, _, some (14, true)⟩) (v := undef) rfl (by kernel_rfl) (by kernel_rfl) (by kernel_rfl) (fun _ _ _ h => h) (Or.inr ⟨by rfl, rfl⟩) (by assumption) ?_
                          try simp only [Act.put, List.setIfInBounds_toArray, List.set_cons_zero, List.set_cons_succ]
                          refine wpAnyH_take (i := 20) (oi := ⟨some 147, Op.move (Operand.tmp 19), 3, _, _, some (14, true)⟩) (v := undef) rfl (by kernel_rfl) (by kernel_rfl) (by kernel_rfl) (fun _ _ _ h => h) (Or.inr ⟨by rfl, rfl⟩) (by assumption) ?_
                          try simp only [Act.put, List.setIfInBounds_toArray, List.set_cons_zero, List.set_cons_succ]
                          refine wpAnyH_take (i := 21) (oi := ⟨some 148, Op.indexAddr 23 (Operand.tmp 146) (Operand.tmp 147), 0, _, _, some (14, true)⟩) (v := undef) rfl (by kernel_rfl) (by kernel_rfl) (by kernel_rfl) (fun _ _ _ h => h) (Or.inr ⟨by rfl, rfl⟩) (by assumption) ?_
                          try simp only [Act.put, List.setIfInBounds_toArray, List.set_cons_zero, List.set_cons_succ]
                          refine wpAnyH_take (i := 22) (oi := ⟨some 149, Op.load 29 (Operand.tmp 148), 29, _, _, some (14, true)⟩) (v := undef) rfl (by kernel_rfl) (by kernel_rfl) (by kernel_rfl) (fun _ _ _ h => h) (Or.inr ⟨by rfl, rfl⟩) (by assumption) ?_
                          try simp only [Act.put, List.setIfInBounds_toArray, List.set_cons_zero, List.set_cons_succ]
                          refine wpAnyH_take (i := 23) (oi := ⟨some 150, Op.call { callee := Callee.value (Operand.func 19), args := #[Operand.tmp 145, Operand.tmp 149], argTypes := #[29, 29] }, 3, _, _, some (14, true)⟩) (v := undef) rfl (by kernel_rfl) (by kernel_rfl) (by kernel_rfl) (fun _ _ _ h => h) (Or.inr ⟨by rfl, rfl⟩) (by assumption) ?_
                          try simp only [Act.put, List.setIfInBounds_toArray, List.set_cons_zero, List.set_cons_succ]
                          refine wpAnyH_take (i := 24) (oi := ⟨some 151, Op.binOp BinOp.gtr 3 (Operand.tmp 150) (Operand.const (Value.int IntKind.i64 0)) 3, 4, _, _, some (14, true)⟩) (v := undef) rfl (by kernel_rfl) (by kernel_rfl) (by kernel_rfl) (fun _ _ _ h => h) (Or.inr ⟨by rfl, rfl⟩) (by assumption) ?_
                          try simp only [Act.put, List.setIfInBounds_toArray, List.set_cons_zero, List.set_cons_succ]
                          refine wpAnyH_take (i := 25) (oi := ⟨some 152, Op.pick (Operand.tmp 141) (Operand.tmp 151) (Operand.const (Value.bool false)), 4, _, _, none⟩) (v := ?_) rfl (by kernel_rfl) (by kernel_rfl) (by kernel_rfl) (fun _ _ _ h => h) (Or.inl ⟨by rfl, ?_⟩) (by assumption) ?_
                          rotate_left 1
                          · (intro w hSw; (try dsimp only at hSw); go_simp; first | done | with_reducible rfl)
                          try simp only [Act.put, List.setIfInBounds_toArray, List.set_cons_zero, List.set_cons_succ]
                          refine wpAnyH_done (by kernel_rfl) ?_ _
                          refine NoPanic.normal ?_
                          have HSN := Lib.hid (Since.step HSJ.out hv1)
                          go_wp2
                          go_roundw
                          case rel => exact ⟨j + 1, by omega, by go_num, HSN⟩
                          case measure => simp [intOf]; omega
                      · have hcf : decide (c ≤ 0) = false := decide_eq_false hc0
                        refine wp_region_noPanic ?_
                        refine wp_region_held_drew (S := fun w' => w'.cell? ⟨g6, i * 3, none⟩ = some (.slice a1 am1 ad1) ∧ w'.cell? ⟨g6, i * 3 + 1, none⟩ = some (.slice a2 am2 ad2) ∧ w'.cell? ⟨g6, i * 3 + 2, none⟩ = some (.slice a3 am3 ad3) ∧ w'.cell? ⟨g6, k * 3, none⟩ = some (.slice b1 bm1 bd1) ∧ w'.cell? ⟨g6, k * 3 + 1, none⟩ = some (.slice b2 bm2 bd2) ∧ w'.cell? ⟨g6, k * 3 + 2, none⟩ = some (.slice b3 bm3 bd3) ∧ w'.cell? ⟨g6, j * 3, none⟩ = some (.slice c1 cm1 cd1) ∧ w'.cell? ⟨g6, j * 3 + 1, none⟩ = some (.slice c2 cm2 cd2) ∧ w'.cell? ⟨g6, j * 3 + 2, none⟩ = some (.slice c3 cm3 cd3) ∧ Since wj w') (by kernel_rfl) (by (with_reducible refine ⟨Since.cell ?_ x0, Since.cell ?_ x1, Since.cell ?_ x2, Since.cell ?_ y0, Since.cell ?_ y1, Since.cell ?_ y2, Since.cell ?_ z0, Since.cell ?_ z1, Since.cell ?_ z2, ?_⟩) <;> (repeat (first | with_reducible assumption | with_reducible exact Since.refl _ | with_reducible refine Since.alloc ?_ _ | with_reducible refine Since.drew ?_))) (fun hHeld => ?_)
                        refine wpAnyH_take (i := 0) (oi := ⟨some 127, Op.move (Operand.tmp 14), 3, _, _, none⟩) (v := ?_) rfl (by kernel_rfl) (by kernel_rfl) (by kernel_rfl) (fun _ _ _ h => h) (Or.inl ⟨by rfl, ?_⟩) (by assumption) ?_
                        rotate_left 1
                        · (intro w hSw; (try dsimp only at hSw); go_simp; first | done | with_reducible rfl)
                        try simp only [Act.put, List.setIfInBounds_toArray, List.set_cons_zero, List.set_cons_succ]
                        refine wpAnyH_take (i := 1) (oi := ⟨some 128, Op.binOp BinOp.leq 3 (Operand.tmp 127) (Operand.const (Value.int IntKind.i64 0)) 3, 4, _, _, none⟩) (v := ?_) rfl (by kernel_rfl) (by kernel_rfl) (by kernel_rfl) (fun _ _ _ h => h) (Or.inl ⟨by rfl, ?_⟩) (by assumption) ?_
                        rotate_left 1
                        · (intro w hSw; (try dsimp only at hSw); go_simp; first | done | with_reducible rfl)
                        try simp only [Act.put, List.setIfInBounds_toArray, List.set_cons_zero, List.set_cons_succ]
                        refine wpAnyH_take (i := 2) (oi := ⟨some 129, Op.move (Operand.tmp 128), 4, _, _, none⟩) (v := ?_) rfl (by kernel_rfl) (by kernel_rfl) (by kernel_rfl) (fun _ _ _ h => h) (Or.inl ⟨by rfl, ?_⟩) (by assumption) ?_
                        rotate_left 1
                        · (intro w hSw; (try dsimp only at hSw); go_simp; first | done | with_reducible rfl)
                        try simp only [Act.put, List.setIfInBounds_toArray, List.set_cons_zero, List.set_cons_succ]
                        refine wpAnyH_take (i := 3) (oi := ⟨some 130, Op.move (Operand.tmp 11), 23, _, _, some (2, true)⟩) (v := undef) rfl (by kernel_rfl) (by kernel_rfl) (by kernel_rfl) (fun _ _ _ h => h) (Or.inr ⟨by rfl, rfl⟩) (by assumption) ?_
                        try simp only [Act.put, List.setIfInBounds_toArray, List.set_cons_zero, List.set_cons_succ]
                        refine wpAnyH_take (i := 4) (oi := ⟨some 131, Op.move (Operand.tmp 13), 3, _, _, some (2, true)⟩) (v := undef) rfl (by kernel_rfl) (by kernel_rfl) (by kernel_rfl) (fun _ _ _ h => h) (Or.inr ⟨by rfl, rfl⟩) (by assumption) ?_
                        try simp only [Act.put, List.setIfInBounds_toArray, List.set_cons_zero, List.set_cons_succ]
                        refine wpAnyH_take (i := 5) (oi := ⟨some 132, Op.indexAddr 23 (Operand.tmp 130) (Operand.tmp 131), 0, _, _, some (2, true)⟩) (v := undef) rfl (by kernel_rfl) (by kernel_rfl) (by kernel_rfl) (fun _ _ _ h => h) (Or.inr ⟨by rfl, rfl⟩) (by assumption) ?_
                        try simp only [Act.put, List.setIfInBounds_toArray, List.set_cons_zero, List.set_cons_succ]
                        refine wpAnyH_take (i := 6) (oi := ⟨some 133, Op.load 29 (Operand.tmp 132), 29, _, _, some (2, true)⟩) (v := undef) rfl (by kernel_rfl) (by kernel_rfl) (by kernel_rfl) (fun _ _ _ h => h) (Or.inr ⟨by rfl, rfl⟩) (by assumption) ?_
                        try simp only [Act.put, List.setIfInBounds_toArray, List.set_cons_zero, List.set_cons_succ]
                        refine wpAnyH_take (i := 7) (oi := ⟨some 134, Op.move (Operand.tmp 11), 23, _, _, some (2, true)⟩) (v := undef) rfl (by kernel_rfl) (by kernel_rfl) (by kernel_rfl) (fun _ _ _ h => h) (Or.inr ⟨by rfl, rfl⟩) (by assumption) ?_
                        try simp only [Act.put, List.setIfInBounds_toArray, List.set_cons_zero, List.set_cons_succ]
                        refine wpAnyH_take (i := 8) (oi := ⟨some 135, Op.move (Operand.tmp 19), 3, _, _, some (2, true)⟩) (v := undef) rfl (by kernel_rfl) (by kernel_rfl) (by kernel_rfl) (fun _ _ _ h => h) (Or.inr ⟨by rfl, rfl⟩) (by assumption) ?_
                        try simp only [Act.put, List.setIfInBounds_toArray, List.set_cons_zero, List.set_cons_succ]
                        refine wpAnyH_take (i := 9) (oi := ⟨some 136, Op.indexAddr 23 (Operand.tmp 134) (Operand.tmp 135), 0, _, _, some (2, true)⟩) (v := undef) rfl (by kernel_rfl) (by kernel_rfl) (by kernel_rfl) (fun _ _ _ h => h) (Or.inr ⟨by rfl, rfl⟩) (by assumption) ?_
                        try simp only [Act.put, List.setIfInBounds_toArray, List.set_cons_zero, List.set_cons_succ]
                        refine wpAnyH_take (i := 10) (oi := ⟨some 137, Op.load 29 (Operand.tmp 136), 29, _, _, some (2, true)⟩) (v := undef) rfl (by kernel_rfl) (by kernel_rfl) (by kernel_rfl) (fun _ _ _ h => h) (Or.inr ⟨by rfl, rfl⟩) (by assumption) ?_
                        try simp only [Act.put, List.setIfInBounds_toArray, List.set_cons_zero, List.set_cons_succ]
                        refine wpAnyH_take (i := 11) (oi := ⟨some 138, Op.call { callee := Callee.value (Operand.func 19), args := #[Operand.tmp 133, Operand.tmp 137], argTypes := #[29, 29] }, 3, _, _, some (2, true)⟩) (v := undef) rfl (by kernel_rfl) (by kernel_rfl) (by kernel_rfl) (fun _ _ _ h => h) (Or.inr ⟨by rfl, rfl⟩) (by assumption) ?_
                        try simp only [Act.put, List.setIfInBounds_toArray, List.set_cons_zero, List.set_cons_succ]
                        refine wpAnyH_take (i := 12) (oi := ⟨some 139, Op.binOp BinOp.leq 3 (Operand.tmp 138) (Operand.const (Value.int IntKind.i64 0)) 3, 4, _, _, some (2, true)⟩) (v := undef) rfl (by kernel_rfl) (by kernel_rfl) (by kernel_rfl) (fun _ _ _ h => h) (Or.inr ⟨by rfl, rfl⟩) (by assumption) ?_
                        try simp only [Act.put, List.setIfInBounds_toArray, List.set_cons_zero, List.set_cons_succ]
                        refine wpAnyH_take (i := 13) (oi := ⟨some 140, Op.pick (Operand.tmp 129) (Operand.tmp 139) (Operand.const (Value.bool false)), 4, _, _, none⟩) (v := ?_) rfl (by kernel_rfl) (by kernel_rfl) (by kernel_rfl) (fun _ _ _ h => h) (Or.inl ⟨by rfl, ?_⟩) (by assumption) ?_
                        rotate_left 1
                        · (intro w hSw; (try dsimp only at hSw); go_simp; first | done | with_reducible rfl)
                        try simp only [Act.put, List.setIfInBounds_toArray, List.set_cons_zero, List.set_cons_succ]
                        refine wpAnyH_take (i := 14) (oi := ⟨some 141, Op.move (Operand.tmp 140), 4, _, _, none⟩) (v := ?_) rfl (by kernel_rfl) (by kernel_rfl) (by kernel_rfl) (fun _ _ _ h => h) (Or.inl ⟨by rfl, ?_⟩) (by assumption) ?_
                        rotate_left 1
                        · (intro w hSw; (try dsimp only at hSw); go_simp; first | done | with_reducible rfl)
                        try simp only [Act.put, List.setIfInBounds_toArray, List.set_cons_zero, List.set_cons_succ]
                        refine wpAnyH_take (i := 15) (oi := ⟨some 142, Op.move (Operand.tmp 11), 23, _, _, some (14, true)⟩) (v := undef) rfl (by kernel_rfl) (by kernel_rfl) (by kernel_rfl) (fun _ _ _ h => h) (Or.inr ⟨by rfl, rfl⟩) (by assumption) ?_
                        try simp only [Act.put, List.setIfInBounds_toArray, List.set_cons_zero, List.set_cons_succ]
                        refine wpAnyH_take (i := 16) (oi := ⟨some 143, Op.move (Operand.tmp 12), 3, _, _, some (14, true)⟩) (v := undef) rfl (by kernel_rfl) (by kernel_rfl) (by kernel_rfl) (fun _ _ _ h => h) (Or.inr ⟨by rfl, rfl⟩) (by assumption) ?_
                        try simp only [Act.put, List.setIfInBounds_toArray, List.set_cons_zero, List.set_cons_succ]
                        refine wpAnyH_take (i := 17) (oi := ⟨some 144, Op.indexAddr 23 (Operand.tmp 142) (Operand.tmp 143), 0, _, _, some (14, true)⟩) (v := undef) rfl (by kernel_rfl) (by kernel_rfl) (by kernel_rfl) (fun _ _ _ h => h) (Or.inr ⟨by rfl, rfl⟩) (by assumption) ?_
                        try simp only [Act.put, List.setIfInBounds_toArray, List.set_cons_zero, List.set_cons_succ]
                        refine wpAnyH_take (i := 18) (oi := ⟨some 145, Op.load 29 (Operand.tmp 144), 29, _, _, some (14, true)⟩) (v := undef) rfl (by kernel_rfl) (by kernel_rfl) (by kernel_rfl) (fun _ _ _ h => h) (Or.inr ⟨by rfl, rfl⟩) (by assumption) ?_
                        try simp only [Act.put, List.setIfInBounds_toArray, List.set_cons_zero, List.set_cons_succ]
                        refine wpAnyH_take (i := 19) (oi := ⟨some 146, Op.move (Operand.tmp 11), 23, _, _, some (14, true)⟩) (v := undef) rfl (by kernel_rfl) (by kernel_rfl) (by kernel_rfl) (fun _ _ _ h => h) (Or.inr ⟨by rfl, rfl⟩) (by assumption) ?_
                        try simp only [Act.put, List.setIfInBounds_toArray, List.set_cons_zero, List.set_cons_succ]
                        refine wpAnyH_take (i := 20) (oi := ⟨some 147, Op.move (Operand.tmp 19), 3, _, _, some (14, true)⟩) (v := undef) rfl (by kernel_rfl) (by kernel_rfl) (by kernel_rfl) (fun _ _ _ h => h) (Or.inr ⟨by rfl, rfl⟩) (by assumption) ?_
                        try simp only [Act.put, List.setIfInBounds_toArray, List.set_cons_zero, List.set_cons_succ]
                        refine wpAnyH_take (i := 21) (oi := ⟨some 148, Op.indexAddr 23 (Operand.tmp 146) (Operand.tmp 147), 0, _, _, some (14, true)⟩) (v := undef) rfl (by kernel_rfl) (by kernel_rfl) (by kernel_rfl) (fun _ _ _ h => h) (Or.inr ⟨by rfl, rfl⟩) (by assumption) ?_
                        try simp only [Act.put, List.setIfInBounds_toArray, List.set_cons_zero, List.set_cons_succ]
                        refine wpAnyH_take (i := 22) (oi := ⟨some 149, Op.load 29 (Operand.tmp 148), 29, _, _, some (14, true)⟩) (v := undef) rfl (by kernel_rfl) (by kernel_rfl) (by kernel_rfl) (fun _ _ _ h => h) (Or.inr ⟨by rfl, rfl⟩) (by assumption) ?_
                        try simp only [Act.put, List.setIfInBounds_toArray, List.set_cons_zero, List.set_cons_succ]
                        refine wpAnyH_take (i := 23) (oi := ⟨some 150, Op.call { callee := Callee.value (Operand.func 19), args := #[Operand.tmp 145, Operand.tmp 149], argTypes := #[29, 29] }, 3, _, _, some (14, true)⟩) (v := undef) rfl (by kernel_rfl) (by kernel_rfl) (by kernel_rfl) (fun _ _ _ h => h) (Or.inr ⟨by rfl, rfl⟩) (by assumption) ?_
                        try simp only [Act.put, List.setIfInBounds_toArray, List.set_cons_zero, List.set_cons_succ]
                        refine wpAnyH_take (i := 24) (oi := ⟨some 151, Op.binOp BinOp.gtr 3 (Operand.tmp 150) (Operand.const (Value.int IntKind.i64 0)) 3, 4, _, _, some (14, true)⟩) (v := undef) rfl (by kernel_rfl) (by kernel_rfl) (by kernel_rfl) (fun _ _ _ h => h) (Or.inr ⟨by rfl, rfl⟩) (by assumption) ?_
                        try simp only [Act.put, List.setIfInBounds_toArray, List.set_cons_zero, List.set_cons_succ]
                        refine wpAnyH_take (i := 25) (oi := ⟨some 152, Op.pick (Operand.tmp 141) (Operand.tmp 151) (Operand.const (Value.bool false)), 4, _, _, none⟩) (v := ?_) rfl (by kernel_rfl) (by kernel_rfl) (by kernel_rfl) (fun _ _ _ h => h) (Or.inl ⟨by rfl, ?_⟩) (by assumption) ?_
                        rotate_left 1
                        · (intro w hSw; (try dsimp only at hSw); go_simp; first | done | with_reducible rfl)
                        try simp only [Act.put, List.setIfInBounds_toArray, List.set_cons_zero, List.set_cons_succ]
                        refine wpAnyH_done (by kernel_rfl) ?_ _
                        refine NoPanic.normal ?_
                        have HSN := Lib.hid (Since.step HSJ.out (Since.drew (Since.refl wj)))
                        go_wp2
                        go_roundw
                        case rel => exact ⟨j + 1, by omega, by go_num, HSN⟩
                        case measure => simp [intOf]; omega
                    · have j4 : ¬ (j : Int) < 6 := by omega
                      have HSN := Lib.hid hS5
                      go_wp2
                      go_roundw
                      case rel => exact ⟨k + 1, by omega, by go_num, HSN⟩
                      case measure => simp [intOf]; omega
          · have k4 : ¬ (k : Int) < 6 := by omega
            go_wp2
            go_roundw
            case rel => exact ⟨i + 1, by omega, by go_num, hS⟩
            case measure => simp [intOf]; omega
      · have i4 : ¬ (i : Int) < 6 := by omega
        have HB := Lib.hid (Below.trans hB.out (Below.mono hS.out hB.out.size))
        have KL := Lib.hid (lives06_any wi)
        go_wp2_with fail
        refine KL.out.mono ?_
        rintro e w99 ⟨rfl, hr⟩
        have HB9 := Lib.hid (Below.trans HB.out (Below.mono hr HB.out.size))
        clear hr
        go_wp2
        go_ret
        exact ⟨rfl, HB9.out⟩

end Go.Proofs.Ytejllfpcffeogaa
