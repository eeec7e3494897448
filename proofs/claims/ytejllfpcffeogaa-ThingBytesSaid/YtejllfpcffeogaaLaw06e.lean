/- The law ThingBytes. -/
import Derived.Test.YtejllfpcffeogaaDf
import Derived.Test.YtejllfpcffeogaaLaw06c
import Derived.Deep.CutBlock
namespace Go.Proofs.Ytejllfpcffeogaa
open Go.RowKit Go.Shelf

set_option maxHeartbeats 16000000 in
set_option maxRecDepth 100000 in
theorem law_bytes6 (a0 : Option Addr) (len0 cap0 : Nat) (z0 : List Int) (a1 : Option Addr) (len1 cap1 : Nat) (z1 : List Int) (a2 a3 a4 a5 : Int) (a6 : Option Addr) (len6 cap6 : Nat) (z6 : List Int) (w : World) (w0 : Came .i64 w a0 len0 cap0 z0) (w1 : Came .i64 w a1 len1 cap1 z1) (w2 : (Lit.int .i64 a2).wf = true) (w3 : (Lit.int .i64 a3).wf = true) (w4 : (Lit.int .i64 a4).wf = true) (w5 : (Lit.int .u8 a5).wf = true) (w6 : Came .u8 w a6 len6 cap6 z6) :
    Calls Try.prog 5 #[.slice a0 len0 cap0, .slice a1 len1 cap1, .int .i64 a2, .int .i64 a3, .int .i64 a4, .int .u8 a5, .slice a6 len6 cap6] w fun e w' => e = .returned (.bool true) ∧ Below w.heap.size w w' := by
  have K0 := Lib.hid (things_any _ _ _ _ a2 a3 a4 w w0.els w1.els (fun z hz => w0.wf z (List.mem_of_mem_take hz)) (fun z hz => w1.wf z (List.mem_of_mem_take hz)) (i64_of_wf w2) (i64_of_wf w3) (i64_of_wf w4))
  have KFR := Lib.hid fun (W : World) (hB : Below w.heap.size w W) => few_any 30 _ _ W (by decide) (w6.els.below hB) w6.cap
  have hby : Hm.Byt ((z6.take len6).take 30) := (w6.byt.take len6).take 30
  have hr30 : ((z6.take len6).take 30).length ≤ 30 := List.length_take_le _ _
  have ha5 := u8_of_wf w5
  have KAR := Lib.hid fun (n : Int) (W : World) (h1 : 1 ≤ n) (h2 : n ≤ 1000000) => around_any a2 n W h1 (by omega) w2
  have HI := Lib.hid Try.infoU8
  generalize (z6.take len6).take 30 = r6 at *
  have HBY := Lib.hid hby
  have HR30 := Lib.hid hr30
  have HA5 := Lib.hid ha5
  clear w0 w1 w2 w3 w4 w5 w6 hby hr30 ha5
  go_enter Try.func5, Try.ntmps5
  go_wp2_with fail
  refine K0.out.mono ?_
  rintro e W1 ⟨as1, ns, cs1, rs, ts, rfl, hn4, hlen, hAT, hG, hB1⟩
  subst hn4
  clear K0
  have HS0 : Hid (Since W1 W1) := Lib.hid (Since.refl _)
  go_wp2
  go_loopw [16] (fun x wr => ∃ k : Nat, k ≤ 4 ∧ x = .int .i64 k ∧ Hid (Since W1 wr)) (fun x _ => 4 - (intOf x).toNat)
  case atStart => exact ⟨0, by omega, rfl, HS0⟩
  case round =>
    clear HS0
    obtain ⟨k, hk, rfl, hS⟩ := hrel
    rename World => wo
    by_cases hlt : k < 4
    rotate_left 1
    · have i4 : ¬ (k : Int) < 4 := by omega
      have HB := Lib.hid (Below.trans hB1.out (Below.mono hS.out hB1.out.size))
      have KL := Lib.hid (lives06_any wo)
      go_wp2_with fail
      refine KL.out.mono ?_
      rintro e w9 ⟨rfl, hr⟩
      have HB9 := Lib.hid (Below.trans HB.out (Below.mono hr HB.out.size))
      clear hr
      go_wp2
      go_ret
      exact ⟨rfl, HB9.out⟩
    have i4 : (k : Int) < 4 := by omega
    obtain ⟨g, ⟨b1, m1, d1, b2, m2, d2, b3, m3, d3⟩, t, rfl, hcap, hr, ht, p0, p1, p2, hT, hg⟩ := (hAT.out.below hS.out).get hlt
    simp only at p0 p1 p2 hT
    have hgk := hG.out t (List.mem_of_getElem? ht)
    have hsz := hgk.size
    have hwt := hgk.2
    have KE := Lib.hid fun W (h : Since wo W) => tenc_any t (by omega) hgk.1 _ _ _ W (TAt.below h hT)
    have KW := Lib.hid fun W (h : Since wo W) => rvalidt_any t (by omega) hgk.1 _ _ _ W (TAt.below h hT)
    have KR := Lib.hid fun W (h : Since wo W) => renc_all t.size t (Nat.le_refl _) hgk.1 (by omega) _ _ _ W (TAt.below h hT)
    have KD := Lib.hid fun sv W (h : Els .u8 W sv t.enc) => tdecode_self sv t W h hgk.1 hwt
    have KS := Lib.hid fun (a b c : Value) W (h : Since wo W) (hU : TAt W.heap.size W t a b c) => same_self t hgk.1 (by omega) a b c _ _ _ W hU (TAt.below h hT)
    have HEB := Lib.hid (Th.enc_byt t)
    have hel : t.enc.length ≤ 500000 := by have := Th.enc_len t hgk.1 (by omega); omega
    have hep := Th.enc_pos t
    have HWO := Lib.hid (Below.trans hB1.out (Below.mono hS.out hB1.out.size))
    generalize validT t = V at *
    generalize t.enc = EN at *
    clear hr ht hT hgk hsz hwt hg
    go_wp2_with fail
    refine (KE.out wo (Since.refl _)).mono ?_
    rintro e v1 hself
    have hself2 : ∃ (ab : Option Addr) (nb cb : Nat) (er : Int), e = .returned (.tuple #[.slice ab nb cb, .int .i64 er]) ∧ Hid ((V = 0 ∧ er = 0 ∧ nb = EN.length ∧ Els .u8 v1 (.slice ab nb cb) EN) ∨ (V ≠ 0 ∧ er = V ∧ ab = none ∧ nb = 0 ∧ cb = 0)) ∧ Hid (Since wo v1) := by
      rcases hself with ⟨h0, a, n, c, h1, h2, h3, h4⟩ | ⟨h0, h1, h2⟩
      · exact ⟨a, n, c, 0, h1, Lib.hid (.inl ⟨h0, rfl, h2.out, h3.out.els⟩), h4⟩
      · exact ⟨none, 0, 0, V, h1, Lib.hid (.inr ⟨h0, rfl, rfl, rfl, rfl⟩), h2⟩
    obtain ⟨ab, nb, cb, er, rfl, hcase, hS1⟩ := hself2
    clear hself KE
    have q0 := Since.cell hS1.out p0
    have q1 := Since.cell hS1.out p1
    have q2 := Since.cell hS1.out p2
    go_upto_region 6 with (fail)
    go_cut [67] (fun s wx => s = .bool false ∧ Since v1 wx)
    case first =>
      rcases hcase.out with ⟨hv0, hev, -, -⟩ | ⟨hv0, hev, h1, h2, h3⟩
      · have t1 : (er != V) = false := by rw [hev, hv0]; rfl
        have t2 : (er != 0) = false := by rw [hev]; rfl
        clear hev hv0 hcase
        go_wp2_with fail
        refine (KW.out _ hS1.out).mono ?_
        rintro e v2 ⟨rfl, B2⟩
        go_wp2_with fail
        go_meet
        exact ⟨rfl, B2⟩
      · subst h1
        subst h2
        subst h3
        have t1 : (er != V) = false := by rw [hev]; simp
        have t2 : (er != 0) = true := by rw [hev, bne_iff_ne]; exact hv0
        clear hev hv0 hcase
        go_wp2_with fail
        refine (KW.out _ hS1.out).mono ?_
        rintro e v2 ⟨rfl, B2⟩
        go_wp2_with fail
        go_meet
        exact ⟨rfl, B2⟩
    case rest =>
    obtain ⟨rfl, B2⟩ := hcut
    rename World => v2
    have HS2 := Lib.hid (Since.step hS1.out B2)
    have HC2 : Hid ((V = 0 ∧ er = 0 ∧ nb = EN.length ∧ Els .u8 v2 (.slice ab nb cb) EN) ∨ (V ≠ 0 ∧ er = V ∧ ab = none ∧ nb = 0 ∧ cb = 0)) := Lib.hid (hcase.out.imp (fun h => ⟨h.1, h.2.1, h.2.2.1, h.2.2.2.below B2⟩) id)
    obtain ⟨v3, hv3⟩ : ∃ v3, v3 = v2.alloc (.cells #[.slice none 0 0] 44) := ⟨_, rfl⟩
    have hS3 : Since v2 v3 := by rw [hv3]; exact Since.alloc (Since.refl _) _
    have hz3 : v3.heap.size = v2.heap.size + 1 := by rw [hv3, World.size_alloc]
    have HWF := Lib.hid fun (F : Nat → Prop) v4 (h : Since v3 v4) (hF : ¬ F v2.heap.size) => WrF.fresh (w2 := v2) (T := 44) (by rw [← hv3]; exact h) hF
    have HS3 := Lib.hid (Since.step HS2.out hS3)
    clear q0 q1 q2 KW hcase hS1 B2
    have r0 := Since.cell HS3.out p0
    have r1 := Since.cell HS3.out p1
    have r2 := Since.cell HS3.out p2
    go_upto_region 9 with (fail)
    rw [← hv3]
    clear hv3
    go_wp2_with fail
    refine (KR.out _ HS3.out).mono ?_
    rintro e v4 ⟨ar, nr, cr, rfl, HN4, O4, B4⟩
    have hF : ∀ g, (Value.slice ar nr cr).ownBlock = some g → v3.heap.size ≤ g ∧ g < v4.heap.size := fun g hg => World.ownsRow.lt O4.out g hg
    have KRW := Lib.hid (wraw_f (fun g => (Value.slice ar nr cr).ownBlock = some g) v2.heap.size (v2.heap.size + 1) v3.heap.size ar nr cr EN [] v4 (fun g hg => (hF g hg).2) (by simp) (by omega) O4.out (HWF.out _ v4 B4.out (fun hg => by have := (hF _ hg).1; omega)) (fun g hg => hg))
    have hS24 : Below v2.heap.size v2 v4 := Below.trans hS3 (Below.mono B4.out (by omega))
    clear r0 r1 r2 hF HN4 O4 B4 HWF KR HS3
    go_wp2_with fail
    refine KRW.out.mono ?_
    rintro e v5 ⟨rfl, hW5, hB5, -⟩
    have hS25 : Since v2 v5 := Below.trans hS24 hB5.out
    have HS5 := Lib.hid (Since.step HS2.out hS25)
    have HC5 : Hid ((V = 0 ∧ er = 0 ∧ nb = EN.length ∧ Els .u8 v5 (.slice ab nb cb) EN) ∨ (V ≠ 0 ∧ er = V ∧ ab = none ∧ nb = 0 ∧ cb = 0)) := Lib.hid (HC2.out.imp (fun h => ⟨h.1, h.2.1, h.2.2.1, h.2.2.2.below hS25⟩) id)
    have hul := Hm.uv_len (n := EN.length) (by omega)
    have hLL : ([] ++ (Hm.uv EN.length ++ EN)).length ≤ 600000 := by rw [List.nil_append, List.length_append]; omega
    have hLB : Hm.Byt ([] ++ (Hm.uv EN.length ++ EN)) := by rw [List.nil_append]; exact Hm.byt_append (Hm.uv_byt _) HEB.out
    have hrr : Hm.rRaw ([] ++ (Hm.uv EN.length ++ EN)) 0 = (EN, [], 0) := by have := rRaw_enc EN [] (by omega); rwa [List.append_nil] at this
    have KDN := Lib.hid (wdone_any v2.heap.size (v2.heap.size + 1) _ v5 (by omega) hW5.out.wr)
    have HRR := Lib.hid hrr
    generalize [] ++ (Hm.uv EN.length ++ EN) = LN at *
    clear hul hrr hS24 hS25 hB5 hW5 KRW HC2 HS2 hz3 hS3
    go_wp2_with fail
    refine KDN.out.mono ?_
    rintro e v6 ⟨a6', n6', c6', rfl, HN6, O6, B6⟩
    have KRD := Lib.hid (rread_any _ _ v6 (by omega) O6.out.els)
    clear KDN HN6 O6
    go_wp2_with fail
    refine KRD.out.mono ?_
    rintro e v7 ⟨p7, d7, rfl, hp7, hd7, hdl7, HR7, B7⟩
    have krw := rraw_any p7 d7 _ 0 v7 HR7.out hLB (by omega)
    rw [HRR.out] at krw
    have KRW := Lib.hid krw
    clear krw KRD HR7 hd7 HRR hLL hLB
    go_wp2_with fail
    refine KRW.out.mono ?_
    rintro e v8 ⟨ac, nc, cc, rfl, HN8, O8, HR8, HG8⟩
    have hS68 : Since v6 v8 := Below.trans B7.out (grown_at HG8.out hp7 B7.out.size)
    have hS58 : Since v5 v8 := Since.step B6.out hS68
    have HS8 := Lib.hid (Since.step HS5.out hS58)
    have HC8 : Hid ((V = 0 ∧ er = 0 ∧ nb = EN.length ∧ Els .u8 v8 (.slice ab nb cb) EN) ∨ (V ≠ 0 ∧ er = V ∧ ab = none ∧ nb = 0 ∧ cb = 0)) := Lib.hid (HC5.out.imp (fun h => ⟨h.1, h.2.1, h.2.2.1, h.2.2.2.below hS58⟩) id)
    have E8 := Lib.hid O8.out.els
    have KDC := Lib.hid (KD.out _ v8 O8.out.els)
    clear KRW HN8 O8 HR8 HG8 hS68 hS58 B6 B7 HC5 HS5 hp7 hdl7 KD
    go_wp2_with fail
    refine KDC.out.mono ?_
    rintro e v9 (⟨hV, ⟨s1, t1, u1, s2, t2, u2, s3, t3, u3⟩, rfl, HT9, B9⟩ | ⟨hV, rfl, B9⟩)
    rotate_left 1
    · have her : er = V := by
        rcases HC8.out with ⟨h, -⟩ | ⟨-, h, -⟩
        · exact absurd h hV
        · exact h
      have t2 : (er != 0) = true := by rw [her, bne_iff_ne]; exact hV
      obtain ⟨v10, hv10⟩ : ∃ v10, v10 = v9.alloc (.cells #[.slice none 0 0, .slice none 0 0, .slice none 0 0] 29) := ⟨_, rfl⟩
      have hS10 : Since v9 v10 := by rw [hv10]; exact Since.alloc (Since.refl _) _
      have hX10 : BoxL v9.heap.size [.slice none 0 0, .slice none 0 0, .slice none 0 0] v10 := by rw [hv10]; exact BoxL.made v9 _ _
      have HS10 := Lib.hid (Since.step hS.out (Since.step HS8.out (Since.step B9.out hS10)))
      have HX10 := Lib.hid hX10
      clear hS10 hX10 HC8 E8 KDC KS HS8 B9 her hV
      go_upto_region 15 with (fail)
      rw [← hv10]
      generalize v9.heap.size = M at *
      clear hv10
      obtain ⟨x0, x1, x2, -, -, -, -⟩ := HX10.out.open3
      have KN := Lib.hid (same_self (.mk [] [] []) nil_wf (by simp [Th.size, Th.sizes]) _ _ _ _ _ _ v10 (tat_nil _ _) (tat_nil _ _))
      go_wp2_with fail
      refine KN.out.mono ?_
      rintro e v11 ⟨rfl, B11⟩
      have HSZ := Lib.hid (Since.step HS10.out B11)
      clear B11 KN x0 x1 x2
      go_wp2
      go_roundw
      case rel => exact ⟨k + 1, by omega, by go_num, HSZ⟩
      case measure => simp [intOf]; omega
    try simp only
    obtain ⟨her, hnb, hEb⟩ : er = 0 ∧ nb = EN.length ∧ Els .u8 v8 (.slice ab nb cb) EN := by
      rcases HC8.out with ⟨-, h⟩ | ⟨h, -⟩
      · exact h
      · exact absurd hV h
    subst her
    have hnb1 : 1 ≤ nb := by omega
    obtain ⟨bb, ob, hab, -⟩ := hEb.at 0 (by omega)
    subst hab
    have hcb : nb ≤ cb := by
      rcases hEb with ⟨_, hz⟩ | ⟨b', off', cap, hb, he, hl, hc⟩
      · rw [hz] at hnb; simp at hnb; omega
      · cases he; omega
    have hn0 : ((nb : Int) == 0) = false := beq_eq_false_iff_ne.2 (by omega)
    obtain ⟨v10, hv10⟩ : ∃ v10, v10 = v9.alloc (.cells #[.slice s1 t1 u1, .slice s2 t2 u2, .slice s3 t3 u3] 29) := ⟨_, rfl⟩
    have hS10 : Since v9 v10 := by rw [hv10]; exact Since.alloc (Since.refl _) _
    have hX10 : BoxL v9.heap.size [.slice s1 t1 u1, .slice s2 t2 u2, .slice s3 t3 u3] v10 := by rw [hv10]; exact BoxL.made v9 _ _
    have hS810 : Since v8 v10 := Since.step B9.out hS10
    have HS10 := Lib.hid (Since.step HS8.out hS810)
    have hT10 := TAt.below hS10 HT9.out
    have HEb := Lib.hid (hEb.below hS810)
    have hEc := E8.out.below hS810
    have KSB := Lib.hid fun W (h : Since v10 W) => sameB_self (.slice (some ⟨bb, ob, none⟩) nb cb) (.slice ac nc cc) EN W (HEb.out.below h) (hEc.below h) (by omega)
    have KSM := Lib.hid fun W (h : Since v10 W) => KS.out _ _ _ W (Since.step HS10.out h) (TAt.below h hT10)
    have HX10 := Lib.hid hX10
    have HNB : Hid (nb = EN.length) := hnb
    have hnb9 : nb ≤ 500000 := by omega
    have y0 := Since.cell HS10.out p0
    have y1 := Since.cell HS10.out p1
    have y2 := Since.cell HS10.out p2
    clear hS10 hX10 HC8 E8 KDC KS HS8 B9 hV hT10 HT9 hEb hEc hS810 hnb
    go_upto_region 15 with (fail)
    rw [← hv10]
    generalize v9.heap.size = M at *
    clear hv10
    obtain ⟨x0, x1, x2, -, -, -, -⟩ := HX10.out.open3
    have hSd : Since v10 v10.drew := Since.drew (Since.refl _)
    go_upto_region 18 with (fail)
    refine wp_region_noPanic ?_
    refine wp_region_held_drew (S := fun w' => w'.cell? ⟨M, 0, none⟩ = some (.slice s1 t1 u1) ∧ w'.cell? ⟨M, 1, none⟩ = some (.slice s2 t2 u2) ∧ w'.cell? ⟨M, 2, none⟩ = some (.slice s3 t3 u3) ∧ w'.cell? ⟨g, k * 3, none⟩ = some (.slice b1 m1 d1) ∧ w'.cell? ⟨g, k * 3 + 1, none⟩ = some (.slice b2 m2 d2) ∧ w'.cell? ⟨g, k * 3 + 2, none⟩ = some (.slice b3 m3 d3) ∧ Since v10 w') (by kernel_rfl) ⟨Since.cell hSd x0, Since.cell hSd x1, Since.cell hSd x2, Since.cell hSd y0, Since.cell hSd y1, Since.cell hSd y2, hSd⟩ (fun hHeld => ?_)
    refine wpAnyH_take (i := 0) (oi := ⟨some 95, Op.move (Operand.tmp 23), 25, _, _, none⟩) (v := ?_) rfl (by kernel_rfl) (by kernel_rfl) (by kernel_rfl) (fun _ _ _ h => h) (Or.inl ⟨by rfl, ?_⟩) (by assumption) ?_
    rotate_left 1
    · (intro w hSw; (try dsimp only at hSw); go_simp; first | done | with_reducible rfl)
    try simp only [Act.put, List.setIfInBounds_toArray, List.set_cons_zero, List.set_cons_succ]
    refine wpAnyH_take (i := 1) (oi := ⟨some 96, Op.binOp BinOp.neq 25 (Operand.tmp 95) (Operand.const (Value.int IntKind.i64 0)) 25, 4, _, _, none⟩) (v := ?_) rfl (by kernel_rfl) (by kernel_rfl) (by kernel_rfl) (fun _ _ _ h => h) (Or.inl ⟨by rfl, ?_⟩) (by assumption) ?_
    rotate_left 1
    · (intro w hSw; (try dsimp only at hSw); go_simp; first | done | with_reducible rfl)
    try simp only [Act.put, List.setIfInBounds_toArray, List.set_cons_zero, List.set_cons_succ]
    refine wpAnyH_take (i := 2) (oi := ⟨some 97, Op.move (Operand.tmp 96), 4, _, _, none⟩) (v := ?_) rfl (by kernel_rfl) (by kernel_rfl) (by kernel_rfl) (fun _ _ _ h => h) (Or.inl ⟨by rfl, ?_⟩) (by assumption) ?_
    rotate_left 1
    · (intro w hSw; (try dsimp only at hSw); go_simp; first | done | with_reducible rfl)
    try simp only [Act.put, List.setIfInBounds_toArray, List.set_cons_zero, List.set_cons_succ]
    refine wpAnyH_take (i := 3) (oi := ⟨some 98, Op.move (Operand.tmp 17), 39, _, _, some (2, false)⟩) (v := ?_) rfl (by kernel_rfl) (by kernel_rfl) (by kernel_rfl) (fun _ _ _ h => h) (Or.inl ⟨by rfl, ?_⟩) (by assumption) ?_
    rotate_left 1
    · (intro w hSw; (try dsimp only at hSw); go_simp; first | done | with_reducible rfl)
    try simp only [Act.put, List.setIfInBounds_toArray, List.set_cons_zero, List.set_cons_succ]
    refine wpAnyH_take (i := 4) (oi := ⟨some 99, Op.move (Operand.tmp 21), 39, _, _, some (2, false)⟩) (v := ?_) rfl (by kernel_rfl) (by kernel_rfl) (by kernel_rfl) (fun _ _ _ h => h) (Or.inl ⟨by rfl, ?_⟩) (by assumption) ?_
    rotate_left 1
    · (intro w hSw; (try dsimp only at hSw); go_simp; first | done | with_reducible rfl)
    try simp only [Act.put, List.setIfInBounds_toArray, List.set_cons_zero, List.set_cons_succ]
    refine wpAnyH_ready (rs := [5]) (by kernel_rfl) (by simp) ?_
    refine AllReadyH.cons (o := ⟨some 100, Op.call { callee := Callee.value (Operand.func 22), args := #[Operand.tmp 98, Operand.tmp 99], argTypes := #[39, 39] }, 4, _, _, some (2, false)⟩) rfl (fun K hK => ?_) AllReadyH.nil
    go_simp
    go_at_call 22
    (with_reducible refine (KSB.out _ hSd).mono ?_)
    rintro e v12 ⟨rfl, hr12⟩
    have hB12 : Since v10 v12 := Since.step hSd hr12
    go_wp2_with fail
    refine hK.out _ _ ?_ (fun hHeld => ?_)
    · exact ⟨Since.cell hB12 x0, Since.cell hB12 x1, Since.cell hB12 x2, Since.cell hB12 y0, Since.cell hB12 y1, Since.cell hB12 y2, hB12⟩
    clear hK K hr12
    try simp only [Act.put, List.setIfInBounds_toArray, List.set_cons_zero, List.set_cons_succ]
    refine wpAnyH_take (i := 6) (oi := ⟨some 101, Op.unOp UnOp.not 4 (Operand.tmp 100), 4, _, _, some (2, false)⟩) (v := ?_) rfl (by kernel_rfl) (by kernel_rfl) (by kernel_rfl) (fun _ _ _ h => h) (Or.inl ⟨by rfl, ?_⟩) (by assumption) ?_
    rotate_left 1
    · (intro w hSw; (try dsimp only at hSw); go_simp; first | done | with_reducible rfl)
    try simp only [Act.put, List.setIfInBounds_toArray, List.set_cons_zero, List.set_cons_succ]
    refine wpAnyH_take (i := 7) (oi := ⟨some 102, Op.pick (Operand.tmp 97) (Operand.const (Value.bool true)) (Operand.tmp 101), 4, _, _, none⟩) (v := ?_) rfl (by kernel_rfl) (by kernel_rfl) (by kernel_rfl) (fun _ _ _ h => h) (Or.inl ⟨by rfl, ?_⟩) (by assumption) ?_
    rotate_left 1
    · (intro w hSw; (try dsimp only at hSw); go_simp; first | done | with_reducible rfl)
    try simp only [Act.put, List.setIfInBounds_toArray, List.set_cons_zero, List.set_cons_succ]
    refine wpAnyH_take (i := 8) (oi := ⟨some 103, Op.move (Operand.tmp 102), 4, _, _, none⟩) (v := ?_) rfl (by kernel_rfl) (by kernel_rfl) (by kernel_rfl) (fun _ _ _ h => h) (Or.inl ⟨by rfl, ?_⟩) (by assumption) ?_
    rotate_left 1
    · (intro w hSw; (try dsimp only at hSw); go_simp; first | done | with_reducible rfl)
    try simp only [Act.put, List.setIfInBounds_toArray, List.set_cons_zero, List.set_cons_succ]
    refine wpAnyH_take (i := 9) (oi := ⟨some 104, Op.load 29 (Operand.tmp 22), 29, _, _, some (8, false)⟩) (v := ?_) rfl (by kernel_rfl) (by kernel_rfl) (by kernel_rfl) (fun _ _ _ h => h) (Or.inl ⟨by rfl, ?_⟩) (by assumption) ?_
    rotate_left 1
    · (intro w hSw; (try dsimp only at hSw); go_simp; first | done | with_reducible rfl)
    try simp only [Act.put, List.setIfInBounds_toArray, List.set_cons_zero, List.set_cons_succ]
    refine wpAnyH_take (i := 10) (oi := ⟨some 105, Op.move (Operand.tmp 15), 23, _, _, some (8, false)⟩) (v := ?_) rfl (by kernel_rfl) (by kernel_rfl) (by kernel_rfl) (fun _ _ _ h => h) (Or.inl ⟨by rfl, ?_⟩) (by assumption) ?_
    rotate_left 1
    · (intro w hSw; (try dsimp only at hSw); go_simp; first | done | with_reducible rfl)
    try simp only [Act.put, List.setIfInBounds_toArray, List.set_cons_zero, List.set_cons_succ]
    refine wpAnyH_take (i := 11) (oi := ⟨some 106, Op.move (Operand.tmp 16), 3, _, _, some (8, false)⟩) (v := ?_) rfl (by kernel_rfl) (by kernel_rfl) (by kernel_rfl) (fun _ _ _ h => h) (Or.inl ⟨by rfl, ?_⟩) (by assumption) ?_
    rotate_left 1
    · (intro w hSw; (try dsimp only at hSw); go_simp; first | done | with_reducible rfl)
    try simp only [Act.put, List.setIfInBounds_toArray, List.set_cons_zero, List.set_cons_succ]
    refine wpAnyH_take (i := 12) (oi := ⟨some 107, Op.indexAddr 23 (Operand.tmp 105) (Operand.tmp 106), 0, _, _, some (8, false)⟩) (v := ?_) rfl (by kernel_rfl) (by kernel_rfl) (by kernel_rfl) (fun _ _ _ h => h) (Or.inl ⟨by rfl, ?_⟩) (by assumption) ?_
    rotate_left 1
    · (intro w hSw; (try dsimp only at hSw); go_simp; first | done | with_reducible rfl)
    try simp only [Act.put, List.setIfInBounds_toArray, List.set_cons_zero, List.set_cons_succ]
    refine wpAnyH_take (i := 13) (oi := ⟨some 108, Op.load 29 (Operand.tmp 107), 29, _, _, some (8, false)⟩) (v := ?_) rfl (by kernel_rfl) (by kernel_rfl) (by kernel_rfl) (fun _ _ _ h => h) (Or.inl ⟨by rfl, ?_⟩) (by assumption) ?_
    rotate_left 1
    · (intro w hSw; (try dsimp only at hSw); go_simp; first | done | with_reducible rfl)
    try simp only [Act.put, List.setIfInBounds_toArray, List.set_cons_zero, List.set_cons_succ]
    refine wpAnyH_ready (rs := [14]) (by kernel_rfl) (by simp) ?_
    refine AllReadyH.cons (o := ⟨some 109, Op.call { callee := Callee.value (Operand.func 29), args := #[Operand.tmp 104, Operand.tmp 108], argTypes := #[29, 29] }, 4, _, _, some (8, false)⟩) rfl (fun K hK => ?_) AllReadyH.nil
    go_simp
    go_at_call 29
    (with_reducible refine (KSM.out _ hB12).mono ?_)
    rintro e v11 ⟨rfl, hr11⟩
    have hB2 : Since v10 v11 := Since.step hB12 hr11
    go_wp2_with fail
    refine hK.out _ _ ?_ (fun hHeld => ?_)
    · exact ⟨Since.cell hB2 x0, Since.cell hB2 x1, Since.cell hB2 x2, Since.cell hB2 y0, Since.cell hB2 y1, Since.cell hB2 y2, hB2⟩
    clear hK K hr11 hB12
    try simp only [Act.put, List.setIfInBounds_toArray, List.set_cons_zero, List.set_cons_succ]
    refine wpAnyH_take (i := 15) (oi := ⟨some 110, Op.unOp UnOp.not 4 (Operand.tmp 109), 4, _, _, some (8, false)⟩) (v := ?_) rfl (by kernel_rfl) (by kernel_rfl) (by kernel_rfl) (fun _ _ _ h => h) (Or.inl ⟨by rfl, ?_⟩) (by assumption) ?_
    rotate_left 1
    · (intro w hSw; (try dsimp only at hSw); go_simp; first | done | with_reducible rfl)
    try simp only [Act.put, List.setIfInBounds_toArray, List.set_cons_zero, List.set_cons_succ]
    refine wpAnyH_take (i := 16) (oi := ⟨some 111, Op.pick (Operand.tmp 103) (Operand.const (Value.bool true)) (Operand.tmp 110), 4, _, _, none⟩) (v := ?_) rfl (by kernel_rfl) (by kernel_rfl) (by kernel_rfl) (fun _ _ _ h => h) (Or.inl ⟨by rfl, ?_⟩) (by assumption) ?_
    rotate_left 1
    · (intro w hSw; (try dsimp only at hSw); go_simp; first | done | with_reducible rfl)
    try simp only [Act.put, List.setIfInBounds_toArray, List.set_cons_zero, List.set_cons_succ]
    refine wpAnyH_take (i := 17) (oi := ⟨some 112, Op.move (Operand.tmp 111), 4, _, _, none⟩) (v := ?_) rfl (by kernel_rfl) (by kernel_rfl) (by kernel_rfl) (fun _ _ _ h => h) (Or.inl ⟨by rfl, ?_⟩) (by assumption) ?_
    rotate_left 1
    · (intro w hSw; (try dsimp only at hSw); go_simp; first | done | with_reducible rfl)
    try simp only [Act.put, List.setIfInBounds_toArray, List.set_cons_zero, List.set_cons_succ]
    refine wpAnyH_take (i := 18) (oi := ⟨some 113, Op.move (Operand.tmp 17), 39, _, _, some (17, false)⟩) (v := ?_) rfl (by kernel_rfl) (by kernel_rfl) (by kernel_rfl) (fun _ _ _ h => h) (Or.inl ⟨by rfl, ?_⟩) (by assumption) ?_
    rotate_left 1
    · (intro w hSw; (try dsimp only at hSw); go_simp; first | done | with_reducible rfl)
    try simp only [Act.put, List.setIfInBounds_toArray, List.set_cons_zero, List.set_cons_succ]
    refine wpAnyH_take (i := 19) (oi := ⟨some 114, Op.call { callee := Callee.builtin Builtin.len, args := #[Operand.tmp 113], argTypes := #[39] }, 3, _, _, some (17, false)⟩) (v := ?_) rfl (by kernel_rfl) (by kernel_rfl) (by kernel_rfl) (fun _ _ _ h => h) (Or.inl ⟨by rfl, ?_⟩) (by assumption) ?_
    rotate_left 1
    · (intro w hSw; (try dsimp only at hSw); go_simp; first | done | with_reducible rfl)
    try simp only [Act.put, List.setIfInBounds_toArray, List.set_cons_zero, List.set_cons_succ]
    refine wpAnyH_take (i := 20) (oi := ⟨some 115, Op.binOp BinOp.eql 3 (Operand.tmp 114) (Operand.const (Value.int IntKind.i64 0)) 3, 4, _, _, some (17, false)⟩) (v := ?_) rfl (by kernel_rfl) (by kernel_rfl) (by kernel_rfl) (fun _ _ _ h => h) (Or.inl ⟨by rfl, ?_⟩) (by assumption) ?_
    rotate_left 1
    · (intro w hSw; (try dsimp only at hSw); go_simp; first | done | with_reducible rfl)
    try simp only [Act.put, List.setIfInBounds_toArray, List.set_cons_zero, List.set_cons_succ]
    refine wpAnyH_take (i := 21) (oi := ⟨some 116, Op.pick (Operand.tmp 112) (Operand.const (Value.bool true)) (Operand.tmp 115), 4, _, _, none⟩) (v := ?_) rfl (by kernel_rfl) (by kernel_rfl) (by kernel_rfl) (fun _ _ _ h => h) (Or.inl ⟨by rfl, ?_⟩) (by assumption) ?_
    rotate_left 1
    · (intro w hSw; (try dsimp only at hSw); go_simp; first | done | with_reducible rfl)
    try simp only [Act.put, List.setIfInBounds_toArray, List.set_cons_zero, List.set_cons_succ]
    refine wpAnyH_done (by kernel_rfl) ?_ _
    refine NoPanic.normal ?_
    have HS11 := Lib.hid (Since.step HS10.out hB2)
    have EB11 := Lib.hid (HEb.out.below hB2)
    obtain ⟨kk, hkk, hkn⟩ := around_nat a2 nb (by omega)
    have k16 := KAR.out (nb : Int) v11 (by omega) (by omega)
    rw [hkk] at k16
    have K16 := Lib.hid k16
    have hba : Below v11.heap.size v11 (v11.alloc (.cells #[] 5)) := (Below.refl _ _).alloc (Nat.le_refl _) _
    have HO0 := Lib.hid (own_none (k := .u8) v11 5 v11.heap.size (Nat.le_refl _))
    have HE0 := Lib.hid (EB11.out.below hba)
    have hsz0 : v11.heap.size ≤ (v11.alloc (.cells #[] 5)).heap.size := by simp
    have hl0 : ([] : List Int).length + EN.length ≤ 1000000000000 := by rw [← HNB.out]; simp; omega
    have hpos : ∀ n2 : Nat, n2 = ([] : List Int).length + EN.length → n2 = nb := fun n2 h => by rw [h, ← HNB.out]; simp
    have HPOS := Lib.hid hpos
    clear hB2 hSd x0 x1 x2 y0 y1 y2 HX10 KSB KSM hkk k16 hba hpos HEb HS10 p0 p1 p2 hn0
    go_wp2_with fail
    refine (K16.out).mono ?_
    rintro e w' ⟨rfl, rfl⟩
    go_wp2_with (at_builtin; refine push_all rfl _ _ 39 rfl .u8 5 1 Try.underlying39 HI.out (by decide) v11.heap.size (.slice (some ⟨v11.heap.size, 0, none⟩) 0 0) [] (.slice (some ⟨bb, ob, none⟩) nb cb) EN rfl rfl HO0.out HE0.out hsz0 hl0 ?_; intro ax2 n2 c2 w2 hn2 hO2 hB2; have hn2' := HPOS.out n2 hn2.out; subst hn2'; obtain ⟨gx, rfl, hgB, hgw, hgc, hgf⟩ := hO2.out.open (by rw [hn2.out, List.length_append]) hnb1; have hci := hgc kk hkn; have hfi := hgf kk; have hki : (kk : Int) < (n2 : Int) := by omega)
    have hzl : ([] ++ EN).length = n2 := by rw [hn2.out, List.length_append]
    have OX := Own.set hO2.out hzl.symm kk a5
    have HS3 : Since v11 (w2.setCell ⟨gx, kk, none⟩ (.int .u8 a5)) := Below.setCell (Below.trans ((Below.refl _ _).alloc (Nat.le_refl _) _) hB2.out) (p := ⟨gx, kk, none⟩) hgB _
    have hbs : Hm.Byt (([] ++ EN).set kk a5) := fun z hz => by
      rcases List.mem_or_eq_of_mem_set hz with h | h
      · exact HEB.out z (by simpa using h)
      · rw [h]; exact HA5.out
    have GX : GoodT (w2.setCell ⟨gx, kk, none⟩ (.int .u8 a5)) (.slice (some ⟨gx, 0, none⟩) n2 c2) := ⟨_, OX.els, hbs, by rw [List.length_set, hzl]; omega⟩
    obtain ⟨w3, hw3⟩ : ∃ w3, w3 = w2.setCell ⟨gx, kk, none⟩ (.int .u8 a5) := ⟨_, rfl⟩
    rw [← hw3] at HS3 GX
    have HGX := Lib.hid GX
    have EB3 := Lib.hid (EB11.out.below HS3)
    have hSW := Since.step HS11.out HS3
    have HSW := Lib.hid (Since.step hS.out hSW)
    have HB3 := Lib.hid (HWO.out.trans (Below.mono hSW HWO.out.size))
    have KFR2 := Lib.hid fun (W : World) (h : Since w3 W) => KFR.out W (Below.trans HB3.out (Below.mono h HB3.out.size))
    have GB : Hid (GoodT w3 (.slice (some ⟨bb, ob, none⟩) kk cb)) := Lib.hid ⟨_, els_cut EB3.out (Nat.le_of_lt hkn) hnb1, HEB.out.take _, by rw [List.length_take]; omega⟩
    clear hzl OX hbs GX hO2 hB2 hgw hgc hci hfi hn2 HE0 HO0 hsz0 hl0 EB11 hgB HPOS K16 hSW HS11 HWO
    go_upto_region 23 with (fail)
    rw [← hw3]
    clear hw3 HS3
    have e1 : (0 : Int) ≤ (kk : Int) := by omega
    have e2 : (kk : Int) ≤ (cb : Int) := by omega
    have e3 : ((kk : Int)).toNat = kk := by omega
    have e4 : kk ≤ cb := by omega
    have hl3 : ([] : List Int).length + EN.length ≤ 1000000000000 := by rw [← HNB.out]; simp; omega
    have hl4 : ([] ++ EN).length + [a5].length ≤ 1000000000000 := by rw [List.nil_append, ← HNB.out]; simp; omega
    have hlz : ([] ++ EN ++ [a5]).length ≤ 1000000 := by rw [List.length_append, List.nil_append, ← HNB.out]; simp; omega
    have HLZ := Lib.hid hlz
    have HBZ : Hid (Hm.Byt ([] ++ EN ++ [a5])) := Lib.hid (byt_snoc (by rw [List.nil_append]; exact HEB.out) HA5.out)
    clear hlz
    go_cut [26] (fun v wx => TTab w3 v wx)
    case first =>
      have hS0 : Since w3 w3.drew := Below.drew (Below.refl _ _)
      refine wp_region_noPanic ?_
      refine wp_region_held_drew (S := fun w' => Since w3 w') (by kernel_rfl) hS0 (fun hHeld => ?_)
      refine wpAnyH_take (i := 0) (oi := ⟨some 128, Op.move (Operand.tmp 25), 39, _, _, none⟩) (v := ?_) rfl (by kernel_rfl) (by kernel_rfl) (by kernel_rfl) (fun _ _ _ h => h) (Or.inl ⟨by rfl, ?_⟩) (by assumption) ?_
      rotate_left 1
      · (intro w hSw; (try dsimp only at hSw); go_simp; first | done | with_reducible rfl)
      try simp only [Act.put, List.setIfInBounds_toArray, List.set_cons_zero, List.set_cons_succ]
      refine wpAnyH_take (i := 1) (oi := ⟨some 129, Op.move (Operand.tmp 17), 39, _, _, none⟩) (v := ?_) rfl (by kernel_rfl) (by kernel_rfl) (by kernel_rfl) (fun _ _ _ h => h) (Or.inl ⟨by rfl, ?_⟩) (by assumption) ?_
      rotate_left 1
      · (intro w hSw; (try dsimp only at hSw); go_simp; first | done | with_reducible rfl)
      try simp only [Act.put, List.setIfInBounds_toArray, List.set_cons_zero, List.set_cons_succ]
      refine wpAnyH_take (i := 2) (oi := ⟨some 130, Op.move (Operand.tmp 24), 3, _, _, none⟩) (v := ?_) rfl (by kernel_rfl) (by kernel_rfl) (by kernel_rfl) (fun _ _ _ h => h) (Or.inl ⟨by rfl, ?_⟩) (by assumption) ?_
      rotate_left 1
      · (intro w hSw; (try dsimp only at hSw); go_simp; first | done | with_reducible rfl)
      try simp only [Act.put, List.setIfInBounds_toArray, List.set_cons_zero, List.set_cons_succ]
      refine wpAnyH_take (i := 3) (oi := ⟨some 131, Op.slice 39 (Operand.tmp 129) none (some (Operand.tmp 130)) none, 39, _, _, none⟩) (v := ?_) rfl (by kernel_rfl) (by kernel_rfl) (by kernel_rfl) (fun _ _ _ h => h) (Or.inl ⟨by rfl, ?_⟩) (by assumption) ?_
      rotate_left 1
      · (intro w hSw; (try dsimp only at hSw); go_simp; first | done | with_reducible rfl)
      try simp only [Act.put, List.setIfInBounds_toArray, List.set_cons_zero, List.set_cons_succ]
      refine wpAnyH_take (i := 4) (oi := ⟨some 132, Op.move (Operand.tmp 6), 39, _, _, none⟩) (v := ?_) rfl (by kernel_rfl) (by kernel_rfl) (by kernel_rfl) (fun _ _ _ h => h) (Or.inl ⟨by rfl, ?_⟩) (by assumption) ?_
      rotate_left 1
      · (intro w hSw; (try dsimp only at hSw); go_simp; first | done | with_reducible rfl)
      try simp only [Act.put, List.setIfInBounds_toArray, List.set_cons_zero, List.set_cons_succ]
      refine wpAnyH_take (i := 7) (oi := ⟨some 135, Op.move (Operand.tmp 17), 39, _, _, none⟩) (v := ?_) rfl (by kernel_rfl) (by kernel_rfl) (by kernel_rfl) (fun _ _ _ h => h) (Or.inl ⟨by rfl, ?_⟩) (by assumption) ?_
      rotate_left 1
      · (intro w hSw; (try dsimp only at hSw); go_simp; first | done | with_reducible rfl)
      try simp only [Act.put, List.setIfInBounds_toArray, List.set_cons_zero, List.set_cons_succ]
      refine wpAnyH_take (i := 9) (oi := ⟨some 137, Op.move (Operand.tmp 5), 5, _, _, none⟩) (v := ?_) rfl (by kernel_rfl) (by kernel_rfl) (by kernel_rfl) (fun _ _ _ h => h) (Or.inl ⟨by rfl, ?_⟩) (by assumption) ?_
      rotate_left 1
      · (intro w hSw; (try dsimp only at hSw); go_simp; first | done | with_reducible rfl)
      try simp only [Act.put, List.setIfInBounds_toArray, List.set_cons_zero, List.set_cons_succ]
      refine wpAnyH_ready (rs := [5, 6, 10]) (by kernel_rfl) (by simp) ?_
      refine AllReadyH.cons (o := ⟨some 133, Op.call { callee := Callee.value (Operand.func 31), args := #[Operand.tmp 132, Operand.const (Value.int IntKind.i64 30)], argTypes := #[39, 3] }, 39, _, _, none⟩) rfl (fun K hK => ?_) (AllReadyH.cons (o := ⟨some 134, Op.buildSlice 39 0 #[], 39, _, _, none⟩) rfl (fun K hK => ?_) (AllReadyH.cons (o := ⟨some 138, Op.buildSlice 39 1 #[(0, Operand.tmp 137)], 39, _, _, none⟩) rfl (fun K hK => ?_) AllReadyH.nil))
      · go_simp
        refine (KFR2.out _ (by (repeat (first | with_reducible assumption | with_reducible exact Since.refl _ | with_reducible refine Since.alloc ?_ _ | with_reducible refine Since.drew ?_)))).mono ?_
        rintro e v201 ⟨a201, n201, c201, rfl, HN201, O201, B201⟩
        have hs201 : Since (w3.drew) v201 := by first | exact B201.out | ((with_reducible refine Since.step ?_ B201.out); (repeat (first | with_reducible assumption | with_reducible exact Since.refl _ | with_reducible refine Since.alloc ?_ _ | with_reducible refine Since.drew ?_)); done)
        have hS201 : Since w3 v201 := Since.step hS0 hs201
        try go_wp2_with fail
        refine hK.out _ _ ?_ (fun hHeld => ?_)
        · exact hS201
        clear hK K
        try simp only [Act.put, List.setIfInBounds_toArray, List.set_cons_zero, List.set_cons_succ]
        refine wpAnyH_ready (rs := [6, 10]) (by kernel_rfl) (by simp) ?_
        refine AllReadyH.cons (o := ⟨some 134, Op.buildSlice 39 0 #[], 39, _, _, none⟩) rfl (fun K hK => ?_) (AllReadyH.cons (o := ⟨some 138, Op.buildSlice 39 1 #[(0, Operand.tmp 137)], 39, _, _, none⟩) rfl (fun K hK => ?_) AllReadyH.nil)
        · go_simp
          have hs202 : Since (v201) (v201.alloc (.cells #[] 5)) := (Below.refl _ _).alloc (Nat.le_refl _) _
          have hS202 : Since w3 (v201.alloc (.cells #[] 5)) := Since.step hS201 hs202
          have n202 : Own .u8 5 (v201).heap.size (v201.alloc (.cells #[] 5)) (.slice (some ⟨v201.heap.size, 0, none⟩) 0 0) [] := own_at (v201) _ _ _ (by first | rfl | simp) (Nat.le_refl _)
          have ap5_6_202 := own_apart O201.out (Nat.le_refl _) n202
          have o5_202 := Own.below O201.out hs202
          refine hK.out _ _ ?_ (fun hHeld => ?_)
          · exact hS202
          clear hK K
          try simp only [Act.put, List.setIfInBounds_toArray, List.set_cons_zero, List.set_cons_succ]
          refine wpAnyH_ready (rs := [8, 10]) (by kernel_rfl) (by simp) ?_
          refine AllReadyH.cons (o := ⟨some 136, Op.call { callee := Callee.builtin Builtin.append, args := #[Operand.tmp 134, Operand.tmp 135], argTypes := #[39, 39] }, 39, _, _, none⟩) rfl (fun K hK => ?_) (AllReadyH.cons (o := ⟨some 138, Op.buildSlice 39 1 #[(0, Operand.tmp 137)], 39, _, _, none⟩) rfl (fun K hK => ?_) AllReadyH.nil)
          · skip
            refine wp_all_f (.tmp 134) (.tmp 135) 39 rfl .u8 5 1 Try.underlying39 HI.out (by decide) w3.heap.size (.slice (some ⟨v201.heap.size, 0, none⟩) 0 0) [] (.slice (some ⟨bb, ob, none⟩) n2 cb) EN rfl rfl (own_baseR n202 (Below.size hS201)) (EB3.out.below hS202) (Below.size hS202) hl3 ?_
            intro a203 n203 c203 v203 hn203 hO203 hB203 hK203
            have hS203 : Since w3 v203 := Below.trans hS202 hB203.out
            have pp5_203 := own_past o5_202 hK203.out ap5_6_202
            refine hK.out _ _ ?_ (fun hHeld => ?_)
            · exact hS203
            clear hK K
            try simp only [Act.put, List.setIfInBounds_toArray, List.set_cons_zero, List.set_cons_succ]
            refine wpAnyH_ready (rs := [10]) (by kernel_rfl) (by simp) ?_
            refine AllReadyH.cons (o := ⟨some 138, Op.buildSlice 39 1 #[(0, Operand.tmp 137)], 39, _, _, none⟩) rfl (fun K hK => ?_) AllReadyH.nil
            go_simp
            have hs204 : Since (v203) (v203.alloc (.cells #[.int .u8 a5] 5)) := (Below.refl _ _).alloc (Nat.le_refl _) _
            have hS204 : Since w3 (v203.alloc (.cells #[.int .u8 a5] 5)) := Since.step hS203 hs204
            have n204 : Own .u8 5 (v203).heap.size (v203.alloc (.cells #[.int .u8 a5] 5)) (.slice (some ⟨v203.heap.size, 0, none⟩) 1 1) [a5] := own_one (v203) _ _ _ _ (by first | rfl | simp) (Nat.le_refl _)
            have ap5_10_204 := own_apart pp5_203.1 (Nat.le_refl _) n204
            have ap9_10_204 := own_apart hO203.out (Nat.le_refl _) n204
            have o5_204 := Own.below pp5_203.1 hs204
            have o9_204 := Own.below hO203.out hs204
            refine hK.out _ _ ?_ (fun hHeld => ?_)
            · exact hS204
            clear hK K
            try simp only [Act.put, List.setIfInBounds_toArray, List.set_cons_zero, List.set_cons_succ]
            refine wpAnyH_ready (rs := [11]) (by kernel_rfl) (by simp) ?_
            refine AllReadyH.cons (o := ⟨some 139, Op.call { callee := Callee.builtin Builtin.append, args := #[Operand.tmp 136, Operand.tmp 138], argTypes := #[39, 39] }, 39, _, _, none⟩) rfl (fun K hK => ?_) AllReadyH.nil
            refine wp_all_f (.tmp 136) (.tmp 138) 39 rfl .u8 5 1 Try.underlying39 HI.out (by decide) w3.heap.size (.slice a203 n203 c203) ([] ++ EN) (.slice (some ⟨v203.heap.size, 0, none⟩) 1 1) [a5] rfl rfl o9_204 (Own.els n204) (Below.size hS204) hl4 ?_
            intro a205 n205 c205 v205 hn205 hO205 hB205 hK205
            have hS205 : Since w3 v205 := Below.trans hS204 hB205.out
            have pp5_205 := own_past o5_204 hK205.out pp5_203.2
            refine hK.out _ _ ?_ (fun hHeld => ?_)
            · exact hS205
            clear hK K
            try simp only [Act.put, List.setIfInBounds_toArray, List.set_cons_zero, List.set_cons_succ]
            refine wpAnyH_ready (rs := [12]) (by kernel_rfl) (by simp) ?_
            refine AllReadyH.cons (o := ⟨some 140, Op.buildSlice 55 4 #[(0, Operand.tmp 128), (1, Operand.tmp 131), (2, Operand.tmp 133), (3, Operand.tmp 139)], 55, _, _, none⟩) rfl (fun K hK => ?_) AllReadyH.nil
            go_simp
            refine hK.out _ _ ?_ (fun hHeld => ?_)
            · exact Below.alloc hS205 (Below.size hS205) _
            clear hK K
            try simp only [Act.put, List.setIfInBounds_toArray, List.set_cons_zero, List.set_cons_succ]
            refine wpAnyH_take (i := 13) (oi := ⟨some 26, Op.assign (Operand.tmp 140), 55, _, _, none⟩) (v := ?_) rfl (by kernel_rfl) (by kernel_rfl) (by kernel_rfl) (fun _ _ _ h => h) (Or.inl ⟨by rfl, ?_⟩) (by assumption) ?_
            rotate_left 1
            · (intro w hSw; (try dsimp only at hSw); go_simp; first | done | with_reducible rfl)
            try simp only [Act.put, List.setIfInBounds_toArray, List.set_cons_zero, List.set_cons_succ]
            refine wpAnyH_done (by kernel_rfl) ?_ _
            refine NoPanic.normal ?_
            go_wp2_with fail
            go_meet
            exact ttab_of _ hS205 (HGX.out.below hS205) (GB.out.below hS205) ⟨_, pp5_205.1.els, HBY.out, by have := HR30.out; omega⟩ ⟨_, hO205.out.els, HBZ.out, HLZ.out⟩ _ rfl
          · go_simp
            have hs206 : Since ((v201.alloc (.cells #[] 5))) ((v201.alloc (.cells #[] 5)).alloc (.cells #[.int .u8 a5] 5)) := (Below.refl _ _).alloc (Nat.le_refl _) _
            have hS206 : Since w3 ((v201.alloc (.cells #[] 5)).alloc (.cells #[.int .u8 a5] 5)) := Since.step hS202 hs206
            have n206 : Own .u8 5 ((v201.alloc (.cells #[] 5))).heap.size ((v201.alloc (.cells #[] 5)).alloc (.cells #[.int .u8 a5] 5)) (.slice (some ⟨v201.heap.size + 1, 0, none⟩) 1 1) [a5] := own_one ((v201.alloc (.cells #[] 5))) _ _ _ _ (by first | rfl | simp) (Nat.le_refl _)
            have ap5_10_206 := own_apart o5_202 (Nat.le_refl _) n206
            have ap6_10_206 := own_apart n202 (Nat.le_refl _) n206
            have o5_206 := Own.below o5_202 hs206
            have o6_206 := Own.below n202 hs206
            refine hK.out _ _ ?_ (fun hHeld => ?_)
            · exact hS206
            clear hK K
            try simp only [Act.put, List.setIfInBounds_toArray, List.set_cons_zero, List.set_cons_succ]
            refine wpAnyH_ready (rs := [8]) (by kernel_rfl) (by simp) ?_
            refine AllReadyH.cons (o := ⟨some 136, Op.call { callee := Callee.builtin Builtin.append, args := #[Operand.tmp 134, Operand.tmp 135], argTypes := #[39, 39] }, 39, _, _, none⟩) rfl (fun K hK => ?_) AllReadyH.nil
            refine wp_all_f (.tmp 134) (.tmp 135) 39 rfl .u8 5 1 Try.underlying39 HI.out (by decide) w3.heap.size (.slice (some ⟨v201.heap.size, 0, none⟩) 0 0) [] (.slice (some ⟨bb, ob, none⟩) n2 cb) EN rfl rfl (own_baseR o6_206 (Below.size hS201)) (EB3.out.below hS206) (Below.size hS206) hl3 ?_
            intro a207 n207 c207 v207 hn207 hO207 hB207 hK207
            have hS207 : Since w3 v207 := Below.trans hS206 hB207.out
            have pp5_207 := own_past o5_206 hK207.out ap5_6_202
            have pp10_207 := own_past n206 hK207.out (sym_apart ap6_10_206)
            refine hK.out _ _ ?_ (fun hHeld => ?_)
            · exact hS207
            clear hK K
            try simp only [Act.put, List.setIfInBounds_toArray, List.set_cons_zero, List.set_cons_succ]
            refine wpAnyH_ready (rs := [11]) (by kernel_rfl) (by simp) ?_
            refine AllReadyH.cons (o := ⟨some 139, Op.call { callee := Callee.builtin Builtin.append, args := #[Operand.tmp 136, Operand.tmp 138], argTypes := #[39, 39] }, 39, _, _, none⟩) rfl (fun K hK => ?_) AllReadyH.nil
            refine wp_all_f (.tmp 136) (.tmp 138) 39 rfl .u8 5 1 Try.underlying39 HI.out (by decide) w3.heap.size (.slice a207 n207 c207) ([] ++ EN) (.slice (some ⟨v201.heap.size + 1, 0, none⟩) 1 1) [a5] rfl rfl hO207.out (Own.els pp10_207.1) (Below.size hS207) hl4 ?_
            intro a208 n208 c208 v208 hn208 hO208 hB208 hK208
            have hS208 : Since w3 v208 := Below.trans hS207 hB208.out
            have pp5_208 := own_past pp5_207.1 hK208.out pp5_207.2
            refine hK.out _ _ ?_ (fun hHeld => ?_)
            · exact hS208
            clear hK K
            try simp only [Act.put, List.setIfInBounds_toArray, List.set_cons_zero, List.set_cons_succ]
            refine wpAnyH_ready (rs := [12]) (by kernel_rfl) (by simp) ?_
            refine AllReadyH.cons (o := ⟨some 140, Op.buildSlice 55 4 #[(0, Operand.tmp 128), (1, Operand.tmp 131), (2, Operand.tmp 133), (3, Operand.tmp 139)], 55, _, _, none⟩) rfl (fun K hK => ?_) AllReadyH.nil
            go_simp
            refine hK.out _ _ ?_ (fun hHeld => ?_)
            · exact Below.alloc hS208 (Below.size hS208) _
            clear hK K
            try simp only [Act.put, List.setIfInBounds_toArray, List.set_cons_zero, List.set_cons_succ]
            refine wpAnyH_take (i := 13) (oi := ⟨some 26, Op.assign (Operand.tmp 140), 55, _, _, none⟩) (v := ?_) rfl (by kernel_rfl) (by kernel_rfl) (by kernel_rfl) (fun _ _ _ h => h) (Or.inl ⟨by rfl, ?_⟩) (by assumption) ?_
            rotate_left 1
            · (intro w hSw; (try dsimp only at hSw); go_simp; first | done | with_reducible rfl)
            try simp only [Act.put, List.setIfInBounds_toArray, List.set_cons_zero, List.set_cons_succ]
            refine wpAnyH_done (by kernel_rfl) ?_ _
            refine NoPanic.normal ?_
            go_wp2_with fail
            go_meet
            exact ttab_of _ hS208 (HGX.out.below hS208) (GB.out.below hS208) ⟨_, pp5_208.1.els, HBY.out, by have := HR30.out; omega⟩ ⟨_, hO208.out.els, HBZ.out, HLZ.out⟩ _ rfl
        · go_simp
          have hs209 : Since (v201) (v201.alloc (.cells #[.int .u8 a5] 5)) := (Below.refl _ _).alloc (Nat.le_refl _) _
          have hS209 : Since w3 (v201.alloc (.cells #[.int .u8 a5] 5)) := Since.step hS201 hs209
          have n209 : Own .u8 5 (v201).heap.size (v201.alloc (.cells #[.int .u8 a5] 5)) (.slice (some ⟨v201.heap.size, 0, none⟩) 1 1) [a5] := own_one (v201) _ _ _ _ (by first | rfl | simp) (Nat.le_refl _)
          have ap5_10_209 := own_apart O201.out (Nat.le_refl _) n209
          have o5_209 := Own.below O201.out hs209
          refine hK.out _ _ ?_ (fun hHeld => ?_)
          · exact hS209
          clear hK K
          try simp only [Act.put, List.setIfInBounds_toArray, List.set_cons_zero, List.set_cons_succ]
          refine wpAnyH_ready (rs := [6]) (by kernel_rfl) (by simp) ?_
          refine AllReadyH.cons (o := ⟨some 134, Op.buildSlice 39 0 #[], 39, _, _, none⟩) rfl (fun K hK => ?_) AllReadyH.nil
          go_simp
          have hs210 : Since ((v201.alloc (.cells #[.int .u8 a5] 5))) ((v201.alloc (.cells #[.int .u8 a5] 5)).alloc (.cells #[] 5)) := (Below.refl _ _).alloc (Nat.le_refl _) _
          have hS210 : Since w3 ((v201.alloc (.cells #[.int .u8 a5] 5)).alloc (.cells #[] 5)) := Since.step hS209 hs210
          have n210 : Own .u8 5 ((v201.alloc (.cells #[.int .u8 a5] 5))).heap.size ((v201.alloc (.cells #[.int .u8 a5] 5)).alloc (.cells #[] 5)) (.slice (some ⟨v201.heap.size + 1, 0, none⟩) 0 0) [] := own_at ((v201.alloc (.cells #[.int .u8 a5] 5))) _ _ _ (by first | rfl | simp) (Nat.le_refl _)
          have ap5_6_210 := own_apart o5_209 (Nat.le_refl _) n210
          have ap10_6_210 := own_apart n209 (Nat.le_refl _) n210
          have o5_210 := Own.below o5_209 hs210
          have o10_210 := Own.below n209 hs210
          refine hK.out _ _ ?_ (fun hHeld => ?_)
          · exact hS210
          clear hK K
          try simp only [Act.put, List.setIfInBounds_toArray, List.set_cons_zero, List.set_cons_succ]
          refine wpAnyH_ready (rs := [8]) (by kernel_rfl) (by simp) ?_
          refine AllReadyH.cons (o := ⟨some 136, Op.call { callee := Callee.builtin Builtin.append, args := #[Operand.tmp 134, Operand.tmp 135], argTypes := #[39, 39] }, 39, _, _, none⟩) rfl (fun K hK => ?_) AllReadyH.nil
          refine wp_all_f (.tmp 134) (.tmp 135) 39 rfl .u8 5 1 Try.underlying39 HI.out (by decide) w3.heap.size (.slice (some ⟨v201.heap.size + 1, 0, none⟩) 0 0) [] (.slice (some ⟨bb, ob, none⟩) n2 cb) EN rfl rfl (own_baseR n210 (Below.size hS209)) (EB3.out.below hS210) (Below.size hS210) hl3 ?_
          intro a211 n211 c211 v211 hn211 hO211 hB211 hK211
          have hS211 : Since w3 v211 := Below.trans hS210 hB211.out
          have pp5_211 := own_past o5_210 hK211.out ap5_6_210
          have pp10_211 := own_past o10_210 hK211.out ap10_6_210
          refine hK.out _ _ ?_ (fun hHeld => ?_)
          · exact hS211
          clear hK K
          try simp only [Act.put, List.setIfInBounds_toArray, List.set_cons_zero, List.set_cons_succ]
          refine wpAnyH_ready (rs := [11]) (by kernel_rfl) (by simp) ?_
          refine AllReadyH.cons (o := ⟨some 139, Op.call { callee := Callee.builtin Builtin.append, args := #[Operand.tmp 136, Operand.tmp 138], argTypes := #[39, 39] }, 39, _, _, none⟩) rfl (fun K hK => ?_) AllReadyH.nil
          refine wp_all_f (.tmp 136) (.tmp 138) 39 rfl .u8 5 1 Try.underlying39 HI.out (by decide) w3.heap.size (.slice a211 n211 c211) ([] ++ EN) (.slice (some ⟨v201.heap.size, 0, none⟩) 1 1) [a5] rfl rfl hO211.out (Own.els pp10_211.1) (Below.size hS211) hl4 ?_
          intro a212 n212 c212 v212 hn212 hO212 hB212 hK212
          have hS212 : Since w3 v212 := Below.trans hS211 hB212.out
          have pp5_212 := own_past pp5_211.1 hK212.out pp5_211.2
          refine hK.out _ _ ?_ (fun hHeld => ?_)
          · exact hS212
          clear hK K
          try simp only [Act.put, List.setIfInBounds_toArray, List.set_cons_zero, List.set_cons_succ]
          refine wpAnyH_ready (rs := [12]) (by kernel_rfl) (by simp) ?_
          refine AllReadyH.cons (o := ⟨some 140, Op.buildSlice 55 4 #[(0, Operand.tmp 128), (1, Operand.tmp 131), (2, Operand.tmp 133), (3, Operand.tmp 139)], 55, _, _, none⟩) rfl (fun K hK => ?_) AllReadyH.nil
          go_simp
          refine hK.out _ _ ?_ (fun hHeld => ?_)
          · exact Below.alloc hS212 (Below.size hS212) _
          clear hK K
          try simp only [Act.put, List.setIfInBounds_toArray, List.set_cons_zero, List.set_cons_succ]
          refine wpAnyH_take (i := 13) (oi := ⟨some 26, Op.assign (Operand.tmp 140), 55, _, _, none⟩) (v := ?_) rfl (by kernel_rfl) (by kernel_rfl) (by kernel_rfl) (fun _ _ _ h => h) (Or.inl ⟨by rfl, ?_⟩) (by assumption) ?_
          rotate_left 1
          · (intro w hSw; (try dsimp only at hSw); go_simp; first | done | with_reducible rfl)
          try simp only [Act.put, List.setIfInBounds_toArray, List.set_cons_zero, List.set_cons_succ]
          refine wpAnyH_done (by kernel_rfl) ?_ _
          refine NoPanic.normal ?_
          go_wp2_with fail
          go_meet
          exact ttab_of _ hS212 (HGX.out.below hS212) (GB.out.below hS212) ⟨_, pp5_212.1.els, HBY.out, by have := HR30.out; omega⟩ ⟨_, hO212.out.els, HBZ.out, HLZ.out⟩ _ rfl
      · go_simp
        have hs213 : Since (w3.drew) (w3.drew.alloc (.cells #[] 5)) := (Below.refl _ _).alloc (Nat.le_refl _) _
        have hS213 : Since w3 (w3.drew.alloc (.cells #[] 5)) := Since.step hS0 hs213
        have n213 : Own .u8 5 (w3.drew).heap.size (w3.drew.alloc (.cells #[] 5)) (.slice (some ⟨w3.heap.size, 0, none⟩) 0 0) [] := own_at (w3.drew) _ _ _ (by first | rfl | simp) (Nat.le_refl _)
        refine hK.out _ _ ?_ (fun hHeld => ?_)
        · exact hS213
        clear hK K
        try simp only [Act.put, List.setIfInBounds_toArray, List.set_cons_zero, List.set_cons_succ]
        refine wpAnyH_ready (rs := [5, 10]) (by kernel_rfl) (by simp) ?_
        refine AllReadyH.cons (o := ⟨some 133, Op.call { callee := Callee.value (Operand.func 31), args := #[Operand.tmp 132, Operand.const (Value.int IntKind.i64 30)], argTypes := #[39, 3] }, 39, _, _, none⟩) rfl (fun K hK => ?_) (AllReadyH.cons (o := ⟨some 138, Op.buildSlice 39 1 #[(0, Operand.tmp 137)], 39, _, _, none⟩) rfl (fun K hK => ?_) AllReadyH.nil)
        · go_simp
          refine (KFR2.out _ (by (repeat (first | with_reducible assumption | with_reducible exact Since.refl _ | with_reducible refine Since.alloc ?_ _ | with_reducible refine Since.drew ?_)))).mono ?_
          rintro e v214 ⟨a214, n214, c214, rfl, HN214, O214, B214⟩
          have hs214 : Since ((w3.drew.alloc (.cells #[] 5))) v214 := by first | exact B214.out | ((with_reducible refine Since.step ?_ B214.out); (repeat (first | with_reducible assumption | with_reducible exact Since.refl _ | with_reducible refine Since.alloc ?_ _ | with_reducible refine Since.drew ?_)); done)
          have hS214 : Since w3 v214 := Since.step hS213 hs214
          have ap6_5_214 := own_apart n213 (Nat.le_refl _) O214.out
          have o6_214 := Own.below n213 hs214
          try go_wp2_with fail
          refine hK.out _ _ ?_ (fun hHeld => ?_)
          · exact hS214
          clear hK K
          try simp only [Act.put, List.setIfInBounds_toArray, List.set_cons_zero, List.set_cons_succ]
          refine wpAnyH_ready (rs := [8, 10]) (by kernel_rfl) (by simp) ?_
          refine AllReadyH.cons (o := ⟨some 136, Op.call { callee := Callee.builtin Builtin.append, args := #[Operand.tmp 134, Operand.tmp 135], argTypes := #[39, 39] }, 39, _, _, none⟩) rfl (fun K hK => ?_) (AllReadyH.cons (o := ⟨some 138, Op.buildSlice 39 1 #[(0, Operand.tmp 137)], 39, _, _, none⟩) rfl (fun K hK => ?_) AllReadyH.nil)
          · skip
            refine wp_all_f (.tmp 134) (.tmp 135) 39 rfl .u8 5 1 Try.underlying39 HI.out (by decide) w3.heap.size (.slice (some ⟨w3.heap.size, 0, none⟩) 0 0) [] (.slice (some ⟨bb, ob, none⟩) n2 cb) EN rfl rfl (own_baseR o6_214 (Below.size hS0)) (EB3.out.below hS214) (Below.size hS214) hl3 ?_
            intro a215 n215 c215 v215 hn215 hO215 hB215 hK215
            have hS215 : Since w3 v215 := Below.trans hS214 hB215.out
            have pp5_215 := own_past O214.out hK215.out (sym_apart ap6_5_214)
            refine hK.out _ _ ?_ (fun hHeld => ?_)
            · exact hS215
            clear hK K
            try simp only [Act.put, List.setIfInBounds_toArray, List.set_cons_zero, List.set_cons_succ]
            refine wpAnyH_ready (rs := [10]) (by kernel_rfl) (by simp) ?_
            refine AllReadyH.cons (o := ⟨some 138, Op.buildSlice 39 1 #[(0, Operand.tmp 137)], 39, _, _, none⟩) rfl (fun K hK => ?_) AllReadyH.nil
            go_simp
            have hs216 : Since (v215) (v215.alloc (.cells #[.int .u8 a5] 5)) := (Below.refl _ _).alloc (Nat.le_refl _) _
            have hS216 : Since w3 (v215.alloc (.cells #[.int .u8 a5] 5)) := Since.step hS215 hs216
            have n216 : Own .u8 5 (v215).heap.size (v215.alloc (.cells #[.int .u8 a5] 5)) (.slice (some ⟨v215.heap.size, 0, none⟩) 1 1) [a5] := own_one (v215) _ _ _ _ (by first | rfl | simp) (Nat.le_refl _)
            have ap5_10_216 := own_apart pp5_215.1 (Nat.le_refl _) n216
            have ap9_10_216 := own_apart hO215.out (Nat.le_refl _) n216
            have o5_216 := Own.below pp5_215.1 hs216
            have o9_216 := Own.below hO215.out hs216
            refine hK.out _ _ ?_ (fun hHeld => ?_)
            · exact hS216
            clear hK K
            try simp only [Act.put, List.setIfInBounds_toArray, List.set_cons_zero, List.set_cons_succ]
            refine wpAnyH_ready (rs := [11]) (by kernel_rfl) (by simp) ?_
            refine AllReadyH.cons (o := ⟨some 139, Op.call { callee := Callee.builtin Builtin.append, args := #[Operand.tmp 136, Operand.tmp 138], argTypes := #[39, 39] }, 39, _, _, none⟩) rfl (fun K hK => ?_) AllReadyH.nil
            refine wp_all_f (.tmp 136) (.tmp 138) 39 rfl .u8 5 1 Try.underlying39 HI.out (by decide) w3.heap.size (.slice a215 n215 c215) ([] ++ EN) (.slice (some ⟨v215.heap.size, 0, none⟩) 1 1) [a5] rfl rfl o9_216 (Own.els n216) (Below.size hS216) hl4 ?_
            intro a217 n217 c217 v217 hn217 hO217 hB217 hK217
            have hS217 : Since w3 v217 := Below.trans hS216 hB217.out
            have pp5_217 := own_past o5_216 hK217.out pp5_215.2
            refine hK.out _ _ ?_ (fun hHeld => ?_)
            · exact hS217
            clear hK K
            try simp only [Act.put, List.setIfInBounds_toArray, List.set_cons_zero, List.set_cons_succ]
            refine wpAnyH_ready (rs := [12]) (by kernel_rfl) (by simp) ?_
            refine AllReadyH.cons (o := ⟨some 140, Op.buildSlice 55 4 #[(0, Operand.tmp 128), (1, Operand.tmp 131), (2, Operand.tmp 133), (3, Operand.tmp 139)], 55, _, _, none⟩) rfl (fun K hK => ?_) AllReadyH.nil
            go_simp
            refine hK.out _ _ ?_ (fun hHeld => ?_)
            · exact Below.alloc hS217 (Below.size hS217) _
            clear hK K
            try simp only [Act.put, List.setIfInBounds_toArray, List.set_cons_zero, List.set_cons_succ]
            refine wpAnyH_take (i := 13) (oi := ⟨some 26, Op.assign (Operand.tmp 140), 55, _, _, none⟩) (v := ?_) rfl (by kernel_rfl) (by kernel_rfl) (by kernel_rfl) (fun _ _ _ h => h) (Or.inl ⟨by rfl, ?_⟩) (by assumption) ?_
            rotate_left 1
            · (intro w hSw; (try dsimp only at hSw); go_simp; first | done | with_reducible rfl)
            try simp only [Act.put, List.setIfInBounds_toArray, List.set_cons_zero, List.set_cons_succ]
            refine wpAnyH_done (by kernel_rfl) ?_ _
            refine NoPanic.normal ?_
            go_wp2_with fail
            go_meet
            exact ttab_of _ hS217 (HGX.out.below hS217) (GB.out.below hS217) ⟨_, pp5_217.1.els, HBY.out, by have := HR30.out; omega⟩ ⟨_, hO217.out.els, HBZ.out, HLZ.out⟩ _ rfl
          · go_simp
            have hs218 : Since (v214) (v214.alloc (.cells #[.int .u8 a5] 5)) := (Below.refl _ _).alloc (Nat.le_refl _) _
            have hS218 : Since w3 (v214.alloc (.cells #[.int .u8 a5] 5)) := Since.step hS214 hs218
            have n218 : Own .u8 5 (v214).heap.size (v214.alloc (.cells #[.int .u8 a5] 5)) (.slice (some ⟨v214.heap.size, 0, none⟩) 1 1) [a5] := own_one (v214) _ _ _ _ (by first | rfl | simp) (Nat.le_refl _)
            have ap6_10_218 := own_apart o6_214 (Nat.le_refl _) n218
            have ap5_10_218 := own_apart O214.out (Nat.le_refl _) n218
            have o6_218 := Own.below o6_214 hs218
            have o5_218 := Own.below O214.out hs218
            refine hK.out _ _ ?_ (fun hHeld => ?_)
            · exact hS218
            clear hK K
            try simp only [Act.put, List.setIfInBounds_toArray, List.set_cons_zero, List.set_cons_succ]
            refine wpAnyH_ready (rs := [8]) (by kernel_rfl) (by simp) ?_
            refine AllReadyH.cons (o := ⟨some 136, Op.call { callee := Callee.builtin Builtin.append, args := #[Operand.tmp 134, Operand.tmp 135], argTypes := #[39, 39] }, 39, _, _, none⟩) rfl (fun K hK => ?_) AllReadyH.nil
            refine wp_all_f (.tmp 134) (.tmp 135) 39 rfl .u8 5 1 Try.underlying39 HI.out (by decide) w3.heap.size (.slice (some ⟨w3.heap.size, 0, none⟩) 0 0) [] (.slice (some ⟨bb, ob, none⟩) n2 cb) EN rfl rfl (own_baseR o6_218 (Below.size hS0)) (EB3.out.below hS218) (Below.size hS218) hl3 ?_
            intro a219 n219 c219 v219 hn219 hO219 hB219 hK219
            have hS219 : Since w3 v219 := Below.trans hS218 hB219.out
            have pp5_219 := own_past o5_218 hK219.out (sym_apart ap6_5_214)
            have pp10_219 := own_past n218 hK219.out (sym_apart ap6_10_218)
            refine hK.out _ _ ?_ (fun hHeld => ?_)
            · exact hS219
            clear hK K
            try simp only [Act.put, List.setIfInBounds_toArray, List.set_cons_zero, List.set_cons_succ]
            refine wpAnyH_ready (rs := [11]) (by kernel_rfl) (by simp) ?_
            refine AllReadyH.cons (o := ⟨some 139, Op.call { callee := Callee.builtin Builtin.append, args := #[Operand.tmp 136, Operand.tmp 138], argTypes := #[39, 39] }, 39, _, _, none⟩) rfl (fun K hK => ?_) AllReadyH.nil
            refine wp_all_f (.tmp 136) (.tmp 138) 39 rfl .u8 5 1 Try.underlying39 HI.out (by decide) w3.heap.size (.slice a219 n219 c219) ([] ++ EN) (.slice (some ⟨v214.heap.size, 0, none⟩) 1 1) [a5] rfl rfl hO219.out (Own.els pp10_219.1) (Below.size hS219) hl4 ?_
            intro a220 n220 c220 v220 hn220 hO220 hB220 hK220
            have hS220 : Since w3 v220 := Below.trans hS219 hB220.out
            have pp5_220 := own_past pp5_219.1 hK220.out pp5_219.2
            refine hK.out _ _ ?_ (fun hHeld => ?_)
            · exact hS220
            clear hK K
            try simp only [Act.put, List.setIfInBounds_toArray, List.set_cons_zero, List.set_cons_succ]
            refine wpAnyH_ready (rs := [12]) (by kernel_rfl) (by simp) ?_
            refine AllReadyH.cons (o := ⟨some 140, Op.buildSlice 55 4 #[(0, Operand.tmp 128), (1, Operand.tmp 131), (2, Operand.tmp 133), (3, Operand.tmp 139)], 55, _, _, none⟩) rfl (fun K hK => ?_) AllReadyH.nil
            go_simp
            refine hK.out _ _ ?_ (fun hHeld => ?_)
            · exact Below.alloc hS220 (Below.size hS220) _
            clear hK K
            try simp only [Act.put, List.setIfInBounds_toArray, List.set_cons_zero, List.set_cons_succ]
            refine wpAnyH_take (i := 13) (oi := ⟨some 26, Op.assign (Operand.tmp 140), 55, _, _, none⟩) (v := ?_) rfl (by kernel_rfl) (by kernel_rfl) (by kernel_rfl) (fun _ _ _ h => h) (Or.inl ⟨by rfl, ?_⟩) (by assumption) ?_
            rotate_left 1
            · (intro w hSw; (try dsimp only at hSw); go_simp; first | done | with_reducible rfl)
            try simp only [Act.put, List.setIfInBounds_toArray, List.set_cons_zero, List.set_cons_succ]
            refine wpAnyH_done (by kernel_rfl) ?_ _
            refine NoPanic.normal ?_
            go_wp2_with fail
            go_meet
            exact ttab_of _ hS220 (HGX.out.below hS220) (GB.out.below hS220) ⟨_, pp5_220.1.els, HBY.out, by have := HR30.out; omega⟩ ⟨_, hO220.out.els, HBZ.out, HLZ.out⟩ _ rfl
        · go_simp
          have hs221 : Since ((w3.drew.alloc (.cells #[] 5))) ((w3.drew.alloc (.cells #[] 5)).alloc (.cells #[.int .u8 a5] 5)) := (Below.refl _ _).alloc (Nat.le_refl _) _
          have hS221 : Since w3 ((w3.drew.alloc (.cells #[] 5)).alloc (.cells #[.int .u8 a5] 5)) := Since.step hS213 hs221
          have n221 : Own .u8 5 ((w3.drew.alloc (.cells #[] 5))).heap.size ((w3.drew.alloc (.cells #[] 5)).alloc (.cells #[.int .u8 a5] 5)) (.slice (some ⟨w3.heap.size + 1, 0, none⟩) 1 1) [a5] := own_one ((w3.drew.alloc (.cells #[] 5))) _ _ _ _ (by first | rfl | simp) (Nat.le_refl _)
          have ap6_10_221 := own_apart n213 (Nat.le_refl _) n221
          have o6_221 := Own.below n213 hs221
          refine hK.out _ _ ?_ (fun hHeld => ?_)
          · exact hS221
          clear hK K
          try simp only [Act.put, List.setIfInBounds_toArray, List.set_cons_zero, List.set_cons_succ]
          refine wpAnyH_ready (rs := [5]) (by kernel_rfl) (by simp) ?_
          refine AllReadyH.cons (o := ⟨some 133, Op.call { callee := Callee.value (Operand.func 31), args := #[Operand.tmp 132, Operand.const (Value.int IntKind.i64 30)], argTypes := #[39, 3] }, 39, _, _, none⟩) rfl (fun K hK => ?_) AllReadyH.nil
          go_simp
          refine (KFR2.out _ (by (repeat (first | with_reducible assumption | with_reducible exact Since.refl _ | with_reducible refine Since.alloc ?_ _ | with_reducible refine Since.drew ?_)))).mono ?_
          rintro e v222 ⟨a222, n222, c222, rfl, HN222, O222, B222⟩
          have hs222 : Since (((w3.drew.alloc (.cells #[] 5)).alloc (.cells #[.int .u8 a5] 5))) v222 := by first | exact B222.out | ((with_reducible refine Since.step ?_ B222.out); (repeat (first | with_reducible assumption | with_reducible exact Since.refl _ | with_reducible refine Since.alloc ?_ _ | with_reducible refine Since.drew ?_)); done)
          have hS222 : Since w3 v222 := Since.step hS221 hs222
          have ap6_5_222 := own_apart o6_221 (Nat.le_refl _) O222.out
          have ap10_5_222 := own_apart n221 (Nat.le_refl _) O222.out
          have o6_222 := Own.below o6_221 hs222
          have o10_222 := Own.below n221 hs222
          try go_wp2_with fail
          refine hK.out _ _ ?_ (fun hHeld => ?_)
          · exact hS222
          clear hK K
          try simp only [Act.put, List.setIfInBounds_toArray, List.set_cons_zero, List.set_cons_succ]
          refine wpAnyH_ready (rs := [8]) (by kernel_rfl) (by simp) ?_
          refine AllReadyH.cons (o := ⟨some 136, Op.call { callee := Callee.builtin Builtin.append, args := #[Operand.tmp 134, Operand.tmp 135], argTypes := #[39, 39] }, 39, _, _, none⟩) rfl (fun K hK => ?_) AllReadyH.nil
          refine wp_all_f (.tmp 134) (.tmp 135) 39 rfl .u8 5 1 Try.underlying39 HI.out (by decide) w3.heap.size (.slice (some ⟨w3.heap.size, 0, none⟩) 0 0) [] (.slice (some ⟨bb, ob, none⟩) n2 cb) EN rfl rfl (own_baseR o6_222 (Below.size hS0)) (EB3.out.below hS222) (Below.size hS222) hl3 ?_
          intro a223 n223 c223 v223 hn223 hO223 hB223 hK223
          have hS223 : Since w3 v223 := Below.trans hS222 hB223.out
          have pp5_223 := own_past O222.out hK223.out (sym_apart ap6_5_222)
          have pp10_223 := own_past o10_222 hK223.out (sym_apart ap6_10_221)
          refine hK.out _ _ ?_ (fun hHeld => ?_)
          · exact hS223
          clear hK K
          try simp only [Act.put, List.setIfInBounds_toArray, List.set_cons_zero, List.set_cons_succ]
          refine wpAnyH_ready (rs := [11]) (by kernel_rfl) (by simp) ?_
          refine AllReadyH.cons (o := ⟨some 139, Op.call { callee := Callee.builtin Builtin.append, args := #[Operand.tmp 136, Operand.tmp 138], argTypes := #[39, 39] }, 39, _, _, none⟩) rfl (fun K hK => ?_) AllReadyH.nil
          refine wp_all_f (.tmp 136) (.tmp 138) 39 rfl .u8 5 1 Try.underlying39 HI.out (by decide) w3.heap.size (.slice a223 n223 c223) ([] ++ EN) (.slice (some ⟨w3.heap.size + 1, 0, none⟩) 1 1) [a5] rfl rfl hO223.out (Own.els pp10_223.1) (Below.size hS223) hl4 ?_
          intro a224 n224 c224 v224 hn224 hO224 hB224 hK224
          have hS224 : Since w3 v224 := Below.trans hS223 hB224.out
          have pp5_224 := own_past pp5_223.1 hK224.out pp5_223.2
          refine hK.out _ _ ?_ (fun hHeld => ?_)
          · exact hS224
          clear hK K
          try simp only [Act.put, List.setIfInBounds_toArray, List.set_cons_zero, List.set_cons_succ]
          refine wpAnyH_ready (rs := [12]) (by kernel_rfl) (by simp) ?_
          refine AllReadyH.cons (o := ⟨some 140, Op.buildSlice 55 4 #[(0, Operand.tmp 128), (1, Operand.tmp 131), (2, Operand.tmp 133), (3, Operand.tmp 139)], 55, _, _, none⟩) rfl (fun K hK => ?_) AllReadyH.nil
          go_simp
          refine hK.out _ _ ?_ (fun hHeld => ?_)
          · exact Below.alloc hS224 (Below.size hS224) _
          clear hK K
          try simp only [Act.put, List.setIfInBounds_toArray, List.set_cons_zero, List.set_cons_succ]
          refine wpAnyH_take (i := 13) (oi := ⟨some 26, Op.assign (Operand.tmp 140), 55, _, _, none⟩) (v := ?_) rfl (by kernel_rfl) (by kernel_rfl) (by kernel_rfl) (fun _ _ _ h => h) (Or.inl ⟨by rfl, ?_⟩) (by assumption) ?_
          rotate_left 1
          · (intro w hSw; (try dsimp only at hSw); go_simp; first | done | with_reducible rfl)
          try simp only [Act.put, List.setIfInBounds_toArray, List.set_cons_zero, List.set_cons_succ]
          refine wpAnyH_done (by kernel_rfl) ?_ _
          refine NoPanic.normal ?_
          go_wp2_with fail
          go_meet
          exact ttab_of _ hS224 (HGX.out.below hS224) (GB.out.below hS224) ⟨_, pp5_224.1.els, HBY.out, by have := HR30.out; omega⟩ ⟨_, hO224.out.els, HBZ.out, HLZ.out⟩ _ rfl
      · go_simp
        have hs225 : Since (w3.drew) (w3.drew.alloc (.cells #[.int .u8 a5] 5)) := (Below.refl _ _).alloc (Nat.le_refl _) _
        have hS225 : Since w3 (w3.drew.alloc (.cells #[.int .u8 a5] 5)) := Since.step hS0 hs225
        have n225 : Own .u8 5 (w3.drew).heap.size (w3.drew.alloc (.cells #[.int .u8 a5] 5)) (.slice (some ⟨w3.heap.size, 0, none⟩) 1 1) [a5] := own_one (w3.drew) _ _ _ _ (by first | rfl | simp) (Nat.le_refl _)
        refine hK.out _ _ ?_ (fun hHeld => ?_)
        · exact hS225
        clear hK K
        try simp only [Act.put, List.setIfInBounds_toArray, List.set_cons_zero, List.set_cons_succ]
        refine wpAnyH_ready (rs := [5, 6]) (by kernel_rfl) (by simp) ?_
        refine AllReadyH.cons (o := ⟨some 133, Op.call { callee := Callee.value (Operand.func 31), args := #[Operand.tmp 132, Operand.const (Value.int IntKind.i64 30)], argTypes := #[39, 3] }, 39, _, _, none⟩) rfl (fun K hK => ?_) (AllReadyH.cons (o := ⟨some 134, Op.buildSlice 39 0 #[], 39, _, _, none⟩) rfl (fun K hK => ?_) AllReadyH.nil)
        · go_simp
          refine (KFR2.out _ (by (repeat (first | with_reducible assumption | with_reducible exact Since.refl _ | with_reducible refine Since.alloc ?_ _ | with_reducible refine Since.drew ?_)))).mono ?_
          rintro e v226 ⟨a226, n226, c226, rfl, HN226, O226, B226⟩
          have hs226 : Since ((w3.drew.alloc (.cells #[.int .u8 a5] 5))) v226 := by first | exact B226.out | ((with_reducible refine Since.step ?_ B226.out); (repeat (first | with_reducible assumption | with_reducible exact Since.refl _ | with_reducible refine Since.alloc ?_ _ | with_reducible refine Since.drew ?_)); done)
          have hS226 : Since w3 v226 := Since.step hS225 hs226
          have ap10_5_226 := own_apart n225 (Nat.le_refl _) O226.out
          have o10_226 := Own.below n225 hs226
          try go_wp2_with fail
          refine hK.out _ _ ?_ (fun hHeld => ?_)
          · exact hS226
          clear hK K
          try simp only [Act.put, List.setIfInBounds_toArray, List.set_cons_zero, List.set_cons_succ]
          refine wpAnyH_ready (rs := [6]) (by kernel_rfl) (by simp) ?_
          refine AllReadyH.cons (o := ⟨some 134, Op.buildSlice 39 0 #[], 39, _, _, none⟩) rfl (fun K hK => ?_) AllReadyH.nil
          go_simp
          have hs227 : Since (v226) (v226.alloc (.cells #[] 5)) := (Below.refl _ _).alloc (Nat.le_refl _) _
          have hS227 : Since w3 (v226.alloc (.cells #[] 5)) := Since.step hS226 hs227
          have n227 : Own .u8 5 (v226).heap.size (v226.alloc (.cells #[] 5)) (.slice (some ⟨v226.heap.size, 0, none⟩) 0 0) [] := own_at (v226) _ _ _ (by first | rfl | simp) (Nat.le_refl _)
          have ap10_6_227 := own_apart o10_226 (Nat.le_refl _) n227
          have ap5_6_227 := own_apart O226.out (Nat.le_refl _) n227
          have o10_227 := Own.below o10_226 hs227
          have o5_227 := Own.below O226.out hs227
          refine hK.out _ _ ?_ (fun hHeld => ?_)
          · exact hS227
          clear hK K
          try simp only [Act.put, List.setIfInBounds_toArray, List.set_cons_zero, List.set_cons_succ]
          refine wpAnyH_ready (rs := [8]) (by kernel_rfl) (by simp) ?_
          refine AllReadyH.cons (o := ⟨some 136, Op.call { callee := Callee.builtin Builtin.append, args := #[Operand.tmp 134, Operand.tmp 135], argTypes := #[39, 39] }, 39, _, _, none⟩) rfl (fun K hK => ?_) AllReadyH.nil
          refine wp_all_f (.tmp 134) (.tmp 135) 39 rfl .u8 5 1 Try.underlying39 HI.out (by decide) w3.heap.size (.slice (some ⟨v226.heap.size, 0, none⟩) 0 0) [] (.slice (some ⟨bb, ob, none⟩) n2 cb) EN rfl rfl (own_baseR n227 (Below.size hS226)) (EB3.out.below hS227) (Below.size hS227) hl3 ?_
          intro a228 n228 c228 v228 hn228 hO228 hB228 hK228
          have hS228 : Since w3 v228 := Below.trans hS227 hB228.out
          have pp5_228 := own_past o5_227 hK228.out ap5_6_227
          have pp10_228 := own_past o10_227 hK228.out ap10_6_227
          refine hK.out _ _ ?_ (fun hHeld => ?_)
          · exact hS228
          clear hK K
          try simp only [Act.put, List.setIfInBounds_toArray, List.set_cons_zero, List.set_cons_succ]
          refine wpAnyH_ready (rs := [11]) (by kernel_rfl) (by simp) ?_
          refine AllReadyH.cons (o := ⟨some 139, Op.call { callee := Callee.builtin Builtin.append, args := #[Operand.tmp 136, Operand.tmp 138], argTypes := #[39, 39] }, 39, _, _, none⟩) rfl (fun K hK => ?_) AllReadyH.nil
          refine wp_all_f (.tmp 136) (.tmp 138) 39 rfl .u8 5 1 Try.underlying39 HI.out (by decide) w3.heap.size (.slice a228 n228 c228) ([] ++ EN) (.slice (some ⟨w3.heap.size, 0, none⟩) 1 1) [a5] rfl rfl hO228.out (Own.els pp10_228.1) (Below.size hS228) hl4 ?_
          intro a229 n229 c229 v229 hn229 hO229 hB229 hK229
          have hS229 : Since w3 v229 := Below.trans hS228 hB229.out
          have pp5_229 := own_past pp5_228.1 hK229.out pp5_228.2
          refine hK.out _ _ ?_ (fun hHeld => ?_)
          · exact hS229
          clear hK K
          try simp only [Act.put, List.setIfInBounds_toArray, List.set_cons_zero, List.set_cons_succ]
          refine wpAnyH_ready (rs := [12]) (by kernel_rfl) (by simp) ?_
          refine AllReadyH.cons (o := ⟨some 140, Op.buildSlice 55 4 #[(0, Operand.tmp 128), (1, Operand.tmp 131), (2, Operand.tmp 133), (3, Operand.tmp 139)], 55, _, _, none⟩) rfl (fun K hK => ?_) AllReadyH.nil
          go_simp
          refine hK.out _ _ ?_ (fun hHeld => ?_)
          · exact Below.alloc hS229 (Below.size hS229) _
          clear hK K
          try simp only [Act.put, List.setIfInBounds_toArray, List.set_cons_zero, List.set_cons_succ]
          refine wpAnyH_take (i := 13) (oi := ⟨some 26, Op.assign (Operand.tmp 140), 55, _, _, none⟩) (v := ?_) rfl (by kernel_rfl) (by kernel_rfl) (by kernel_rfl) (fun _ _ _ h => h) (Or.inl ⟨by rfl, ?_⟩) (by assumption) ?_
          rotate_left 1
          · (intro w hSw; (try dsimp only at hSw); go_simp; first | done | with_reducible rfl)
          try simp only [Act.put, List.setIfInBounds_toArray, List.set_cons_zero, List.set_cons_succ]
          refine wpAnyH_done (by kernel_rfl) ?_ _
          refine NoPanic.normal ?_
          go_wp2_with fail
          go_meet
          exact ttab_of _ hS229 (HGX.out.below hS229) (GB.out.below hS229) ⟨_, pp5_229.1.els, HBY.out, by have := HR30.out; omega⟩ ⟨_, hO229.out.els, HBZ.out, HLZ.out⟩ _ rfl
        · go_simp
          have hs230 : Since ((w3.drew.alloc (.cells #[.int .u8 a5] 5))) ((w3.drew.alloc (.cells #[.int .u8 a5] 5)).alloc (.cells #[] 5)) := (Below.refl _ _).alloc (Nat.le_refl _) _
          have hS230 : Since w3 ((w3.drew.alloc (.cells #[.int .u8 a5] 5)).alloc (.cells #[] 5)) := Since.step hS225 hs230
          have n230 : Own .u8 5 ((w3.drew.alloc (.cells #[.int .u8 a5] 5))).heap.size ((w3.drew.alloc (.cells #[.int .u8 a5] 5)).alloc (.cells #[] 5)) (.slice (some ⟨w3.heap.size + 1, 0, none⟩) 0 0) [] := own_at ((w3.drew.alloc (.cells #[.int .u8 a5] 5))) _ _ _ (by first | rfl | simp) (Nat.le_refl _)
          have ap10_6_230 := own_apart n225 (Nat.le_refl _) n230
          have o10_230 := Own.below n225 hs230
          refine hK.out _ _ ?_ (fun hHeld => ?_)
          · exact hS230
          clear hK K
          try simp only [Act.put, List.setIfInBounds_toArray, List.set_cons_zero, List.set_cons_succ]
          refine wpAnyH_ready (rs := [5]) (by kernel_rfl) (by simp) ?_
          refine AllReadyH.cons (o := ⟨some 133, Op.call { callee := Callee.value (Operand.func 31), args := #[Operand.tmp 132, Operand.const (Value.int IntKind.i64 30)], argTypes := #[39, 3] }, 39, _, _, none⟩) rfl (fun K hK => ?_) AllReadyH.nil
          go_simp
          refine (KFR2.out _ (by (repeat (first | with_reducible assumption | with_reducible exact Since.refl _ | with_reducible refine Since.alloc ?_ _ | with_reducible refine Since.drew ?_)))).mono ?_
          rintro e v231 ⟨a231, n231, c231, rfl, HN231, O231, B231⟩
          have hs231 : Since (((w3.drew.alloc (.cells #[.int .u8 a5] 5)).alloc (.cells #[] 5))) v231 := by first | exact B231.out | ((with_reducible refine Since.step ?_ B231.out); (repeat (first | with_reducible assumption | with_reducible exact Since.refl _ | with_reducible refine Since.alloc ?_ _ | with_reducible refine Since.drew ?_)); done)
          have hS231 : Since w3 v231 := Since.step hS230 hs231
          have ap10_5_231 := own_apart o10_230 (Nat.le_refl _) O231.out
          have ap6_5_231 := own_apart n230 (Nat.le_refl _) O231.out
          have o10_231 := Own.below o10_230 hs231
          have o6_231 := Own.below n230 hs231
          try go_wp2_with fail
          refine hK.out _ _ ?_ (fun hHeld => ?_)
          · exact hS231
          clear hK K
          try simp only [Act.put, List.setIfInBounds_toArray, List.set_cons_zero, List.set_cons_succ]
          refine wpAnyH_ready (rs := [8]) (by kernel_rfl) (by simp) ?_
          refine AllReadyH.cons (o := ⟨some 136, Op.call { callee := Callee.builtin Builtin.append, args := #[Operand.tmp 134, Operand.tmp 135], argTypes := #[39, 39] }, 39, _, _, none⟩) rfl (fun K hK => ?_) AllReadyH.nil
          refine wp_all_f (.tmp 134) (.tmp 135) 39 rfl .u8 5 1 Try.underlying39 HI.out (by decide) w3.heap.size (.slice (some ⟨w3.heap.size + 1, 0, none⟩) 0 0) [] (.slice (some ⟨bb, ob, none⟩) n2 cb) EN rfl rfl (own_baseR o6_231 (Below.size hS225)) (EB3.out.below hS231) (Below.size hS231) hl3 ?_
          intro a232 n232 c232 v232 hn232 hO232 hB232 hK232
          have hS232 : Since w3 v232 := Below.trans hS231 hB232.out
          have pp5_232 := own_past O231.out hK232.out (sym_apart ap6_5_231)
          have pp10_232 := own_past o10_231 hK232.out ap10_6_230
          refine hK.out _ _ ?_ (fun hHeld => ?_)
          · exact hS232
          clear hK K
          try simp only [Act.put, List.setIfInBounds_toArray, List.set_cons_zero, List.set_cons_succ]
          refine wpAnyH_ready (rs := [11]) (by kernel_rfl) (by simp) ?_
          refine AllReadyH.cons (o := ⟨some 139, Op.call { callee := Callee.builtin Builtin.append, args := #[Operand.tmp 136, Operand.tmp 138], argTypes := #[39, 39] }, 39, _, _, none⟩) rfl (fun K hK => ?_) AllReadyH.nil
          refine wp_all_f (.tmp 136) (.tmp 138) 39 rfl .u8 5 1 Try.underlying39 HI.out (by decide) w3.heap.size (.slice a232 n232 c232) ([] ++ EN) (.slice (some ⟨w3.heap.size, 0, none⟩) 1 1) [a5] rfl rfl hO232.out (Own.els pp10_232.1) (Below.size hS232) hl4 ?_
          intro a233 n233 c233 v233 hn233 hO233 hB233 hK233
          have hS233 : Since w3 v233 := Below.trans hS232 hB233.out
          have pp5_233 := own_past pp5_232.1 hK233.out pp5_232.2
          refine hK.out _ _ ?_ (fun hHeld => ?_)
          · exact hS233
          clear hK K
          try simp only [Act.put, List.setIfInBounds_toArray, List.set_cons_zero, List.set_cons_succ]
          refine wpAnyH_ready (rs := [12]) (by kernel_rfl) (by simp) ?_
          refine AllReadyH.cons (o := ⟨some 140, Op.buildSlice 55 4 #[(0, Operand.tmp 128), (1, Operand.tmp 131), (2, Operand.tmp 133), (3, Operand.tmp 139)], 55, _, _, none⟩) rfl (fun K hK => ?_) AllReadyH.nil
          go_simp
          refine hK.out _ _ ?_ (fun hHeld => ?_)
          · exact Below.alloc hS233 (Below.size hS233) _
          clear hK K
          try simp only [Act.put, List.setIfInBounds_toArray, List.set_cons_zero, List.set_cons_succ]
          refine wpAnyH_take (i := 13) (oi := ⟨some 26, Op.assign (Operand.tmp 140), 55, _, _, none⟩) (v := ?_) rfl (by kernel_rfl) (by kernel_rfl) (by kernel_rfl) (fun _ _ _ h => h) (Or.inl ⟨by rfl, ?_⟩) (by assumption) ?_
          rotate_left 1
          · (intro w hSw; (try dsimp only at hSw); go_simp; first | done | with_reducible rfl)
          try simp only [Act.put, List.setIfInBounds_toArray, List.set_cons_zero, List.set_cons_succ]
          refine wpAnyH_done (by kernel_rfl) ?_ _
          refine NoPanic.normal ?_
          go_wp2_with fail
          go_meet
          exact ttab_of _ hS233 (HGX.out.below hS233) (GB.out.below hS233) ⟨_, pp5_233.1.els, HBY.out, by have := HR30.out; omega⟩ ⟨_, hO233.out.els, HBZ.out, HLZ.out⟩ _ rfl
    case rest =>
    obtain ⟨G, rfl, hSc, hTb⟩ := hcut
    rename World => wc
    have HSC := Lib.hid (Since.step HSW.out hSc)
    have HT := Lib.hid hTb
    have HS00 : Hid (Since wc wc) := Lib.hid (Since.refl _)
    clear hSc hTb GB HGX EB3 HLZ HBZ hl3 hl4 KFR2 HB3 e1 e2 e3 e4 hki HNB HEB hcb hkn hnb1 HSW
    go_wp2
    go_loopw [27] (fun x wr => ∃ j : Nat, j ≤ 4 ∧ x = .int .i64 j ∧ Hid (Since wc wr)) (fun x _ => 4 - (intOf x).toNat)
    case atStart => exact ⟨0, by omega, rfl, HS00⟩
    case round =>
      clear HS00
      obtain ⟨j, hj, rfl, hSr⟩ := hrel
      by_cases hlt2 : j < 4
      · have i2 : (j : Int) < 4 := by omega
        obtain ⟨ax, nx, cx, zs, hcx0, hE, hbz, hzl⟩ := HT.out j hlt2
        have hcx := Since.cell hSr.out hcx0
        have HEr := Lib.hid (hE.below hSr.out)
        have KDB := Lib.hid (tdecode_bytes _ zs wr HEr.out hbz hzl)
        have HCX := Lib.hid hcx
        clear hcx0 hE hbz
        go_wp2_with fail
        refine KDB.out.mono ?_
        rintro e x5 (⟨u, ⟨s4, t4, u4, s5, t5, u5, s6, t6, u6⟩, hz, hv, hwf, rfl, HT5, HB5⟩ | ⟨rfl, HB5⟩)
        · try simp only
          subst hz
          obtain ⟨x6, hx6⟩ : ∃ x6, x6 = x5.alloc (.cells #[.slice s4 t4 u4, .slice s5 t5 u5, .slice s6 t6 u6] 29) := ⟨_, rfl⟩
          have hS6 : Since x5 x6 := by rw [hx6]; exact Since.alloc (Since.refl _) _
          have hX6 : BoxL x5.heap.size [.slice s4 t4 u4, .slice s5 t5 u5, .slice s6 t6 u6] x6 := by rw [hx6]; exact BoxL.made x5 _ _
          have hS56 := Since.step HB5.out hS6
          have KEU := Lib.hid (tenc_valid u hv hwf _ _ _ x6 (TAt.below hS6 HT5.out))
          have HX6 := Lib.hid hX6
          have HS6 := Lib.hid (Since.step HSC.out (Since.step hSr.out hS56))
          have HW6 := Lib.hid (Since.step hSr.out hS56)
          have HE6 := Lib.hid (HEr.out.below hS56)
          have hc6 := Since.cell hS56 HCX.out
          clear hS6 hX6 hS56 HT5 HB5 hv hwf hcx KDB HEr
          go_upto_region 28 with (fail)
          rw [← hx6]
          generalize x5.heap.size = M2 at *
          clear hx6
          obtain ⟨o0, o1, o2, -, -, -, -⟩ := HX6.out.open3
          go_wp2_with fail
          refine KEU.out.mono ?_
          rintro e x7 ⟨a7, n7, c7, rfl, HN7, O7, B7⟩
          have hc7 := Since.cell B7.out hc6
          have KSB := Lib.hid (sameB_self _ _ u.enc x7 O7.out.els (HE6.out.below B7.out) hzl)
          have HW7 := Lib.hid (Since.step HW6.out B7.out)
          clear o0 o1 o2 hc6 KEU HN7 O7 B7 HE6 HX6
          go_wp2_with fail
          refine KSB.out.mono ?_
          rintro e x8 ⟨rfl, B8⟩
          have HSZ := Lib.hid (Since.step HW7.out B8)
          clear B8 hc7 KSB
          go_wp2
          go_roundw
          case rel => exact ⟨j + 1, by omega, by go_num, HSZ⟩
          case measure => simp [intOf]; omega
        · obtain ⟨x6, hx6⟩ : ∃ x6, x6 = x5.alloc (.cells #[.slice none 0 0, .slice none 0 0, .slice none 0 0] 29) := ⟨_, rfl⟩
          have hS6 : Since x5 x6 := by rw [hx6]; exact Since.alloc (Since.refl _) _
          have hX6 : BoxL x5.heap.size [.slice none 0 0, .slice none 0 0, .slice none 0 0] x6 := by rw [hx6]; exact BoxL.made x5 _ _
          have KEU := Lib.hid (tenc_nil x6)
          have HX6 := Lib.hid hX6
          have HW6 := Lib.hid (Since.step hSr.out (Since.step HB5.out hS6))
          clear hS6 hX6 HB5 hcx KDB HEr
          go_upto_region 28 with (fail)
          rw [← hx6]
          generalize x5.heap.size = M2 at *
          clear hx6
          obtain ⟨o0, o1, o2, -, -, -, -⟩ := HX6.out.open3
          go_wp2_with fail
          refine KEU.out.mono ?_
          rintro e x7 ⟨a7, n7, c7, er7, rfl, B7⟩
          have z0 := Since.cell B7.out o0
          have z1 := Since.cell B7.out o1
          have z2 := Since.cell B7.out o2
          have KN := Lib.hid (same_self (.mk [] [] []) nil_wf (by simp [Th.size, Th.sizes]) _ _ _ _ _ _ x7 (tat_nil _ _) (tat_nil _ _))
          have HW7 := Lib.hid (Since.step HW6.out B7.out)
          clear o0 o1 o2 KEU B7 HX6
          go_wp2_with fail
          refine KN.out.mono ?_
          rintro e x8 ⟨rfl, B8⟩
          have HSZ := Lib.hid (Since.step HW7.out B8)
          clear B8 z0 z1 z2 KN
          go_wp2
          go_roundw
          case rel => exact ⟨j + 1, by omega, by go_num, HSZ⟩
          case measure => simp [intOf]; omega
      · have i2 : ¬ (j : Int) < 4 := by omega
        have HSF := Lib.hid (Since.step HSC.out hSr.out)
        go_wp2
        go_roundw
        case rel => exact ⟨k + 1, by omega, by go_num, HSF⟩
        case measure => simp [intOf]; omega

end Go.Proofs.Ytejllfpcffeogaa
