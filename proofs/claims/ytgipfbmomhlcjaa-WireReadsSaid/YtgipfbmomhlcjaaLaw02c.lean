/- The walk of the law WirePrefix. -/
import Derived.Test.YtgipfbmomhlcjaaVals2
namespace Go.Proofs.Ytgipfbmomhlcjaa
open Go.RowKit Go.Shelf

theorem encV_small {x : V} (h : x.Good) (hb : x.b.length ≤ 9) (hl : x.l.length ≤ 4) : (encV x).length ≤ 50 := by
  have h1 := Hm.uv_len h.u
  have h2 := Hm.uv_len (Hm.zig_lt h.n)
  have h3 := Hm.uv_len (n := x.b.length) (by omega)
  have h4 := Hm.uv_len (n := x.l.length) (by omega)
  have h5 := encs_len x.l h.nums
  unfold encV
  split
  · omega
  · split
    · omega
    · split
      · simp
      · split
        · rw [List.length_append]; omega
        · rw [List.length_append]; omega

theorem encVs_cons (x : V) (xs : List V) : encVs (x :: xs) = encV x ++ encVs xs := by simp [encVs]

theorem encVs_small {ts : List VT} (h : Small ts) : (encVs (ts.map (·.1))).length ≤ 50 * ts.length := by
  induction ts with
  | nil => simp [encVs]
  | cons t ts ih =>
    have h1 := h t (List.mem_cons_self ..)
    have h2 := ih fun u hu => h u (List.mem_cons_of_mem _ hu)
    rw [List.map_cons, encVs_cons, List.length_append, List.length_cons]
    have := encV_small h1.1 h1.2.1 h1.2.2
    omega

theorem encVs_byt {xs : List V} (h : ∀ x ∈ xs, x.Good) : Hm.Byt (encVs xs) := by
  induction xs with
  | nil => exact Hm.byt_nil
  | cons x xs ih =>
    rw [encVs_cons]
    exact Hm.byt_append (encV_byt (h x (List.mem_cons_self ..)).byt) (ih fun y hy => h y (List.mem_cons_of_mem _ hy))

theorem drop_at {xs : List V} {k : Nat} {x : V} (h : xs[k]? = some x) : xs.drop k = x :: xs.drop (k + 1) := by
  have hk := (List.getElem?_eq_some_iff.1 h).1
  rw [List.drop_eq_getElem_cons hk]
  rw [List.getElem?_eq_getElem hk] at h
  rw [Option.some.inj h]

theorem els_take {k : IntKind} {w : World} {a : Option Addr} {n c : Nat} {zs : List Int} (h : Els k w (.slice a n c) zs) (j : Nat) (hj : j ≤ n) : Els k w (.slice a j c) (zs.take j) := by
  have hn := h.len
  rcases h with ⟨he, rfl⟩ | ⟨b, off, cap, hb, he, hl, hc⟩
  · simp at hn
    subst hn
    obtain rfl : j = 0 := by omega
    exact .inl ⟨he, by simp⟩
  · cases he
    have e : (zs.take j).length = j := by rw [List.length_take]; omega
    refine .inr ⟨b, off, c, hb, by rw [e], by omega, fun i hi => ?_⟩
    rw [e] at hi
    rw [hc i (by omega), List.getElem?_take_of_lt hi]

theorem els_cap {k : IntKind} {w : World} {a : Option Addr} {n c : Nat} {zs : List Int} (h : Els k w (.slice a n c) zs) : n ≤ c := by
  rcases h with ⟨he | ⟨x, cap, he⟩, _⟩ | ⟨b, off, cap, _, he, hl, _⟩
  · cases he; exact Nat.le_refl _
  · cases he; exact Nat.zero_le _
  · cases he; exact hl

/-- Where a reader of a proper prefix stands behind k values. -/
def Short (xs : List V) (k : Nat) (l : List Int) (e : Int) : Prop :=
  (e = 0 ∧ ∃ j, l = (encVs (xs.drop k)).take j ∧ j < (encVs (xs.drop k)).length) ∨ (e = 3 ∧ l = [])

theorem Short.step {xs : List V} {k : Nat} {l : List Int} {e : Int} {x : V} (h : Short xs k l e) (hx : xs[k]? = some x) (hg : x.Good) : Short xs (k + 1) (rdV x.kind l e).2.1 (rdV x.kind l e).2.2 := by
  rcases h with ⟨rfl, j, rfl, hj⟩ | ⟨rfl, rfl⟩
  · rw [drop_at hx, encVs_cons] at hj ⊢
    by_cases h1 : j < (encV x).length
    · rw [List.take_append_of_le_length (by omega), rdV_prefix hg h1]
      exact .inr ⟨rfl, rfl⟩
    · rw [List.length_append] at hj
      have e : (encV x ++ encVs (xs.drop (k + 1))).take j = encV x ++ (encVs (xs.drop (k + 1))).take (j - (encV x).length) := by rw [List.take_append, List.take_of_length_le (l := encV x) (by omega)]
      rw [e, rdV_enc hg]
      exact .inl ⟨rfl, j - (encV x).length, rfl, by omega⟩
  · rw [rdV_err _ (by decide)]
    exact .inr ⟨rfl, rfl⟩

theorem Short.byt {xs : List V} {k : Nat} {l : List Int} {e : Int} (h : Short xs k l e) (hg : ∀ x ∈ xs, x.Good) (hl : (encVs xs).length ≤ 1000) : Hm.Byt l ∧ l.length ≤ 1000 := by
  rcases h with ⟨_, j, rfl, hj⟩ | ⟨_, rfl⟩
  · refine ⟨(encVs_byt fun x hx => hg x (List.mem_of_mem_drop hx)).take _, ?_⟩
    have : (encVs (xs.drop k)).length ≤ (encVs xs).length := by
      have e : encVs xs = encVs (xs.take k) ++ encVs (xs.drop k) := by
        unfold encVs
        rw [← List.flatten_append, ← List.map_append, List.take_append_drop]
      rw [e, List.length_append]
      omega
    rw [List.length_take]
    omega
  · exact ⟨Hm.byt_nil, by simp⟩

theorem encVs_drop_len (xs : List V) (k : Nat) : (encVs (xs.drop k)).length ≤ (encVs xs).length := by
  have e : encVs xs = encVs (xs.take k) ++ encVs (xs.drop k) := by
    unfold encVs
    rw [← List.flatten_append, ← List.map_append, List.take_append_drop]
  rw [e, List.length_append]
  omega

theorem Came.lenle {k : IntKind} {w : World} {a : Option Addr} {len cap : Nat} {zs : List Int} (h : Came k w a len cap zs) : len ≤ 9223372036854775807 := by
  rcases h with ⟨_, rfl, _⟩ | ⟨x, _, hl, hm, _⟩
  · omega
  · unfold maxLen at hm
    omega

set_option maxRecDepth 100000 in
set_option maxHeartbeats 8000000 in
theorem law_prefix (a0 : Option Addr) (len0 cap0 : Nat) (z0 : List Int) (m1 m2 : Int) (w : World) (v0 : Came .i64 w a0 len0 cap0 z0) (v1 : (Lit.int .i64 m1).wf = true) (v2 : (Lit.int .u8 m2).wf = true) :
    Calls Try.prog 7 #[.slice a0 len0 cap0, .int .i64 m1, .int .u8 m2] w fun e w' => e = .returned (.bool true) ∧ Below w.heap.size w w' := by
  have k1 := vals_any a0 len0 cap0 _ w v0.els (fun z hz => v0.wf z (List.mem_of_mem_take hz)) v0.lenle
  have hc := u8_of_wf v2
  have V1 := Lib.hid v1
  have HC := Lib.hid hc
  have K1 := Lib.hid k1
  have HB0 := Lib.hid (Below.refl w.heap.size w)
  have HI := Lib.hid Try.infoU8
  clear v0 v1 v2 k1 hc
  go_enter Try.func7, Try.ntmps7
  go_wp2_with fail
  refine K1.out.mono ?_
  rintro e w1 ⟨a, n, c, ts, rfl, hV, hS, hn, hn8, hB1⟩
  have HB1 := Lib.hid hB1.out
  have HVE := Lib.hid hV.out.els
  have HGd : Hid (∀ x ∈ ts.map (·.1), x.Good) := fun x hx => by
    obtain ⟨t, ht, rfl⟩ := List.mem_map.1 hx
    exact (hS.out t ht).1
  have hLs := encVs_small hS.out
  have hxl : Hid (n = (ts.map (·.1)).length) := by show _ = _; rw [List.length_map]; exact hn.out
  have HLs := Lib.hid (show (encVs (ts.map (·.1))).length ≤ 400 by have := hn.out; omega)
  clear hB1 hLs hV hS hn
  generalize ts.map (·.1) = xs at *
  go_wp2_with fail
  refine (encode_any a n c xs w1 HVE.out HGd.out (by omega)).mono ?_
  rintro e w2 ⟨a2, n2, c2, rfl, HN2, O2, hB⟩
  have B2 := Lib.hid hB.out
  have HB2 := Lib.hid (HB1.out.trans (hB.out.mono HB1.out.size))
  have HE2 := Lib.hid O2.out.els
  clear hB
  have hn2 : n2 ≤ 400 := by rw [HN2.out]; exact HLs.out
  by_cases h0 : n2 = 0
  · subst h0
    go_wp2_with fail
    refine (rread_any (.slice none 0 0) [] _ (by decide) (emp_els _ _)).mono ?_
    rintro e w3 ⟨p3, d3, rfl, hp3, hd3, hl3, R3, B3⟩
    have HB3 := Lib.hid (HB2.out.trans (B3.out.mono HB2.out.size))
    go_wp2_with fail
    refine (rend_any _ _ _ _ _ R3.out (by decide)).mono ?_
    rintro e w' ⟨rfl, rfl⟩
    rw [show Hm.rEnd [] 0 = 0 from by decide]
    go_wp2_with fail
    refine (lives_any _).mono ?_
    rintro e w4 ⟨rfl, hB⟩
    have B4 := Lib.hid hB
    have HB4 := Lib.hid (HB3.out.trans (hB.mono HB3.out.size))
    clear hB
    go_wp2_with fail
    go_ret
    exact ⟨rfl, HB4.out⟩
  · have t0 : ((n2 : Int) == 0) = false := by rw [beq_eq_false_iff_ne]; omega
    obtain ⟨j, hj, hjn⟩ := around_nat m1 n2 (by omega)
    have k3 := fun W => around_any m1 n2 W (by omega) (by omega) V1.out
    rw [hj] at k3
    have K3 := Lib.hid k3
    have hjc : j ≤ c2 := Nat.le_trans (Nat.le_of_lt hjn) (els_cap HE2.out)
    clear k3 hj h0
    go_wp2_with fail
    refine (K3.out _).mono ?_
    rintro e w' ⟨rfl, rfl⟩
    have HT := Lib.hid (els_take HE2.out j (Nat.le_of_lt hjn))
    go_wp2_with fail
    refine (rread_any _ _ _ (by rw [List.length_take]; have := HLs.out; omega) HT.out).mono ?_
    rintro e w4 ⟨p4, d4, rfl, hp4, hd4, hl4, R4, B4⟩
    have HB4 := Lib.hid (HB2.out.trans (B4.out.mono HB2.out.size))
    have HE4 := Lib.hid (HE2.out.below B4.out)
    go_wp2_with fail
    refine (few_any n2 _ _ w4 (by omega) HE4.out O2.out.cap).mono ?_
    rintro e w5 ⟨a5, n5, c5, rfl, HN5, O5, hB⟩
    have B5 := Lib.hid hB.out
    have HB5 := Lib.hid (HB4.out.trans (hB.out.mono HB4.out.size))
    have HE5 := Lib.hid O5.out.els
    clear hB
    have HB5b := Lib.hid B5.out.size
    have hs5 : w4.heap.size ≤ w5.heap.size := B5.out.size
    have hs4 : w2.heap.size ≤ w4.heap.size := B4.out.size
    have hn5 : n5 ≤ 400 := by rw [HN5.out, List.length_take]; omega
    have htk : Hid ((encVs xs).take n2 = encVs xs) := by show _ = _; rw [HN2.out, List.take_length]
    have O5b := O5.out
    rw [htk.out] at O5b
    have O5c := Lib.hid O5b
    clear O5b
    go_wp2_with (at_builtin; refine push_own rfl _ _ 24 rfl .u8 5 1 Try.underlying24 HI.out (by decide) w4.heap.size (.slice a5 n5 c5) (encVs xs) _ _ rfl rfl O5c.out hs5 (by have := HLs.out; omega) ?_; intro a6 n6 c6 w6 hn6 hO6 hB6)
    have HB6 := Lib.hid (HB5.out.trans (hB6.out.mono (Nat.le_trans HB4.out.size (Nat.le_refl _))))
    have HE6 := Lib.hid hO6.out.els
    have hby6 := Lib.hid (show Hm.Byt (encVs xs ++ [m2]) from Hm.byt_append (encVs_byt HGd.out) (Hm.byt_cons HC.out Hm.byt_nil))
    have hl6 := Lib.hid (show (encVs xs ++ [m2]).length ≤ 500 by rw [List.length_append]; have := HLs.out; simp; omega)
    refine (rread_any _ _ _ (by have := hl6.out; omega) HE6.out).mono ?_
    rintro e w7 ⟨p7, d7, rfl, hp7, hd7, hl7, R7, B7⟩
    have C46 := Lib.hid (B5.out.trans hB6.out)
    have hs6 : w4.heap.size ≤ w6.heap.size := C46.out.size
    have hs2 : w1.heap.size ≤ w2.heap.size := B2.out.size
    have hs7 : w6.heap.size ≤ w7.heap.size := B7.out.size
    have hp4l := R4.out.lt
    have hp7l := R7.out.lt
    have R4b := Lib.hid ((R4.out.below C46.out).below B7.out)
    have D7 := Lib.hid (((B2.out.trans (B4.out.mono hs2)).trans (C46.out.mono (by omega))).trans (B7.out.mono (by omega)))
    have HB7 := Lib.hid (HB6.out.trans (B7.out.mono HB6.out.size))
    have S0 : Hid (Short xs 0 ((encVs xs).take j) 0) := .inl ⟨rfl, j, rfl, by rw [List.drop_zero, ← HN2.out]; exact hjn⟩
    go_wp2_with fail
    go_loopw [12] (fun v wr => ∃ k : Nat, ∃ l1 : List Int, ∃ e1 : Int, k ≤ n ∧ v = .int .i64 k ∧ Hid (Short xs k l1 e1) ∧ Hid (Rd p4 d4 wr l1 e1) ∧ Hid (Rd p7 d7 wr (encVs (xs.drop k) ++ [m2]) 0) ∧ Hid (Below w2.heap.size w7 wr)) (fun v _ => n - (intOf v).toNat)
    case atStart => exact ⟨0, _, 0, Nat.zero_le _, rfl, S0.out, R4b.out, R7.out, Below.refl _ _⟩
    case round =>
      obtain ⟨k, l1, e1, hk, rfl, hSh, hR1, hR2, hBl⟩ := hrel
      have hsr : w7.heap.size ≤ wr.heap.size := hBl.out.size
      have hshb := Lib.hid (hSh.out.byt HGd.out (by have := HLs.out; omega))
      by_cases hlt : k < n
      · obtain ⟨x, hx⟩ : ∃ x, xs[k]? = some x := ⟨_, List.getElem?_eq_getElem (by rw [← hxl.out]; exact hlt)⟩
        have hgx := HGd.out x (List.mem_of_getElem? hx)
        have HGX := Lib.hid hgx
        have HX := Lib.hid hx
        obtain ⟨b, off, bv, lv, rfl, h0, h1, h2, h3, h4, _, _, _, _⟩ := HVE.out.at (D7.out.trans (hBl.out.mono hs2)) hx
        have K8 := Lib.hid (read_any p4 d4 x.kind l1 e1 wr hR1.out (by omega) hgx.kind hshb.out.1 (by have := hshb.out.2; omega))
        have SH := Lib.hid (hSh.out.step hx hgx)
        have hdr : Hid (rdV x.kind (encVs (xs.drop k) ++ [m2]) 0 = (x, encVs (xs.drop (k + 1)) ++ [m2], 0)) := by
          show _ = _
          rw [drop_at hx, encVs_cons, List.append_assoc, rdV_enc hgx]
        have hb9 := Lib.hid (show Hm.Byt (encVs (xs.drop k) ++ [m2]) ∧ (encVs (xs.drop k) ++ [m2]).length ≤ 100000000000 from ⟨Hm.byt_append (encVs_byt fun y hy => HGd.out y (List.mem_of_mem_drop hy)) (Hm.byt_cons HC.out Hm.byt_nil), by rw [List.length_append]; have h5 := encVs_drop_len xs k; have h6 := HLs.out; simp; omega⟩)
        clear hx hgx
        generalize (rdV x.kind l1 e1).2.1 = l1' at *
        generalize (rdV x.kind l1 e1).2.2 = e1' at *
        go_wp2_with fail
        (with_reducible refine K8.out.mono ?_)
        rintro e w8 ⟨bv8, lv8, rfl, _, _, _, _, hR8, hG8⟩
        have hR9 := Lib.hid (hR2.out.other hG8.out (by omega) (by omega))
        have hB8 := Lib.hid (hBl.out.trans (grown_to hG8.out (by omega) (by omega)))
        have hs8 : wr.heap.size ≤ w8.heap.size := hG8.out.size
        have K9 := read_any p7 d7 x.kind _ 0 w8 hR9.out (by omega) HGX.out.kind hb9.out.1 hb9.out.2
        rw [hdr.out] at K9
        have K9h := Lib.hid K9
        clear K9 h0 h1 h2 h3 h4
        obtain ⟨b', off', bv', lv', hab, h0, h1, h2, h3, h4, _, _, _, _⟩ := HVE.out.at (D7.out.trans (hB8.out.mono hs2)) HX.out
        cases hab
        go_wp2_with fail
        (with_reducible refine K9h.out.mono ?_)
        rintro e w9 ⟨bv9, lv9, rfl, _, _, _, _, hR10, hG9⟩
        have hR11 := Lib.hid (hR8.out.other hG9.out (by omega) (by omega))
        have hB9 := Lib.hid (hB8.out.trans (grown_to hG9.out (by omega) (by omega)))
        clear h0 h1 h2 h3 h4
        go_wp2_with fail
        go_roundw
        case rel => exact ⟨k + 1, _, _, by omega, by go_num, SH.out, hR11.out, hR10.out, hB9.out⟩
        case measure => simp [intOf]; omega
      · obtain rfl : k = n := by omega
        have hend : Hid (xs.drop k = []) := by show _ = _; rw [hxl.out, List.drop_length]
        have hfin : e1 = 3 ∧ l1 = [] := by
          rcases hSh.out with ⟨_, i, _, hi⟩ | h
          · rw [hend.out] at hi
            simp [encVs] at hi
          · exact h
        obtain ⟨rfl, rfl⟩ := hfin
        have hR3 := hR2.out
        rw [hend.out] at hR3
        have HR3 := Lib.hid (show Rd p7 d7 wr [m2] 0 from hR3)
        have HB8 := Lib.hid (HB7.out.trans (hBl.out.mono (by have := HB2.out.size; omega)))
        have kq := fun W => around_any m1 6 W (by decide) (by decide) V1.out
        obtain ⟨q, hq, hq6⟩ := around_nat m1 6 (by decide)
        have hq' : aroundI m1 6 = (q : Int) := hq
        rw [hq'] at kq
        have KQ := Lib.hid kq
        have K10 := read_any p4 d4 q [] 3 wr hR1.out (by omega) (by omega) Hm.byt_nil (by decide)
        rw [rdV_err q (by decide)] at K10
        dsimp only [V.zero] at K10
        have K10h := Lib.hid K10
        clear hR3 kq hq hq' hlt K10
        go_wp2_with fail
        refine (rend_any _ _ _ _ _ hR1.out (by decide)).mono ?_
        rintro e w' ⟨rfl, rfl⟩
        rw [show Hm.rEnd [] 3 = 3 from by decide]
        go_wp2_with fail
        refine (rend_any _ _ _ _ _ HR3.out (by simp)).mono ?_
        rintro e w' ⟨rfl, rfl⟩
        rw [show Hm.rEnd [m2] 0 = 2 from rfl]
        go_wp2_with fail
        refine (KQ.out _).mono ?_
        rintro e w' ⟨rfl, rfl⟩
        go_wp2_with fail
        refine K10h.out.mono ?_
        rintro e w10 ⟨bv, lv, rfl, hbv, hlv, _, _, hR12, hG10⟩
        have HB10 := Lib.hid (HB8.out.trans (grown_to hG10.out (by have := HB2.out.size; omega) HB8.out.size))
        obtain ⟨ab, cb, rfl⟩ := hbv.out.shape
        obtain ⟨al, cl, rfl⟩ := hlv.out.shape
        go_wp2_with fail
        refine (same_any q 0 0 [] [] _ _ _ _ _ (els_alloc hbv.out _) (els_alloc hlv.out _) (emp_els _ _) (emp_els _ _) (by decide) (by decide)).mono ?_
        rintro e w11 ⟨rfl, hB11⟩
        have B11 := Lib.hid (below_new hB11)
        have R11 := Lib.hid (hR12.out.below B11.out)
        have HB11 := Lib.hid (HB10.out.trans (B11.out.mono HB10.out.size))
        clear hB11
        go_wp2_with fail
        refine (rend_any _ _ _ _ _ R11.out (by decide)).mono ?_
        rintro e w' ⟨rfl, rfl⟩
        rw [show Hm.rEnd [] 3 = 3 from by decide]
        go_wp2_with fail
        refine (lives_any _).mono ?_
        rintro e w12 ⟨rfl, hB⟩
        have B12 := Lib.hid hB
        have HB12 := Lib.hid (HB11.out.trans (hB.mono HB11.out.size))
        clear hB
        go_wp2_with fail
        go_ret
        exact ⟨rfl, HB12.out⟩

end Go.Proofs.Ytgipfbmomhlcjaa
