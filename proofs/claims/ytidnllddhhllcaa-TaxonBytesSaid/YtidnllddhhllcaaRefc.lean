/- The reference of taxon: Down, Least. -/
import Derived.Test.YtidnllddhhllcaaRefb
namespace Go.Proofs.Ytidnllddhhllcaa
open Go.RowKit Go.Shelf

set_option maxHeartbeats 4000000 in
set_option maxRecDepth 100000 in
theorem rdown_any (pv : Value) (P : List (List Int)) (c : Int) (w : World) (hL : LE w pv P) (hg : Tx.Good P) (hsh : ∀ c, (Tx.row P c).length ≤ 100000) :
    Calls Try.prog 22 #[pv, .int .i64 c] w (MakesE (downL P c) (downE P.length c) w) := by
  obtain ⟨pa, pc, rfl⟩ := LIn.shape hL
  have hbl := (Below.refl w.heap.size w).alloc (Nat.le_refl _) (.cells #[.int .i64 c] 3)
  have k1 := known_any _ _ P [c] _ (LE.below hbl hL) (lit_ints w [c] _ _ rfl rfl) (by simp)
  have e1 : allB P.length [c] = clsB P.length c := by unfold allB; simp
  rw [e1] at k1
  have h64 := hg.len
  have HBL := Lib.hid hbl
  have HI0 := Lib.hid Try.infoI64
  unfold downL downE
  by_cases hc : clsB P.length c = true
  · rw [if_pos hc, if_pos hc]
    rw [hc] at k1
    obtain ⟨x, rfl, hx⟩ := clsB_true hc
    have hcut : ones (fun d => isB P (d : Int) (x : Int)) P.length = ones (fun d => decide (d < P.length) && Tx.inh P d (x : Int).toNat) 64 := ones_cut h64 (fun d hd => by rw [isB_nat hd hx, decide_eq_true hd]; simp) (fun d hd => by rw [decide_eq_false (by omega)]; rfl)
    have hris := fun (W : World) (hB : Below w.heap.size w W) (d : Int) => ris_any _ P d (x : Int) W (LE.below hB hL) hg hsh
    have HR := Lib.hid hris
    have HCUT := Lib.hid hcut
    have K1 := Lib.hid k1
    generalize P.length = n at *
    clear hL hg hsh hc hbl k1 hcut hris e1
    go_enter Try.func22, Try.ntmps22
    go_wp2_with fail
    refine (K1.out).mono ?_
    rintro e w' ⟨rfl, rfl⟩
    have HB1 := HBL.out
    go_wp2
    go_loopw [6, 7] (fun v i wr => ∃ k : Nat, k ≤ n ∧ i = .int .i64 k ∧ ∃ ao no co, v = .slice ao no co ∧ Hid (no = (ones (fun d => isB P (d : Int) (x : Int)) k).length) ∧ Hid (Own .i64 3 w.heap.size wr (.slice ao no co) (ones (fun d => isB P (d : Int) (x : Int)) k)) ∧ Hid (Below w.heap.size w wr)) (fun _ i _ => n - (intOf i).toNat)
    case atStart => exact ⟨0, Nat.zero_le _, rfl, none, 0, 0, rfl, rfl, Lib.hid (World.ownsRow_nil _ _ _ _), Lib.hid HB1⟩
    case round =>
      obtain ⟨k, hk, rfl, ao, no, co, rfl, hno, hO, hB⟩ := hrel
      by_cases hlt : k < n
      · have hki : (k : Int) < n := by omega
        have k2 := HR.out wr hB.out (k : Int)
        have hs := ones_succ (fun d => isB P (d : Int) (x : Int)) k
        have hle := ones_len (fun d => isB P (d : Int) (x : Int)) k
        generalize hI : isB P (k : Int) (x : Int) = I at *
        have HS := Lib.hid hs
        have K2 := Lib.hid k2
        have HII := Lib.hid hI
        clear hs k2 hI
        cases I
        case true =>
          go_wp2_with fail
          refine (K2.out).mono ?_
          rintro e w1 ⟨rfl, B1⟩
          have HO1 := Lib.hid (hO.out.below B1)
          have HBw := Lib.hid (Since.step hB.out B1)
          clear B1
          go_wp2_with (at_builtin; refine push_own rfl _ _ 22 rfl .i64 3 8 Try.underlying22 HI0.out (by decide) w.heap.size (.slice ao no co) (ones (fun d => isB P (d : Int) (x : Int)) k) _ _ rfl rfl HO1.out HBw.out.size (by omega) ?_; intro a2 n2 c2 w2 hn2 hO2 hB2)
          go_roundw
          case rel => exact ⟨k + 1, by omega, by go_num, a2, n2, c2, rfl, Lib.hid (by rw [HS.out, if_pos (by first | rfl | exact HII.out | trivial), List.length_append, hn2.out]; rfl), Lib.hid (by rw [HS.out, if_pos (by first | rfl | exact HII.out | trivial)]; exact hO2.out), Lib.hid (Below.trans HBw.out hB2.out)⟩
          case measure => simp [intOf]; omega
        case false =>
          go_wp2_with fail
          refine (K2.out).mono ?_
          rintro e w1 ⟨rfl, B1⟩
          have HO1 := Lib.hid (hO.out.below B1)
          have HBw := Lib.hid (Since.step hB.out B1)
          clear B1
          go_wp2
          go_roundw
          case rel => exact ⟨k + 1, by omega, by go_num, ao, no, co, rfl, Lib.hid (by rw [HS.out, if_neg (by first | (intro h; cases h; done) | (rw [HII.out]; decide)), List.append_nil]; exact hno.out), Lib.hid (by rw [HS.out, if_neg (by first | (intro h; cases h; done) | (rw [HII.out]; decide)), List.append_nil]; exact HO1.out), HBw⟩
          case measure => simp [intOf]; omega
      · have hki : ¬ (k : Int) < n := by omega
        have hkn : k = n := by omega
        rw [hkn, HCUT.out] at hno hO
        clear hkn
        go_wp2
        go_ret2
        exact ⟨ao, no, co, rfl, hno, hO, hB⟩
  · have hc' : clsB P.length c = false := by simpa using hc
    rw [if_neg hc, if_neg hc]
    rw [hc'] at k1
    have K1 := Lib.hid k1
    clear hL hg hsh hc hc' hbl k1 e1
    go_enter Try.func22, Try.ntmps22
    go_wp2_with fail
    refine (K1.out).mono ?_
    rintro e w' ⟨rfl, rfl⟩
    go_wp2
    go_ret2
    exact ⟨none, 0, 0, rfl, rfl, Lib.hid (World.ownsRow_nil _ _ _ _), HBL⟩

/-- No other class of a list inherits from one of them, as far as the list was looked at. -/
noncomputable def aloneB (P : List (List Int)) (S : List Int) (i j : Nat) (x : Int) : Bool := !((List.range j).any fun k => decide (k ≠ i) && isB P (S[k]?.getD 0) x)

theorem aloneB_succ (P : List (List Int)) (S : List Int) (i j : Nat) (x : Int) : aloneB P S i (j + 1) x = (aloneB P S i j x && !(decide (j ≠ i) && isB P (S[j]?.getD 0) x)) := by
  unfold aloneB
  rw [List.range_succ, List.any_append]
  simp

/-- No other class of a list inherits from one of them. -/
noncomputable def lonelyB (P : List (List Int)) (S : List Int) (x : Int) : Bool := !(S.any fun c => decide (c.toNat ≠ x.toNat) && Tx.inh P c.toNat x.toNat)

/-- The least ones of the first k. -/
noncomputable def pickS (P : List (List Int)) (S : List Int) (k : Nat) : List Int := (S.take k).filter (lonelyB P S)

theorem pickS_succ (P : List (List Int)) {S : List Int} {k : Nat} (hk : k < S.length) : pickS P S (k + 1) = pickS P S k ++ (if lonelyB P S (S[k]?.getD 0) = true then [S[k]?.getD 0] else []) := by
  unfold pickS
  rw [List.take_add_one, List.getElem?_eq_getElem hk, List.filter_append]
  congr 1
  by_cases h : lonelyB P S S[k] = true <;> simp [h]

theorem pickS_len (P : List (List Int)) (S : List Int) (k : Nat) : (pickS P S k).length ≤ k :=
  Nat.le_trans (List.length_filter_le _ _) (List.length_take_le _ _)

theorem ones_filter (g q : Nat → Bool) (n : Nat) : (ones g n).filter (fun x => q x.toNat) = ones (fun d => g d && q d) n := by
  unfold ones
  rw [List.filter_map, List.filter_filter]
  congr 1
  apply List.filter_congr
  intro d _
  simp [Function.comp, Bool.and_comm]

theorem inj_at {S : List Int} (h : List.Pairwise (fun x y => x < y) S) {i k : Nat} (hi : i < S.length) (hk : k < S.length) (e : S[i] = S[k]) : i = k := by
  rw [List.pairwise_iff_getElem] at h
  rcases Nat.lt_trichotomy i k with hl | he | hl
  · have := h i k hi hk hl; omega
  · exact he
  · have := h k i hk hi hl; omega

theorem alone_lonely {P : List (List Int)} {zs S : List Int} (ha : allB P.length zs = true) (hS : ones (gB zs) 64 = S) {i : Nat} (hi : i < S.length) : aloneB P S i S.length (S[i]?.getD 0) = lonelyB P S (S[i]?.getD 0) := by
  have hmem : ∀ x, x ∈ S ↔ ∃ d : Nat, x = d ∧ d < 64 ∧ gB zs d = true := fun x => by rw [← hS]; exact ones_mem
  have hin : ∀ d : Nat, gB zs d = true → d < P.length := fun d hd => gB_lt ha hd
  have hnd : List.Pairwise (fun x y => x < y) S := by rw [← hS]; exact ones_nodup _ _
  unfold aloneB lonelyB
  congr 1
  have hx : S[i]?.getD 0 = S[i] := by rw [List.getElem?_eq_getElem hi]; rfl
  rw [hx]
  apply Bool.eq_iff_iff.2
  rw [List.any_eq_true, List.any_eq_true]
  obtain ⟨d, hd, hd64, hdg⟩ := (hmem _).1 (List.getElem_mem hi)
  have hdP := hin d hdg
  constructor
  · rintro ⟨k, hk, h⟩
    rw [List.mem_range] at hk
    have hy : S[k]?.getD 0 = S[k] := by rw [List.getElem?_eq_getElem hk]; rfl
    rw [hy] at h
    rw [Bool.and_eq_true] at h
    obtain ⟨c, hc, hc64, hcg⟩ := (hmem _).1 (List.getElem_mem hk)
    refine ⟨S[k], List.getElem_mem hk, ?_⟩
    have hne : S[k] ≠ S[i] := fun e => of_decide_eq_true h.1 (inj_at hnd hk hi e)
    have h2 := h.2
    rw [hc, hd, isB_nat (hin c hcg) hdP] at h2
    rw [hc, hd] at hne ⊢
    simp only [Int.toNat_natCast]
    rw [h2, decide_eq_true (by omega)]
    rfl
  · rintro ⟨y, hy, h⟩
    rw [Bool.and_eq_true] at h
    obtain ⟨k, hk⟩ := List.getElem?_of_mem hy
    have hkl := (List.getElem?_eq_some_iff.1 hk).1
    obtain ⟨c, hc, hc64, hcg⟩ := (hmem _).1 hy
    refine ⟨k, List.mem_range.2 hkl, ?_⟩
    rw [hk]
    have h1 := of_decide_eq_true h.1
    have h2 := h.2
    have hki : k ≠ i := fun e => by
      subst e
      rw [List.getElem?_eq_getElem hkl] at hk
      injection hk with hk
      exact h1 (by rw [hk])
    rw [hc, hd] at h2
    simp only [Int.toNat_natCast] at h2
    rw [Option.getD_some, hc, hd, isB_nat (hin c hcg) hdP, h2, decide_eq_true hki]
    rfl

/-- What the reference's Least picks. -/
theorem pickS_eq {P : List (List Int)} {zs S : List Int} (ha : allB P.length zs = true) (hS : ones (gB zs) 64 = S) : pickS P S S.length = leastL P zs := by
  unfold leastL
  rw [if_pos ha, hS]
  unfold pickS
  rw [List.take_length]
  have e2 : ∀ d : Nat, leftB P (gB zs) S S.length d = (gB zs d && !(S.any fun c => decide (c.toNat ≠ d) && Tx.inh P c.toNat d)) := fun d => by
    unfold leftB; rw [List.take_length]
  have e3 : ones (leftB P (gB zs) S S.length) 64 = ones (fun d => gB zs d && (fun d : Nat => !(S.any fun c => decide (c.toNat ≠ d) && Tx.inh P c.toNat d)) d) 64 := ones_ext fun d _ => e2 d
  rw [e3, ← ones_filter, hS]
  rfl

set_option maxHeartbeats 8000000 in
set_option maxRecDepth 100000 in
theorem rleast_any (pv sv : Value) (P : List (List Int)) (zs : List Int) (w : World) (hL : LE w pv P) (hl : Els .i64 w sv zs) (hlen : zs.length ≤ 1000) (hg : Tx.Good P) (hsh : ∀ c, (Tx.row P c).length ≤ 100000) :
    Calls Try.prog 28 #[pv, sv] w (MakesE (leastL P zs) (noneE P.length zs) w) := by
  have k1 := known_any pv sv P zs w hL hl hlen
  obtain ⟨pa, pc, rfl⟩ := LIn.shape hL
  by_cases ha : allB P.length zs = true
  · have hne : noneE P.length zs = 0 := if_pos ha
    have k2 := ordered_any sv zs P.length w hl (by omega) (by have := hg.len; omega)
    have hcut : ones (fun d => hasB zs (d : Int)) P.length = ones (gB zs) 64 := ones_cut hg.len (fun d _ => by
      apply Bool.eq_iff_iff.2
      rw [hasB_mem, gB_iff]
      constructor
      · intro h; exact ⟨_, h, by simp⟩
      · rintro ⟨z, hz, he⟩
        have := allB_mem ha z hz
        rw [show (d : Int) = z by omega]; exact hz) (fun d hd => by
      rw [← Bool.not_eq_true]
      intro h
      have := gB_lt ha h
      omega)
    rw [hcut] at k2
    rw [hne]
    rw [ha] at k1
    have hal := fun (S : List Int) (hS : ones (gB zs) 64 = S) (i : Nat) (hi : i < S.length) => alone_lonely (P := P) ha hS hi
    have hpk := fun (S : List Int) (hS : ones (gB zs) 64 = S) => pickS_eq (P := P) ha hS
    have hsl : (ones (gB zs) 64).length ≤ 64 := ones_len _ _
    have hal := hal _ rfl
    have hpk := hpk _ rfl
    generalize ones (gB zs) 64 = S at *
    have hris := fun (W : World) (hB : Below w.heap.size w W) (c d : Int) => ris_any _ P c d W (LE.below hB hL) hg hsh
    have HR := Lib.hid hris
    have K1 := Lib.hid k1
    have K2 := Lib.hid k2
    have HAL := Lib.hid hal
    have HPK := Lib.hid hpk
    have HI0 := Lib.hid Try.infoI64
    generalize leastL P zs = LL at *
    generalize P.length = n at *
    obtain ⟨a, cap, rfl⟩ := hl.shape
    generalize zs.length = m at *
    clear hL hl hg hsh ha k1 k2 hal hpk hcut hris hne
    go_enter Try.func28, Try.ntmps28
    go_wp2_with fail
    refine (K1.out).mono ?_
    rintro e w' ⟨rfl, rfl⟩
    go_wp2_with fail
    refine (K2.out).mono ?_
    rintro e w1 ⟨a2, n2, c2, rfl, HN2, O2, B2⟩
    have HE2 := Lib.hid O2.out.els
    have hn2 : n2 ≤ 64 := by rw [HN2.out]; exact hsl
    clear O2 K1 K2
    go_wp2
    go_loopw [6, 8] (fun v i wr => ∃ k : Nat, k ≤ n2 ∧ i = .int .i64 k ∧ ∃ ao no co, v = .slice ao no co ∧ Hid (no = (pickS P S k).length) ∧ Hid (Own .i64 3 w1.heap.size wr (.slice ao no co) (pickS P S k)) ∧ Hid (Since w1 wr)) (fun _ i _ => n2 - (intOf i).toNat)
    case atStart => exact ⟨0, Nat.zero_le _, rfl, none, 0, 0, rfl, rfl, Lib.hid (World.ownsRow_nil _ _ _ _), Lib.hid (Below.refl _ _)⟩
    case round =>
      obtain ⟨k, hk, rfl, ao, no, co, rfl, hno, hO, hS⟩ := hrel
      by_cases hlt : k < n2
      · have hki : (k : Int) < n2 := by omega
        have hkS : k < S.length := by rw [← HN2.out]; exact hlt
        have hsn := pickS_succ P hkS
        have hle := pickS_len P S k
        have hal := HAL.out k hkS
        have hsu := fun j => aloneB_succ P S k j (S[k]?.getD 0)
        have hst : aloneB P S k 0 (S[k]?.getD 0) = true := rfl
        obtain ⟨b, off, he, hck⟩ := HE2.out.at k hlt
        subst he
        generalize hx : S[k]?.getD 0 = x at *
        have HSN := Lib.hid hsn
        have HAL1 := Lib.hid hal
        have HSU := Lib.hid hsu
        have HCK := Lib.hid hck
        have HST := Lib.hid hst
        have HX := Lib.hid hx
        clear hsn hal hsu hkS hck hst hx
        go_wp2
        rename World => wo
        go_loopw [9, 10] (fun v i wr => ∃ j : Nat, j ≤ n2 ∧ i = .int .i64 j ∧ ∃ q : Bool, v = .bool q ∧ Hid (q = aloneB P S k j x) ∧ Hid (Since wo wr)) (fun _ i _ => n2 - (intOf i).toNat)
        case atStart => exact ⟨0, Nat.zero_le _, rfl, true, rfl, Lib.hid HST.out.symm, Lib.hid (Below.refl _ _)⟩
        case round =>
          obtain ⟨j, hj, rfl, q, rfl, hq, hT⟩ := hrel
          by_cases hlt2 : j < n2
          · have hji : (j : Int) < n2 := by omega
            obtain ⟨b', off', he', hcj⟩ := HE2.out.at j hlt2
            cases he'
            have hST := Since.step hS.out hT.out
            have hcj := Since.cell hST hcj
            have hck := Since.cell hST HCK.out
            have hsu := HSU.out j
            generalize S[j]?.getD 0 = y at *
            have k3 := fun W (hW : Since wr W) => HR.out W (Since.step (Since.step B2.out hST) hW) y x
            by_cases hjk : j = k
            · have hd : ((j : Int) != (k : Int)) = false := by subst hjk; simp
              have hq2 : Hid (q = aloneB P S k (j + 1) x) := by
                show q = _
                rw [hsu, ← hq.out, decide_eq_false (by omega)]; simp
              clear k3 hsu hST hjk
              go_wp2
              go_quiet (fail)
              go_wp2
              go_roundw
              case rel => exact ⟨j + 1, by omega, by go_num, q, rfl, hq2, Lib.hid (below_drewN hT.out _)⟩
              case measure => simp [intOf]; omega
            · have hd : ((j : Int) != (k : Int)) = true := by rw [bne_iff_ne]; omega
              have hq2 : Hid (∀ I, isB P y x = I → (q && !I) = aloneB P S k (j + 1) x) := fun I hI => by
                rw [hsu, ← hq.out, decide_eq_true hjk, hI]; simp
              generalize isB P y x = I at *
              have hq3 := Lib.hid (hq2.out I rfl)
              have K3 := Lib.hid k3
              clear k3 hsu hST hjk hq2
              have hS0 : Since wr wr := Below.refl _ _
              have hSd : Since wr wr.drew := Below.drew hS0
              go_wp2
              go_region_held3 (fun w' => w'.cell? ⟨b, off + j, none⟩ = some (.int .i64 y) ∧ w'.cell? ⟨b, off + k, none⟩ = some (.int .i64 x) ∧ Since wr w')
                (first | exact ⟨hcj, hck, hSd⟩ | exact ⟨Since.cell hB hcj, Since.cell hB hck, hB⟩)
                ((go_at_call 20; refine (K3.out _ hSd).mono ?_; rintro e w' ⟨rfl, hr⟩; have hB := Since.step hSd hr; clear hr))
              have HBB := Lib.hid hB
              clear hB hS0 hSd hcj hck
              cases I
              case true =>
                go_wp2
                go_roundw
                case rel => exact ⟨j + 1, by omega, by go_num, false, rfl, Lib.hid (by have := hq3.out; simpa using this), Lib.hid (Since.step hT.out HBB.out)⟩
                case measure => simp [intOf]; omega
              case false =>
                go_wp2
                go_roundw
                case rel => exact ⟨j + 1, by omega, by go_num, q, rfl, Lib.hid (by have := hq3.out; simpa using this), Lib.hid (Since.step hT.out HBB.out)⟩
                case measure => simp [intOf]; omega
          · have hji : ¬ (j : Int) < n2 := by omega
            have hjn : j = n2 := by omega
            have hq2 : Hid (q = lonelyB P S x) := by
              show q = _
              rw [hq.out, hjn, HN2.out]; exact HAL1.out
            have hck := Since.cell (Since.step hS.out hT.out) HCK.out
            have HOw := Lib.hid (hO.out.below hT.out)
            have HSw := Lib.hid (Since.step hS.out hT.out)
            have HBw := Lib.hid (Since.step B2.out HSw.out)
            generalize lonelyB P S x = l at *
            clear hjn hq HAL1 HSU HST
            cases q
            case true =>
              go_wp2_with (at_builtin; refine push_own rfl _ _ 22 rfl .i64 3 8 Try.underlying22 HI0.out (by decide) w1.heap.size (.slice ao no co) (pickS P S k) _ _ rfl rfl HOw.out HSw.out.size (by omega) ?_; intro a3 n3 c3 w3 hn3 hO3 hB3)
              go_roundw
              case rel => exact ⟨k + 1, by omega, by go_num, a3, n3, c3, rfl, Lib.hid (by rw [HSN.out, ← hq2.out, if_pos rfl, List.length_append, hn3.out]; rfl), Lib.hid (by rw [HSN.out, ← hq2.out, if_pos rfl]; exact hO3.out), Lib.hid (Below.trans HSw.out hB3.out)⟩
              case measure => simp [intOf]; omega
            case false =>
              go_wp2
              go_roundw
              case rel => exact ⟨k + 1, by omega, by go_num, ao, no, co, rfl, Lib.hid (by rw [HSN.out, ← hq2.out, if_neg (by decide), List.append_nil]; exact hno.out), Lib.hid (by rw [HSN.out, ← hq2.out, if_neg (by decide), List.append_nil]; exact HOw.out), HSw⟩
              case measure => simp [intOf]; omega
      · have hki : ¬ (k : Int) < n2 := by omega
        have hkn : k = n2 := by omega
        rw [hkn, HN2.out, HPK.out] at hno hO
        have HBw := Lib.hid (Since.step B2.out hS.out)
        clear hkn
        go_wp2
        go_ret2
        exact ⟨ao, no, co, rfl, hno, Lib.hid (own_base hO.out B2.out.size), HBw⟩
  · have ha' : allB P.length zs = false := by simpa using ha
    have hup : leastL P zs = [] := by unfold leastL; exact if_neg ha
    have hne : noneE P.length zs = 7 := if_neg ha
    rw [hne, hup]
    rw [ha'] at k1
    have K1 := Lib.hid k1
    clear k1 hup hne ha ha' hl hL hsh hg
    go_enter Try.func28, Try.ntmps28
    go_wp2_with fail
    refine (K1.out).mono ?_
    rintro e w' ⟨rfl, rfl⟩
    go_wp2
    go_ret2
    exact ⟨none, 0, 0, rfl, rfl, Lib.hid (World.ownsRow_nil _ _ _ _), Lib.hid (Below.refl _ _)⟩

end Go.Proofs.Ytidnllddhhllcaa
