import Derived.Test.YtimbgjpjgbjnkaaGbGc
import Derived.Laws.OwnMore
import Derived.Deep.RegionLaw
/- The limits of intervals as a list in order: mathematics, and the law of an append of rows inside a region. -/
namespace Go.Proofs.Ytimbgjpjgbjnkaa
open Go.RowKit Go.Shelf

/-- Ratios in a row. -/
def RRat : RowOf (Int × Int) where
  cells x := [.int .i64 x.1, .int .i64 x.2]
  k := 2
  len _ := rfl
  one x v h := by simp at h; rcases h with rfl | rfl <;> rfl
  pos := by decide

noncomputable def kP (p : Int × Int) : Int := kR p.1 p.2

/-- Small ratios in increasing order. -/
def PtsOk (P : List (Int × Int)) : Prop := (∀ p ∈ P, SmallR p.1 p.2) ∧ P.Pairwise (fun p q => kP p < kP q)

theorem PtsOk.nil : PtsOk [] := ⟨fun p h => (by cases h), List.Pairwise.nil⟩

/-- What put gives. -/
def putP (P : List (Int × Int)) (r : Int × Int) (k : Nat) : List (Int × Int) := if P[k]? = some r then P else P.take k ++ [r] ++ P.drop k

/-- Where put stops. -/
def PutAt (P : List (Int × Int)) (r : Int × Int) (k : Nat) : Prop := k ≤ P.length ∧ (∀ p ∈ P.take k, kP p < kP r) ∧ ∀ p, P[k]? = some p → ¬ kP p < kP r

theorem mem_take_drop {α : Type} {P : List α} {k : Nat} {q : α} : q ∈ P ↔ q ∈ P.take k ∨ q ∈ P.drop k := by
  conv => lhs; rw [← List.take_append_drop k P]
  rw [List.mem_append]

theorem kP_eq {p q : Int × Int} (hp : SmallR p.1 p.2) (hq : SmallR q.1 q.2) (h : kP p = kP q) : p = q := by
  have := (kR_eq hp.1 hq.1).1 h
  exact Prod.ext this.1 this.2

theorem putP_ok {P : List (Int × Int)} {r : Int × Int} {k : Nat} (h : PtsOk P) (hr : SmallR r.1 r.2) (hk : PutAt P r k) : PtsOk (putP P r k) ∧ (∀ q, q ∈ putP P r k ↔ q ∈ P ∨ q = r) ∧ (putP P r k).length ≤ P.length + 1 := by
  unfold putP
  by_cases he : P[k]? = some r
  · rw [if_pos he]
    refine ⟨h, fun q => ⟨fun hq => .inl hq, fun hq => ?_⟩, by omega⟩
    rcases hq with hq | rfl
    · exact hq
    · exact List.mem_of_getElem? he
  · rw [if_neg he]
    have hpw := h.2
    rw [← List.take_append_drop k P, List.pairwise_append] at hpw
    have hd : ∀ q ∈ P.drop k, kP r < kP q := by
      intro q hq
      obtain ⟨i, hi⟩ := List.getElem?_of_mem hq
      rw [List.getElem?_drop] at hi
      obtain ⟨p, hp⟩ : ∃ p, P[k]? = some p := ⟨P[k]'(by have := (List.getElem?_eq_some_iff.1 hi).1; omega), List.getElem?_eq_getElem _⟩
      have h1 := hk.2.2 p hp
      have h2 : kP r < kP p := by
        have : kP p ≠ kP r := fun e => he (by rw [hp, kP_eq (h.1 p (List.mem_of_getElem? hp)) hr e])
        omega
      cases i with
      | zero =>
        rw [Nat.add_zero, hp] at hi
        cases hi
        exact h2
      | succ i =>
        have h3 := List.pairwise_iff_getElem.1 h.2 k (k + (i + 1)) (List.getElem?_eq_some_iff.1 hp).1 (List.getElem?_eq_some_iff.1 hi).1 (by omega)
        rw [(List.getElem?_eq_some_iff.1 hp).2, (List.getElem?_eq_some_iff.1 hi).2] at h3
        omega
    refine ⟨⟨?_, ?_⟩, fun q => ?_, ?_⟩
    · intro p hp
      rw [List.append_assoc, List.mem_append, List.mem_append, List.mem_singleton] at hp
      rcases hp with hp | rfl | hp
      · exact h.1 p (List.mem_of_mem_take hp)
      · exact hr
      · exact h.1 p (List.mem_of_mem_drop hp)
    · rw [List.append_assoc, List.pairwise_append]
      refine ⟨hpw.1, ?_, ?_⟩
      · rw [List.singleton_append, List.pairwise_cons]
        exact ⟨hd, hpw.2.1⟩
      · intro a ha b hb
        rw [List.singleton_append, List.mem_cons] at hb
        rcases hb with rfl | hb
        · exact hk.2.1 a ha
        · exact hpw.2.2 a ha b hb
    · rw [List.append_assoc, List.mem_append, List.mem_append, List.mem_singleton, mem_take_drop (P := P) (k := k)]
      constructor
      · rintro (h | h | h)
        · exact .inl (.inl h)
        · exact .inr h
        · exact .inl (.inr h)
      · rintro ((h | h) | h)
        · exact .inl h
        · exact .inr (.inr h)
        · exact .inr (.inl h)
    · simp
      omega

/-- Rows appended inside a region. -/
theorem step_rows {P : Program} {ops : Array Oper} {o : Oper} {act : Act} {K : Act → World → Prop} {Q : Exit → Act → World → Prop} {E : Prop} {w : World} (hgd : o.guard = none) (s x : Operand) (t : TypeId)
    (ho : o.op = .call { callee := .builtin .append, args := #[s, x], argTypes := #[t, t] }) {α : Type} (R : RowOf α) (e : TypeId) (bytes : Nat) (z : Value) (ht : P.underlying t = some (.slice e))
    (info : (P.info? e).map (fun i => (i.zero, i.size, i.bytes)) = some (some z, R.k, bytes)) (hzc : z.cells.size = R.k) (hby : bytes ≤ 1000) (B : Nat) (v : Value) (xs ns : List α) (ad : Addr) (m c0 : Nat)
    (hs : act.eval s = v) (hx : act.eval x = .slice (some ad) m c0) (hm : m = ns.length) (hown : ROwn R e B w v xs) (hB : B ≤ w.heap.size) (hl : xs.length + m ≤ 1000000000)
    (hcell : ∀ j u, (ns.flatMap R.cells)[j]? = some u → w.cell? (ad.add j) = some u)
    (h : ∀ a n c w', Hid (n = xs.length + m) → Hid (ROwn R e B w' (.slice a n c) (xs ++ ns)) → Hid (Below B w w') → K (act.put o.dst (.slice a n c)) w') :
    if Region.wanted o (yielded ops act.tmps) = true then Oper.wp P o act w K Q else E := by
  have hw : Region.wanted o (yielded ops act.tmps) = true := by simp [Region.wanted, hgd]
  rw [if_pos hw]
  subst hm
  obtain ⟨i0, hi, hz0, hz1, hz2⟩ := info_parts info
  refine wp_append_own w s x t ho B e i0 z R.k bytes ht hi hz0 hz1 hz2 hzc R.pos v xs.length _ hs hown ad ns.length c0 (ns.flatMap R.cells) hx (R.flat ns) hcell ?_ (by unfold maxLen; omega) ?_ hB ?_
  · intro u hu
    obtain ⟨t, _, hu⟩ := List.mem_flatMap.1 hu
    exact R.one t u hu
  · have : (xs.length + ns.length) * bytes ≤ (xs.length + ns.length) * 1000 := Nat.mul_le_mul_left _ hby
    omega
  · intro v' w1 hO hG _
    have hbl : Below B w w1 := (Below.refl B w).grown hG hB fun j hj => (World.ownsRow.lt hown j hj).1
    have hO' : ROwn R e B w1 v' (xs ++ ns) := by
      unfold ROwn
      rw [List.length_append, List.flatMap_append]
      exact hO
    obtain ⟨a, n, c, rfl, hn, hO⟩ := hO'.slice
    refine h a n c w1 ?_ hO hbl
    have := hn.out
    rw [List.length_append] at this
    exact this

theorem add_addr (b off j : Nat) : (⟨b, off, none⟩ : Addr).add j = ⟨b, off + j, none⟩ := by by_cases h : j = 0 <;> simp [Addr.add, h]

/-- The cells of a part of a row. -/
theorem REls.part {α : Type} {R : RowOf α} {w : World} {b n cap : Nat} {xs : List α} (h : REls R w (.slice (some ⟨b, 0, none⟩) n cap) xs) (k m : Nat) (j : Nat) (u : Value) (hu : (((xs.drop k).take m).flatMap R.cells)[j]? = some u) : w.cell? ((⟨b, k * R.k, none⟩ : Addr).add j) = some u := by
  rw [add_addr]
  have hp := R.pos
  have hj : j < ((xs.drop k).take m).length * R.k := by rw [← R.flat]; exact (List.getElem?_eq_some_iff.1 hu).1
  have hq : j / R.k < ((xs.drop k).take m).length := (Nat.div_lt_iff_lt_mul hp).2 hj
  have hx : ((xs.drop k).take m)[j / R.k]? = some ((xs.drop k).take m)[j / R.k] := List.getElem?_eq_getElem hq
  have e : j / R.k * R.k + j % R.k = j := by rw [Nat.mul_comm]; exact Nat.div_add_mod j R.k
  have hat := R.at _ _ _ hx (j % R.k) (Nat.mod_lt _ hp)
  rw [e, hu] at hat
  have hx2 := hx
  rw [List.getElem?_take] at hx2
  rw [if_pos (by rw [List.length_take] at hq; omega), List.getElem?_drop] at hx2
  have hkn : k + j / R.k < n := by rw [h.len]; exact (List.getElem?_eq_some_iff.1 hx2).1
  obtain ⟨b', e', hb, hc, hcell⟩ := h.get hkn
  cases e'
  have := hcell _ _ hx2 (j % R.k) u hat.symm
  rw [show k * R.k + j = (k + j / R.k) * R.k + j % R.k by rw [Nat.add_mul]; omega]
  exact this

end Go.Proofs.Ytimbgjpjgbjnkaa

/- Contracts of the reference of span: put, Points. -/
namespace Go.Proofs.Ytimbgjpjgbjnkaa
open Go.RowKit Go.Shelf

theorem Try.infoRat : (Try.prog.info? 25).map (fun i => (i.zero, i.size, i.bytes)) = some (some (.agg #[.int .i64 0, .int .i64 0]), 2, 16) := by kernel_rfl

/-- The cells of a ratio in a row. -/
theorem rat_at {w : World} {b n c : Nat} {P : List (Int × Int)} {j : Nat} {p : Int × Int} (h : REls RRat w (.slice (some ⟨b, 0, none⟩) n c) P) (hp : P[j]? = some p) :
    w.cell? ⟨b, j * 2, none⟩ = some (.int .i64 p.1) ∧ w.cell? ⟨b, j * 2 + 1, none⟩ = some (.int .i64 p.2) ∧ b < w.heap.size := by
  have hn := h.len
  have hj : j < n := by rw [hn]; exact (List.getElem?_eq_some_iff.1 hp).1
  obtain ⟨b', e, hb, hc, hat⟩ := h.get hj
  cases e
  have g := fun i v hv => hat j p hp i v hv
  exact ⟨g 0 _ rfl, g 1 _ rfl, hb⟩

/-- A slice of ratios, nil if there are none. -/
def PSl (w : World) (sv : Value) (P : List (Int × Int)) : Prop := (sv = .slice none 0 0 ∧ P = []) ∨ (0 < P.length ∧ REls RRat w sv P)

theorem PSl.els {w : World} {sv : Value} {P : List (Int × Int)} : PSl w sv P → REls RRat w sv P
  | .inl h => .inl ⟨.inl h.1, h.2⟩
  | .inr h => h.2

theorem PSl.below {w W : World} {sv : Value} {P : List (Int × Int)} (hB : Below w.heap.size w W) : PSl w sv P → PSl W sv P
  | .inl h => .inl h
  | .inr h => .inr ⟨h.1, h.2.below hB⟩

theorem PSl.shape {w : World} {sv : Value} {P : List (Int × Int)} (h : PSl w sv P) : ∃ a cap, sv = .slice a P.length cap := h.els.shape

/-- What put leaves. -/
def PutOut (P : List (Int × Int)) (r : Int × Int) (w : World) (e : Ending) (w' : World) : Prop := ∃ P' v, PtsOk P' ∧ (∀ q, q ∈ P' ↔ q ∈ P ∨ q = r) ∧ P'.length ≤ P.length + 1 ∧ e = .returned v ∧ PSl w' v P' ∧ Below w.heap.size w w'

theorem putOut_of {P : List (Int × Int)} {r : Int × Int} {k : Nat} {w w' : World} {v : Value} (hP : PtsOk P) (hr : SmallR r.1 r.2) (hk : PutAt P r k) (hv : PSl w' v (putP P r k)) (hB : Below w.heap.size w w') : PutOut P r w (.returned v) w' := by
  obtain ⟨h1, h2, h3⟩ := putP_ok hP hr hk
  exact ⟨_, v, h1, h2, h3, rfl, hv, hB⟩

theorem new_rat (w : World) (n d : Int) (T : TypeId) (j : Nat) (u : Value) (hu : (([(n, d)] : List (Int × Int)).flatMap RRat.cells)[j]? = some u) : (w.alloc (.cells #[.int .i64 n, .int .i64 d] T)).cell? ((⟨w.heap.size, 0, none⟩ : Addr).add j) = some u := by
  rw [add_addr, Nat.zero_add]
  have hb := heap_new w (.cells #[.int .i64 n, .int .i64 d] T)
  unfold World.cell?
  simp only [hb, Option.isSome_none, Bool.false_eq_true, if_false]
  rw [← Array.getElem?_toList]
  exact hu

theorem new_rat_kept {w W : World} {n d : Int} {T : TypeId} (hB : Below (w.alloc (.cells #[.int .i64 n, .int .i64 d] T)).heap.size (w.alloc (.cells #[.int .i64 n, .int .i64 d] T)) W) (j : Nat) (u : Value) (hu : (([(n, d)] : List (Int × Int)).flatMap RRat.cells)[j]? = some u) : W.cell? ((⟨w.heap.size, 0, none⟩ : Addr).add j) = some u := by
  have h := new_rat w n d T j u hu
  rw [add_addr] at h ⊢
  exact (hB.cell (p := ⟨w.heap.size, 0 + j, none⟩) (by simp)).trans h

theorem part_take {w : World} {b m cap : Nat} {P : List (Int × Int)} (h : REls RRat w (.slice (some ⟨b, 0, none⟩) m cap) P) (k : Nat) (j : Nat) (u : Value) (hu : ((P.take k).flatMap RRat.cells)[j]? = some u) : w.cell? ((⟨b, 0, none⟩ : Addr).add j) = some u := by
  have := h.part 0 k j u (by rw [List.drop_zero]; exact hu)
  rwa [Nat.zero_mul] at this

theorem part_drop {w : World} {b m cap : Nat} {P : List (Int × Int)} (h : REls RRat w (.slice (some ⟨b, 0, none⟩) m cap) P) (k : Nat) (j : Nat) (u : Value) (hu : ((P.drop k).flatMap RRat.cells)[j]? = some u) : w.cell? ((⟨b, k * 2, none⟩ : Addr).add j) = some u :=
  h.part k (P.length - k) j u (by rw [List.take_of_length_le (by rw [List.length_drop]; omega)]; exact hu)

theorem ROwn.psl {E : TypeId} {B : Nat} {w : World} {v : Value} {P : List (Int × Int)} (h : ROwn RRat E B w v P) (h0 : 0 < P.length) : PSl w v P := .inr ⟨h0, h.els⟩

set_option maxHeartbeats 8000000 in
set_option maxRecDepth 100000 in
theorem put_any (sv : Value) (P : List (Int × Int)) (n d : Int) (w : World) (h : PSl w sv P) (hP : PtsOk P) (hr : SmallR n d) (hl : P.length ≤ 10000000) :
    Calls Try.prog 63 #[sv, rv n d] w (PutOut P (n, d) w) := by
  obtain ⟨a, cap, rfl⟩ := h.shape
  have HE := Lib.hid h
  have HP := Lib.hid hP
  have HR := Lib.hid hr
  generalize hm : P.length = m at *
  have HN := Lib.hid hm
  have KL := Lib.hid fun (p : Int × Int) (hp : p ∈ P) W => less_any p.1 p.2 n d W (hP.1 p hp).1 hr.1
  have HB0 := Lib.hid ((Below.refl w.heap.size w).alloc (Nat.le_refl _) (.cells #[.int .i64 n, .int .i64 d] 25))
  have XA := Lib.hid (BoxL.made w #[.int .i64 n, .int .i64 d] 25)
  clear h hP hr hm
  unfold rv at *
  go_enter Try.func63, Try.ntmps63
  go_wp2
  go_loopw [5] (fun x wr => ∃ k : Nat, k ≤ m ∧ x = .int .i64 k ∧ Hid (∀ p ∈ P.take k, kP p < kP (n, d)) ∧ Hid (BoxL w.heap.size [.int .i64 n, .int .i64 d] wr) ∧ Hid (Below w.heap.size w wr)) (fun x _ => m - (intOf x).toNat)
  case atStart => exact ⟨0, by omega, rfl, fun p hp => by simp at hp, XA, HB0⟩
  case round =>
    obtain ⟨k, hk, rfl, hF, hX, hB⟩ := hrel
    clear XA HB0
    by_cases hlt : k < m
    · have hki : (k : Int) < m := by omega
      obtain ⟨p, hp⟩ : ∃ p, P[k]? = some p := ⟨P[k]'(by rw [HN.out]; exact hlt), List.getElem?_eq_getElem _⟩
      obtain ⟨b, rfl, -, hcap, -⟩ := HE.out.els.get hlt
      have HEr := Lib.hid (HE.out.below hB.out)
      obtain ⟨g0, g1, hb⟩ := rat_at HEr.out.els hp
      have k1 := KL.out p (List.mem_of_getElem? hp)
      have hT : Hid (decide (p.1 * d < n * p.2) = true → ∀ q ∈ P.take (k + 1), kP q < kP (n, d)) := fun h q hq => by
        rw [List.take_add_one, hp, List.mem_append] at hq
        rcases hq with hq | hq
        · exact hF.out q hq
        · simp at hq
          subst hq
          have o := (HP.out.1 q (List.mem_of_getElem? hp)).1
          exact (kR_lt o.1 o.2.1 HR.out.1.1 HR.out.1.2.1).2 (of_decide_eq_true h)
      have hE : Hid (decide (p.1 * d < n * p.2) = false → PutAt P (n, d) k) := fun h => ⟨by rw [HN.out]; omega, hF.out, fun q hq => by
        rw [hp] at hq
        cases hq
        have o := (HP.out.1 p (List.mem_of_getElem? hp)).1
        exact mt (kR_lt o.1 o.2.1 HR.out.1.1 HR.out.1.2.1).1 (of_decide_eq_false h)⟩
      have HPK := Lib.hid hp
      clear hp
      generalize decide (p.1 * d < n * p.2) = L at *
      have K1 := Lib.hid k1
      clear k1
      obtain ⟨pn, pd⟩ := p
      simp only at *
      obtain ⟨r0, r1, -, -, r2⟩ := hX.out.open2
      have hS0 : Since wr wr := Below.refl _ _
      have hSd : Since wr wr.drew := Below.drew hS0
      go_wp2_with fail
      go_region_held3 (fun w' => w'.cell? ⟨b, k * 2, none⟩ = some (.int .i64 pn) ∧ w'.cell? ⟨b, k * 2 + 1, none⟩ = some (.int .i64 pd) ∧ w'.cell? ⟨w.heap.size, 0, none⟩ = some (.int .i64 n) ∧ w'.cell? ⟨w.heap.size, 1, none⟩ = some (.int .i64 d) ∧ Since wr w')
        (first | exact ⟨g0, g1, r0, r1, hSd⟩ | exact ⟨Since.cell hB2 g0, Since.cell hB2 g1, Since.cell hB2 r0, Since.cell hB2 r1, hB2⟩)
        ((go_at_call 84; refine (K1.out _).mono ?_; rintro e w' ⟨rfl, hq⟩; have hB2 := Since.step hSd hq; clear hq))
      have HBB := Lib.hid (hB.out.trans (Below.mono hB2 hB.out.size))
      have XBB := Lib.hid (hX.out.keep hB2)
      have HEB := Lib.hid (HEr.out.below hB2)
      clear hB2 hS0 hSd g0 g1 r0 r1 r2 hB hX HEr
      cases L
      case true =>
        have HT := Lib.hid (hT.out rfl)
        go_wp2
        go_roundw
        case rel => exact ⟨k + 1, by omega, by go_num, HT, XBB, HBB⟩
        case measure => simp [intOf]; omega
      case false =>
        have HA := Lib.hid (hE.out rfl)
        clear hT hE K1
        rename World => wo
        obtain ⟨g0, g1, -⟩ := rat_at HEB.out.els HPK.out
        obtain ⟨r0, r1, -, -, r2⟩ := XBB.out.open2
        by_cases he : pn = n ∧ pd = d
        · have HV : Hid (PSl wo (.slice (some ⟨b, 0, none⟩) m cap) (putP P (n, d) k)) := by
            show PSl _ _ _
            unfold putP
            rw [if_pos (by rw [HPK.out, he.1, he.2])]
            exact HEB.out
          obtain ⟨rfl, rfl⟩ := he
          go_wp2_with fail
          go_quiet (fail)
          go_wp2
          go_ret
          exact putOut_of HP.out HR.out HA.out (HV.out.below (below_drewN (Below.refl _ _) _)) (below_drewN HBB.out _)
        · have HV : Hid (putP P (n, d) k = P.take k ++ [(n, d)] ++ P.drop k) := by
            show _ = _
            unfold putP
            rw [if_neg (fun h => he (by rw [HPK.out] at h; simp at h; exact h))]
          have hc2 : ((pn == n) = false) ∨ (pn = n ∧ (pd == d) = false) := by
            by_cases h1 : pn = n
            · exact .inr ⟨h1, by simpa using fun h2 => he ⟨h1, h2⟩⟩
            · exact .inl (by simpa using h1)
          clear he
          go_wp2_with fail
          go_cut [32] (fun v wx => v = .bool false ∧ Hid (Since wo wx))
          case first =>
            rcases hc2 with h1 | ⟨rfl, h1⟩
            all_goals
              go_quiet (fail)
              go_wp2_with fail
              go_meet
              exact ⟨rfl, Lib.hid (below_drewN (Below.refl _ _) _)⟩
          case rest =>
            obtain ⟨rfl, hS⟩ := hcut
            rename World => w2
            have HB2 := Lib.hid (HBB.out.trans (Below.mono hS.out HBB.out.size))
            have HX2 := Lib.hid (XBB.out.keep hS.out)
            have HE2 := Lib.hid (HEB.out.els.below hS.out)
            clear HBB XBB HEB g0 g1 r0 r1 r2 hS hc2
            obtain ⟨r0, r1, -, -, r2⟩ := HX2.out.open2
            have hS0 : Since w2 w2 := Below.refl _ _
            have hSd : Since w2 w2.drew := Below.drew hS0
            have hSa : Since w2 (w2.drew.alloc (.cells #[.int .i64 n, .int .i64 d] 25)) := Below.alloc hSd (Nat.le_refl _) _
            have hkc : k ≤ cap := by omega
            have hmk : k = (P.take k).length := by rw [List.length_take, HN.out]; omega
            have HMK := Lib.hid hmk
            clear hmk
            have hl0 : ([] : List (Int × Int)).length + k ≤ 1000000000 := by simp; omega
            have hl1 : (P.take k).length + 1 ≤ 1000000000 := by rw [← HMK.out]; omega
            go_upto_region 7 with (fail)
            go_region_law (first
              | (refine step_rows rfl (.tmp 34) (.tmp 37) 36 rfl RRat 25 16 _ Try.underlying36 Try.infoRat rfl (by decide) w2.heap.size (.slice none 0 0) [] (P.take k) ⟨b, 0, none⟩ k cap rfl rfl HMK.out (ROwn.nil _ _ _ _) (Below.size hSd) hl0 (part_take (HE2.out.below hSd) k) ?_; intro a4 n4 c4 w4 hn4 hO4 hB4; have hS4 : Since w2 w4 := Below.trans hSd hB4.out; have r0' := Since.cell hS4 r0; have r1' := Since.cell hS4 r1)
              | (refine step_rows rfl (.tmp 34) (.tmp 37) 36 rfl RRat 25 16 _ Try.underlying36 Try.infoRat rfl (by decide) (w2.drew.alloc (.cells #[.int .i64 n, .int .i64 d] 25)).heap.size (.slice none 0 0) [] (P.take k) ⟨b, 0, none⟩ k cap rfl rfl HMK.out (ROwn.nil _ _ _ _) (Nat.le_refl _) hl0 (part_take (HE2.out.below hSa) k) ?_; intro a4 n4 c4 w4 hn4 hO4 hB4)
              | (refine step_rows rfl (.tmp 38) (.tmp 40) 36 rfl RRat 25 16 _ Try.underlying36 Try.infoRat rfl (by decide) w2.heap.size (.slice a4 n4 c4) (P.take k) [(n, d)] ⟨w4.heap.size, 0, none⟩ 1 1 rfl rfl rfl (hO4.out.below ((Below.refl _ w4).alloc (Nat.le_refl _) _)) (Nat.le_trans (Below.size hS4) (Below.size ((Below.refl _ w4).alloc (Nat.le_refl _) _))) hl1 (new_rat w4 n d _) ?_; intro a5 n5 c5 w5 hn5 hO5 hB5; have HO5 := hO5; have HB5 : Hid (Since w2 w5) := Lib.hid (Below.trans (Below.alloc hS4 (Below.size hS4) _) hB5.out))
              | (refine step_rows rfl (.tmp 38) (.tmp 40) 36 rfl RRat 25 16 _ Try.underlying36 Try.infoRat rfl (by decide) (w2.drew.alloc (.cells #[.int .i64 n, .int .i64 d] 25)).heap.size (.slice a4 n4 c4) (P.take k) [(n, d)] ⟨w2.drew.heap.size, 0, none⟩ 1 1 rfl rfl rfl hO4.out (Below.size hB4.out) hl1 (new_rat_kept hB4.out) ?_; intro a5 n5 c5 w5 hn5 hO5 hB5; have HO5 := Lib.hid (hO5.out.base (B' := w2.heap.size) (Below.size hSa)); have HB5 : Hid (Since w2 w5) := Lib.hid (Below.trans hSa ((Below.trans hB4.out hB5.out).mono (Below.size hSa)))))
            all_goals
              have HE5 := Lib.hid (HE2.out.below HB5.out)
              clear HE2 HX2 r0 r1 r2 hS0 hSd hSa
              have HL5 : Hid (([(n, d)] : List (Int × Int)).length = 1) := Lib.hid rfl
              have hl2 : (P.take k ++ [(n, d)]).length + (m - k) ≤ 1000000000 := by rw [List.length_append, ← HMK.out]; simp; omega
              have hdl : m - k = (P.drop k).length := by rw [List.length_drop, HN.out]
              have HDL := Lib.hid hdl
              clear hdl
              have hm1 : k ≤ m := by omega
              have hm2 : (k : Int) ≤ (m : Int) := by omega
              have hck : ¬ cap = k := by omega
              have hk3 : k < m := by omega
              go_wp2_with (at_builtin; refine push_rows rfl _ _ 36 rfl RRat 25 16 _ Try.underlying36 Try.infoRat rfl (by decide) w2.heap.size (.slice a5 n5 c5) (P.take k ++ [(n, d)]) (P.drop k) rfl b (k * 2) (m - k) (cap - k) HDL.out rfl HO5.out (Below.size HB5.out) hl2 (fun j u hu => by have := part_drop HE5.out k j u hu; rwa [add_addr] at this) ?_; intro a6 n6 c6 w6 hn6 hO6 hB6)
              have HV6 : Hid (PSl w6 (.slice a6 n6 c6) (putP P (n, d) k)) := by
                show PSl _ _ _
                rw [HV.out]
                exact hO6.out.psl (by simp; omega)
              have HB6 := Lib.hid ((HB2.out.trans (Below.mono HB5.out HB2.out.size)).trans (hB6.out.mono HB2.out.size))
              clear hO6 hB6 HO5 HB5 HV
              go_wp2
              go_ret
              exact putOut_of HP.out HR.out HA.out HV6.out HB6.out
    · have hkm : k = m := by omega
      subst hkm
      have HA : Hid (PutAt P (n, d) k) := ⟨by rw [HN.out]; omega, hF.out, fun p hp => by rw [List.getElem?_eq_none (by rw [HN.out]; omega)] at hp; cases hp⟩
      have HV : Hid (putP P (n, d) k = P.take k ++ [(n, d)] ++ P.drop k) := by
        show _ = _
        unfold putP
        rw [if_neg (fun h => by rw [List.getElem?_eq_none (by rw [HN.out]; omega)] at h; cases h)]
      have HEB := Lib.hid (HE.out.below hB.out)
      clear hlt KL
      rename World => wo
      by_cases h0 : k = 0
      · skip
        rcases HE.out with ⟨ha, hP0⟩ | ⟨hp, _⟩
        rotate_right 1
        · exact absurd hp (by rw [HN.out, h0]; omega)
        · subst h0
          cases ha
          have HP0 := Lib.hid hP0
          clear hP0
          go_wp2_with fail
          go_quiet (fail)
          go_wp2_with fail
          go_cut [32] (fun v wx => v = .bool false ∧ Hid (Since wo wx))
          case first =>
            go_quiet (fail)
            go_wp2_with fail
            go_meet
            exact ⟨rfl, Lib.hid (below_drewN (below_drewN (Below.refl _ _) _) _)⟩
          case rest =>
            obtain ⟨rfl, hS⟩ := hcut
            rename World => w2
            have HB2 := Lib.hid (hB.out.trans (Below.mono hS.out hB.out.size))
            have HX2 := Lib.hid (hX.out.keep hS.out)
            obtain ⟨r0, r1, -, -, r2⟩ := HX2.out.open2
            have hS0 : Since w2 w2 := Below.refl _ _
            have hSd : Since w2 w2.drew := Below.drew hS0
            have hSa : Since w2 (w2.drew.alloc (.cells #[.int .i64 n, .int .i64 d] 25)) := Below.alloc hSd (Nat.le_refl _) _
            clear HEB hB hX hS
            have hl1 : ([] : List (Int × Int)).length + 1 ≤ 1000000000 := by simp
            go_upto_region 7 with (fail)
            go_region_law ((refine step_rows rfl (.tmp 38) (.tmp 40) 36 rfl RRat 25 16 _ Try.underlying36 Try.infoRat rfl (by decide) (w2.drew.alloc (.cells #[.int .i64 n, .int .i64 d] 25)).heap.size (.slice none 0 0) [] [(n, d)] ⟨w2.drew.heap.size, 0, none⟩ 1 1 rfl rfl rfl (ROwn.nil _ _ _ _) (Nat.le_refl _) hl1 (new_rat _ n d _) ?_; intro a5 n5 c5 w5 hn5 hO5 hB5; have HO5 := Lib.hid (hO5.out.base (B' := w2.heap.size) (Below.size hSa)); have HB5 : Hid (Since w2 w5) := Lib.hid (Below.trans hSa (hB5.out.mono (Below.size hSa))); obtain ⟨g5, rfl, -, hc5, -⟩ := HO5.out.els.get (j := 0) (by rw [hn5.out]; simp)))
            all_goals
              clear HX2 r0 r1 r2 hS0 hSd hSa
              have HV6 : Hid (PSl w5 (.slice (some ⟨g5, 0, none⟩) n5 c5) (putP P (n, d) 0)) := by
                show PSl _ _ _
                rw [HV.out, HP0.out]
                exact HO5.out.psl (by simp)
              have HB6 := Lib.hid (HB2.out.trans (Below.mono HB5.out HB2.out.size))
              clear HO5 HB5 HV
              try go_wp2
              go_ret
              exact putOut_of HP.out HR.out HA.out HV6.out HB6.out
      · obtain ⟨b, rfl, -, hcap, -⟩ := HE.out.els.get (j := 0) (by omega)
        have HK0 := Lib.hid h0
        clear h0
        go_wp2_with fail
        go_quiet (fail)
        go_wp2_with fail
        go_cut [32] (fun v wx => v = .bool false ∧ Hid (Since wo wx))
        case first =>
          go_quiet (fail)
          go_wp2_with fail
          go_meet
          exact ⟨rfl, Lib.hid (below_drewN (below_drewN (Below.refl _ _) _) _)⟩
        case rest =>
          obtain ⟨rfl, hS⟩ := hcut
          rename World => w2
          have HB2 := Lib.hid (hB.out.trans (Below.mono hS.out hB.out.size))
          have HX2 := Lib.hid (hX.out.keep hS.out)
          obtain ⟨r0, r1, -, -, r2⟩ := HX2.out.open2
          have hS0 : Since w2 w2 := Below.refl _ _
          have hSd : Since w2 w2.drew := Below.drew hS0
          have hSa : Since w2 (w2.drew.alloc (.cells #[.int .i64 n, .int .i64 d] 25)) := Below.alloc hSd (Nat.le_refl _) _
          have HE2 := Lib.hid (HEB.out.els.below hS.out)
          clear HEB hB hX hS
          have hkc : k ≤ cap := hcap
          have hmk : k = (P.take k).length := by rw [List.length_take, HN.out]; omega
          have HMK := Lib.hid hmk
          clear hmk
          have hl0 : ([] : List (Int × Int)).length + k ≤ 1000000000 := by simp; omega
          have hl1 : (P.take k).length + 1 ≤ 1000000000 := by rw [← HMK.out]; omega
          by_cases hck : cap = k
          · have hck2 : k = cap := hck.symm
            subst hck2
            clear hck
            go_upto_region 7 with (fail)
            go_region_law (first
              | (refine step_rows rfl (.tmp 34) (.tmp 37) 36 rfl RRat 25 16 _ Try.underlying36 Try.infoRat rfl (by decide) w2.heap.size (.slice none 0 0) [] (P.take k) ⟨b, 0, none⟩ k k rfl rfl HMK.out (ROwn.nil _ _ _ _) (Below.size hSd) hl0 (part_take (HE2.out.below hSd) k) ?_; intro a4 n4 c4 w4 hn4 hO4 hB4; have hS4 : Since w2 w4 := Below.trans hSd hB4.out; have r0' := Since.cell hS4 r0; have r1' := Since.cell hS4 r1)
              | (refine step_rows rfl (.tmp 34) (.tmp 37) 36 rfl RRat 25 16 _ Try.underlying36 Try.infoRat rfl (by decide) (w2.drew.alloc (.cells #[.int .i64 n, .int .i64 d] 25)).heap.size (.slice none 0 0) [] (P.take k) ⟨b, 0, none⟩ k k rfl rfl HMK.out (ROwn.nil _ _ _ _) (Nat.le_refl _) hl0 (part_take (HE2.out.below hSa) k) ?_; intro a4 n4 c4 w4 hn4 hO4 hB4)
              | (refine step_rows rfl (.tmp 38) (.tmp 40) 36 rfl RRat 25 16 _ Try.underlying36 Try.infoRat rfl (by decide) w2.heap.size (.slice a4 n4 c4) (P.take k) [(n, d)] ⟨w4.heap.size, 0, none⟩ 1 1 rfl rfl rfl (hO4.out.below ((Below.refl _ w4).alloc (Nat.le_refl _) _)) (Nat.le_trans (Below.size hS4) (Below.size ((Below.refl _ w4).alloc (Nat.le_refl _) _))) hl1 (new_rat w4 n d _) ?_; intro a5 n5 c5 w5 hn5 hO5 hB5; have HO5 := hO5; have HB5 : Hid (Since w2 w5) := Lib.hid (Below.trans (Below.alloc hS4 (Below.size hS4) _) hB5.out); obtain ⟨g5, rfl, -, hc5, -⟩ := HO5.out.els.get (j := 0) (by rw [hn5.out]; omega))
              | (refine step_rows rfl (.tmp 38) (.tmp 40) 36 rfl RRat 25 16 _ Try.underlying36 Try.infoRat rfl (by decide) (w2.drew.alloc (.cells #[.int .i64 n, .int .i64 d] 25)).heap.size (.slice a4 n4 c4) (P.take k) [(n, d)] ⟨w2.drew.heap.size, 0, none⟩ 1 1 rfl rfl rfl hO4.out (Below.size hB4.out) hl1 (new_rat_kept hB4.out) ?_; intro a5 n5 c5 w5 hn5 hO5 hB5; have HO5 := Lib.hid (hO5.out.base (B' := w2.heap.size) (Below.size hSa)); have HB5 : Hid (Since w2 w5) := Lib.hid (Below.trans hSa ((Below.trans hB4.out hB5.out).mono (Below.size hSa))); obtain ⟨g5, rfl, -, hc5, -⟩ := HO5.out.els.get (j := 0) (by rw [hn5.out]; omega)))
            all_goals
              have HB6 := Lib.hid (HB2.out.trans (Below.mono HB5.out HB2.out.size))
              have HV6 : Hid (PSl w5 (.slice (some ⟨g5, 0, none⟩) n5 c5) (putP P (n, d) k)) := by
                show PSl _ _ _
                rw [HV.out, show P.drop k = [] from List.eq_nil_of_length_eq_zero (by rw [List.length_drop, HN.out]; omega), List.append_nil]
                exact HO5.out.psl (by simp)
              clear HE2 HX2 r0 r1 r2 hS0 hSd hSa HO5 HB5 HV
              try go_wp2
              go_ret
              exact putOut_of HP.out HR.out HA.out HV6.out HB6.out
          · have HCK := hck
            go_upto_region 7 with (fail)
            go_region_law (first
              | (refine step_rows rfl (.tmp 34) (.tmp 37) 36 rfl RRat 25 16 _ Try.underlying36 Try.infoRat rfl (by decide) w2.heap.size (.slice none 0 0) [] (P.take k) ⟨b, 0, none⟩ k cap rfl rfl HMK.out (ROwn.nil _ _ _ _) (Below.size hSd) hl0 (part_take (HE2.out.below hSd) k) ?_; intro a4 n4 c4 w4 hn4 hO4 hB4; have hS4 : Since w2 w4 := Below.trans hSd hB4.out; have r0' := Since.cell hS4 r0; have r1' := Since.cell hS4 r1)
              | (refine step_rows rfl (.tmp 34) (.tmp 37) 36 rfl RRat 25 16 _ Try.underlying36 Try.infoRat rfl (by decide) (w2.drew.alloc (.cells #[.int .i64 n, .int .i64 d] 25)).heap.size (.slice none 0 0) [] (P.take k) ⟨b, 0, none⟩ k cap rfl rfl HMK.out (ROwn.nil _ _ _ _) (Nat.le_refl _) hl0 (part_take (HE2.out.below hSa) k) ?_; intro a4 n4 c4 w4 hn4 hO4 hB4)
              | (refine step_rows rfl (.tmp 38) (.tmp 40) 36 rfl RRat 25 16 _ Try.underlying36 Try.infoRat rfl (by decide) w2.heap.size (.slice a4 n4 c4) (P.take k) [(n, d)] ⟨w4.heap.size, 0, none⟩ 1 1 rfl rfl rfl (hO4.out.below ((Below.refl _ w4).alloc (Nat.le_refl _) _)) (Nat.le_trans (Below.size hS4) (Below.size ((Below.refl _ w4).alloc (Nat.le_refl _) _))) hl1 (new_rat w4 n d _) ?_; intro a5 n5 c5 w5 hn5 hO5 hB5; have HO5 := hO5; have HB5 : Hid (Since w2 w5) := Lib.hid (Below.trans (Below.alloc hS4 (Below.size hS4) _) hB5.out); obtain ⟨g5, rfl, -, hc5, -⟩ := HO5.out.els.get (j := 0) (by rw [hn5.out]; omega))
              | (refine step_rows rfl (.tmp 38) (.tmp 40) 36 rfl RRat 25 16 _ Try.underlying36 Try.infoRat rfl (by decide) (w2.drew.alloc (.cells #[.int .i64 n, .int .i64 d] 25)).heap.size (.slice a4 n4 c4) (P.take k) [(n, d)] ⟨w2.drew.heap.size, 0, none⟩ 1 1 rfl rfl rfl hO4.out (Below.size hB4.out) hl1 (new_rat_kept hB4.out) ?_; intro a5 n5 c5 w5 hn5 hO5 hB5; have HO5 := Lib.hid (hO5.out.base (B' := w2.heap.size) (Below.size hSa)); have HB5 : Hid (Since w2 w5) := Lib.hid (Below.trans hSa ((Below.trans hB4.out hB5.out).mono (Below.size hSa))); obtain ⟨g5, rfl, -, hc5, -⟩ := HO5.out.els.get (j := 0) (by rw [hn5.out]; omega)))
            all_goals
              have HB6 := Lib.hid (HB2.out.trans (Below.mono HB5.out HB2.out.size))
              have HV6 : Hid (PSl w5 (.slice (some ⟨g5, 0, none⟩) n5 c5) (putP P (n, d) k)) := by
                show PSl _ _ _
                rw [HV.out, show P.drop k = [] from List.eq_nil_of_length_eq_zero (by rw [List.length_drop, HN.out]; omega), List.append_nil]
                exact HO5.out.psl (by simp)
              clear HE2 HX2 r0 r1 r2 hS0 hSd hSa HO5 HB5 HV
              try go_wp2
              go_ret
              exact putOut_of HP.out HR.out HA.out HV6.out HB6.out

end Go.Proofs.Ytimbgjpjgbjnkaa

