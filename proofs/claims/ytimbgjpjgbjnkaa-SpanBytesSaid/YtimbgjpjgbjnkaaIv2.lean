/- Contracts of the reference of span: Set; how many intervals sets have. -/
import Derived.Test.YtimbgjpjgbjnkaaIv1
import Derived.Test.YtimbgjpjgbjnkaaRop
import Derived.Test.YtimbgjpjgbjnkaaOpsEx
namespace Go.Proofs.Ytimbgjpjgbjnkaa
open Go.RowKit Go.Shelf

theorem len_subset : ∀ {l B : List Int}, l.Nodup → (∀ z ∈ l, z ∈ B) → l.length ≤ B.length
  | [], B, _, _ => Nat.zero_le _
  | a :: l, B, hn, hs => by
    have ha := hs a (List.mem_cons_self ..)
    have hn' := List.nodup_cons.1 hn
    have := len_subset (l := l) (B := B.erase a) hn'.2 fun z hz => by
      have hza : z ≠ a := fun e => hn'.1 (e ▸ hz)
      exact (List.mem_erase_of_ne hza).2 (hs z (List.mem_cons_of_mem _ hz))
    rw [List.length_erase_of_mem ha] at this
    have hp : 0 < B.length := List.length_pos_of_mem ha
    rw [List.length_cons]
    omega

/-- Where a set begins. -/
def Rise (S : Int → Prop) (κ : Int) : Prop := S κ ∧ ¬ S (κ - 1)

theorem Fit.froms {L : List Iv} (h : Fit L) : (L.map fun x => x.from.key).Nodup := by
  induction L with
  | nil => exact List.nodup_nil
  | cons x xs ih =>
    rw [List.map_cons, List.nodup_cons]
    refine ⟨fun hm => ?_, ih h.tail⟩
    obtain ⟨y, hy, e⟩ := List.mem_map.1 hm
    have h1 := h.gap y hy
    have h2 := (good_parts h.head).2.2
    omega

theorem Fit.rise {L : List Iv} (h : Fit L) : ∀ x ∈ L, Rise (inL L) x.from.key := by
  induction L with
  | nil => intro x hx; cases hx
  | cons y ys ih =>
    intro x hx
    have hy := (good_parts h.head).2.2
    rcases List.mem_cons.1 hx with rfl | hx
    · refine ⟨inL_cons.2 (.inl ⟨Int.le_refl _, hy⟩), fun hh => ?_⟩
      rcases inL_cons.1 hh with ⟨h1, _⟩ | ⟨z, hz, h1, _⟩
      · omega
      · have := h.gap z hz
        omega
    · obtain ⟨h1, h2⟩ := ih h.tail x hx
      refine ⟨inL_cons.2 (.inr h1), fun hh => ?_⟩
      rcases inL_cons.1 hh with ⟨_, h3⟩ | h3
      · have := h.gap x hx
        omega
      · exact h2 h3

theorem fit_count {L : List Iv} {S : Int → Prop} {B : List Int} (h : Fit L) (hS : ∀ κ, inL L κ ↔ S κ) (hB : ∀ κ, Rise S κ → κ ∈ B) : L.length ≤ B.length := by
  have h1 := len_subset h.froms (B := B) fun z hz => by
    obtain ⟨x, hx, rfl⟩ := List.mem_map.1 hz
    have := h.rise x hx
    exact hB _ ⟨(hS _).1 this.1, fun hh => this.2 ((hS _).2 hh)⟩
  rwa [List.length_map] at h1

theorem rise_in {xs : List Iv} {κ : Int} (h : Rise (inL xs) κ) : κ ∈ xs.map fun x => x.from.key := by
  obtain ⟨⟨x, hx, h1, h2⟩, h3⟩ := h
  refine List.mem_map.2 ⟨x, hx, ?_⟩
  apply Classical.byContradiction
  intro hn
  exact h3 ⟨x, hx, by omega, by omega⟩

theorem fall_in {xs : List Iv} {κ : Int} (h1 : inL xs (κ - 1)) (h2 : ¬ inL xs κ) : κ ∈ xs.map fun x => x.to.key := by
  obtain ⟨x, hx, h3, h4⟩ := h1
  refine List.mem_map.2 ⟨x, hx, ?_⟩
  apply Classical.byContradiction
  intro hn
  exact h2 ⟨x, hx, by omega, by omega⟩

/-- The set is there, and has but so many intervals. -/
theorem theSet_fit {S : Int → Prop} (h : ∃ L, Fit L ∧ ∀ κ, inL L κ ↔ S κ) : Fit (theSet S) ∧ ∀ κ, inL (theSet S) κ ↔ S κ := by
  unfold theSet
  rw [dif_pos h]
  exact Classical.choose_spec h

theorem Fit.wf {L : List Iv} (h : Fit L) : ∀ x ∈ L, x.wf := by
  intro x hx
  have hg := h.good hx
  have hz : I64 0 := ⟨by decide, by decide⟩
  unfold Iv.good at hg
  simp only [Bool.and_eq_true, decide_eq_true_eq] at hg
  have h1 : I64 x.a ∧ I64 x.b := by
    rcases end_ok hg.1.1 with ⟨_, e1, e2, _⟩ | ⟨_, hs⟩
    · rw [e1, e2]; exact ⟨hz, hz⟩
    · exact ok_nums hs.1
  have h2 : I64 x.c ∧ I64 x.d := by
    rcases end_ok hg.1.2 with ⟨_, e1, e2, _⟩ | ⟨_, hs⟩
    · rw [e1, e2]; exact ⟨hz, hz⟩
    · exact ok_nums hs.1
  exact ⟨h1.1, h1.2, h2.1, h2.2⟩

theorem new_iv (w : World) (x : Iv) (T : TypeId) (j : Nat) (u : Value) (hu : (([x] : List Iv).flatMap RIv.cells)[j]? = some u) : (w.alloc (.cells #[.int .i64 x.a, .int .i64 x.b, .int .i64 x.c, .int .i64 x.d, .bool x.p, .bool x.q, .bool x.r, .bool x.s] T)).cell? ((⟨w.heap.size, 0, none⟩ : Addr).add j) = some u := by
  rw [add_addr, Nat.zero_add]
  have hb := heap_new w (.cells #[.int .i64 x.a, .int .i64 x.b, .int .i64 x.c, .int .i64 x.d, .bool x.p, .bool x.q, .bool x.r, .bool x.s] T)
  unfold World.cell?
  simp only [hb, Option.isSome_none, Bool.false_eq_true, if_false]
  rw [← Array.getElem?_toList]
  exact hu

/-- A set, as the generators make it. -/
def SetOut (most : Nat) (w : World) (e : Ending) (w' : World) : Prop := ∃ xs a n c, Fit xs ∧ xs.length ≤ most ∧ e = .returned (.slice a n c) ∧ Hid (REls RIv w' (.slice a n c) xs) ∧ Hid (Below w.heap.size w w')

theorem norm_len {all : List Iv} (hg : ∀ x ∈ all, x.good = true) (hex : ∃ L, Fit L ∧ ∀ κ, inL L κ ↔ inL all κ) : Fit (normL all).1 ∧ (normL all).1.length ≤ all.length := by
  obtain ⟨h1, h2⟩ := theSet_fit hex
  have h3 : (theSet (inL all)).length ≤ all.length := by
    have := fit_count h1 h2 (B := all.map fun x => x.from.key) fun κ h => rise_in h
    rwa [List.length_map] at this
  unfold normL
  rw [if_pos hg]
  unfold limL
  split
  · exact ⟨Fit.nil, Nat.zero_le _⟩
  · exact ⟨h1, h3⟩

set_option maxHeartbeats 8000000 in
set_option maxRecDepth 100000 in
theorem set_any (a : Option Addr) (n c : Nat) (zs : List Int) (most : Nat) (w : World) (h : Els .i64 w (.slice a n c) zs) (hz : ∀ z ∈ zs, (Lit.int .i64 z).wf = true) (hm : most ≤ 100) :
    Calls Try.prog 14 #[.slice a n c, .int .i64 (most : Int)] w (SetOut most w) := by
  have hn := h.len
  have HE := Lib.hid h
  have HN := Lib.hid hn
  have HZ := Lib.hid hz
  have KI := Lib.hid fun (p q : Int) (hp : (Lit.int .i64 p).wf = true) (hq : (Lit.int .i64 q).wf = true) W => interval04_any p q W hp hq
  have KN := Lib.hid fun (sv : Value) (xs : List Iv) W (h1 : REls RIv W sv xs) (h2 : xs.length ≤ 100000) => gnormal_any sv xs W h1 h2
  clear h hn hz
  go_enter Try.func14, Try.ntmps14
  go_wp2
  go_loopw [5, 6] (fun v x wr => ∃ i : Nat, ∃ L ao no co, i ≤ n + 1 ∧ i ≤ 2 * no ∧ x = .int .i64 i ∧ v = .slice ao no co ∧ no ≤ most ∧ Hid (∀ x ∈ L, x.good = true) ∧ Hid (ROwn RIv 27 w.heap.size wr (.slice ao no co) L) ∧ Hid (Below w.heap.size w wr)) (fun _ x _ => n + 2 - (intOf x).toNat)
  case atStart => exact ⟨0, [], none, 0, 0, by omega, by omega, rfl, rfl, by omega, fun x hx => (by cases hx), ROwn.nil _ _ _ _, Below.refl _ _⟩
  case round =>
    obtain ⟨i, L, ao, no, co, hi, hi2, rfl, rfl, hno, hG, hO, hB⟩ := hrel
    by_cases hgo : i + 1 < n ∧ no < most
    · obtain ⟨hlt, hlm⟩ := hgo
      have n1 : (i : Int) + 1 < n := by omega
      have n2 : (no : Int) < most := by omega
      have n3 : (i : Int) < n := by omega
      have n4 : 0 ≤ (i : Int) + 1 := by omega
      have n5 : ((i : Int) + 1).toNat = i + 1 := by omega
      have n6 : IntKind.i64.wrap ((i : Int) + 1) = (i : Int) + 1 := IntWalk.i64_in _ (by omega)
      obtain ⟨b, off, rfl, hc0⟩ := (HE.out.below hB.out).at i (by omega)
      obtain ⟨b', off', he, hc1⟩ := (HE.out.below hB.out).at (i + 1) hlt
      cases he
      have kI := KI.out (zs[i]?.getD 0) (zs[i + 1]?.getD 0) (by rw [List.getElem?_eq_getElem (by rw [← HN.out]; omega)]; exact HZ.out _ (List.getElem_mem _)) (by rw [List.getElem?_eq_getElem (by rw [← HN.out]; exact hlt)]; exact HZ.out _ (List.getElem_mem _))
      generalize zs[i]?.getD 0 = z0 at *
      generalize zs[i + 1]?.getD 0 = z1 at *
      have KII := Lib.hid kI
      have hln := hO.out.els.len
      have hLl : L.length + 1 ≤ 1000000000 := by omega
      have HLN := Lib.hid hln
      clear kI hln
      have hSd : Since wr wr.drew := Below.drew (Below.refl _ _)
      have hz0 := hB.out.size
      go_wp2_with fail
      go_region_law (first
        | (go_simp; go_at_call 9; refine (KII.out _).mono ?_; rintro e w3 ⟨x, hgx, rfl, hr⟩; obtain ⟨xa, xb, xc, xd, xp, xq, xr, xs'⟩ := x; unfold Iv.v; have HGX := Lib.hid hgx; have S3 : Since wr w3 := Since.step hSd hr; have HS3 := Lib.hid S3; clear hgx hr S3; dsimp only)
        | (refine step_rows rfl (.tmp 22) (.tmp 33) 23 rfl RIv 27 40 _ Try.underlying23 Try.infoIv rfl (by decide) w.heap.size (.slice ao no co) L [⟨xa, xb, xc, xd, xp, xq, xr, xs'⟩] ⟨w3.heap.size, 0, none⟩ 1 1 rfl rfl rfl (hO.out.below (Below.alloc HS3.out (Below.size HS3.out) _)) (Nat.le_trans hz0 (Below.size (Below.alloc HS3.out (Below.size HS3.out) _))) hLl (new_iv w3 _ _) ?_; intro a5 n5 c5 w5 hn5 hO5 hB5; have HB5 : Hid (Below w.heap.size w w5) := Lib.hid ((hB.out.trans (Below.mono (Below.alloc HS3.out (Below.size HS3.out) _) hB.out.size)).trans hB5.out)))
      all_goals
        have HG5 : Hid (∀ x ∈ L ++ [⟨xa, xb, xc, xd, xp, xq, xr, xs'⟩], x.good = true) := Lib.hid fun x hx => by
          rcases List.mem_append.1 hx with hx | hx
          · exact hG.out x hx
          · rw [List.mem_singleton.1 hx]; exact HGX.out
        have hi5 : i + 2 ≤ 2 * n5 := by rw [hn5.out, ← HLN.out]; omega
        have hno5 : n5 ≤ most := by rw [hn5.out, ← HLN.out]; omega
        clear hc0 hc1 hSd
        go_wp2
        go_roundw
        case rel => exact ⟨i + 2, _, a5, n5, c5, by omega, hi5, by go_num, rfl, hno5, HG5, hO5, HB5⟩
        case measure => simp [intOf]; omega
    · have hc2 : (n ≤ i + 1) ∨ (i + 1 < n ∧ most ≤ no) := by omega
      have hll := hO.out.els.len
      have KNN := Lib.hid (KN.out (.slice ao no co) L wr hO.out.els (by omega))
      have HNL := Lib.hid (norm_len hG.out (norm_exists L hG.out))
      have HLL := Lib.hid hll
      clear hgo hll
      generalize normL L = R at *
      obtain ⟨RL, RE⟩ := R
      simp only at *
      rcases hc2 with h1 | ⟨h1, h2⟩
      · have n1 : (n : Int) ≤ (i : Int) + 1 := by omega
        go_wp2_with fail
        refine (KNN.out).mono ?_
        rintro e w3 ⟨a3, n3, c3, rfl, hE3, hB3⟩
        have HB3 := Lib.hid (hB.out.trans (hB3.out.mono hB.out.size))
        clear hB3
        go_wp2
        go_ret
        exact ⟨RL, a3, n3, c3, HNL.out.1, by have := HNL.out.2; have := HLL.out; omega, rfl, hE3, HB3⟩
      · have n1 : (i : Int) + 1 < (n : Int) := by omega
        have n2 : (most : Int) ≤ (no : Int) := by omega
        go_wp2_with fail
        refine (KNN.out).mono ?_
        rintro e w3 ⟨a3, n3, c3, rfl, hE3, hB3⟩
        have HB3 := Lib.hid (hB.out.trans (hB3.out.mono hB.out.size))
        clear hB3
        go_wp2
        go_ret
        exact ⟨RL, a3, n3, c3, HNL.out.1, by have := HNL.out.2; have := HLL.out; omega, rfl, hE3, HB3⟩

end Go.Proofs.Ytimbgjpjgbjnkaa
