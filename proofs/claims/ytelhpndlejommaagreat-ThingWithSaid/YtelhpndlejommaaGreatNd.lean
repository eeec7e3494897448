/- The reference's put. -/
import Derived.Test.YtelhpndlejommaaGreatNaNb
import Derived.Test.YtelhpndlejommaaGreatStp
import Derived.Test.YtelhpndlejommaaGreatSmall
import Derived.Test.YtelhpndlejommaaGreatYh
namespace Go.Proofs.YtelhpndlejommaaGreat
open Go.RowKit Go.Shelf

/-- What was made anew leaves all else alone. -/
theorem PF.fresh {v v' : Value} {w w' : World} (hB : Below w.heap.size w w') (hO : ∀ g, v'.ownBlock = some g → w.heap.size ≤ g) : PF v w w' v' :=
  ⟨⟨hB.size, fun b _ hl => hB.block b hl⟩, fun g e => .inr (hO g e)⟩

/-- What put leaves. -/
def PutOut (B : Nat) (sv : Value) (l : List Int) (w : World) (e : Ending) (w' : World) : Prop := ∃ a m c, e = .returned (.slice a m c) ∧ Hid (Own .i64 3 B w' (.slice a m c) l) ∧ Hid (PF sv w w' (.slice a m c)) ∧ Hid (Below w.heap.size w w')

set_option maxHeartbeats 4000000 in
set_option maxRecDepth 100000 in
theorem put_any (sv : Value) (zs : List Int) (n : Int) (B : Nat) (w : World) (hO : Own .i64 3 B w sv zs) (h0 : zs = [] → sv = .slice none 0 0) (hB : B ≤ w.heap.size) (hl : zs.length ≤ 1000000) :
    Calls Tryz.prog 41 #[sv, .int .i64 n] w (PutOut B sv (putL n zs) w) := by
  obtain ⟨a0, c0, rfl⟩ := hO.els.shape
  have HI := Lib.hid Tryz.infoI64
  have HO := Lib.hid hO
  have HE := Lib.hid hO.els
  obtain ⟨m, hm⟩ : ∃ m, m = zs.length := ⟨_, rfl⟩
  have HM := Lib.hid hm
  rw [← hm] at HO HE hl h0 ⊢
  have HB := Lib.hid hB
  clear hO hm
  go_enter Tryz.func41, Tryz.ntmps41
  go_wp2
  go_loopw [5] (fun x wr => ∃ k : Nat, k ≤ m ∧ x = .int .i64 k ∧ wr = w ∧ Hid (∀ j x, j < k → zs[j]? = some x → x < n)) (fun x _ => m - (intOf x).toNat)
  case atStart => exact ⟨0, by omega, rfl, rfl, Lib.hid fun j x hj => by omega⟩
  case round =>
    obtain ⟨k, hk, rfl, rfl, hlt⟩ := hrel
    by_cases hkm : k < m
    · have i1 : (k : Int) < m := by omega
      obtain ⟨b, off, rfl, hcx⟩ := HE.out.at k hkm
      obtain ⟨z, hz⟩ : ∃ z, zs[k]? = some z := ⟨zs[k]'(by rw [← HM.out]; exact hkm), List.getElem?_eq_getElem _⟩
      rw [hz] at hcx
      simp only [Option.getD_some] at hcx
      by_cases hzn : z < n
      · have HZ : Hid (∀ j x, j < k + 1 → zs[j]? = some x → x < n) := Lib.hid fun j x hj hx => by
          by_cases h : j < k
          · exact hlt.out j x h hx
          · have : j = k := by omega
            subst this
            rw [hz] at hx
            injection hx with hx
            omega
        clear hlt hz
        go_wp2
        go_roundw
        case rel => exact ⟨k + 1, by omega, by go_num, trivial, HZ⟩
        case measure => simp [intOf]; omega
      · by_cases hze : z = n
        · have hp := putL_there n k zs hlt.out (by rw [hz, hze])
          have HF := Lib.hid (show Own .i64 3 B wr (.slice (some ⟨b, off, none⟩) m c0) (putL n zs) by rw [hp]; exact HO.out)
          subst hze
          clear hlt hz hp
          go_wp2
          go_ret
          exact ⟨_, _, _, rfl, HF, Lib.hid (PF.refl _ _), Lib.hid (Below.refl _ _)⟩
        · have hp := putL_at n k zs hlt.out (by rw [← HM.out]; omega) (fun x hx => by rw [hz] at hx; injection hx with hx; omega)
          clear hz
          have hcap : m ≤ c0 := by
            rcases HE.out with ⟨_, hz⟩ | ⟨b', off', cap, hb, he, hl, hc⟩
            · have := HM.out; rw [hz] at this; simp at this; omega
            · cases he; have := HM.out; omega
          have e1 : (0 : Int) ≤ (k : Int) := by omega
          have e2 : (k : Int) ≤ (c0 : Int) := by omega
          have e3 : ((k : Int)).toNat = k := by omega
          have e4 : k ≤ c0 := by omega
          have e5 : (k : Int) ≤ (m : Int) := by omega
          have HT := Lib.hid (els_cut HE.out hk (by omega))
          have HD := Lib.hid (els_rest HE.out hk (by omega))
          have HP := Lib.hid hp
          have hl1 : ([] : List Int).length + (zs.take k).length ≤ 1000000000000 := by have := HM.out; rw [List.length_take]; simp only [List.length_nil]; omega
          have hl2 : ([] ++ zs.take k).length ≤ 1000000000000 := by have := HM.out; rw [List.length_append, List.length_take]; simp only [List.length_nil]; omega
          have hl3 : ([] ++ zs.take k ++ [n]).length + (zs.drop k).length ≤ 1000000000000 := by have := HM.out; rw [List.length_append, List.length_append, List.length_take, List.length_drop]; simp only [List.length_nil, List.length_singleton]; omega
          clear hlt hp h0
          go_wp2_with (at_builtin; first | (refine push_all rfl _ _ 22 rfl .i64 3 8 Tryz.underlying22 HI.out (by decide) wr.heap.size (.slice none 0 0) [] (.slice (some ⟨b, off, none⟩) k c0) (zs.take k) rfl rfl (World.ownsRow_nil _ _ _ _) HT.out (Nat.le_refl _) hl1 ?_; intro a1 n1 c1 w1 hn1 hO1 hB1) | (refine push_own rfl _ _ 22 rfl .i64 3 8 Tryz.underlying22 HI.out (by decide) wr.heap.size (.slice a1 n1 c1) ([] ++ zs.take k) n _ rfl rfl hO1.out hB1.out.size hl2 ?_; intro a2 n2 c2 w2 hn2 hO2 hB2; have HS2 : Hid (Since wr w2) := Lib.hid (Below.trans hB1.out hB2.out)) | (refine push_all rfl _ _ 22 rfl .i64 3 8 Tryz.underlying22 HI.out (by decide) wr.heap.size (.slice a2 n2 c2) ([] ++ zs.take k ++ [n]) (.slice (some ⟨b, off + k, none⟩) (m - k) (c0 - k)) (zs.drop k) rfl rfl hO2.out (HD.out.below HS2.out) HS2.out.size hl3 ?_; intro a3 n3 c3 w3 hn3 hO3 hB3))
          go_ret
          exact ⟨_, _, _, rfl, Lib.hid (by rw [HP.out]; have := own_baseR hO3.out HB.out; simpa using this), Lib.hid (PF.fresh (Below.trans HS2.out hB3.out) fun g e => (World.ownsRow.lt hO3.out g e).1), Lib.hid (Below.trans HS2.out hB3.out)⟩
    · have i1 : ¬ (k : Int) < m := by omega
      have hp := putL_at n k zs hlt.out (by rw [← HM.out]; omega) (fun x hx => by have := (List.getElem?_eq_some_iff.1 hx).1; have := HM.out; omega)
      have hkm2 : k = m := by omega
      subst hkm2
      by_cases hm0 : k = 0
      · subst hm0
        have hzs : zs = [] := List.eq_nil_of_length_eq_zero HM.out.symm
        have h1 := h0 hzs
        injection h1 with h1 h2 h3
        subst h1
        subst h3
        have HT : Hid (Els .i64 wr (.slice none 0 0) (zs.take 0)) := Lib.hid (by rw [hzs]; exact .inl ⟨.inl rfl, by simp⟩)
        have HD : Hid (Els .i64 wr (.slice none 0 0) (zs.drop 0)) := Lib.hid (by rw [hzs]; exact .inl ⟨.inl rfl, by simp⟩)
        clear hzs
        have HP := Lib.hid hp
        have hl1 : ([] : List Int).length + (zs.take 0).length ≤ 1000000000000 := by have := HM.out; rw [List.length_take]; simp only [List.length_nil]; omega
        have hl2 : ([] ++ zs.take 0).length ≤ 1000000000000 := by have := HM.out; rw [List.length_append, List.length_take]; simp only [List.length_nil]; omega
        have hl3 : ([] ++ zs.take 0 ++ [n]).length + (zs.drop 0).length ≤ 1000000000000 := by have := HM.out; rw [List.length_append, List.length_append, List.length_take, List.length_drop]; simp only [List.length_nil, List.length_singleton]; omega
        clear hlt hp h0
        go_wp2_with (at_builtin; first | (refine push_all rfl _ _ 22 rfl .i64 3 8 Tryz.underlying22 HI.out (by decide) wr.heap.size (.slice none 0 0) [] (.slice none 0 0) (zs.take 0) rfl rfl (World.ownsRow_nil _ _ _ _) HT.out (Nat.le_refl _) hl1 ?_; intro a1 n1 c1 w1 hn1 hO1 hB1) | (refine push_own rfl _ _ 22 rfl .i64 3 8 Tryz.underlying22 HI.out (by decide) wr.heap.size (.slice a1 n1 c1) ([] ++ zs.take 0) n _ rfl rfl hO1.out hB1.out.size hl2 ?_; intro a2 n2 c2 w2 hn2 hO2 hB2; have HS2 : Hid (Since wr w2) := Lib.hid (Below.trans hB1.out hB2.out)) | (refine push_all rfl _ _ 22 rfl .i64 3 8 Tryz.underlying22 HI.out (by decide) wr.heap.size (.slice a2 n2 c2) ([] ++ zs.take 0 ++ [n]) (.slice none 0 0) (zs.drop 0) rfl rfl hO2.out (HD.out.below HS2.out) HS2.out.size hl3 ?_; intro a3 n3 c3 w3 hn3 hO3 hB3))
        go_ret
        exact ⟨_, _, _, rfl, Lib.hid (by rw [HP.out]; have := own_baseR hO3.out HB.out; simpa using this), Lib.hid (PF.fresh (Below.trans HS2.out hB3.out) fun g e => (World.ownsRow.lt hO3.out g e).1), Lib.hid (Below.trans HS2.out hB3.out)⟩
      · obtain ⟨b, off, rfl, -⟩ := HE.out.at 0 (by omega)
        by_cases hce : c0 = k
        · have hce2 := hce.symm
          subst hce2
          have hcap : k ≤ k := by
            rcases HE.out with ⟨_, hz⟩ | ⟨b', off', cap, hb, he, hl, hc⟩
            · have := HM.out; rw [hz] at this; simp at this; omega
            · cases he; have := HM.out; omega
          have e1 : (0 : Int) ≤ (k : Int) := by omega
          have e2 : (k : Int) ≤ (k : Int) := by omega
          have e3 : ((k : Int)).toNat = k := by omega
          have e4 : k ≤ k := by omega
          have e5 : (k : Int) ≤ (k : Int) := by omega
          have HT := Lib.hid (els_cut HE.out hk (by omega))
          have HD : Hid (Els .i64 wr (.slice (some ⟨b, off, none⟩) 0 0) (zs.drop k)) := Lib.hid (by rw [List.drop_of_length_le (by rw [← HM.out]; exact Nat.le_refl _)]; exact .inl ⟨.inr ⟨_, _, rfl⟩, rfl⟩)
          have HP := Lib.hid hp
          have hl1 : ([] : List Int).length + (zs.take k).length ≤ 1000000000000 := by have := HM.out; rw [List.length_take]; simp only [List.length_nil]; omega
          have hl2 : ([] ++ zs.take k).length ≤ 1000000000000 := by have := HM.out; rw [List.length_append, List.length_take]; simp only [List.length_nil]; omega
          have hl3 : ([] ++ zs.take k ++ [n]).length + (zs.drop k).length ≤ 1000000000000 := by have := HM.out; rw [List.length_append, List.length_append, List.length_take, List.length_drop]; simp only [List.length_nil, List.length_singleton]; omega
          clear hlt hp h0
          go_wp2_with (at_builtin; first | (refine push_all rfl _ _ 22 rfl .i64 3 8 Tryz.underlying22 HI.out (by decide) wr.heap.size (.slice none 0 0) [] (.slice (some ⟨b, off, none⟩) k k) (zs.take k) rfl rfl (World.ownsRow_nil _ _ _ _) HT.out (Nat.le_refl _) hl1 ?_; intro a1 n1 c1 w1 hn1 hO1 hB1) | (refine push_own rfl _ _ 22 rfl .i64 3 8 Tryz.underlying22 HI.out (by decide) wr.heap.size (.slice a1 n1 c1) ([] ++ zs.take k) n _ rfl rfl hO1.out hB1.out.size hl2 ?_; intro a2 n2 c2 w2 hn2 hO2 hB2; have HS2 : Hid (Since wr w2) := Lib.hid (Below.trans hB1.out hB2.out)) | (refine push_all rfl _ _ 22 rfl .i64 3 8 Tryz.underlying22 HI.out (by decide) wr.heap.size (.slice a2 n2 c2) ([] ++ zs.take k ++ [n]) (.slice (some ⟨b, off, none⟩) 0 0) (zs.drop k) rfl rfl hO2.out (HD.out.below HS2.out) HS2.out.size hl3 ?_; intro a3 n3 c3 w3 hn3 hO3 hB3))
          go_ret
          exact ⟨_, _, _, rfl, Lib.hid (by rw [HP.out]; have := own_baseR hO3.out HB.out; simpa using this), Lib.hid (PF.fresh (Below.trans HS2.out hB3.out) fun g e => (World.ownsRow.lt hO3.out g e).1), Lib.hid (Below.trans HS2.out hB3.out)⟩
        · have hck : ¬ c0 = k := hce
          have hcap : k ≤ c0 := by
            rcases HE.out with ⟨_, hz⟩ | ⟨b', off', cap, hb, he, hl, hc⟩
            · have := HM.out; rw [hz] at this; simp at this; omega
            · cases he; have := HM.out; omega
          have e1 : (0 : Int) ≤ (k : Int) := by omega
          have e2 : (k : Int) ≤ (c0 : Int) := by omega
          have e3 : ((k : Int)).toNat = k := by omega
          have e4 : k ≤ c0 := by omega
          have e5 : (k : Int) ≤ (k : Int) := by omega
          have HT := Lib.hid (els_cut HE.out hk (by omega))
          have HD : Hid (Els .i64 wr (.slice (some ⟨b, off + k, none⟩) 0 (c0 - k)) (zs.drop k)) := Lib.hid (by rw [List.drop_of_length_le (by rw [← HM.out]; exact Nat.le_refl _)]; exact .inl ⟨.inr ⟨_, _, rfl⟩, rfl⟩)
          have HP := Lib.hid hp
          have hl1 : ([] : List Int).length + (zs.take k).length ≤ 1000000000000 := by have := HM.out; rw [List.length_take]; simp only [List.length_nil]; omega
          have hl2 : ([] ++ zs.take k).length ≤ 1000000000000 := by have := HM.out; rw [List.length_append, List.length_take]; simp only [List.length_nil]; omega
          have hl3 : ([] ++ zs.take k ++ [n]).length + (zs.drop k).length ≤ 1000000000000 := by have := HM.out; rw [List.length_append, List.length_append, List.length_take, List.length_drop]; simp only [List.length_nil, List.length_singleton]; omega
          clear hlt hp h0
          go_wp2_with (at_builtin; first | (refine push_all rfl _ _ 22 rfl .i64 3 8 Tryz.underlying22 HI.out (by decide) wr.heap.size (.slice none 0 0) [] (.slice (some ⟨b, off, none⟩) k c0) (zs.take k) rfl rfl (World.ownsRow_nil _ _ _ _) HT.out (Nat.le_refl _) hl1 ?_; intro a1 n1 c1 w1 hn1 hO1 hB1) | (refine push_own rfl _ _ 22 rfl .i64 3 8 Tryz.underlying22 HI.out (by decide) wr.heap.size (.slice a1 n1 c1) ([] ++ zs.take k) n _ rfl rfl hO1.out hB1.out.size hl2 ?_; intro a2 n2 c2 w2 hn2 hO2 hB2; have HS2 : Hid (Since wr w2) := Lib.hid (Below.trans hB1.out hB2.out)) | (refine push_all rfl _ _ 22 rfl .i64 3 8 Tryz.underlying22 HI.out (by decide) wr.heap.size (.slice a2 n2 c2) ([] ++ zs.take k ++ [n]) (.slice (some ⟨b, off + k, none⟩) 0 (c0 - k)) (zs.drop k) rfl rfl hO2.out (HD.out.below HS2.out) HS2.out.size hl3 ?_; intro a3 n3 c3 w3 hn3 hO3 hB3))
          go_ret
          exact ⟨_, _, _, rfl, Lib.hid (by rw [HP.out]; have := own_baseR hO3.out HB.out; simpa using this), Lib.hid (PF.fresh (Below.trans HS2.out hB3.out) fun g e => (World.ownsRow.lt hO3.out g e).1), Lib.hid (Below.trans HS2.out hB3.out)⟩

end Go.Proofs.YtelhpndlejommaaGreat
