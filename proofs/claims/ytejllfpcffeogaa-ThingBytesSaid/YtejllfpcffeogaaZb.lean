/- The encoding of things is one; what is read of bytes: mathematics. -/
import Derived.Test.YtejllfpcffeogaaZd
import Derived.Test.YtejllfpcffeogaaCd
namespace Go.Proofs.Ytejllfpcffeogaa
open Go.RowKit Go.Shelf

/-- Values, as they are read. -/
def vaC : Codec Va := ((intC.pair intC).pair intC).iso (fun p => ⟨p.1.1, p.1.2, p.2⟩) (fun v => ((v.t, v.n), v.d)) (fun _ => rfl) (fun _ => rfl)

theorem vaC_good {v : Va} : vaC.good v ↔ v.wf :=
  ⟨fun h => ⟨h.1.1, h.1.2, h.2⟩, fun h => ⟨⟨h.1, h.2.1⟩, h.2.2⟩⟩

theorem vaC_enc (v : Va) : vaC.enc v = Hm.uv (Hm.zig v.t) ++ Hm.uv (Hm.zig v.n) ++ Hm.uv (Hm.zig v.d) := rfl

theorem vaL_enc (vs : List Va) : encs (numsL vs) = vaC.encL vs := by
  induction vs with
  | nil => rfl
  | cons v vs ih =>
    have e : numsL (v :: vs) = [v.t, v.n, v.d] ++ numsL vs := rfl
    unfold Codec.encL at ih ⊢
    rw [e, encs_append, ih, List.map_cons, List.flatten_cons, vaC_enc]
    simp [encs]

theorem enc_split (cs : List Int) (vs : List Va) (ps : List Th) (r : List Int) : (Th.mk cs vs ps).enc ++ r = Hm.uv cs.length ++ encs cs ++ (Hm.uv (Hm.zig (vs.length : Int)) ++ (vaC.encL vs ++ (Hm.uv (Hm.zig (ps.length : Int)) ++ (Th.encL ps ++ r)))) := by
  rw [Th.enc, vaL_enc]
  simp only [List.append_assoc]

mutual
theorem Th.enc_inj : ∀ (t : Th), t.wf → t.wt ≤ 100000000 → ∀ (u : Th), u.wf → u.wt ≤ 100000000 → ∀ r r', t.enc ++ r = u.enc ++ r' → t = u ∧ r = r'
  | .mk cs vs ps, h, hw, .mk cs' vs' ps', h', hw', r, r', he => by
    obtain ⟨⟨⟨c1, c2⟩, c3, c4⟩, c5⟩ := (Th.wf_eq _).1 h
    obtain ⟨⟨⟨d1, d2⟩, d3, d4⟩, d5⟩ := (Th.wf_eq _).1 h'
    simp only [Th.cs, Th.vs, Th.ps] at c1 c2 c3 c4 c5 d1 d2 d3 d4 d5
    rw [Th.wt] at hw hw'
    have l1 := Th.wts_len ps
    have l2 := Th.wts_len ps'
    rw [enc_split, enc_split] at he
    have q1 := rInts_enc cs (Hm.uv (Hm.zig (vs.length : Int)) ++ (vaC.encL vs ++ (Hm.uv (Hm.zig (ps.length : Int)) ++ (Th.encL ps ++ r)))) (nums_of c1) (by omega)
    have q2 := rInts_enc cs' (Hm.uv (Hm.zig (vs'.length : Int)) ++ (vaC.encL vs' ++ (Hm.uv (Hm.zig (ps'.length : Int)) ++ (Th.encL ps' ++ r')))) (nums_of d1) (by omega)
    rw [he, q2] at q1
    simp only [Prod.mk.injEq] at q1
    obtain ⟨rfl, q3, _⟩ := q1
    have p1 := Hm.rU_uv (Hm.zig_lt (n := (vs.length : Int)) (by omega)) (vaC.encL vs ++ (Hm.uv (Hm.zig (ps.length : Int)) ++ (Th.encL ps ++ r)))
    have p2 := Hm.rU_uv (Hm.zig_lt (n := (vs'.length : Int)) (by omega)) (vaC.encL vs' ++ (Hm.uv (Hm.zig (ps'.length : Int)) ++ (Th.encL ps' ++ r')))
    rw [← q3, p2] at p1
    simp only [Prod.mk.injEq] at p1
    obtain ⟨p3, p4, _⟩ := p1
    have hn : vs'.length = vs.length := by
      have := congrArg Hm.unzig p3
      rw [Hm.unzig_zig, Hm.unzig_zig] at this
      omega
    have s1 := vaC.rep_back vs (fun v hv => vaC_good.2 (c3 v hv)) [] (Hm.uv (Hm.zig (ps.length : Int)) ++ (Th.encL ps ++ r))
    have s2 := vaC.rep_back vs' (fun v hv => vaC_good.2 (d3 v hv)) [] (Hm.uv (Hm.zig (ps'.length : Int)) ++ (Th.encL ps' ++ r'))
    rw [← p4, ← hn, s2] at s1
    simp only [Prod.mk.injEq, List.nil_append] at s1
    obtain ⟨rfl, s3, _⟩ := s1
    have t1 := Hm.rU_uv (Hm.zig_lt (n := (ps.length : Int)) (by omega)) (Th.encL ps ++ r)
    have t2 := Hm.rU_uv (Hm.zig_lt (n := (ps'.length : Int)) (by omega)) (Th.encL ps' ++ r')
    rw [← s3, t2] at t1
    simp only [Prod.mk.injEq] at t1
    obtain ⟨t3, t4, _⟩ := t1
    have hm : ps.length = ps'.length := by
      have := congrArg Hm.unzig t3
      rw [Hm.unzig_zig, Hm.unzig_zig] at this
      omega
    obtain ⟨rfl, e⟩ := Th.encL_inj ps c5 (by omega) ps' d5 (by omega) hm r r' t4.symm
    exact ⟨rfl, e⟩
theorem Th.encL_inj : ∀ (ts : List Th), (∀ t ∈ ts, t.wf) → Th.wts ts ≤ 100000000 → ∀ (us : List Th), (∀ u ∈ us, u.wf) → Th.wts us ≤ 100000000 → ts.length = us.length → ∀ r r', Th.encL ts ++ r = Th.encL us ++ r' → ts = us ∧ r = r'
  | [], _, _, [], _, _, _, r, r', he => ⟨rfl, he⟩
  | [], _, _, _ :: _, _, _, hl, _, _, _ => by simp at hl
  | _ :: _, _, _, [], _, _, hl, _, _, _ => by simp at hl
  | t :: ts, h, hw, u :: us, h', hw', hl, r, r', he => by
    rw [Th.wts] at hw hw'
    rw [Th.encL, Th.encL, List.append_assoc, List.append_assoc] at he
    obtain ⟨rfl, e⟩ := Th.enc_inj t (h t (List.mem_cons_self ..)) (by omega) u (h' u (List.mem_cons_self ..)) (by omega) _ _ he
    obtain ⟨rfl, e2⟩ := Th.encL_inj ts (fun x hx => h x (List.mem_cons_of_mem _ hx)) (by omega) us (fun x hx => h' x (List.mem_cons_of_mem _ hx)) (by omega) (by simpa using hl) _ _ e
    exact ⟨rfl, e2⟩
end

theorem enc_eq_iff {t u : Th} (h : t.wf) (hw : t.wt ≤ 100000000) (h' : u.wf) (hw' : u.wt ≤ 100000000) : t.enc = u.enc ↔ t = u :=
  ⟨fun e => (Th.enc_inj t h hw u h' hw' [] [] (by rw [List.append_nil, List.append_nil, e])).1, fun e => by rw [e]⟩

mutual
theorem Th.enc_byt : ∀ t : Th, Hm.Byt t.enc
  | .mk cs vs ps => by
    rw [Th.enc]
    exact Hm.byt_append (Hm.byt_append (Hm.byt_append (Hm.uv_byt _) (encs_byt _)) (Hm.byt_append (Hm.uv_byt _) (encs_byt _))) (Hm.byt_append (Hm.uv_byt _) (Th.encL_byt ps))
theorem Th.encL_byt : ∀ ts : List Th, Hm.Byt (Th.encL ts)
  | [] => Hm.byt_nil
  | t :: ts => by rw [Th.encL]; exact Hm.byt_append (Th.enc_byt t) (Th.encL_byt ts)
end

theorem Th.enc_pos (t : Th) : 1 ≤ t.enc.length := by
  cases t
  rw [Th.enc]
  simp only [List.length_append]
  have := Hm.uv_ne (Hm.zig ((Th.ps (.mk ‹_› ‹_› ‹_›)).length : Int))
  simp only [Th.ps] at this
  omega

theorem Codec.zero {α : Type} (A : Codec α) {l : List Int} {e : Int} (h : Hm.Okay l e) (h0 : (A.rd l e).2.2 = 0) : e = 0 := by
  by_cases he : e = 0
  · exact he
  · have := okay_err h he
    subst this
    rw [A.err e he] at h0
    exact h0

theorem Codec.rep_zero {α : Type} (A : Codec α) {k : Nat} {l : List Int} {e : Int} {acc : List α} (h : Hm.Okay l e) (h0 : (A.rep k l e acc).2.2 = 0) : e = 0 := by
  by_cases he : e = 0
  · exact he
  · have := okay_err h he
    subst this
    rw [A.rep_err k he] at h0
    exact h0

theorem tInts_okay {l : List Int} {e : Int} (h : Hm.Okay l e) : Hm.Okay (Hm.rInts l e).2.1 (Hm.rInts l e).2.2 := by
  unfold Hm.rInts
  refine rIs_okay _ _ _ _ ?_
  rcases rLen_okay e h with h1 | h1
  · exact .inl h1
  · exact .inr ⟨h1.1, h1.2.2⟩

theorem tInts_byt {l : List Int} (hb : Hm.Byt l) (e : Int) : Hm.Byt (Hm.rInts l e).2.1 ∧ (Hm.rInts l e).2.1.length ≤ l.length := by
  unfold Hm.rInts
  have h := rLen_le hb e
  have := rIs_left (Hm.rLen l e).1 (Hm.rLen l e).2.1 (Hm.rLen l e).2.2 [] h.2.2
  exact ⟨this.1, by omega⟩

theorem tInts_zero {l : List Int} {e : Int} (h : Hm.Okay l e) (h0 : (Hm.rInts l e).2.2 = 0) : e = 0 := by
  by_cases he : e = 0
  · exact he
  · have := okay_err h he
    subst this
    rw [rInts_err he] at h0
    exact h0

/-- What reading k things comes to, where acc has come before. -/
def rdL (f : List Int → Int → Option (Th × List Int × Int)) : Nat → List Int → Int → List Th → Option (List Th × List Int × Int)
  | 0, l, e, acc => some (acc, l, e)
  | k + 1, l, e, acc => (f l e).bind fun r => rdL f k r.2.1 r.2.2 (acc ++ [r.1])

/-- The number of values; the values; the number of parts. -/
def rd2 (l : List Int) (e : Int) : Int × List Int × Int := intC.rd (Hm.rInts l e).2.1 (Hm.rInts l e).2.2
def rd3 (l : List Int) (e : Int) : List Va × List Int × Int := vaC.rep (rd2 l e).1.toNat (rd2 l e).2.1 (rd2 l e).2.2 []
def rd4 (l : List Int) (e : Int) : Int × List Int × Int := intC.rd (rd3 l e).2.1 (rd3 l e).2.2

def rdN (f : List Int → Int → Option (Th × List Int × Int)) (l : List Int) (e : Int) : Option (Th × List Int × Int) :=
  if (rd2 l e).1 < 0 ∨ 32 < (rd2 l e).1 then none else if (rd4 l e).1 < 0 ∨ 96 ≤ (rd4 l e).1 then none
  else (rdL f (rd4 l e).1.toNat (rd4 l e).2.1 (rd4 l e).2.2 []).map fun r => (Th.mk (Hm.rInts l e).1 (rd3 l e).1 r.1, r.2)

/-- What reading a thing of some levels comes to. -/
def rdT : Nat → List Int → Int → Option (Th × List Int × Int)
  | 0, _, _ => none
  | d + 1, l, e => rdN (rdT d) l e

theorem rdL_back (f : List Int → Int → Option (Th × List Int × Int)) : ∀ (ps : List Th), (∀ t ∈ ps, ∀ rest, f (t.enc ++ rest) 0 = some (t, rest, 0)) → ∀ acc rest, rdL f ps.length (Th.encL ps ++ rest) 0 acc = some (acc ++ ps, rest, 0)
  | [], _, acc, rest => by simp [rdL, Th.encL]
  | t :: ts, h, acc, rest => by
    rw [List.length_cons, rdL, Th.encL, List.append_assoc, h t (List.mem_cons_self ..)]
    show rdL f ts.length (Th.encL ts ++ rest) 0 (acc ++ [t]) = _
    rw [rdL_back f ts (fun u hu => h u (List.mem_cons_of_mem _ hu)), List.append_assoc]
    rfl

theorem Th.deeps_mem {ts : List Th} {t : Th} (h : t ∈ ts) : t.deep ≤ Th.deeps ts := by
  induction ts with
  | nil => cases h
  | cons u us ih =>
    rw [Th.deeps]
    rcases List.mem_cons.1 h with rfl | h
    · omega
    · have := ih h; omega

theorem rdT_back : ∀ (d : Nat) (t : Th), t.deep ≤ d → t.wf → t.good → t.size ≤ 96 → ∀ rest, rdT d (t.enc ++ rest) 0 = some (t, rest, 0)
  | 0, t, hd, _, _, _, _ => by have := t.deep_pos; omega
  | d + 1, .mk cs vs ps, hd, hw, hg, hs, rest => by
    obtain ⟨⟨⟨c1, c2⟩, c3, c4⟩, c5⟩ := (Th.wf_eq _).1 hw
    have hn := node_wt hg.1
    have hgs := Th.goods_all.1 hg.2
    have hsz := Th.size_eq (.mk cs vs ps)
    have hdp := Th.deep_eq (.mk cs vs ps)
    simp only [Th.cs, Th.vs, Th.ps] at c1 c2 c3 c4 c5 hsz hdp
    have hl := Th.sizes_len ps
    have hin : ∀ t ∈ ps, ∀ rest, rdT d (t.enc ++ rest) 0 = some (t, rest, 0) := fun t ht rest => by
      have h1 := Th.sizes_mem ht
      have h2 := Th.deeps_mem ht
      exact rdT_back d t (by omega) (c5 t ht) (hgs t ht) (by omega) rest
    have h1 := rInts_enc cs (Hm.uv (Hm.zig (vs.length : Int)) ++ (vaC.encL vs ++ (Hm.uv (Hm.zig (ps.length : Int)) ++ (Th.encL ps ++ rest)))) (nums_of c1) (by omega)
    rw [← enc_split] at h1
    have h2 : rd2 ((Th.mk cs vs ps).enc ++ rest) 0 = ((vs.length : Int), vaC.encL vs ++ (Hm.uv (Hm.zig (ps.length : Int)) ++ (Th.encL ps ++ rest)), 0) := by
      unfold rd2
      rw [h1]
      exact intC.back (vs.length : Int) ⟨by omega, by omega⟩ _
    have h3 : rd3 ((Th.mk cs vs ps).enc ++ rest) 0 = (vs, Hm.uv (Hm.zig (ps.length : Int)) ++ (Th.encL ps ++ rest), 0) := by
      unfold rd3
      rw [h2]
      simp only [Int.toNat_natCast]
      exact vaC.rep_back vs (fun v hv => vaC_good.2 (c3 v hv)) [] _
    have h4 : rd4 ((Th.mk cs vs ps).enc ++ rest) 0 = ((ps.length : Int), Th.encL ps ++ rest, 0) := by
      unfold rd4
      rw [h3]
      exact intC.back (ps.length : Int) ⟨by omega, by omega⟩ _
    rw [rdT]
    unfold rdN
    rw [h2, h4, h1, h3]
    simp only [Int.toNat_natCast]
    rw [if_neg (by omega), if_neg (by omega), rdL_back _ ps hin]
    rfl

/-- What a read does of a reader's state. -/
def Sane (f : List Int → Int → Option (Th × List Int × Int)) : Prop := ∀ l e r, f l e = some r → (Hm.Okay l e → Hm.Okay r.2.1 r.2.2 ∧ (r.2.2 = 0 → e = 0)) ∧ (Hm.Byt l → Hm.Byt r.2.1 ∧ r.2.1.length ≤ l.length)

theorem rdL_sane {f : List Int → Int → Option (Th × List Int × Int)} (hf : Sane f) : ∀ (k : Nat) (l : List Int) (e : Int) (acc : List Th) (r : List Th × List Int × Int), rdL f k l e acc = some r → (Hm.Okay l e → Hm.Okay r.2.1 r.2.2 ∧ (r.2.2 = 0 → e = 0)) ∧ (Hm.Byt l → Hm.Byt r.2.1 ∧ r.2.1.length ≤ l.length)
  | 0, l, e, acc, r, h => by
    rw [rdL] at h
    cases h
    exact ⟨fun h => ⟨h, fun h => h⟩, fun h => ⟨h, Nat.le_refl _⟩⟩
  | k + 1, l, e, acc, r, h => by
    rw [rdL] at h
    obtain ⟨q, hq, hr⟩ := Option.bind_eq_some_iff.1 h
    have h1 := hf l e q hq
    have h2 := rdL_sane hf k _ _ _ _ hr
    refine ⟨fun ho => ?_, fun hb => ?_⟩
    · have a1 := h1.1 ho
      have a2 := h2.1 a1.1
      exact ⟨a2.1, fun h0 => a1.2 (a2.2 h0)⟩
    · have a1 := h1.2 hb
      have a2 := h2.2 a1.1
      exact ⟨a2.1, Nat.le_trans a2.2 a1.2⟩

/-- The parts of a read. -/
theorem rdN_parts {f : List Int → Int → Option (Th × List Int × Int)} {l : List Int} {e : Int} {r : Th × List Int × Int} (h : rdN f l e = some r) :
    ¬ ((rd2 l e).1 < 0 ∨ 32 < (rd2 l e).1) ∧ ¬ ((rd4 l e).1 < 0 ∨ 96 ≤ (rd4 l e).1) ∧ ∃ us, rdL f (rd4 l e).1.toNat (rd4 l e).2.1 (rd4 l e).2.2 [] = some (us, r.2) ∧ r.1 = Th.mk (Hm.rInts l e).1 (rd3 l e).1 us := by
  unfold rdN at h
  by_cases c1 : (rd2 l e).1 < 0 ∨ 32 < (rd2 l e).1
  · rw [if_pos c1] at h; cases h
  · rw [if_neg c1] at h
    by_cases c2 : (rd4 l e).1 < 0 ∨ 96 ≤ (rd4 l e).1
    · rw [if_pos c2] at h; cases h
    · rw [if_neg c2] at h
      obtain ⟨q, hq, rfl⟩ := Option.map_eq_some_iff.1 h
      exact ⟨c1, c2, q.1, hq, rfl⟩

theorem rdN_sane {f : List Int → Int → Option (Th × List Int × Int)} (hf : Sane f) : Sane (rdN f) := by
  intro l e r h
  obtain ⟨-, -, us, hL, -⟩ := rdN_parts h
  have h5 := rdL_sane hf _ _ _ _ _ hL
  refine ⟨fun ho => ?_, fun hb => ?_⟩
  · have o1 := tInts_okay ho
    have o2 : Hm.Okay (rd2 l e).2.1 (rd2 l e).2.2 := intC.okay _ _ o1
    have o3 : Hm.Okay (rd3 l e).2.1 (rd3 l e).2.2 := vaC.rep_okay _ _ _ _ o2
    have o4 : Hm.Okay (rd4 l e).2.1 (rd4 l e).2.2 := intC.okay _ _ o3
    have a5 := h5.1 o4
    exact ⟨a5.1, fun h0 => tInts_zero ho (intC.zero o1 (vaC.rep_zero o2 (intC.zero o3 (a5.2 h0))))⟩
  · have b1 := tInts_byt hb e
    have b2 : Hm.Byt (rd2 l e).2.1 ∧ (rd2 l e).2.1.length ≤ _ := intC.left _ _ b1.1
    have b3 : Hm.Byt (rd3 l e).2.1 ∧ (rd3 l e).2.1.length ≤ _ := vaC.rep_left _ _ _ _ b2.1
    have b4 : Hm.Byt (rd4 l e).2.1 ∧ (rd4 l e).2.1.length ≤ _ := intC.left _ _ b3.1
    have a5 : Hm.Byt r.2.1 ∧ r.2.1.length ≤ (rd4 l e).2.1.length := h5.2 b4.1
    exact ⟨a5.1, by omega⟩

theorem rdT_sane : ∀ d, Sane (rdT d)
  | 0 => fun l e r h => by rw [rdT] at h; cases h
  | d + 1 => fun l e r h => by rw [rdT] at h; exact rdN_sane (rdT_sane d) l e r h

theorem rdL_one {f : List Int → Int → Option (Th × List Int × Int)} (hf : Sane f) (hone : ∀ l t l2, Hm.Byt l → l.length ≤ 1000000 → f l 0 = some (t, l2, 0) → l = t.enc ++ l2 ∧ t.wf) :
    ∀ (k : Nat) (l l2 : List Int) (acc ts : List Th), Hm.Byt l → l.length ≤ 1000000 → rdL f k l 0 acc = some (ts, l2, 0) → ∃ us, ts = acc ++ us ∧ us.length = k ∧ l = Th.encL us ++ l2 ∧ ∀ u ∈ us, u.wf
  | 0, l, l2, acc, ts, hb, hl, h => by
    rw [rdL] at h
    cases h
    exact ⟨[], by simp, rfl, rfl, fun u hu => by cases hu⟩
  | k + 1, l, l2, acc, ts, hb, hl, h => by
    rw [rdL] at h
    obtain ⟨⟨t, m, e⟩, hq, hr⟩ := Option.bind_eq_some_iff.1 h
    have s1 := hf l 0 _ hq
    have s2 := rdL_sane hf k _ _ _ _ hr
    have ho := s1.1 (.inl rfl)
    have he : e = 0 := (s2.1 ho.1).2 rfl
    subst he
    have hb2 := s1.2 hb
    obtain ⟨e1, w1⟩ := hone l t m hb hl hq
    obtain ⟨us, rfl, hn, e2, w2⟩ := rdL_one hf hone k m l2 _ _ hb2.1 (Nat.le_trans hb2.2 hl) hr
    refine ⟨t :: us, by rw [List.append_assoc]; rfl, by rw [List.length_cons, hn], ?_, fun u hu => ?_⟩
    · rw [Th.encL, List.append_assoc, ← e2]
      exact e1
    · rcases List.mem_cons.1 hu with rfl | hu
      · exact w1
      · exact w2 u hu

theorem rdT_one : ∀ (d : Nat) (l : List Int) (t : Th) (l2 : List Int), Hm.Byt l → l.length ≤ 1000000 → rdT d l 0 = some (t, l2, 0) → l = t.enc ++ l2 ∧ t.wf
  | 0, l, t, l2, _, _, h => by rw [rdT] at h; cases h
  | d + 1, l, t, l2, hb, hl, h => by
    rw [rdT] at h
    obtain ⟨c1, c2, us, hL, rfl⟩ := rdN_parts h
    have b1 := tInts_byt hb 0
    have b2 : Hm.Byt (rd2 l 0).2.1 ∧ (rd2 l 0).2.1.length ≤ _ := intC.left _ _ b1.1
    have b3 : Hm.Byt (rd3 l 0).2.1 ∧ (rd3 l 0).2.1.length ≤ _ := vaC.rep_left _ _ _ _ b2.1
    have b4 : Hm.Byt (rd4 l 0).2.1 ∧ (rd4 l 0).2.1.length ≤ _ := intC.left _ _ b3.1
    have o1 := tInts_okay (l := l) (e := 0) (.inl rfl)
    have o2 : Hm.Okay (rd2 l 0).2.1 (rd2 l 0).2.2 := intC.okay _ _ o1
    have o3 : Hm.Okay (rd3 l 0).2.1 (rd3 l 0).2.2 := vaC.rep_okay _ _ _ _ o2
    have o4 : Hm.Okay (rd4 l 0).2.1 (rd4 l 0).2.2 := intC.okay _ _ o3
    have z4 : (rd4 l 0).2.2 = 0 := ((rdL_sane (rdT_sane d) _ _ _ _ _ hL).1 o4).2 rfl
    have z3 : (rd3 l 0).2.2 = 0 := intC.zero o3 z4
    have z2 : (rd2 l 0).2.2 = 0 := vaC.rep_zero o2 z3
    have z1 : (Hm.rInts l 0).2.2 = 0 := intC.zero o1 z2
    have nums := rInts_nums hb 0
    have hvn := vaC.rep_num (rd2 l 0).1.toNat (rd2 l 0).2.1 (rd2 l 0).2.2 [] b2.1 (fun x hx => by cases hx)
    have hvn : (∀ v ∈ (rd3 l 0).1, vaC.good v) ∧ (rd3 l 0).1.length = ([] : List Va).length + (rd2 l 0).1.toNat := hvn
    simp only [List.length_nil, Nat.zero_add] at hvn
    rw [z4] at hL
    obtain ⟨us', hus, hn, e5, w5⟩ := rdL_one (rdT_sane d) (rdT_one d) _ _ _ _ _ b4.1 (by omega) hL
    rw [List.nil_append] at hus
    subst hus
    have e1 := (rInts_one hb (Prod.ext rfl (Prod.ext rfl z1) : Hm.rInts l 0 = ((Hm.rInts l 0).1, (Hm.rInts l 0).2.1, 0))).1
    have e2 : (Hm.rInts l 0).2.1 = Hm.uv (Hm.zig (rd2 l 0).1) ++ (rd2 l 0).2.1 := intC.one _ _ _ b1.1 (by unfold rd2 at z2 ⊢; rw [z1] at z2 ⊢; exact Prod.ext rfl (Prod.ext rfl z2))
    obtain ⟨ys, hys, hyn, e3⟩ := vaC.rep_one (rd2 l 0).1.toNat (rd2 l 0).2.1 (rd3 l 0).2.1 [] (rd3 l 0).1 b2.1 (by unfold rd3 at z3 ⊢; rw [z2] at z3 ⊢; exact Prod.ext rfl (Prod.ext rfl z3))
    rw [List.nil_append] at hys
    rw [← hys] at e3
    have e4 : (rd3 l 0).2.1 = Hm.uv (Hm.zig (rd4 l 0).1) ++ (rd4 l 0).2.1 := intC.one _ _ _ b3.1 (by unfold rd4 at z4 ⊢; rw [z3] at z4 ⊢; exact Prod.ext rfl (Prod.ext rfl z4))
    constructor
    · rw [enc_split, show (((rd3 l 0).1.length : Nat) : Int) = (rd2 l 0).1 by omega, show ((us.length : Nat) : Int) = (rd4 l 0).1 by omega, ← e5, ← e4, ← e3, ← e2]
      exact e1
    · refine (Th.wf_eq _).2 ⟨⟨⟨fun z hz => i64_of_wf (nums.1 z hz), ?_⟩, fun v hv => vaC_good.1 (hvn.1 v hv), ?_⟩, w5⟩
      · show (Hm.rInts l 0).1.length ≤ _
        omega
      · show (rd3 l 0).1.length ≤ _
        omega

/-- The thing that bytes encode. -/
noncomputable def decT (b : List Int) : Option Th :=
  (rdT 8 b 0).bind fun r => if Hm.rEnd r.2.1 r.2.2 = 0 ∧ validT r.1 = 0 then some r.1 else none

theorem rEnd_zero {l : List Int} {e : Int} (h : Hm.rEnd l e = 0) : e = 0 ∧ l = [] := by
  unfold Hm.rEnd at h
  by_cases hq : e = 0 ∧ 0 < l.length
  · rw [if_pos hq] at h; cases h
  · rw [if_neg hq] at h
    subst h
    exact ⟨rfl, List.eq_nil_of_length_eq_zero (by omega)⟩

theorem decT_self {t : Th} (hw : t.wf) (hv : validT t = 0) : decT t.enc = some t := by
  obtain ⟨h1, h2, h3⟩ := valid_parts hv
  have := rdT_back 8 t h2 hw h3 h1 []
  rw [List.append_nil] at this
  unfold decT
  rw [this]
  show (if Hm.rEnd [] 0 = 0 ∧ validT t = 0 then some t else none) = _
  rw [if_pos ⟨by simp [Hm.rEnd], hv⟩]

theorem decT_one {b : List Int} {t : Th} (hb : Hm.Byt b) (hl : b.length ≤ 1000000) (h : decT b = some t) : b = t.enc ∧ validT t = 0 ∧ t.wf := by
  unfold decT at h
  obtain ⟨⟨u, l, e⟩, hq, hr⟩ := Option.bind_eq_some_iff.1 h
  by_cases hc : Hm.rEnd l e = 0 ∧ validT u = 0
  · simp only at hr
    rw [if_pos hc] at hr
    cases hr
    obtain ⟨rfl, rfl⟩ := rEnd_zero hc.1
    obtain ⟨h1, h2⟩ := rdT_one 8 b t [] hb hl hq
    rw [List.append_nil] at h1
    exact ⟨h1, hc.2, h2⟩
  · simp only at hr
    rw [if_neg hc] at hr
    cases hr

theorem valid_wt {t : Th} (h : validT t = 0) : t.wt ≤ 15648 := by
  obtain ⟨h1, h2, h3⟩ := valid_parts h
  have := Th.good_wt t h3
  omega

theorem decT_bad {t : Th} (hw : t.wf) (hwt : t.wt ≤ 100000) (hv : validT t ≠ 0) : decT t.enc = none := by
  cases h : decT t.enc with
  | none => rfl
  | some u =>
    have hl := Th.enc_len t hw (by omega)
    obtain ⟨h1, h2, h3⟩ := decT_one (Th.enc_byt t) (by omega) h
    have := (enc_eq_iff hw (by omega) h3 (by have := valid_wt h2; omega)).1 h1
    subst this
    exact absurd h2 hv

end Go.Proofs.Ytejllfpcffeogaa
