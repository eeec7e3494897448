/- RatioBetween: the test. -/
import Derived.Test.YtloddocibfbkpaaRef03l
import Derived.Test.YtloddocibfbkpaaRat10
import Derived.Test.YtloddocibfbkpaaLaw03c
import Derived.Test.YtloddocibfbkpaaLaw03x
import Derived.Deep.DeepCutAuto
namespace Go.Proofs.Ytloddocibfbkpaa
open Go.RowKit Go.Shelf

set_option maxHeartbeats 400000000 in
set_option maxRecDepth 100000 in
/-- The test. -/
theorem leaf16 {a b c d : Int} {G k m : Nat} {R1 R2 M : Int} {N1 : Nat} {far : Bool} {wf : World} {s0 s1 s2 s3 s4 s5 s12 s13 s14 s15 s19 s20 s21 s22 s24 s25 s26 s27 s28 s29 s30 s31 s32 s33 s34 s35 s36 s37 s38 s39 s40 s41 s42 s43 s44 s45 s46 s47 s48 s49 s50 s51 s52 s53 s54 s55 
    s56 v57 v58 v59 v60 v61 v62 v63 v64 v65 v66 v67 v68 v69 v70 v71 v72 v73 v74 v75 v76 v77 v78 v79 v80 v81 v82 v83 v84 v85 v86 v87 v88 v89 v90 v91 v92 v93 v94 v95 v96 v97 v98 v99 
    v100 v101 v102 v103 v104 v105 v106 v107 v108 v109 v110 v111 v112 v113 v114 v115 v116 v117 v118 v119 v120 v121 v122 v123 v124 v125 v126 v127 v128 v129 v130 v131 v132 v133 v134 v135 
    v136 v137 v138 v139 v140 v141 v142 v143 v144 v145 v146 v147 v148 v149 v150 v151 v152 v153 v154 v155 v156 v157 v158 v159 v160 v161 v162 v163 v164 v165 v166 v167 v168 v169 v170 v171 
    v172 v173 v174 v175 v176 v177 v178 v179 v180 v181 v182 v183 v184 v185 v186 v187 v188 v189 v190 v191 v192 v193 v194 v195 v196 v197 v198 v199 v200 v201 v202 v203 v204 v205 v206 v207 
    v208 v209 v210 v211 v212 v213 v214 v215 v216 v217 v218 : Value} {J K' : Act → World → Prop} {Q : Exit → Act → World → Prop}
    (_hlt : k < 5) (hki : (k : Int) < 5) (_hlt2 : m < 5) (hmi : (m : Int) < 5) (_hG : G < wf.heap.size)
    (t1 : wf.cell? { block := G, off := k * 2 } = some (Value.int IntKind.i64 a)) (t2 : wf.cell? { block := G, off := k * 2 + 1 } = some (Value.int IntKind.i64 b)) (t3 : wf.cell? { block := G, off := m * 2 } = some (Value.int IntKind.i64 c)) (t4 : wf.cell? { block := G, off := m * 2 + 1 } = some (Value.int IntKind.i64 d))
    (p0 : wf.cell? { block := N1, off := 0 } = some (Value.int IntKind.i64 R1)) (p1 : wf.cell? { block := N1, off := 1 } = some (Value.int IntKind.i64 R2)) (HFAR : Hid (decide (1073741824 < M) = far))
    (hJ : ∀ (a' : Act) (w' : World), (∃ u57 u58 u59 u60 u61 u62 u63 u64 u65 u66 u67 u68 u69 u70 u71 u72 u73 u74 u75 u76 u77 u78 u79 u80 u81 u82 u83 u84 u85 u86 u87 u88 u89 u90 u91 u92 u93 u94 u95 u96 u97 u98 u99 u100 
    u101 u102 u103 u104 u105 u106 u107 u108 u109 u110 u111 u112 u113 u114 u115 u116 u117 u118 u119 u120 u121 u122 u123 u124 u125 u126 u127 u128 u129 u130 u131 u132 u133 u134 u135 u136 
    u137 u138 u139 u140 u141 u142 u143 u144 u145 u146 u147 u148 u149 u150 u151 u152 u153 u154 u155 u156 u157 u158 u159 u160 u161 u162 u163 u164 u165 u166 u167 u168 u169 u170 u171 u172 
    u173 u174 u175 u176 u177 u178 u179 u180 u181 u182 u183 u184 u185 u186 u187 u188 u189 u190 u191 u192 u193 u194 u195 u196 u197 u198 u199 u200 u201 u202 u203 u204 u205 u206 u207 u208 
    u209 u210 u211 u212 u213 u214 u215 u216 u217 u218 : Value, (CutQ (Qm.bothI a b c d) b d M wf u147 w') ∧ a' = (⟨#[s0, s1, s2, s3, s4, s5, undef, undef, undef, undef, undef, undef, s12, s13, s14, s15, Value.slice (some { block := G, off := 0 }) 5 5, Value.int IntKind.i64 ↑k, 
    Value.int IntKind.i64 ↑m, s19, s20, s21, s22, Value.bool far, s24, s25, s26, s27, s28, s29, s30, s31, s32, s33, s34, s35, s36, s37, s38, s39, s40, s41, s42, s43, s44, s45, s46, 
    s47, s48, s49, s50, s51, s52, s53, s54, s55, s56, u57, u58, u59, u60, u61, u62, u63, u64, u65, u66, u67, u68, u69, u70, u71, u72, u73, u74, u75, u76, u77, u78, u79, u80, u81, u82, 
    u83, u84, u85, u86, u87, u88, u89, u90, u91, u92, u93, u94, u95, u96, u97, u98, u99, u100, u101, u102, u103, u104, u105, u106, u107, u108, u109, u110, u111, u112, u113, u114, 
    u115, u116, u117, u118, u119, u120, u121, u122, u123, u124, u125, u126, u127, u128, u129, u130, u131, u132, u133, u134, u135, u136, u137, u138, u139, u140, u141, u142, u143, u144, 
    u145, u146, u147, u148, u149, u150, u151, u152, u153, u154, u155, u156, u157, u158, u159, u160, u161, u162, u163, u164, u165, u166, u167, u168, u169, u170, u171, u172, u173, u174, 
    u175, u176, u177, u178, u179, u180, u181, u182, u183, u184, u185, u186, u187, u188, u189, u190, u191, u192, u193, u194, u195, u196, u197, u198, u199, u200, u201, u202, u203, u204, 
    u205, u206, u207, u208, u209, u210, u211, u212, u213, u214, u215, u216, u217, u218, undef], []⟩ : Act)) → J a' w')
    (hK : ∀ (a' : Act) (w' : World), Met J a' w' → K' a' w') :
    Code.wp Try.prog (Code.region 16 #[{ dst := some 119, op := Op.move (Operand.tmp 16), type := 32, pos := "law.go:151", after := #[], guard := none }, { dst := some 120, op := Op.move (Operand.tmp 17), type := 3, pos := "law.go:151", after := #[], guard := none }, { dst := some 121, op := Op.indexAddr 32 (Operand.tmp 119) (Operand.tmp 120), type := 0, pos := "law.go:151", after := #[{ on := 0, ground := Ground.data }, { on := 1, ground := Ground.data }], guard := none }, { dst := some 122, op := Op.load 26 (Operand.tmp 121), type := 26, pos := "law.go:151", after := #[{ on := 2, ground := Ground.data }], guard := none }, { dst := some 123, op := Op.move (Operand.tmp 16), type := 32, pos := "law.go:151", after := #[], guard := none }, { dst := some 124, op := Op.move (Operand.tmp 18), type := 3, pos := "law.go:151", after := #[], guard := none }, { dst := some 125, op := Op.indexAddr 32 (Operand.tmp 123) (Operand.tmp 124), type := 0, pos := "law.go:151", after := #[{ on := 4, ground := Ground.data }, { on := 5, ground := Ground.data }], guard := none }, { dst := some 126, op := Op.load 26 (Operand.tmp 125), type := 26, pos := "law.go:151", after := #[{ on := 6, ground := Ground.data }], guard := none }, { dst := some 127, op := Op.call { callee := Callee.value (Operand.func 29), args := #[Operand.tmp 122, Operand.tmp 126], argTypes := #[26, 26] }, type := 27, pos := "law.go:151", after := #[{ on := 3, ground := Ground.data }, { on := 7, ground := Ground.data }], guard := none }, { dst := some 128, op := Op.binOp BinOp.neq 27 (Operand.tmp 127) (Operand.const (Value.int IntKind.i64 0)) 27, type := 4, pos := "law.go:151", after := #[{ on := 8, ground := Ground.data }], guard := none }, { dst := some 129, op := Op.move (Operand.tmp 128), type := 4, pos := "law.go:151", after := #[{ on := 9, ground := Ground.data }, { on := 8, ground := Ground.chain }], guard := none }, { dst := some 130, op := Op.move (Operand.tmp 16), type := 32, pos := "law.go:151", after := #[{ on := 10, ground := Ground.guard }], guard := some (10, false) }, { dst := some 131, op := Op.move (Operand.tmp 17), type := 3, pos := "law.go:151", after := #[{ on := 10, ground := Ground.guard }], guard := some (10, false) }, { dst := some 132, op := Op.indexAddr 32 (Operand.tmp 130) (Operand.tmp 131), type := 0, pos := "law.go:151", after := #[{ on := 11, ground := Ground.data }, { on := 12, ground := Ground.data }, { on := 10, ground := Ground.guard }], guard := some (10, false) }, { dst := some 133, op := Op.fieldAddr 26 (Operand.tmp 132) 1, type := 0, pos := "law.go:151", after := #[{ on := 13, ground := Ground.data }, { on := 10, ground := Ground.guard }], guard := some (10, false) }, { dst := some 134, op := Op.load 3 (Operand.tmp 133), type := 3, pos := "law.go:151", after := #[{ on := 14, ground := Ground.data }, { on := 10, ground := Ground.guard }], guard := some (10, false) }, { dst := some 135, op := Op.binOp BinOp.gtr 3 (Operand.tmp 134) (Operand.const (Value.int IntKind.i64 32768)) 3, type := 4, pos := "law.go:151", after := #[{ on := 15, ground := Ground.data }, { on := 10, ground := Ground.guard }], guard := some (10, false) }, { dst := some 136, op := Op.pick (Operand.tmp 129) (Operand.const (Value.bool true)) (Operand.tmp 135), type := 4, pos := "law.go:151", after := #[{ on := 10, ground := Ground.data }, { on := 16, ground := Ground.data }], guard := none }, { dst := some 137, op := Op.move (Operand.tmp 136), type := 4, pos := "law.go:151", after := #[{ on := 17, ground := Ground.data }, { on := 10, ground := Ground.chain }], guard := none }, { dst := some 138, op := Op.move (Operand.tmp 16), type := 32, pos := "law.go:151", after := #[{ on := 18, ground := Ground.guard }], guard := some (18, false) }, { dst := some 139, op := Op.move (Operand.tmp 18), type := 3, pos := "law.go:151", after := #[{ on := 18, ground := Ground.guard }], guard := some (18, false) }, { dst := some 140, op := Op.indexAddr 32 (Operand.tmp 138) (Operand.tmp 139), type := 0, pos := "law.go:151", after := #[{ on := 19, ground := Ground.data }, { on := 20, ground := Ground.data }, { on := 18, ground := Ground.guard }], guard := some (18, false) }, { dst := some 141, op := Op.fieldAddr 26 (Operand.tmp 140) 1, type := 0, pos := "law.go:151", after := #[{ on := 21, ground := Ground.data }, { on := 18, ground := Ground.guard }], guard := some (18, false) }, { dst := some 142, op := Op.load 3 (Operand.tmp 141), type := 3, pos := "law.go:151", after := #[{ on := 22, ground := Ground.data }, { on := 18, ground := Ground.guard }], guard := some (18, false) }, { dst := some 143, op := Op.binOp BinOp.gtr 3 (Operand.tmp 142) (Operand.const (Value.int IntKind.i64 32768)) 3, type := 4, pos := "law.go:151", after := #[{ on := 23, ground := Ground.data }, { on := 18, ground := Ground.guard }], guard := some (18, false) }, { dst := some 144, op := Op.pick (Operand.tmp 137) (Operand.const (Value.bool true)) (Operand.tmp 143), type := 4, pos := "law.go:151", after := #[{ on := 18, ground := Ground.data }, { on := 24, ground := Ground.data }], guard := none }, { dst := some 145, op := Op.move (Operand.tmp 144), type := 4, pos := "law.go:151", after := #[{ on := 25, ground := Ground.data }, { on := 18, ground := Ground.chain }], guard := none }, { dst := some 146, op := Op.move (Operand.tmp 23), type := 4, pos := "law.go:151", after := #[{ on := 26, ground := Ground.guard }], guard := some (26, false) }, { dst := some 147, op := Op.pick (Operand.tmp 145) (Operand.const (Value.bool true)) (Operand.tmp 146), type := 4, pos := "law.go:151", after := #[{ on := 26, ground := Ground.data }, { on := 27, ground := Ground.data }], guard := none }] true) (Exit.then K' Q) (⟨#[s0, s1, s2, s3, s4, s5, undef, undef, undef, undef, undef, undef, s12, s13, s14, s15, Value.slice (some { block := G, off := 0 }) 5 5, Value.int IntKind.i64 ↑k, 
    Value.int IntKind.i64 ↑m, s19, s20, s21, s22, Value.bool far, s24, s25, s26, s27, s28, s29, s30, s31, s32, s33, s34, s35, s36, s37, s38, s39, s40, s41, s42, s43, s44, s45, s46, 
    s47, s48, s49, s50, s51, s52, s53, s54, s55, s56, v57, v58, v59, v60, v61, v62, v63, v64, v65, v66, v67, v68, v69, v70, v71, v72, v73, v74, v75, v76, v77, v78, v79, v80, v81, v82, 
    v83, v84, v85, v86, v87, v88, v89, v90, v91, v92, v93, v94, v95, v96, v97, v98, v99, v100, v101, v102, v103, v104, v105, v106, v107, v108, v109, v110, v111, v112, v113, v114, 
    v115, v116, v117, v118, v119, v120, v121, v122, v123, v124, v125, v126, v127, v128, v129, v130, v131, v132, v133, v134, v135, v136, v137, v138, v139, v140, v141, v142, v143, v144, 
    v145, v146, v147, v148, v149, v150, v151, v152, v153, v154, v155, v156, v157, v158, v159, v160, v161, v162, v163, v164, v165, v166, v167, v168, v169, v170, v171, v172, v173, v174, 
    v175, v176, v177, v178, v179, v180, v181, v182, v183, v184, v185, v186, v187, v188, v189, v190, v191, v192, v193, v194, v195, v196, v197, v198, v199, v200, v201, v202, v203, v204, 
    v205, v206, v207, v208, v209, v210, v211, v212, v213, v214, v215, v216, v217, v218, undef], []⟩ : Act) wf := by
  have k_b := fun w => both_any a b c d w
  have K_b := Lib.hid k_b
  clear k_b
  unfold rv at K_b
  have hSd : Since wf wf.drew := Below.drew (Below.refl _ _)
  rcases Qm.bothI_two a b c d with e1 | e1
  · have K_b' := K_b.out
    rw [e1] at K_b'
    replace K_b := Lib.hid K_b'
    have E1 := Lib.hid e1
    clear K_b' e1
    by_cases h1 : 32768 < b
    · have h1y : decide (32768 < b) = true := decide_eq_true h1
      focus
        first
          | (refine wp_region_noPanic ?_; go_region_with (go_at_call 29; refine (K_b.out _).mono ?_; rintro e w' ⟨rfl, hr⟩; (first | (have hB := Since.step hSd hr) | (have hB := Since.step hB hr)); clear hr; have r1 := Since.cell hB t1; have r2 := Since.cell hB t2; have r3 := Since.cell hB t3; have r4 := Since.cell hB t4))
          | fail "the leaf"
        all_goals ((first | refine NoPanic.normal ?_ | skip); go_wp2_with fail; go_meet; (exact ⟨true, rfl, (fun h => by cases h), by first | exact hB | exact hSd⟩))
    · have h1' : decide (32768 < b) = false := decide_eq_false h1
      by_cases h2 : 32768 < d
      · have h2y : decide (32768 < d) = true := decide_eq_true h2
        focus
          first
            | (refine wp_region_noPanic ?_; go_region_with (go_at_call 29; refine (K_b.out _).mono ?_; rintro e w' ⟨rfl, hr⟩; (first | (have hB := Since.step hSd hr) | (have hB := Since.step hB hr)); clear hr; have r1 := Since.cell hB t1; have r2 := Since.cell hB t2; have r3 := Since.cell hB t3; have r4 := Since.cell hB t4))
            | fail "the leaf"
          all_goals ((first | refine NoPanic.normal ?_ | skip); go_wp2_with fail; go_meet; (exact ⟨true, rfl, (fun h => by cases h), by first | exact hB | exact hSd⟩))
      · have h2' : decide (32768 < d) = false := decide_eq_false h2
        cases far
        case true =>
          focus
            go_region_held3 (fun w' => w'.cell? ⟨G, k * 2, none⟩ = some (.int .i64 a) ∧ w'.cell? ⟨G, k * 2 + 1, none⟩ = some (.int .i64 b) ∧ w'.cell? ⟨G, m * 2, none⟩ = some (.int .i64 c) ∧ w'.cell? ⟨G, m * 2 + 1, none⟩ = some (.int .i64 d) ∧ w'.cell? ⟨N1, 0, none⟩ = some (.int .i64 R1) ∧ w'.cell? ⟨N1, 1, none⟩ = some (.int .i64 R2) ∧ Since wf w')
              (first | exact ⟨t1, t2, t3, t4, p0, p1, hSd⟩ | exact ⟨Since.cell hB t1, Since.cell hB t2, Since.cell hB t3, Since.cell hB t4, Since.cell hB p0, Since.cell hB p1, hB⟩)
              ((go_at_call 29; refine (K_b.out _).mono ?_; rintro e w' ⟨rfl, hr⟩; (first | (have hB := Since.step hSd hr) | (have hB := Since.step hB hr)); clear hr))
            all_goals ((first | refine NoPanic.normal ?_ | skip); go_wp2_with fail; go_meet; (first | exact ⟨true, rfl, (fun h => by cases h), by first | exact hB | exact hSd⟩ | exact ⟨_, rfl, (fun h => by cases h), by first | exact hB | exact hSd⟩))
        case false =>
          have hfM : M ≤ 1073741824 := by have := of_decide_eq_false HFAR.out; omega
          focus
            go_region_held3 (fun w' => w'.cell? ⟨G, k * 2, none⟩ = some (.int .i64 a) ∧ w'.cell? ⟨G, k * 2 + 1, none⟩ = some (.int .i64 b) ∧ w'.cell? ⟨G, m * 2, none⟩ = some (.int .i64 c) ∧ w'.cell? ⟨G, m * 2 + 1, none⟩ = some (.int .i64 d) ∧ w'.cell? ⟨N1, 0, none⟩ = some (.int .i64 R1) ∧ w'.cell? ⟨N1, 1, none⟩ = some (.int .i64 R2) ∧ Since wf w')
              (first | exact ⟨t1, t2, t3, t4, p0, p1, hSd⟩ | exact ⟨Since.cell hB t1, Since.cell hB t2, Since.cell hB t3, Since.cell hB t4, Since.cell hB p0, Since.cell hB p1, hB⟩)
              ((go_at_call 29; refine (K_b.out _).mono ?_; rintro e w' ⟨rfl, hr⟩; (first | (have hB := Since.step hSd hr) | (have hB := Since.step hB hr)); clear hr))
            all_goals ((first | refine NoPanic.normal ?_ | skip); go_wp2_with fail; go_meet; (first | exact ⟨false, rfl, (fun _ => ⟨E1.out, by omega, by omega, hfM⟩), by first | exact hB | exact hSd⟩ | exact ⟨_, rfl, (fun _ => ⟨E1.out, by omega, by omega, hfM⟩), by first | exact hB | exact hSd⟩))
  · have K_b' := K_b.out
    rw [e1] at K_b'
    replace K_b := Lib.hid K_b'
    clear K_b' e1
    focus
      first
        | (refine wp_region_noPanic ?_; go_region_with (go_at_call 29; refine (K_b.out _).mono ?_; rintro e w' ⟨rfl, hr⟩; (first | (have hB := Since.step hSd hr) | (have hB := Since.step hB hr)); clear hr; have r1 := Since.cell hB t1; have r2 := Since.cell hB t2; have r3 := Since.cell hB t3; have r4 := Since.cell hB t4))
        | fail "the leaf"
      all_goals ((first | refine NoPanic.normal ?_ | skip); go_wp2_with fail; go_meet; (exact ⟨true, rfl, (fun h => by cases h), by first | exact hB | exact hSd⟩))

end Go.Proofs.Ytloddocibfbkpaa
