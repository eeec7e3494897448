/- RatioBetween: the call of Between. -/
import Derived.Test.YtloddocibfbkpaaRef03l
import Derived.Test.YtloddocibfbkpaaRat10
import Derived.Test.YtloddocibfbkpaaLaw03c
import Derived.Test.YtloddocibfbkpaaLaw03x
import Derived.Deep.DeepCutAuto
namespace Go.Proofs.Ytloddocibfbkpaa
open Go.RowKit Go.Shelf

set_option maxHeartbeats 400000000 in
set_option maxRecDepth 100000 in
/-- The call of Between. -/
theorem leaf11 {a b c d : Int} {G k m : Nat} {wr : World} {s0 s1 s2 s3 s4 s5 s12 s13 s14 s15 v19 v20 s21 s22 s23 s24 s25 s26 s27 s28 s29 s30 s31 s32 s33 s34 s35 s36 s37 s38 s39 s40 s41 s42 s43 s44 s45 s46 s47 s48 s49 s50 s51 s52 s53 s54 
    s55 s56 v57 v58 v59 v60 v61 v62 v63 v64 v65 v66 v67 v68 v69 v70 v71 v72 v73 v74 v75 v76 v77 v78 v79 v80 v81 v82 v83 v84 v85 v86 v87 v88 v89 v90 v91 v92 v93 v94 v95 v96 v97 v98 v99 
    v100 v101 v102 v103 v104 v105 v106 v107 v108 v109 v110 v111 v112 v113 v114 v115 v116 v117 v118 v119 v120 v121 v122 v123 v124 v125 v126 v127 v128 v129 v130 v131 v132 v133 v134 v135 
    v136 v137 v138 v139 v140 v141 v142 v143 v144 v145 v146 v147 v148 v149 v150 v151 v152 v153 v154 v155 v156 v157 v158 v159 v160 v161 v162 v163 v164 v165 v166 v167 v168 v169 v170 v171 
    v172 v173 v174 v175 v176 v177 v178 v179 v180 v181 v182 v183 v184 v185 v186 v187 v188 v189 v190 v191 v192 v193 v194 v195 v196 v197 v198 v199 v200 v201 v202 v203 v204 v205 v206 v207 
    v208 v209 v210 v211 v212 v213 v214 v215 v216 v217 v218 : Value} {J K' : Act → World → Prop} {Q : Exit → Act → World → Prop}
    (_hlt : k < 5) (hki : (k : Int) < 5) (_hlt2 : m < 5) (hmi : (m : Int) < 5) (hG : G < wr.heap.size)
    (t1 : wr.cell? { block := G, off := k * 2 } = some (Value.int IntKind.i64 a)) (t2 : wr.cell? { block := G, off := k * 2 + 1 } = some (Value.int IntKind.i64 b)) (t3 : wr.cell? { block := G, off := m * 2 } = some (Value.int IntKind.i64 c)) (t4 : wr.cell? { block := G, off := m * 2 + 1 } = some (Value.int IntKind.i64 d)) (ia : I64 a) (ib : I64 b) (ic : I64 c) (id' : I64 d)
    (hJ : ∀ (a' : Act) (w' : World), (∃ u19 u20 u57 u58 u59 u60 u61 u62 u63 u64 u65 u66 u67 u68 u69 u70 u71 u72 u73 u74 u75 u76 u77 u78 u79 u80 u81 u82 u83 u84 u85 u86 u87 u88 u89 u90 u91 u92 u93 u94 u95 u96 u97 u98 u99 
    u100 u101 u102 u103 u104 u105 u106 u107 u108 u109 u110 u111 u112 u113 u114 u115 u116 u117 u118 u119 u120 u121 u122 u123 u124 u125 u126 u127 u128 u129 u130 u131 u132 u133 u134 u135 
    u136 u137 u138 u139 u140 u141 u142 u143 u144 u145 u146 u147 u148 u149 u150 u151 u152 u153 u154 u155 u156 u157 u158 u159 u160 u161 u162 u163 u164 u165 u166 u167 u168 u169 u170 u171 
    u172 u173 u174 u175 u176 u177 u178 u179 u180 u181 u182 u183 u184 u185 u186 u187 u188 u189 u190 u191 u192 u193 u194 u195 u196 u197 u198 u199 u200 u201 u202 u203 u204 u205 u206 u207 
    u208 u209 u210 u211 u212 u213 u214 u215 u216 u217 u218 : Value, ((∃ R, Qm.Btw a b c d R ∧ CutB wr R.fst R.snd.fst R.snd.snd u19 u20 w')) ∧ a' = (⟨#[s0, s1, s2, s3, s4, s5, undef, undef, undef, undef, undef, undef, s12, s13, s14, s15, Value.slice (some { block := G, off := 0 }) 5 5, Value.int IntKind.i64 ↑k, 
    Value.int IntKind.i64 ↑m, u19, u20, s21, s22, s23, s24, s25, s26, s27, s28, s29, s30, s31, s32, s33, s34, s35, s36, s37, s38, s39, s40, s41, s42, s43, s44, s45, s46, s47, s48, 
    s49, s50, s51, s52, s53, s54, s55, s56, u57, u58, u59, u60, u61, u62, u63, u64, u65, u66, u67, u68, u69, u70, u71, u72, u73, u74, u75, u76, u77, u78, u79, u80, u81, u82, u83, u84, 
    u85, u86, u87, u88, u89, u90, u91, u92, u93, u94, u95, u96, u97, u98, u99, u100, u101, u102, u103, u104, u105, u106, u107, u108, u109, u110, u111, u112, u113, u114, u115, u116, 
    u117, u118, u119, u120, u121, u122, u123, u124, u125, u126, u127, u128, u129, u130, u131, u132, u133, u134, u135, u136, u137, u138, u139, u140, u141, u142, u143, u144, u145, u146, 
    u147, u148, u149, u150, u151, u152, u153, u154, u155, u156, u157, u158, u159, u160, u161, u162, u163, u164, u165, u166, u167, u168, u169, u170, u171, u172, u173, u174, u175, u176, 
    u177, u178, u179, u180, u181, u182, u183, u184, u185, u186, u187, u188, u189, u190, u191, u192, u193, u194, u195, u196, u197, u198, u199, u200, u201, u202, u203, u204, u205, u206, 
    u207, u208, u209, u210, u211, u212, u213, u214, u215, u216, u217, u218, undef], []⟩ : Act)) → J a' w')
    (hK : ∀ (a' : Act) (w' : World), Met J a' w' → K' a' w') :
    Code.wp Try.prog (Code.region 11 #[{ dst := some 64, op := Op.move (Operand.tmp 16), type := 32, pos := "law.go:145", after := #[], guard := none }, { dst := some 65, op := Op.move (Operand.tmp 17), type := 3, pos := "law.go:145", after := #[], guard := none }, { dst := some 66, op := Op.indexAddr 32 (Operand.tmp 64) (Operand.tmp 65), type := 0, pos := "law.go:145", after := #[{ on := 0, ground := Ground.data }, { on := 1, ground := Ground.data }], guard := none }, { dst := some 67, op := Op.load 26 (Operand.tmp 66), type := 26, pos := "law.go:145", after := #[{ on := 2, ground := Ground.data }], guard := none }, { dst := some 68, op := Op.move (Operand.tmp 16), type := 32, pos := "law.go:145", after := #[], guard := none }, { dst := some 69, op := Op.move (Operand.tmp 18), type := 3, pos := "law.go:145", after := #[], guard := none }, { dst := some 70, op := Op.indexAddr 32 (Operand.tmp 68) (Operand.tmp 69), type := 0, pos := "law.go:145", after := #[{ on := 4, ground := Ground.data }, { on := 5, ground := Ground.data }], guard := none }, { dst := some 71, op := Op.load 26 (Operand.tmp 70), type := 26, pos := "law.go:145", after := #[{ on := 6, ground := Ground.data }], guard := none }, { dst := some 72, op := Op.call { callee := Callee.value (Operand.func 31), args := #[Operand.tmp 67, Operand.tmp 71], argTypes := #[26, 26] }, type := 28, pos := "law.go:145", after := #[{ on := 3, ground := Ground.data }, { on := 7, ground := Ground.data }], guard := none }, { dst := some 63, op := Op.move (Operand.tmp 72), type := 28, pos := "law.go:145", after := #[{ on := 8, ground := Ground.data }], guard := none }, { dst := some 73, op := Op.extract (Operand.tmp 63) 0, type := 26, pos := "law.go:145", after := #[{ on := 9, ground := Ground.data }], guard := none }, { dst := some 74, op := Op.extract (Operand.tmp 63) 1, type := 27, pos := "law.go:145", after := #[{ on := 9, ground := Ground.data }, { on := 13, ground := Ground.gcOnly Departure.lateStores }], guard := none }, { dst := some 19, op := Op.alloc 26, type := 0, pos := "law.go:145", after := #[], guard := none }, { dst := none, op := Op.store 26 (Operand.tmp 19) (Operand.tmp 73), type := 0, pos := "law.go:145", after := #[{ on := 12, ground := Ground.data }, { on := 10, ground := Ground.data }, { on := 8, ground := Ground.chain }, { on := 0, ground := Ground.phase }, { on := 1, ground := Ground.phase }, { on := 2, ground := Ground.phase }, { on := 3, ground := Ground.phase }, { on := 4, ground := Ground.phase }, { on := 5, ground := Ground.phase }, { on := 6, ground := Ground.phase }, { on := 7, ground := Ground.phase }, { on := 8, ground := Ground.phase }, { on := 9, ground := Ground.phase }, { on := 10, ground := Ground.phase }, { on := 11, ground := Ground.textOnly Departure.lateStores }, { on := 12, ground := Ground.phase }], guard := none }, { dst := some 20, op := Op.assign (Operand.tmp 74), type := 27, pos := "law.go:145", after := #[{ on := 11, ground := Ground.data }, { on := 13, ground := Ground.chain }, { on := 0, ground := Ground.phase }, { on := 1, ground := Ground.phase }, { on := 2, ground := Ground.phase }, { on := 3, ground := Ground.phase }, { on := 4, ground := Ground.phase }, { on := 5, ground := Ground.phase }, { on := 6, ground := Ground.phase }, { on := 7, ground := Ground.phase }, { on := 8, ground := Ground.phase }, { on := 9, ground := Ground.phase }, { on := 10, ground := Ground.phase }, { on := 11, ground := Ground.phase }, { on := 12, ground := Ground.phase }, { on := 13, ground := Ground.phase }], guard := none }] true) (Exit.then K' Q) (⟨#[s0, s1, s2, s3, s4, s5, undef, undef, undef, undef, undef, undef, s12, s13, s14, s15, Value.slice (some { block := G, off := 0 }) 5 5, Value.int IntKind.i64 ↑k, 
    Value.int IntKind.i64 ↑m, v19, v20, s21, s22, s23, s24, s25, s26, s27, s28, s29, s30, s31, s32, s33, s34, s35, s36, s37, s38, s39, s40, s41, s42, s43, s44, s45, s46, s47, s48, 
    s49, s50, s51, s52, s53, s54, s55, s56, v57, v58, v59, v60, v61, v62, v63, v64, v65, v66, v67, v68, v69, v70, v71, v72, v73, v74, v75, v76, v77, v78, v79, v80, v81, v82, v83, v84, 
    v85, v86, v87, v88, v89, v90, v91, v92, v93, v94, v95, v96, v97, v98, v99, v100, v101, v102, v103, v104, v105, v106, v107, v108, v109, v110, v111, v112, v113, v114, v115, v116, 
    v117, v118, v119, v120, v121, v122, v123, v124, v125, v126, v127, v128, v129, v130, v131, v132, v133, v134, v135, v136, v137, v138, v139, v140, v141, v142, v143, v144, v145, v146, 
    v147, v148, v149, v150, v151, v152, v153, v154, v155, v156, v157, v158, v159, v160, v161, v162, v163, v164, v165, v166, v167, v168, v169, v170, v171, v172, v173, v174, v175, v176, 
    v177, v178, v179, v180, v181, v182, v183, v184, v185, v186, v187, v188, v189, v190, v191, v192, v193, v194, v195, v196, v197, v198, v199, v200, v201, v202, v203, v204, v205, v206, 
    v207, v208, v209, v210, v211, v212, v213, v214, v215, v216, v217, v218, undef], []⟩ : Act) wr := by
  have k_r := fun w => rbtw_any a b c d w ia ib ic id'
  have K_r := Lib.hid k_r
  clear k_r ia ib ic id'
  unfold rv at K_r
  have hSd : Since wr wr.drew := Below.drew (Below.refl _ _)
  refine wp_region_noPanic ?_
  go_region_with (go_at_call 31; refine (K_r.out _).mono ?_; rintro e w' ⟨R, hR, rfl, hr⟩; unfold rve; (first | (have hB := Since.step hSd hr) | (have hB := Since.step (Since.adrew _ _) hr)); (first | (with_reducible (have BX := Lib.hid (BoxAt.newd hr))) | skip); (first | (obtain ⟨b0, b1, b2, b3, b4⟩ := BX.out) | skip); clear hr)
  all_goals ((first | refine NoPanic.normal ?_ | skip); go_wp2_with fail; go_meet; exact ⟨R, hR, by first | exact CutB.alloc _ hB | exact CutB.store hB BX.out (Nat.le_refl _)⟩)

end Go.Proofs.Ytloddocibfbkpaa
