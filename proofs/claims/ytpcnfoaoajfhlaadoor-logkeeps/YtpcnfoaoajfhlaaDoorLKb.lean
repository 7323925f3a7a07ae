/-
  merelaw3.LogKeeps answers true, whatever is put and deleted, made safe, stopped and crashed.
-/
import Derived.Test.YtpcnfoaoajfhlaaDoorLkF
import Derived.Deep.LoopGhost
namespace Go.Proofs.YtpcnfoaoajfhlaaDoor
set_option linter.unusedVariables false
set_option linter.unusedSimpArgs false
open Go.RowKit

def IsTextsK (w : World) (v : Value) (n : Nat) : Prop := ∃ a c, v = .slice a n c ∧ n ≤ maxLen ∧ ∀ i, i < n → ∃ b o s, a = some ⟨b, o, none⟩ ∧ w.cell? ⟨b, o + i, none⟩ = some (.string s) ∧ s.size ≤ maxLen
def dX : Deed := ⟨3, false, ⟨#[120]⟩⟩
def dY : Deed := ⟨3, false, ⟨#[121]⟩⟩
theorem first_x : putO [] 3 ⟨#[120]⟩ = ⟨[dX], 1, 0⟩ := by kernel_rfl
theorem first_y : putO [dX] 3 ⟨#[121]⟩ = ⟨[dX, dY], 2, 0⟩ := by kernel_rfl
theorem first_cut : (flatD [dX, dY] ++ ([] : List Nat)).take (keepN 0 3 6) = flatD ([dX, dY].take 1) ++ [] := by decide
theorem first_read : atO [dX] 3 ([dX].length : Nat) = (⟨3, 1, 1, false, ⟨#[120]⟩⟩, 0) := by kernel_rfl
theorem first_fits : Fits [dX] := by
  intro i hi
  obtain rfl : i = 0 := by simp at hi; omega
  exact ⟨by kernel_rfl, by kernel_rfl⟩
/-- the block of code of that number -/
def findB (n : Nat) : Code → Option Code
  | .block m c => if m = n then some (.block m c) else findB n c
  | .seq a b => match findB n a with
    | some x => some x
    | none => findB n b
  | .cond _ a b => match findB n a with
    | some x => some x
    | none => findB n b
  | .loop c => findB n c
  | _ => none
set_option maxRecDepth 100000 in
set_option maxHeartbeats 64000000 in
/-- a round's deeds -/
theorem lk_in {w w1 : World} {ks ds ss fs ps : List Int} {pk pt pd pS pf pp : Option Addr} {ck nk ct nt cd0 nd cS nS cf0 nf cp np j r a sf gd cd gm cm nn : Nat} {l : List Deed} {p : List Nat} {lf1 : Int} {st : Bool}
    {t6 t7 t8 t9 t10 t11 t12 t13 t14 t15 t16 t17 t18 t19 t20 t27 t28 t29 t30 t31 t32 t33 t34 t35 t36 t37 t38 t39 t40 t41 t42 t43 t44 t45 t46 t47 t48 t49 t50 t51 t52 t53 t54 t55 t56 t57 t58 t59 t60 t61 t62 t63 t64 t65 t66 t67 t68 t69 t70 t71 t72 t73 t74 t75 t76 t77 t78 t79 t80 t81 t82 t83 t84 t85 t86 t87 t88 t89 t90 t91 t92 t93 t94 t95 t96 t97 t98 t99 t100 t101 t102 t103 t104 t105 t106 t107 t108 t109 t110 t111 t112 t113 t114 t115 t116 t117 t118 t119 t120 t121 t122 t123 t124 t125 t126 t127 t128 t129 t130 t131 t132 t133 t134 t135 t136 t137 t138 t139 t140 t141 t142 t143 t144 t145 t146 t147 t148 t149 t150 t151 t152 t153 t154 t155 t156 t157 t158 t159 t160 t161 t162 t163 t164 t165 t166 t167 t168 t169 t170 t171 t172 t173 t174 t175 t176 t177 t178 t179 t180 t181 t182 t183 t184 t185 t186 t187 t188 t189 t190 t191 t192 t193 t194 t195 t196 t197 t198 t199 t200 t201 t202 t203 t204 t205 t206 t207 t208 t209 t210 t211 t212 t213 t214 t215 t216 t217 t218 t219 t220 t221 t222 t223 t224 t225 t226 t227 t228 t229 t230 t231 t232 t233 t234 t235 t236 t237 t238 t239 t240 t241 t242 t243 t244 t245 t246 t247 t248 t249 t250 t251 t252 t253 t254 t255 t256 t257 t258 t259 t260 t261 t262 t263 t264 t265 t266 t267 t268 t269 t270 t271 t272 t273 t274 t275 t276 t277 t278 t279 t280 t281 t282 t283 t284 t285 t286 t287 t288 t289 t290 t291 t292 t293 t294 t295 t296 t297 t298 t299 t300 t301 t302 t303 t304 t305 t306 t307 t308 t309 t310 t311 t312 t313 t314 t315 t316 t317 t318 t319 t320 t321 t322 t323 t324 t325 t326 t327 t328 t329 t330 t331 t332 t333 t334 t335 t336 t337 t338 t339 t340 t341 t342 t343 t344 t345 t346 t347 : Value} {K' K1 : Act → World → Prop} {Q' : Exit → Act → World → Prop}
    (C : Code) (hC : findB 2 (Tryd.f4.body.getD .skip) = some C)
    (HG : Hid (HasErr w)) (HNk : Hid (ks.length = nk)) (hk63 : nk ≤ 9223372036854775807) (HK : Hid (IntsIs w (.slice pk nk ck) ks)) (HNd : Hid (ds.length = nd)) (hd63 : nd ≤ 9223372036854775807) (HD : Hid (IntsIs w (.slice pd nd cd0) ds)) (HNs : Hid (ss.length = nS)) (hs63 : nS ≤ 9223372036854775807) (HSy : Hid (IntsIs w (.slice pS nS cS) ss)) (ht63 : nt ≤ 2 ^ 63 - 1) (HT : Hid (∀ i, i < nt → ∃ b o s, pt = some ⟨b, o, none⟩ ∧ w.cell? ⟨b, o + i, none⟩ = some (.string s) ∧ s.size ≤ maxLen))
    (hr4' : r < 4) (har : a ≤ 12 * r) (HI1 : Hid (KpI w.heap.size w w1 j l p sf lf1 st gd cd gm cm nn)) (HO1 : Hid (LgOk l p sf lf1 st a))
    (HKK : Hid (∀ (q12 q26 q27 q28 q29 q30 q31 q32 q33 q34 q35 q36 q37 q126 q127 q128 q129 q130 q131 q132 q133 q134 q135 q136 q137 q138 q139 q140 q141 q142 q143 q144 q145 q146 q147 q148 q149 q150 q151 q152 q153 q154 q155 q156 q157 q158 q159 q160 q161 q162 q163 q164 q165 q166 q167 q168 q169 q170 q171 q172 q173 q174 q175 q176 q177 q178 q179 q180 q181 q182 q183 q184 q185 q186 q187 q188 q189 q190 q191 q192 q193 q194 q195 q196 q197 q198 q199 q200 q201 q202 q203 q204 q205 q206 q207 q208 q209 q210 q211 q212 q213 q214 q215 q216 q217 q218 q219 q220 q221 q222 q223 q224 q225 q226 q227 q228 q229 q230 q231 q232 q233 q234 q235 q236 q237 q238 q239 q240 q241 q242 q243 q244 q245 q246 q247 q248 q249 q250 q251 q252 q253 q254 q255 q256 q257 q258 q259 q260 q261 q262 q263 q264 q265 q266 q267 q268 q269 : Value) (a2 : Nat) (l2 : List Deed) (p2 : List Nat) (sf2 : Nat) (lf2 : Int) (st2 : Bool) (gd2 cd2 gm2 cm2 nn2 : Nat) (wd : World), a2 ≤ 12 * (r + 1) → Hid (KpI w.heap.size w wd j l2 p2 sf2 lf2 st2 gd2 cd2 gm2 cm2 nn2) → Hid (LgOk l2 p2 sf2 lf2 st2 a2) → K' { tmps := #[.slice pk nk ck, .slice pt nt ct, .slice pd nd cd0, .slice pS nS cS, .slice pf nf cf0, .slice pp np cp, t6, t7, t8, t9, t10, t11, q12, t13, t14, t15, t16, t17, t18, t19, t20, .pointer (some ⟨j, 0, none⟩), .slice (some ⟨gd2, 0, none⟩) (nn2 + 1) cd2, .slice (some ⟨gm2, 0, none⟩) (nn2 + 1) cm2, .int .i64 a2, .int .i64 r, q26, q27, q28, q29, q30, q31, q32, q33, q34, q35, q36, q37, t38, t39, t40, t41, t42, t43, t44, t45, t46, t47, t48, t49, t50, t51, t52, t53, t54, t55, t56, t57, t58, t59, t60, t61, t62, t63, t64, t65, t66, t67, t68, t69, t70, t71, t72, t73, t74, t75, t76, t77, t78, t79, t80, t81, t82, t83, t84, t85, t86, t87, t88, t89, t90, t91, t92, t93, t94, t95, t96, t97, t98, t99, t100, t101, t102, t103, t104, t105, t106, t107, t108, t109, t110, t111, t112, t113, t114, t115, t116, t117, t118, t119, t120, t121, t122, t123, t124, t125, q126, q127, q128, q129, q130, q131, q132, q133, q134, q135, q136, q137, q138, q139, q140, q141, q142, q143, q144, q145, q146, q147, q148, q149, q150, q151, q152, q153, q154, q155, q156, q157, q158, q159, q160, q161, q162, q163, q164, q165, q166, q167, q168, q169, q170, q171, q172, q173, q174, q175, q176, q177, q178, q179, q180, q181, q182, q183, q184, q185, q186, q187, q188, q189, q190, q191, q192, q193, q194, q195, q196, q197, q198, q199, q200, q201, q202, q203, q204, q205, q206, q207, q208, q209, q210, q211, q212, q213, q214, q215, q216, q217, q218, q219, q220, q221, q222, q223, q224, q225, q226, q227, q228, q229, q230, q231, q232, q233, q234, q235, q236, q237, q238, q239, q240, q241, q242, q243, q244, q245, q246, q247, q248, q249, q250, q251, q252, q253, q254, q255, q256, q257, q258, q259, q260, q261, q262, q263, q264, q265, q266, q267, q268, q269, t270, t271, t272, t273, t274, t275, t276, t277, t278, t279, t280, t281, t282, t283, t284, t285, t286, t287, t288, t289, t290, t291, t292, t293, t294, t295, t296, t297, t298, t299, t300, t301, t302, t303, t304, t305, t306, t307, t308, t309, t310, t311, t312, t313, t314, t315, t316, t317, t318, t319, t320, t321, t322, t323, t324, t325, t326, t327, t328, t329, t330, t331, t332, t333, t334, t335, t336, t337, t338, t339, t340, t341, t342, t343, t344, t345, t346, t347], defers := [] } wd)) :
    Code.wp Tryd.prog C (Exit.then K' (Exit.inBlock 1 (Exit.then K1 Q'))) { tmps := #[.slice pk nk ck, .slice pt nt ct, .slice pd nd cd0, .slice pS nS cS, .slice pf nf cf0, .slice pp np cp, t6, t7, t8, t9, t10, t11, t12, t13, t14, t15, t16, t17, t18, t19, t20, .pointer (some ⟨j, 0, none⟩), .slice (some ⟨gd, 0, none⟩) (nn + 1) cd, .slice (some ⟨gm, 0, none⟩) (nn + 1) cm, .int .i64 a, .int .i64 r, .int .i64 0, t27, t28, t29, t30, t31, t32, t33, t34, t35, t36, t37, t38, t39, t40, t41, t42, t43, t44, t45, t46, t47, t48, t49, t50, t51, t52, t53, t54, t55, t56, t57, t58, t59, t60, t61, t62, t63, t64, t65, t66, t67, t68, t69, t70, t71, t72, t73, t74, t75, t76, t77, t78, t79, t80, t81, t82, t83, t84, t85, t86, t87, t88, t89, t90, t91, t92, t93, t94, t95, t96, t97, t98, t99, t100, t101, t102, t103, t104, t105, t106, t107, t108, t109, t110, t111, t112, t113, t114, t115, t116, t117, t118, t119, t120, t121, t122, t123, t124, t125, t126, t127, t128, t129, t130, t131, t132, t133, t134, t135, t136, t137, t138, t139, t140, t141, t142, t143, t144, t145, t146, t147, t148, t149, t150, t151, t152, t153, t154, t155, t156, t157, t158, t159, t160, t161, t162, t163, t164, t165, t166, t167, t168, t169, t170, t171, t172, t173, t174, t175, t176, t177, t178, t179, t180, t181, t182, t183, t184, t185, t186, t187, t188, t189, t190, t191, t192, t193, t194, t195, t196, t197, t198, t199, t200, t201, t202, t203, t204, t205, t206, t207, t208, t209, t210, t211, t212, t213, t214, t215, t216, t217, t218, t219, t220, t221, t222, t223, t224, t225, t226, t227, t228, t229, t230, t231, t232, t233, t234, t235, t236, t237, t238, t239, t240, t241, t242, t243, t244, t245, t246, t247, t248, t249, t250, t251, t252, t253, t254, t255, t256, t257, t258, t259, t260, t261, t262, t263, t264, t265, t266, t267, t268, t269, t270, t271, t272, t273, t274, t275, t276, t277, t278, t279, t280, t281, t282, t283, t284, t285, t286, t287, t288, t289, t290, t291, t292, t293, t294, t295, t296, t297, t298, t299, t300, t301, t302, t303, t304, t305, t306, t307, t308, t309, t310, t311, t312, t313, t314, t315, t316, t317, t318, t319, t320, t321, t322, t323, t324, t325, t326, t327, t328, t329, t330, t331, t332, t333, t334, t335, t336, t337, t338, t339, t340, t341, t342, t343, t344, t345, t346, t347], defers := [] } w1 := by
  obtain rfl := Option.some.inj ((show findB 2 (Tryd.f4.body.getD .skip) = some _ from rfl).symm.trans hC)
  clear hC
  let _BP : Exit → Act → World → Prop := bodyPost Tryd.prog Tryd.f4 fun _ _ => True
  go_wp2_with fail
  go_loopw [22, 23, 24, 26] (fun c22 c23 c24 c26 wr => ∃ (k a : Nat) (l : List Deed) (p : List Nat) (sf : Nat) (lf : Int) (st : Bool) (gd cd gm cm nn : Nat), k ≤ 12 ∧ a ≤ 12 * r + k ∧ c22 = .slice (some ⟨gd, 0, none⟩) (nn + 1) cd ∧ c23 = .slice (some ⟨gm, 0, none⟩) (nn + 1) cm ∧ c24 = .int .i64 a ∧ c26 = .int .i64 k ∧ Hid (KpI w.heap.size w wr j l p sf lf st gd cd gm cm nn) ∧ Hid (LgOk l p sf lf st a)) (fun _ _ _ c26 _ => 12 - (intOf c26).toNat)
  case atStart => exact ⟨0, a, l, p, sf, lf1, st, gd, cd, gm, cm, nn, by omega, by omega, rfl, rfl, rfl, rfl, HI1, HO1⟩
  case round =>
    clear HI1 HO1 har
    obtain ⟨k, a, l, p, sf, lf, st, gd, cd, gm, cm, nn, hk12, hak, rfl, rfl, rfl, rfl, HI, HO⟩ := hrel
    by_cases h19 : k < 12 ∧ a < nk
    · obtain ⟨hk12', hank⟩ := h19
      have hd3 : decide ((k : Int) < 12) = true := by simp; omega
      have hd4 : decide ((a : Int) < (nk : Int)) = true := by simp; omega
      have hanki : (a : Int) < (nk : Int) := by omega
      have ha47 : a ≤ 47 := by omega
      have hnn : nn ≤ 47 := by have h1 := HI.out.1; have h2 := HO.out.len; omega
      go_upto_region 21 with fail
      go_cut [158] (fun c wd => c = .bool false ∧ ∃ (sf : Nat) (lf : Int) (st : Bool), Hid (KpI w.heap.size w wd j l p sf lf st gd cd gm cm nn) ∧ Hid (LgOk l p sf lf st a))
      case first =>
        try clear_value *
        as_aux_lemma =>
          let _BP : Exit → Act → World → Prop := bodyPost Tryd.prog Tryd.f4 fun _ _ => True
          by_cases hns : a < nS
          · have hnsi : (a : Int) < (nS : Int) := by omega
            obtain ⟨b, o, z, rfl, cz, _⟩ := ints_at HSy.out HI.out.bel.1 HNs.out hns
            by_cases hz1 : z = 1
            · have hz1b : (z == 1) = true := by simp [hz1]
              clear hz1
              obtain ⟨n, HN⟩ : ∃ n, Hid ((flatD l ++ p).length = n) := ⟨_, rfl⟩
              obtain ⟨S, h1', h2'⟩ := HI.out.log
              have HS : Hid _ := h1'
              have HC : Hid _ := h2'
              clear h1' h2'
              go_wp2_with fail
              refine (lkSync_c HS.out HO.out HN.out).mono ?_
              rintro e w2 ⟨R, sf2, lf2, st2, rfl, hR, hok, hto⟩
              have HI2 : Hid (KpI w.heap.size w w2 j l p sf2 lf2 st2 gd cd gm cm nn) := HC.out _ _ _ _ _ hto
              have HO2 : Hid (LgOk l p sf2 lf2 st2 a) := hok
              clear hto HS HC hok cz
              by_cases hR0 : R = 0
              · have hsn : ((sf2 : Int) != (n : Int)) = false := by have := hR hR0; simp; omega
                subst hR0
                rw [errZ]
                clear hR
                obtain ⟨S, h1', h2'⟩ := HI2.out.log
                have HS : Hid _ := h1'
                clear h1' h2'
                go_wp2_with (first | (go_at_call 22; refine (lgSafe_c HS.out).mono ?_; rintro e w' ⟨rfl, hw⟩; rw [hw]; clear hw w') | (go_at_call 21; refine (lgBytes_c (n := n) HS.out HN.out).mono ?_; rintro e w' ⟨rfl, hw⟩; rw [hw]; clear hw w'))
                go_meet
                exact ⟨rfl, sf2, lf2, st2, HI2, HO2⟩
              · rw [errN hR0]
                clear hR hR0
                go_wp2_with fail
                go_meet
                exact ⟨rfl, sf2, lf2, st2, HI2, HO2⟩
            · have hz1b : (z == 1) = false := by simp [hz1]
              clear hz1
              go_wp2_with fail
              go_meet
              exact ⟨rfl, sf, lf, st, HI, HO⟩
          · have hnsi : ¬ (a : Int) < (nS : Int) := by omega
            have hnsb : decide ((a : Int) < (nS : Int)) = false := by simp; omega
            go_wp2_with fail
            go_meet
            exact ⟨rfl, sf, lf, st, HI, HO⟩
      case rest =>
      obtain ⟨h158, sf2, lf2, st2, HI2, HO2⟩ := hcut
      obtain ⟨w2, hren⟩ : ∃ y, y = wc := ⟨_, rfl⟩
      subst hren
      subst h158
      clear HI HO
      obtain ⟨b, G, cb, hrb⟩ := HI2.out.at (i := nn) (Nat.le_refl _)
      have HRb : Hid (RefIs w2 b l G) := by have h := hrb; rw [List.take_of_length_le (by rw [HI2.out.1]; exact Nat.le_refl _)] at h; exact h
      have lgd := World.block_lt_of_cell? w2 _ cb
      have hnw : IntKind.i64.wrap (nn : Int) = (nn : Int) := by rw [IntKind.wrap_i64]; omega
      have hnn1 : (nn : Int) < (nn : Int) + 1 := by omega
      clear hrb
      go_upto_region 24 with fail
      clear cb lgd
      go_wp2_with fail
      refine (refCopy_c HRb.out).mono ?_
      rintro e w3 ⟨nb, G3, rfl, hr3, hG3, hb3⟩
      have HQ3 : Hid (KqJ w.heap.size w w3 j l p sf2 lf2 st2 l gd cd gm cm nn nb l) := HI2.out.next hb3 hr3 hG3
      clear hr3 hG3 hb3 HRb HI2
      obtain ⟨n, HN⟩ : ∃ n, Hid ((flatD l ++ p).length = n) := ⟨_, rfl⟩
      obtain ⟨S, h1', h2'⟩ := HQ3.out.log
      have HS : Hid _ := h1'
      clear h1' h2'
      go_wp2_with fail
      refine (lgBytes_c (n := n) HS.out HN.out).mono ?_
      rintro e w' ⟨rfl, hw⟩
      rw [hw]
      clear hw w' HS
      go_upto_if 172 with fail
      go_cut [30] (fun tv wd => wd = w3 ∧ ∃ tx : ByteArray, tv = .string tx ∧ Hid (tx.size ≤ maxLen))
      case first =>
        try clear_value *
        as_aux_lemma =>
          let _BP : Exit → Act → World → Prop := bodyPost Tryd.prog Tryd.f4 fun _ _ => True
          by_cases hn3 : a < nt
          · obtain ⟨bT, oT, s, rfl, ct, hts⟩ := HT.out a hn3
            have ct' := old_cellK HQ3.out.bel.1 ct
            have hn4 : (a : Int) < (nt : Int) := by omega
            clear ct
            go_wp2_with fail
            go_meet
            exact ⟨rfl, s, rfl, hts⟩
          · have hn4 : ¬ (a : Int) < (nt : Int) := by omega
            go_wp2_with fail
            go_meet
            exact ⟨rfl, _, rfl, by show _ ≤ maxLen; unfold maxLen; decide⟩
      case rest =>
      obtain ⟨hwd, tx, hslot, HTx⟩ := hcut
      rw [hwd]
      clear hwd wc
      subst hslot
      go_upto_region 33 with fail
      go_cut [187] (fun c wd => wd = w3 ∧ ∃ db : Bool, c = .bool db)
      case first =>
        try clear_value *
        as_aux_lemma =>
          let _BP : Exit → Act → World → Prop := bodyPost Tryd.prog Tryd.f4 fun _ _ => True
          by_cases hn3 : a < nd
          · obtain ⟨bD, oD, z, rfl, cz, _⟩ := ints_at HD.out HQ3.out.bel.1 HNd.out hn3
            have hn4 : (a : Int) < (nd : Int) := by omega
            have hn5 : decide ((a : Int) < (nd : Int)) = true := by simp; omega
            obtain ⟨zb, hzb⟩ : ∃ c : Bool, (z == 1) = c := ⟨_, rfl⟩
            go_wp2_with fail
            go_meet
            exact ⟨rfl, _, rfl⟩
          · have hn4 : ¬ (a : Int) < (nd : Int) := by omega
            have hn5 : decide ((a : Int) < (nd : Int)) = false := by simp; omega
            go_wp2_with fail
            go_meet
            exact ⟨rfl, _, rfl⟩
      case rest =>
      obtain ⟨hwd, db, hslot⟩ := hcut
      rw [hwd]
      clear hwd wc
      subst hslot
      go_upto_if 187 with fail
      go_cut [31, 32, 33, 34] (fun c31 c32 c33 c34 wd => ∃ (W E n1 R : Int) (ER : Value) (o : Out) (d : Deed) (l' : List Deed) (p' : List Nat) (lf' : Int) (st' : Bool), c31 = .int .i64 W ∧ c32 = .int .i64 E ∧ c33 = .int .i64 n1 ∧ c34 = ER ∧ Hid (errV R = ER) ∧ Hid (W = o.num ∧ E = o.err) ∧ Hid (Did o d l p sf2 a n1 R l' p' lf' st') ∧ Hid (KqJ w.heap.size w wd j l' p' sf2 lf' st' l gd cd gm cm nn nb o.done))
      case first =>
        try clear_value *
        as_aux_lemma =>
          let _BP : Exit → Act → World → Prop := bodyPost Tryd.prog Tryd.f4 fun _ _ => True
          obtain ⟨bK, oK, z, rfl, cz, _⟩ := ints_at HK.out (Below.refl _ _) HNk.out hank
          have cz0 : Hid (∀ w', Below w.heap.size w w' → w'.cell? ⟨bK, oK + a, none⟩ = some (.int .i64 z)) := fun w' hb => old_cellK hb cz
          replace cz := cz0.out _ HQ3.out.bel.1
          cases db with
          | true =>
            obtain ⟨G, hr, hturn⟩ := HQ3.out.turn
            have HR : Hid _ := hr
            have HTu : Hid _ := hturn
            clear hr hturn
            go_wp2_with fail
            refine (refDelete_c nb z l G _ HR.out).mono ?_
            rintro e w4 ⟨rfl, hleft⟩
            have HQ4 : Hid (KqJ w.heap.size w w4 j l p sf2 lf2 st2 l gd cd gm cm nn nb (delO l z).done) := HTu.out _ _ hleft
            clear hleft HR HTu cz
            have cz2' := cz0.out _ HQ4.out.bel.1
            obtain ⟨S, h1', h2'⟩ := HQ4.out.log
            have HS : Hid _ := h1'
            have HC : Hid _ := h2'
            clear h1' h2'
            go_wp2_with fail
            refine (lkDel_c HS.out HO2.out (by omega)).mono ?_
            rintro e w5 ⟨n1, R, l', p', lf', st', rfl, hdid, hto⟩
            have HQ5 : Hid (KqJ w.heap.size w w5 j l' p' sf2 lf' st' l gd cd gm cm nn nb (delO l z).done) := HC.out _ _ _ _ _ _ hto
            have HDid : Hid (Did (delO l z) ⟨z, true, ⟨#[]⟩⟩ l p sf2 a n1 R l' p' lf' st') := hdid
            obtain ⟨ER, HER⟩ : ∃ ER, Hid (errV R = ER) := ⟨_, rfl⟩
            rw [HER.out]
            clear hto hdid HS HC
            go_wp2_with fail
            go_meet
            exact ⟨_, _, n1, R, ER, delO l z, _, l', p', lf', st', rfl, rfl, rfl, rfl, HER, ⟨rfl, rfl⟩, HDid, HQ5⟩
          | false =>
            obtain ⟨G, hr, hturn⟩ := HQ3.out.turn
            have HR : Hid _ := hr
            have HTu : Hid _ := hturn
            clear hr hturn
            go_wp2_with fail
            refine (refPut_c nb z tx l G _ HTx.out HR.out).mono ?_
            rintro e w4 ⟨rfl, hleft⟩
            have HQ4 : Hid (KqJ w.heap.size w w4 j l p sf2 lf2 st2 l gd cd gm cm nn nb (putO l z tx).done) := HTu.out _ _ hleft
            clear hleft HR HTu cz
            have cz2' := cz0.out _ HQ4.out.bel.1
            obtain ⟨S, h1', h2'⟩ := HQ4.out.log
            have HS : Hid _ := h1'
            have HC : Hid _ := h2'
            clear h1' h2'
            go_wp2_with fail
            refine (lkPut_c HTx.out HS.out HO2.out (by omega)).mono ?_
            rintro e w5 ⟨n1, R, l', p', lf', st', rfl, hdid, hto⟩
            have HQ5 : Hid (KqJ w.heap.size w w5 j l' p' sf2 lf' st' l gd cd gm cm nn nb (putO l z tx).done) := HC.out _ _ _ _ _ _ hto
            have HDid : Hid (Did (putO l z tx) ⟨z, false, tx⟩ l p sf2 a n1 R l' p' lf' st') := hdid
            obtain ⟨ER, HER⟩ : ∃ ER, Hid (errV R = ER) := ⟨_, rfl⟩
            rw [HER.out]
            clear hto hdid HS HC
            go_wp2_with fail
            go_meet
            exact ⟨_, _, n1, R, ER, putO l z tx, _, l', p', lf', st', rfl, rfl, rfl, rfl, HER, ⟨rfl, rfl⟩, HDid, HQ5⟩
      case rest =>
      obtain ⟨W, E, n1, R, ER, o, d, l', p', lf', st', h31, h32, h33, h34, HER, HWE, HDid, HQ5⟩ := hcut
      obtain ⟨w5, hren⟩ : ∃ y, y = wc := ⟨_, rfl⟩
      subst hren
      have h34' := h34.symm
      subst h34' h31 h32 h33
      clear HQ3 HO2
      as_aux_lemma =>
        have HErr : Hid (∀ m W, HasErr W → Calls Tryd.prog 28 #[ER, .int .i64 m] W fun e w' => e = .returned (.bool (R == m)) ∧ Below W.heap.size W w') := fun m W hW => by rw [← HER.out]; exact error_any R m W hW
        obtain ⟨sb, HSb⟩ : ∃ c : Bool, Hid ((R == 6) = c) := ⟨_, rfl⟩
        obtain ⟨tb, HTb⟩ : ∃ c : Bool, Hid ((R == E) = c) := ⟨_, rfl⟩
        go_wp2_with fail
        refine Calls.mono (HErr.out 6 _ (HG.out.below HG.out.lt HQ5.out.bel.1)) ?_
        rw [HSb.out]
        rintro e w6 ⟨rfl, hb⟩
        have HQ6 : Hid (KqJ w.heap.size w w6 j l' p' sf2 lf' st' l gd cd gm cm nn nb o.done) := HQ5.out.grown hb
        clear hb HQ5
        go_wp2_with fail
        refine Calls.mono (HErr.out E _ (HG.out.below HG.out.lt HQ6.out.bel.1)) ?_
        rw [HTb.out]
        rintro e w7 ⟨rfl, hb⟩
        have HQ7 : Hid (KqJ w.heap.size w w7 j l' p' sf2 lf' st' l gd cd gm cm nn nb o.done) := HQ6.out.grown hb
        clear hb HQ6 HErr
        go_upto_region 41 with fail
        go_cut [243] (fun c wd => c = .bool false ∧ wd = w7)
        case first =>
          try clear_value *
          as_aux_lemma =>
            let _BP : Exit → Act → World → Prop := bodyPost Tryd.prog Tryd.f4 fun _ _ => True
            cases sb with
            | true =>
              go_wp2_with fail
              go_meet
              exact ⟨rfl, rfl⟩
            | false =>
              have h6 : R ≠ 6 := by have := HSb.out; simpa using this
              have hre : R = E ∧ n1 = W := by
                rcases HDid.out.told with h | ⟨h1, h2⟩
                · exact absurd h h6
                · exact ⟨h1.trans HWE.out.2.symm, h2.trans HWE.out.1.symm⟩
              have htb : tb = true := by rw [← HTb.out]; simp [hre.1]
              subst htb
              have hnw : ((n1 : Int) != W) = false := by simp [hre.2]
              clear hre h6
              go_wp2_with fail
              go_meet
              exact ⟨rfl, rfl⟩
        case rest =>
        obtain ⟨h243, hwd⟩ := hcut
        rw [hwd]
        clear hwd wc
        subst h243
        obtain ⟨rb, HRb⟩ : ∃ c : Bool, Hid ((R == 0) = c) := ⟨_, rfl⟩
        go_upto_region 43 with fail
        go_cut [245] (fun c wd => c = .bool rb ∧ wd = w7)
        case first =>
          try clear_value *
          as_aux_lemma =>
            let _BP : Exit → Act → World → Prop := bodyPost Tryd.prog Tryd.f4 fun _ _ => True
            by_cases hR : R = 0
            · have hrb : rb = true := by rw [← HRb.out]; simp [hR]
              have her : ER = .nilIface := by rw [← HER.out, hR, errZ]
              subst hrb her
              go_wp2_with fail
              go_meet
              exact ⟨rfl, rfl⟩
            · have hrb : rb = false := by rw [← HRb.out]; simp [hR]
              have her : ER = .iface 71 (.int .i64 R) := by rw [← HER.out, errN hR]
              subst hrb her
              go_wp2_with fail
              go_meet
              exact ⟨rfl, rfl⟩
        case rest =>
        obtain ⟨h245, hwd⟩ := hcut
        rw [hwd]
        clear hwd wc
        subst h245
        go_upto_if 245 with fail
        go_cut [22, 23] (fun c22 c23 wd => ∃ gd cd gm cm nn : Nat, c22 = .slice (some ⟨gd, 0, none⟩) (nn + 1) cd ∧ c23 = .slice (some ⟨gm, 0, none⟩) (nn + 1) cm ∧ Hid (KpI w.heap.size w wd j l' p' sf2 lf' st' gd cd gm cm nn))
        case first =>
          try clear_value *
          as_aux_lemma =>
            let _BP : Exit → Act → World → Prop := bodyPost Tryd.prog Tryd.f4 fun _ _ => True
            cases rb with
            | false =>
              have hR : R ≠ 0 := by have := HRb.out; simpa using this
              have HI7 : Hid (KpI w.heap.size w w7 j l' p' sf2 lf' st' gd cd gm cm nn) := by
                have h := HQ7.out
                rw [HDid.out.bad hR] at h ⊢
                exact h.drop
              go_wp2_with fail
              go_meet
              exact ⟨gd, cd, gm, cm, nn, rfl, rfl, HI7⟩
            | true =>
              have hR : R = 0 := by have := HRb.out; simpa using this
              obtain ⟨hl', hod, hp0, hp1⟩ := HDid.out.good hR
              obtain ⟨n2, HN2⟩ : ∃ n2, Hid ((flatD l' ++ p').length = n2) := ⟨_, rfl⟩
              have hbytes : n + 2 ≤ n2 ∧ n2 ≤ 1000 := by
                have h1 := HN.out
                have h2 := HN2.out
                have h3 := HDid.out.ok.flat (by omega)
                rw [hp0, List.append_nil] at h1
                rw [hp1, List.append_nil] at h2
                rw [h2] at h3
                rw [hl', flatD_append, List.length_append] at h2
                have h4 : (flatD [d]).length = d.text.size + 2 := by simp [flatD, encD_length]
                omega
              have hbd : decide ((n2 : Int) < (n : Int) + 2) = false := by simp; omega
              have HP1 : Hid (p' = []) := hp1
              have HQ8 : Hid _ := HQ7.out
              rw [hod] at HQ8
              have HLd : Hid (l' = l ++ [d]) := hl'
              clear HQ7 hl' hod hp0 hp1 hR
              obtain ⟨S, h1', h2'⟩ := KqJ.log HQ8.out
              have HS : Hid _ := h1'
              clear h1' h2'
              go_wp2_with fail
              refine (lgBytes_c (n := n2) HS.out HN2.out).mono ?_
              rintro e w' ⟨rfl, hw⟩
              rw [hw]
              clear hw w' HS
              obtain ⟨bs, S, X, G, hrow, hbl, hq, hpre, hmark, hlen⟩ := KqJ.append HLd.out (KqJ.grown HQ8.out ((Below.refl w7.heap.size w7).alloc (Nat.le_refl _) (.cells #[.pointer (some ⟨nb, 0, none⟩)] 57)))
              have HOa : Hid _ := hrow
              have HVa : Hid ((w7.alloc (.cells #[.pointer (some ⟨nb, 0, none⟩)] 57)).heap[w7.heap.size]? = some (.cells #[.pointer (some ⟨nb, 0, none⟩)] 57 (0, 0))) := alloc_at _ _ _ rfl
              have HLa : Hid (bs.length ≤ 100) := show _ ≤ _ by omega
              have HSa : Hid (w.heap.size ≤ (w7.alloc (.cells #[.pointer (some ⟨nb, 0, none⟩)] 57)).heap.size) := hq.k.hN
              have HKq : Hid _ := hq
              have HPm : Hid (preL l' = preL l ++ [l'] ∧ markL l' = markL l ++ [(((flatD l').length : Nat) : Int)] ∧ l'.length = nn + 1 ∧ bs.length = nn + 1) := ⟨hpre, hmark, hlen, hbl⟩
              clear hrow hbl hq hpre hmark hlen HQ8
              go_wp2_with (at_builtin; refine wp_appPt _ rfl _ _ rfl w.heap.size _ bs nb rfl HOa.out _ rfl HVa.out HLa.out HSa.out ?_)
              intro vd' wa hown hgrow hat
              obtain ⟨HKa, g2, cap2, hv3⟩ := kq_step HKq hgrow hown hat HPm.out.2.2.2
              subst hv3
              clear hown hgrow hat HKq HOa HVa HLa HSa
              have HLg : Hid (LgAt S wa j l' p' sf2 lf' st') := HKa.out.lg
              go_wp2_with fail
              refine (lgBytes_c (n := n2) HLg.out HN2.out).mono ?_
              rintro e w' ⟨rfl, hw⟩
              rw [hw]
              clear hw w' HLg
              have HKb : Hid _ := Kp.grown HKa.out ((Below.refl wa.heap.size wa).alloc (Nat.le_refl _) (.cells #[.int .i64 n2] 3))
              have HVb : Hid ((wa.alloc (.cells #[.int .i64 n2] 3)).heap[wa.heap.size]? = some (.cells #[.int .i64 n2] 3 (0, 0))) := alloc_at _ _ _ rfl
              have HOb : Hid (OwnI w.heap.size (wa.alloc (.cells #[.int .i64 n2] 3)) (.slice (some ⟨gm, 0, none⟩) (nn + 1) cm) (markL l)) := HKb.out.mks
              have HLb : Hid ((markL l).length ≤ 100) := show _ ≤ _ by
                have h1 := HPm.out.2.2.1
                rw [HLd.out] at h1
                simp at h1
                rw [markL_len]
                omega
              have HSb2 : Hid (w.heap.size ≤ (wa.alloc (.cells #[.int .i64 n2] 3)).heap.size) := HKb.out.hN
              go_wp2_with (at_builtin; refine wp_appIm _ rfl _ _ rfl w.heap.size _ (markL l) (n2 : Int) rfl HOb.out _ rfl HVb.out HLb.out HSb2.out ?_)
              intro vm' wb hown2 hgrow2 hat2
              have HPm2 : Hid (preL l' = preL l ++ [l'] ∧ markL l' = markL l ++ [(((flatD l').length : Nat) : Int)] ∧ l'.length = nn + 1 ∧ (bs ++ [nb]).length = nn + 1 + 1) := ⟨HPm.out.1, HPm.out.2.1, HPm.out.2.2.1, by rw [List.length_append, HPm.out.2.2.2]; rfl⟩
              obtain ⟨g3, cap3, hv4, HI9⟩ := km_step HKb hgrow2 hown2 hat2 HPm2 HN2 HP1
              subst hv4
              clear hown2 hgrow2 hat2 HPm2 HKb HVb HOb HLb HSb2 HKa hbd hbytes
              go_wp2_with fail
              go_meet
              exact ⟨g2, cap2, g3, cap3, nn + 1, rfl, rfl, HI9⟩
        case rest =>
        obtain ⟨gd5, cd5, gm5, cm5, nn5, h22, h23, HI8⟩ := hcut
        obtain ⟨w8, hren⟩ : ∃ y, y = wc := ⟨_, rfl⟩
        subst hren
        subst h22 h23
        have HO8 : Hid (LgOk l' p' sf2 lf' st' (a + 1)) := HDid.out.ok
        clear HQ7 HDid HER HWE HRb HSb HTb hnw hnn1 HN
        as_aux_lemma =>
          have hnn5 : nn5 ≤ 48 := by have h1 := HI8.out.1; have h2 := HO8.out.len; omega
          obtain ⟨b, G, cb, hrb⟩ := HI8.out.at (i := nn5) (Nat.le_refl _)
          have HRb : Hid (RefIs w8 b l' G) := by have h := hrb; rw [List.take_of_length_le (by rw [HI8.out.1]; exact Nat.le_refl _)] at h; exact h
          have lgd := World.block_lt_of_cell? w8 _ cb
          have hnw : IntKind.i64.wrap (nn5 : Int) = (nn5 : Int) := by rw [IntKind.wrap_i64]; omega
          have hnn1 : (nn5 : Int) < (nn5 : Int) + 1 := by omega
          clear hrb
          obtain ⟨S, h1', h2'⟩ := HI8.out.log
          have HS : Hid _ := h1'
          clear h1' h2'
          go_wp2_with fail
          refine (alike_c HS.out HRb.out (HG.out.below HG.out.lt HI8.out.bel.1)).mono ?_
          rintro e w9 ⟨rfl, hb⟩
          have HI9 : Hid (KpI w.heap.size w w9 j l' p' sf2 lf' st' gd5 cd5 gm5 cm5 nn5) := HI8.out.grown hb
          clear hb HS HI8 HRb cb lgd hnw hnn1
          go_wp2_with fail
          go_roundw
          case rel => exact ⟨k + 1, a + 1, l', p', sf2, lf', st', gd5, cd5, gm5, cm5, nn5, by omega, by omega, rfl, rfl, by go_num, by go_num, HI9, HO8⟩
          case measure => simp [intOf]; omega
    · by_cases h1 : k < 12
      · have hd3 : decide ((k : Int) < 12) = true := by simp; omega
        have hd4 : decide ((a : Int) < (nk : Int)) = false := by simp; omega
        go_wp2_with fail
        exact HKK.out _ _ _ _ _ _ _ _ _ _ _ _ _ _ _ _ _ _ _ _ _ _ _ _ _ _ _ _ _ _ _ _ _ _ _ _ _ _ _ _ _ _ _ _ _ _ _ _ _ _ _ _ _ _ _ _ _ _ _ _ _ _ _ _ _ _ _ _ _ _ _ _ _ _ _ _ _ _ _ _ _ _ _ _ _ _ _ _ _ _ _ _ _ _ _ _ _ _ _ _ _ _ _ _ _ _ _ _ _ _ _ _ _ _ _ _ _ _ _ _ _ _ _ _ _ _ _ _ _ _ _ _ _ _ _ _ _ _ _ _ _ _ _ _ _ _ _ _ _ _ _ _ _ _ _ _ _  a l p sf lf st gd cd gm cm nn _ (by omega) HI HO
      · have hd3 : decide ((k : Int) < 12) = false := by simp; omega
        go_wp2_with fail
        exact HKK.out _ _ _ _ _ _ _ _ _ _ _ _ _ _ _ _ _ _ _ _ _ _ _ _ _ _ _ _ _ _ _ _ _ _ _ _ _ _ _ _ _ _ _ _ _ _ _ _ _ _ _ _ _ _ _ _ _ _ _ _ _ _ _ _ _ _ _ _ _ _ _ _ _ _ _ _ _ _ _ _ _ _ _ _ _ _ _ _ _ _ _ _ _ _ _ _ _ _ _ _ _ _ _ _ _ _ _ _ _ _ _ _ _ _ _ _ _ _ _ _ _ _ _ _ _ _ _ _ _ _ _ _ _ _ _ _ _ _ _ _ _ _ _ _ _ _ _ _ _ _ _ _ _ _ _ _ _  a l p sf lf st gd cd gm cm nn _ (by omega) HI HO
end Go.Proofs.YtpcnfoaoajfhlaaDoor