/- BodyWrites: the loops' bodies, and the innermost loop walked. -/
import Derived.Test.YtifbnojkjbjngaaDoorSpoil
import Derived.Deep.CutRange
namespace Go.Proofs.YtifbnojkjbjngaaDoor
open Go.RowKit

def firstLoop : Code → Option Code
  | .loop c => some c
  | .seq a b => match firstLoop a with
    | some c => some c
    | none => firstLoop b
  | .block _ c => firstLoop c
  | .scope c => firstLoop c
  | .cond _ a b => match firstLoop a with
    | some c => some c
    | none => firstLoop b
  | _ => none
noncomputable def wb1 : Code := ((Tryd.f4.body.bind firstLoop).getD .skip)
noncomputable def wb2 : Code := (firstLoop wb1).getD .skip
noncomputable def wb3 : Code := (firstLoop wb2).getD .skip

set_option maxRecDepth 100000 in
set_option maxHeartbeats 16000000 in
theorem wloop3 {s0 s1 s2 s12 s13 s14 s15 s16 s17 s18 s19 s20 s21 s23 s24 s25 s26 s27 s28 s29 s30 s31 s32 s33 s34 s35 s36 s37 s38 s39 s40 s41 s42 s43 s44 s45 s46 s47 s48 s49 s50 s51 s52 s53 s54 s55 s56 s57 s58 s59 s60 s61 s62 s63 s64 s65 s66 s67 s68 s69 s70 s71 s72 s73 s74 s75 s76 s77 s78 s79 s80 s81 s82 s83 s84 s85 s86 s87 s88 s89 s90 s91 s92 s93 s94 s95 s96 s97 s98 s99 s100 s101 s102 s103 s104 s105 s106 s107 s108 s109 s110 s111 s112 s113 s114 s115 s116 s117 s118 s119 s120 s121 s122 s123 s124 s125 s126 s127 s128 s129 s130 s131 s132 s133 s134 s135 s136 s137 s138 s139 s140 s141 s142 s143 s144 s145 s146 s147 s148 s149 s150 s151 s152 s153 s154 s155 s156 s157 s158 s159 s160 s161 s162 s163 s164 s165 s166 s167 s168 s169 s170 s171 s172 s173 s174 s175 s176 s177 s178 s179 s180 s181 s182 s183 s184 s185 s186 s187 s188 s189 s190 s191 s192 s193 s194 s195 s196 s197 s198 s199 s200 s201 s202 s203 s204 s205 s206 s207 s208 s209 s210 s211 s212 s213 s214 s215 s216 s217 s218 s219 s220 s221 s222 s223 s224 s225 s226 s227 s228 s229 s230 s231 s232 s233 s234 s235 s236 s237 s238 s239 s240 s241 s242 s243 s244 s245 s246 s247 s248 s249 s250 s251 s252 s253 s254 s255 s256 s257 s258 s259 s260 s261 s262 s263 s264 s265 s266 s267 s268 s269 : Value} {w3 wr0 : World} {NNl LLl NSl cN3 cL3 c3 c4 cI cR bN oN bL oL b8 o8 p a : Nat} {AD X : List ByteArray} {a4 aI aR : Option Addr} {n x : Int} {M0 : Bool} {old : ByteArray} {Q : Exit → Act → World → Prop}
    (hb0 : Below w3.heap.size w3 wr0) (hp1 : (p : Int) < (NNl : Int)) (hpLi : (p : Int) < (LLl : Int)) (ha2 : (a : Int) < (NSl : Int)) (hla : AD.length ≤ 4002)
    (HCn : Hid (∀ w', Below w3.heap.size w3 w' → w'.cell? ⟨bN, oN + p, none⟩ = some (.int .i64 n)))
    (HCX : Hid (∀ w', Below w3.heap.size w3 w' → w'.cell? ⟨bL, oL + p, none⟩ = some (.slice aR X.length cR)))
    (HCA : Hid (∀ w', Below w3.heap.size w3 w' → w'.cell? ⟨b8, o8 + a, none⟩ = some (.int .i64 x)))
    (HAD : Hid (StrsAt w3 a4 AD)) (HADS : Hid (∀ x ∈ AD, x.size ≤ 4000)) (HSX : Hid (StrsAt w3 aR X)) (HI : Hid (StrsAt wr0 aI X)) (hcpI : X.length ≤ cI) (hlX : X.length ≤ 4000)
    (HM0 : Hid (mayB n X = M0)) (HOLD : Hid (M0 = true → old = bs (tx n X)))
    (HEX : Hid (∀ (u2 u22 u23 u24 u25 u26 u27 u28 u29 u30 u31 u32 u160 u161 u162 u163 u164 u165 u166 u167 u168 u169 u170 u171 u172 u173 u174 u175 u176 u177 u178 u179 u180 u181 u182 u183 u184 u185 u186 u187 u188 u189 u190 u191 u192 u193 u194 u195 u196 u197 u198 u199 u200 u201 u202 u203 u204 u205 u206 u207 u208 u209 u210 u211 u212 u213 u214 u215 u216 u217 u218 u219 u220 u221 u222 u223 u224 u225 u226 u227 u228 u229 u230 u231 u232 u233 u234 u235 u236 u237 u238 u239 u240 u241 u242 u243 u244 u245 u246 u247 u248 u249 u250 u251 u252 u253 u254 u255 u256 u257 u258 u259 u260 u261 u262 u263 u264 u265 u266 u267 u268 : Value) (w' : World), Below wr0.heap.size wr0 w' → Q (.exit 4) ⟨List.toArray (s0 :: s1 :: u2 :: (.slice (some ⟨b8, o8, none⟩) NSl c3) :: (.slice a4 AD.length c4) :: (.slice (some ⟨bN, oN, none⟩) NNl cN3) :: (.slice (some ⟨bL, oL, none⟩) LLl cL3) :: (.int .i64 (p : Int)) :: (.slice aI X.length cI) :: (.bool M0) :: (.string old) :: (.int .i64 (a : Int)) :: s12 :: s13 :: s14 :: s15 :: s16 :: s17 :: s18 :: s19 :: s20 :: s21 :: u22 :: u23 :: u24 :: u25 :: u26 :: u27 :: u28 :: u29 :: u30 :: u31 :: u32 :: s33 :: s34 :: s35 :: s36 :: s37 :: s38 :: s39 :: s40 :: s41 :: s42 :: s43 :: s44 :: s45 :: s46 :: s47 :: s48 :: s49 :: s50 :: s51 :: s52 :: s53 :: s54 :: s55 :: s56 :: s57 :: s58 :: s59 :: s60 :: s61 :: s62 :: s63 :: s64 :: s65 :: s66 :: s67 :: s68 :: s69 :: s70 :: s71 :: s72 :: s73 :: s74 :: s75 :: s76 :: s77 :: s78 :: s79 :: s80 :: s81 :: s82 :: s83 :: s84 :: s85 :: s86 :: s87 :: s88 :: s89 :: s90 :: s91 :: s92 :: s93 :: s94 :: s95 :: s96 :: s97 :: s98 :: s99 :: s100 :: s101 :: s102 :: s103 :: s104 :: s105 :: s106 :: s107 :: s108 :: s109 :: s110 :: s111 :: s112 :: s113 :: s114 :: s115 :: s116 :: s117 :: s118 :: s119 :: s120 :: s121 :: s122 :: s123 :: s124 :: s125 :: s126 :: s127 :: s128 :: s129 :: s130 :: s131 :: s132 :: s133 :: s134 :: s135 :: s136 :: s137 :: s138 :: s139 :: s140 :: s141 :: s142 :: s143 :: s144 :: s145 :: s146 :: s147 :: s148 :: s149 :: s150 :: s151 :: s152 :: s153 :: s154 :: s155 :: s156 :: s157 :: s158 :: s159 :: u160 :: u161 :: u162 :: u163 :: u164 :: u165 :: u166 :: u167 :: u168 :: u169 :: u170 :: u171 :: u172 :: u173 :: u174 :: u175 :: u176 :: u177 :: u178 :: u179 :: u180 :: u181 :: u182 :: u183 :: u184 :: u185 :: u186 :: u187 :: u188 :: u189 :: u190 :: u191 :: u192 :: u193 :: u194 :: u195 :: u196 :: u197 :: u198 :: u199 :: u200 :: u201 :: u202 :: u203 :: u204 :: u205 :: u206 :: u207 :: u208 :: u209 :: u210 :: u211 :: u212 :: u213 :: u214 :: u215 :: u216 :: u217 :: u218 :: u219 :: u220 :: u221 :: u222 :: u223 :: u224 :: u225 :: u226 :: u227 :: u228 :: u229 :: u230 :: u231 :: u232 :: u233 :: u234 :: u235 :: u236 :: u237 :: u238 :: u239 :: u240 :: u241 :: u242 :: u243 :: u244 :: u245 :: u246 :: u247 :: u248 :: u249 :: u250 :: u251 :: u252 :: u253 :: u254 :: u255 :: u256 :: u257 :: u258 :: u259 :: u260 :: u261 :: u262 :: u263 :: u264 :: u265 :: u266 :: u267 :: u268 :: s269 :: []), []⟩ w')) :
    Code.wp Tryd.prog (Code.loop wb3) Q ⟨List.toArray (s0 :: s1 :: s2 :: (.slice (some ⟨b8, o8, none⟩) NSl c3) :: (.slice a4 AD.length c4) :: (.slice (some ⟨bN, oN, none⟩) NNl cN3) :: (.slice (some ⟨bL, oL, none⟩) LLl cL3) :: (.int .i64 (p : Int)) :: (.slice aI X.length cI) :: (.bool M0) :: (.string old) :: (.int .i64 (a : Int)) :: s12 :: s13 :: s14 :: s15 :: s16 :: s17 :: s18 :: s19 :: s20 :: s21 :: (.int .i64 0) :: s23 :: s24 :: s25 :: s26 :: s27 :: s28 :: s29 :: s30 :: s31 :: s32 :: s33 :: s34 :: s35 :: s36 :: s37 :: s38 :: s39 :: s40 :: s41 :: s42 :: s43 :: s44 :: s45 :: s46 :: s47 :: s48 :: s49 :: s50 :: s51 :: s52 :: s53 :: s54 :: s55 :: s56 :: s57 :: s58 :: s59 :: s60 :: s61 :: s62 :: s63 :: s64 :: s65 :: s66 :: s67 :: s68 :: s69 :: s70 :: s71 :: s72 :: s73 :: s74 :: s75 :: s76 :: s77 :: s78 :: s79 :: s80 :: s81 :: s82 :: s83 :: s84 :: s85 :: s86 :: s87 :: s88 :: s89 :: s90 :: s91 :: s92 :: s93 :: s94 :: s95 :: s96 :: s97 :: s98 :: s99 :: s100 :: s101 :: s102 :: s103 :: s104 :: s105 :: s106 :: s107 :: s108 :: s109 :: s110 :: s111 :: s112 :: s113 :: s114 :: s115 :: s116 :: s117 :: s118 :: s119 :: s120 :: s121 :: s122 :: s123 :: s124 :: s125 :: s126 :: s127 :: s128 :: s129 :: s130 :: s131 :: s132 :: s133 :: s134 :: s135 :: s136 :: s137 :: s138 :: s139 :: s140 :: s141 :: s142 :: s143 :: s144 :: s145 :: s146 :: s147 :: s148 :: s149 :: s150 :: s151 :: s152 :: s153 :: s154 :: s155 :: s156 :: s157 :: s158 :: s159 :: s160 :: s161 :: s162 :: s163 :: s164 :: s165 :: s166 :: s167 :: s168 :: s169 :: s170 :: s171 :: s172 :: s173 :: s174 :: s175 :: s176 :: s177 :: s178 :: s179 :: s180 :: s181 :: s182 :: s183 :: s184 :: s185 :: s186 :: s187 :: s188 :: s189 :: s190 :: s191 :: s192 :: s193 :: s194 :: s195 :: s196 :: s197 :: s198 :: s199 :: s200 :: s201 :: s202 :: s203 :: s204 :: s205 :: s206 :: s207 :: s208 :: s209 :: s210 :: s211 :: s212 :: s213 :: s214 :: s215 :: s216 :: s217 :: s218 :: s219 :: s220 :: s221 :: s222 :: s223 :: s224 :: s225 :: s226 :: s227 :: s228 :: s229 :: s230 :: s231 :: s232 :: s233 :: s234 :: s235 :: s236 :: s237 :: s238 :: s239 :: s240 :: s241 :: s242 :: s243 :: s244 :: s245 :: s246 :: s247 :: s248 :: s249 :: s250 :: s251 :: s252 :: s253 :: s254 :: s255 :: s256 :: s257 :: s258 :: s259 :: s260 :: s261 :: s262 :: s263 :: s264 :: s265 :: s266 :: s267 :: s268 :: s269 :: []), []⟩ wr0 := by
  conv => arg 2; arg 1; whnf
  go_loopw [22] (fun bb wr4 => ∃ (b : Nat), b ≤ AD.length ∧ b ≤ 7 ∧ bb = .int .i64 b ∧ Below wr0.heap.size wr0 wr4) (fun bb _ => AD.length - (intOf bb).toNat)
  case atStart => exact ⟨0, by omega, by omega, rfl, nwR wr0⟩
  case round =>
    obtain ⟨b, hb', hb7, rfl, hbb⟩ := hrel
    by_cases hb1' : (b : Int) < (AD.length : Int) ∧ (b : Int) < 7
    · obtain ⟨hb2', hb3'⟩ := hb1'
      have hbN : b < AD.length := by omega
      obtain ⟨b4, o4, rfl, hcb⟩ := HAD.out.cell hbN
      have HCB : Hid (∀ w', Below w3.heap.size w3 w' → w'.cell? ⟨b4, o4 + b, none⟩ = some (.string (AD.getD b ByteArray.empty))) := fun w' h => (h.cell (p := ⟨b4, o4 + b, none⟩) (block_lt_of_cell hcb)).trans hcb
      have hts : (AD.getD b ByteArray.empty).size ≤ 4000 := HADS.out _ (by simp [List.getD, hbN])
      generalize AD.getD b ByteArray.empty = t at HCB hts
      clear hcb
      have hb3r := nwT hb0 hbb
      obtain ⟨⟨M, Xs, F, E⟩, hWR⟩ : ∃ r, written n X x t = r := ⟨_, rfl⟩
      have HWR : Hid (written n X x t = (M, Xs, F, E)) := hWR
      obtain ⟨hXs1, hF1⟩ := written_len hWR
      clear hWR
      go_wp2_with fail
      have y9 : ∀ w', Below wr.heap.size wr w' → w'.cell? ⟨bN, oN + p, none⟩ = some (.int .i64 n) := fun w' h => HCn.out _ (nwT hb3r h)
      have ya : ∀ w', Below wr.heap.size wr w' → w'.cell? ⟨b8, o8 + a, none⟩ = some (.int .i64 x) := fun w' h => HCA.out _ (nwT hb3r h)
      have yb : ∀ w', Below wr.heap.size wr w' → w'.cell? ⟨b4, o4 + b, none⟩ = some (.string t) := fun w' h => HCB.out _ (nwT hb3r h)
      have HI7 : Hid (∀ w', Below wr.heap.size wr w' → StrsAt w' aI X) := fun w' h => HI.out.below (nwT hbb h)
      go_region_held3 (fun w' => Below wr.heap.size wr w') (first | assumption | exact Below.drew (nwR _) | exact Below.drew (by assumption) | exact nwT (by assumption) (by assumption)) (first
        | (go_at_call 24; refine (write_is aI X _ cI n x t _ rfl (HI7.out _ (by assumption)) hcpI (by omega) (by omega) M Xs F E HWR.out).mono ?_; rintro e w7 ⟨⟨a1, c1, a2, c2, rfl, ⟨hx1, hcx1, ho1⟩, ⟨hi2, hci2⟩⟩, hb7c⟩; have HO1 : Hid (OwnStrs w7 wr.heap.size (.slice a1 Xs.length c1) Xs) := ho1.le (‹Below wr.heap.size wr _›).size; clear ho1)
        | fail)
      rename_i hw7
      clear y9 ya yb hb7c
      have HX1 : Hid (StrsAt w7 a1 Xs) := hx1
      have HF2 : Hid (IntsAt w7 a2 F) := hi2
      have hb7a := nwT hbb hw7
      have hb73 := nwT hb0 hb7a
      clear hx1 hcx1 hi2 hci2
      go_upto_region 35 with fail
      go_cut [200] from 189 to 199 (fun s200 wx => s200 = .bool (M0 && numB x n) ∧ Below w7.heap.size w7 wx)
      case first =>
        clear HO1 HX1 HF2 HAD HI
        cases hMb : M0
        · subst hMb
          refine wp_region_kin (by kernel_rfl) (by kernel_rfl) ?_
          repeat (first | go_big_quiet_step (fail) | quiet_step (fail))
          refine wpQuiet_nil ?_
          intro _ hw'
          obtain ⟨pq, hw''⟩ := hw'
          subst hw''
          have hby := nwT (nwR w7) pq.h
          generalize pq.u = wy at hby ⊢
          go_wp2_with fail
          go_meet
          exact ⟨rfl, hby⟩
        · subst hMb
          have HNU : Hid (∀ p1 : Kin w7, Calls Tryd.prog 19 #[.int .i64 x, .int .i64 n] p1.u fun e w' => e = .returned (.bool (numB x n)) ∧ w' = p1.u) := fun p1 => num_in x n p1.u
          have z1 : ∀ p1 : Kin w7, p1.u.cell? ⟨b8, o8 + a, none⟩ = some (.int .i64 x) := fun p1 => HCA.out _ (nwT hb73 p1.h)
          have z2 : ∀ p1 : Kin w7, p1.u.cell? ⟨bN, oN + p, none⟩ = some (.int .i64 n) := fun p1 => HCn.out _ (nwT hb73 p1.h)
          refine wp_region_kin (by kernel_rfl) (by kernel_rfl) ?_
          repeat (first | go_big_quiet_step (first | (go_at_call 19; exact Calls.kin_same (HNU.out _)) | fail) | quiet_step (first | (go_at_call 19; exact Calls.kin_same (HNU.out _)) | fail))
          refine wpQuiet_nil ?_
          intro _ hw'
          obtain ⟨pq, hw''⟩ := hw'
          subst hw''
          clear z1 z2
          have hby := nwT (nwR w7) pq.h
          generalize pq.u = wy at hby ⊢
          go_wp2_with fail
          go_meet
          exact ⟨rfl, hby⟩
      case rest =>
      obtain ⟨rfl, hbw⟩ := hcut
      obtain ⟨wy, rfl⟩ : ∃ wy, wy = wc := ⟨wc, rfl⟩
      have hb3y := nwT hb73 hbw
      have hbya := nwT hb7a hbw
      have hbyr := nwT hw7 hbw
      have HX1y : Hid (StrsAt wy a1 Xs) := HX1.out.below hbw
      have HF2y : Hid (IntsAt wy a2 F) := HF2.out.below hbw
      have HO1y : Hid (OwnStrs wy wr.heap.size (.slice a1 Xs.length c1) Xs) := HO1.out.below hbw
      clear HX1 HF2 HO1 hbw hw7 hb73 hb7a
      obtain ⟨G, hG⟩ : ∃ G, (M0 && numB x n) = G := ⟨_, rfl⟩
      rw [hG]
      have HG : Hid ((M0 && numB x n) = G) := hG
      clear hG
      go_upto_if 200 with fail
      go_cut [27, 28, 29, 30, 31, 32] from 201 to 229 (fun s27 s28 s29 s30 _ _ wx => s27 = .int .i64 E ∧ s28 = .int .i64 M ∧ (∃ a' c', s29 = .slice a' Xs.length c' ∧ StrsAt wx a' Xs) ∧ (∃ a' c', s30 = .slice a' F.length c' ∧ IntsAt wx a' F) ∧ Below wy.heap.size wy wx)
      case first =>
        clear HO1y HX1y HF2y HAD HI
        cases hGb : G
        · have hGG : (mayB n X && numB x n) = false := by rw [HM0.out, HG.out]; exact hGb
          subst hGb
          have hz : written n X x t = (0, [], [], 1) := by unfold written; rw [hGG]; rfl
          rw [HWR.out] at hz
          injection hz with hz1 hz2
          injection hz2 with hz2 hz3
          injection hz3 with hz3 hz4
          have HMM : Hid (M = _) := hz1
          have HXe : Hid (Xs = _) := hz2
          have HFe : Hid (F = _) := hz3
          have HEE : Hid (E = _) := hz4
          clear hz1 hz2 hz3 hz4
          clear hGG
          go_wp2_with fail
          go_meet
          exact ⟨by rw [HEE.out], by rw [HMM.out], ⟨none, 0, by rw [HXe.out]; rfl, .inl HXe.out⟩, ⟨none, 0, by rw [HFe.out]; rfl, .inl HFe.out⟩, nwR _⟩
        · obtain ⟨hMt, hNu⟩ : M0 = true ∧ numB x n = true := by have := HG.out; rw [hGb] at this; simpa using this
          subst hGb
          skip
          · have hM : mayB n X = true := by rw [HM0.out, hMt]
            have HLD : Hid (old = bs (tx n X)) := HOLD.out hMt
            clear hMt
            obtain ⟨hx0, hxn⟩ : 0 ≤ x ∧ x ≤ n := by simpa [numB] using hNu
            obtain ⟨hn0, hn1, _, _, _⟩ := mayB_parts hM
            by_cases hlim : x + t.size ≤ 200
            case neg =>
              have hz : written n X x t = (0, [], [], 2) := by unfold written; rw [hM, hNu, if_pos (by rfl), if_neg hlim]
              rw [HWR.out] at hz
              injection hz with hz1 hz2
              injection hz2 with hz2 hz3
              injection hz3 with hz3 hz4
              have HMM : Hid (M = _) := hz1
              have HXe : Hid (Xs = _) := hz2
              have HFe : Hid (F = _) := hz3
              have HEE : Hid (E = _) := hz4
              clear hz1 hz2 hz3 hz4
              have e1 : IntKind.i64.wrap (200 - x) = 200 - x := wrap_any (by omega) (by omega)
              have e2 : ¬ (t.size : Int) ≤ 200 - x := by omega
              go_wp2_with fail
              have z3 : ∀ p1 : Kin wy, p1.u.cell? ⟨b8, o8 + a, none⟩ = some (.int .i64 x) := fun p1 => HCA.out _ (nwT hb3y p1.h)
              have z4 : ∀ p1 : Kin wy, p1.u.cell? ⟨b4, o4 + b, none⟩ = some (.string t) := fun p1 => HCB.out _ (nwT hb3y p1.h)
              refine wp_region_kin (by kernel_rfl) (by kernel_rfl) ?_
              repeat (first | go_big_quiet_step (fail) | quiet_step (fail))
              refine wpQuiet_nil ?_
              intro _ hw'
              obtain ⟨pq, hw''⟩ := hw'
              subst hw''
              clear z3 z4
              have hbz := nwT (nwR wy) pq.h
              generalize pq.u = wz at hbz ⊢
              go_wp2_with fail
              go_meet
              exact ⟨by rw [HEE.out], by rw [HMM.out], ⟨none, 0, by rw [HXe.out]; rfl, .inl HXe.out⟩, ⟨none, 0, by rw [HFe.out]; rfl, .inl HFe.out⟩, hbz⟩
            case pos =>
              obtain ⟨k, rfl⟩ : ∃ k : Nat, x = k := ⟨x.toNat, by omega⟩
              obtain ⟨q, rfl⟩ : ∃ q : Nat, n = q := ⟨n.toNat, by omega⟩
              have hz : written q X k t = (max (q : Int) (k + t.size), pcs (wrt (tx q X) k (ls t)), frs k (ls t), 0) := by unfold written; rw [hM, hNu, if_pos (by rfl), if_pos hlim, Int.toNat_natCast]
              rw [HWR.out] at hz
              injection hz with hz1 hz2
              injection hz2 with hz2 hz3
              injection hz3 with hz3 hz4
              have HMM : Hid (M = _) := hz1
              have HXe : Hid (Xs = _) := hz2
              have HFe : Hid (F = _) := hz3
              have HEE : Hid (E = _) := hz4
              clear hz1 hz2 hz3 hz4
              have hold := HLD.out
              have hls : ls old = tx q X := by rw [hold, ls_bs]
              have hos : old.size = q := by rw [← ls_size, hls, tx_len hM]; omega
              have HRW : Hid (∀ w', Calls Tryd.prog 25 #[.string old, .int .i64 k, .string t] w' (PairPost (bs (wrt (tx q X) k (ls t))) (frs k (ls t)) w')) := fun w' => by have := rwrite_any old k t w' (by omega) (by omega) (by omega); rw [hls] at this; exact this
              have hWl := wrt_len (l := tx q X) (a := k) (t := ls t) (by rw [tx_len hM]; omega)
              rw [tx_len hM, ls_size] at hWl
              have HTs : Hid (((bs (wrt (tx q X) k (ls t))).size : Int) = max (q : Int) (k + t.size)) := by show _ = _; rw [bs_size, hWl]; omega
              have hTk : (bs (wrt (tx q X) k (ls t))).size ≤ 10000 := by rw [bs_size, hWl]; omega
              have HTL : Hid (pcs (ls (bs (wrt (tx q X) k (ls t)))) = pcs (wrt (tx q X) k (ls t))) := by show _ = _; rw [ls_bs]
              generalize bs (wrt (tx q X) k (ls t)) = TT at HRW HTs hTk HTL
              generalize pcs (wrt (tx q X) k (ls t)) = PP at HXe HTL
              generalize frs k (ls t) = FF at HFe HRW
              have e1 : IntKind.i64.wrap (200 - (k : Int)) = 200 - (k : Int) := wrap_any (by omega) (by omega)
              have e2 : (t.size : Int) ≤ 200 - (k : Int) := by omega
              clear hWl hls hos hold
              go_wp2_with fail
              have z3 : ∀ p1 : Kin wy, p1.u.cell? ⟨b8, o8 + a, none⟩ = some (.int .i64 (k : Int)) := fun p1 => HCA.out _ (nwT hb3y p1.h)
              have z4 : ∀ p1 : Kin wy, p1.u.cell? ⟨b4, o4 + b, none⟩ = some (.string t) := fun p1 => HCB.out _ (nwT hb3y p1.h)
              refine wp_region_kin (by kernel_rfl) (by kernel_rfl) ?_
              repeat (first | go_big_quiet_step (fail) | quiet_step (fail))
              refine wpQuiet_nil ?_
              intro _ hw'
              obtain ⟨pq, hw''⟩ := hw'
              subst hw''
              clear z3 z4
              have hbz := nwT (nwR wy) pq.h
              generalize pq.u = wz at hbz ⊢
              have hb3z := nwT hb3y hbz
              clear e1 e2
              go_wp2_with fail
              have ya : ∀ w', Below wz.heap.size wz w' → w'.cell? ⟨b8, o8 + a, none⟩ = some (.int .i64 (k : Int)) := fun w' h => HCA.out _ (nwT hb3z h)
              have yb : ∀ w', Below wz.heap.size wz w' → w'.cell? ⟨b4, o4 + b, none⟩ = some (.string t) := fun w' h => HCB.out _ (nwT hb3z h)
              go_region_held3 (fun w' => Below wz.heap.size wz w') (first | assumption | exact Below.drew (nwR _) | exact Below.drew (by assumption) | exact nwT (by assumption) (by assumption)) (first
                | (go_at_call 25; refine (HRW.out _).mono ?_; rintro e w8 ⟨⟨a5, c5, rfl, hi5, hc5⟩, hb8c⟩)
                | fail)
              rename_i hw8
              clear ya yb hb8c
              have HI5 : Hid (IntsAt w8 a5 FF) := hi5
              have hb8 := nwT hbz hw8
              clear hi5 hc5 hw8
              go_wp2_with fail
              refine (rcut_any TT _ hTk).mono ?_
              rintro e w9 ⟨⟨v9, rfl, ho9⟩, hb9⟩
              rw [HTL.out] at ho9
              obtain ⟨a9, c9, rfl, hs9⟩ := ho9.at
              have HS9 : Hid (StrsAt w9 a9 PP) := hs9
              have HI9 : Hid (IntsAt w9 a5 FF) := HI5.out.below hb9
              have hb89 := nwT hb8 hb9
              clear ho9 hs9 hb9 HI5
              go_wp2_with fail
              go_meet
              exact ⟨by rw [HEE.out], by rw [HMM.out, HTs.out], ⟨a9, c9, by rw [HXe.out], by rw [HXe.out]; exact HS9.out⟩, ⟨a5, c5, by rw [HFe.out], by rw [HFe.out]; exact HI9.out⟩, hb89⟩
      case rest =>
        obtain ⟨rfl, rfl, ⟨a5, c5, rfl, hs5⟩, ⟨a6, c6, rfl, hi6⟩, hbc⟩ := hcut
        have HS5 : Hid (StrsAt wc a5 Xs) := hs5
        have HI6 : Hid (IntsAt wc a6 F) := hi6
        have hbc3 := nwT hb3y hbc
        have HX1c : Hid (StrsAt wc a1 Xs) := HX1y.out.below hbc
        have HF2c : Hid (IntsAt wc a2 F) := HF2y.out.below hbc
        have HO1c : Hid (OwnStrs wc wr.heap.size (.slice a1 Xs.length c1) Xs) := HO1y.out.below hbc
        have hbca := nwT hbya hbc
        have hbcr := nwT hbyr hbc
        clear hs5 hi6 HX1y HF2y HO1y
        go_wp2_with (go_at_call 11; refine (num_w _ _).mono ?_; rintro e w' ⟨rfl, rfl⟩)
        refine (eqs_same a1 a5 Xs _ c1 c5 _ rfl HX1c.out HS5.out (by omega)).mono ?_
        rintro e w8 ⟨rfl, hb8⟩
        have HF8 : Hid (IntsAt w8 a2 F) := HF2c.out.below hb8
        have HI8 : Hid (IntsAt w8 a6 F) := HI6.out.below hb8
        go_wp2_with fail
        refine (eqn_same a2 a6 F _ c2 c6 _ rfl HF8.out HI8.out (by omega)).mono ?_
        rintro e w9 ⟨rfl, hb9⟩
        have hb9c := nwT hb8 hb9
        have hb93 := nwT hbc3 hb9c
        have hb9a := nwT hbca hb9c
        have cX := HCX.out _ hb93
        clear HF8 HI8 hb8 hb9
        go_wp2_with fail
        refine (eqs_same aI aR X _ cI cR _ rfl (HI.out.below hb9a) (HSX.out.below hb93) hlX).mono ?_
        rintro e w10 ⟨rfl, hb10⟩
        have hb10c := nwT hb9c hb10
        have HO10 : Hid (OwnStrs w10 wr.heap.size (.slice a1 Xs.length c1) Xs) := HO1c.out.below hb10c
        have hb10r := nwT hbcr hb10c
        clear cX hb10 hb10c
        go_wp2_with fail
        refine (spoil_any a1 Xs c1 wr.heap.size _ HO10.out (by omega)).mono ?_
        rintro e w11 ⟨rfl, hb11⟩
        have hb11r : Below wr.heap.size wr w11 := hb10r.trans hb11
        have hb11a := nwT hbb hb11r
        have hb113 := nwT hb0 hb11a
        have cX := HCX.out _ hb113
        clear hb11 hb10r
        go_wp2_with fail
        refine (eqs_same aI aR X _ cI cR _ rfl (HI.out.below hb11a) (HSX.out.below hb113) hlX).mono ?_
        rintro e w12 ⟨rfl, hb12⟩
        have hb12a := nwT hb11a hb12
        clear cX
        go_wp2_with fail
        go_roundw
        case rel => exact ⟨b + 1, by omega, by omega, by go_num, hb12a⟩
        case measure => simp [intOf]; omega
    · by_cases hk2 : (b : Int) < (AD.length : Int)
      · have hk5 : ¬ (b : Int) < 7 := fun h => hb1' ⟨hk2, h⟩
        clear hb1'
        go_wp2_with fail
        exact HEX.out _ _ _ _ _ _ _ _ _ _ _ _ _ _ _ _ _ _ _ _ _ _ _ _ _ _ _ _ _ _ _ _ _ _ _ _ _ _ _ _ _ _ _ _ _ _ _ _ _ _ _ _ _ _ _ _ _ _ _ _ _ _ _ _ _ _ _ _ _ _ _ _ _ _ _ _ _ _ _ _ _ _ _ _ _ _ _ _ _ _ _ _ _ _ _ _ _ _ _ _ _ _ _ _ _ _ _ _ _ _ _ _ _ _ _ _ _ _ _ _ _ _  hbb
      · clear hb1'
        go_wp2_with fail
        exact HEX.out _ _ _ _ _ _ _ _ _ _ _ _ _ _ _ _ _ _ _ _ _ _ _ _ _ _ _ _ _ _ _ _ _ _ _ _ _ _ _ _ _ _ _ _ _ _ _ _ _ _ _ _ _ _ _ _ _ _ _ _ _ _ _ _ _ _ _ _ _ _ _ _ _ _ _ _ _ _ _ _ _ _ _ _ _ _ _ _ _ _ _ _ _ _ _ _ _ _ _ _ _ _ _ _ _ _ _ _ _ _ _ _ _ _ _ _ _ _ _ _ _ _  hbb

end Go.Proofs.YtifbnojkjbjngaaDoor
