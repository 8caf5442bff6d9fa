/- BodyWrites: the loop over numbers walked. -/
import Derived.Test.YtifbnojkjbjngaaDoorWa
namespace Go.Proofs.YtifbnojkjbjngaaDoor
open Go.RowKit

set_option maxRecDepth 100000 in
set_option maxHeartbeats 16000000 in
theorem wloop2 {s0 s1 s2 s12 s13 s14 s15 s16 s17 s18 s19 s20 s21 s22 s23 s24 s25 s26 s27 s28 s29 s30 s31 s32 s33 s34 s35 s36 s37 s38 s39 s40 s41 s42 s43 s44 s45 s46 s47 s48 s49 s50 s51 s52 s53 s54 s55 s56 s57 s58 s59 s60 s61 s62 s63 s64 s65 s66 s67 s68 s69 s70 s71 s72 s73 s74 s75 s76 s77 s78 s79 s80 s81 s82 s83 s84 s85 s86 s87 s88 s89 s90 s91 s92 s93 s94 s95 s96 s97 s98 s99 s100 s101 s102 s103 s104 s105 s106 s107 s108 s109 s110 s111 s112 s113 s114 s115 s116 s117 s118 s119 s120 s121 s122 s123 s124 s125 s126 s127 s128 s129 s130 s131 s132 s133 s134 s135 s136 s137 s138 s139 s140 s141 s142 s143 s144 s145 s146 s147 s148 s149 s150 s151 s152 s153 s154 s155 s156 s157 s158 s159 s160 s161 s162 s163 s164 s165 s166 s167 s168 s169 s170 s171 s172 s173 s174 s175 s176 s177 s178 s179 s180 s181 s182 s183 s184 s185 s186 s187 s188 s189 s190 s191 s192 s193 s194 s195 s196 s197 s198 s199 s200 s201 s202 s203 s204 s205 s206 s207 s208 s209 s210 s211 s212 s213 s214 s215 s216 s217 s218 s219 s220 s221 s222 s223 s224 s225 s226 s227 s228 s229 s230 s231 s232 s233 s234 s235 s236 s237 s238 s239 s240 s241 s242 s243 s244 s245 s246 s247 s248 s249 s250 s251 s252 s253 s254 s255 s256 s257 s258 s259 s260 s261 s262 s263 s264 s265 s266 s267 s268 s269 : Value} {w3 w6 : World} {NNl LLl cN3 cL3 c3 c4 cI cR bN oN bL oL p : Nat} {NS : List Int} {AD X : List ByteArray} {a3 a4 aI aR : Option Addr} {n : Int} {M0 : Bool} {old : ByteArray} {Q : Exit → Act → World → Prop}
    (hb6 : Below w3.heap.size w3 w6) (hp1 : (p : Int) < (NNl : Int)) (hpLi : (p : Int) < (LLl : Int)) (hln : NS.length ≤ 4009) (hla : AD.length ≤ 4002)
    (HCn : Hid (∀ w', Below w3.heap.size w3 w' → w'.cell? ⟨bN, oN + p, none⟩ = some (.int .i64 n)))
    (HCX : Hid (∀ w', Below w3.heap.size w3 w' → w'.cell? ⟨bL, oL + p, none⟩ = some (.slice aR X.length cR)))
    (HNS : Hid (IntsAt w3 a3 NS)) (HAD : Hid (StrsAt w3 a4 AD)) (HADS : Hid (∀ x ∈ AD, x.size ≤ 4000)) (HSX : Hid (StrsAt w3 aR X)) (HI6 : Hid (StrsAt w6 aI X)) (hcpI : X.length ≤ cI) (hlX : X.length ≤ 4000)
    (HM0 : Hid (mayB n X = M0)) (HOLD : Hid (M0 = true → old = bs (tx n X)))
    (HEX : Hid (∀ (u2 u11 u12 u13 u14 u15 u16 u17 u18 u19 u20 u21 u22 u23 u24 u25 u26 u27 u28 u29 u30 u31 u32 u78 u79 u80 u81 u82 u83 u84 u85 u86 u87 u88 u89 u90 u91 u92 u93 u94 u95 u96 u97 u98 u99 u100 u101 u102 u103 u104 u105 u106 u107 u108 u109 u110 u111 u112 u113 u114 u115 u116 u117 u118 u119 u120 u121 u122 u123 u124 u125 u126 u127 u128 u129 u130 u131 u132 u133 u134 u135 u136 u137 u138 u139 u140 u141 u142 u143 u144 u145 u146 u147 u148 u149 u150 u151 u152 u153 u154 u155 u156 u157 u158 u159 u160 u161 u162 u163 u164 u165 u166 u167 u168 u169 u170 u171 u172 u173 u174 u175 u176 u177 u178 u179 u180 u181 u182 u183 u184 u185 u186 u187 u188 u189 u190 u191 u192 u193 u194 u195 u196 u197 u198 u199 u200 u201 u202 u203 u204 u205 u206 u207 u208 u209 u210 u211 u212 u213 u214 u215 u216 u217 u218 u219 u220 u221 u222 u223 u224 u225 u226 u227 u228 u229 u230 u231 u232 u233 u234 u235 u236 u237 u238 u239 u240 u241 u242 u243 u244 u245 u246 u247 u248 u249 u250 u251 u252 u253 u254 u255 u256 u257 u258 u259 u260 u261 u262 u263 u264 u265 u266 u267 u268 : Value) (w' : World), Below w6.heap.size w6 w' → Q (.exit 2) ⟨List.toArray (s0 :: s1 :: u2 :: (.slice a3 NS.length c3) :: (.slice a4 AD.length c4) :: (.slice (some ⟨bN, oN, none⟩) NNl cN3) :: (.slice (some ⟨bL, oL, none⟩) LLl cL3) :: (.int .i64 (p : Int)) :: (.slice aI X.length cI) :: (.bool M0) :: (.string old) :: u11 :: u12 :: u13 :: u14 :: u15 :: u16 :: u17 :: u18 :: u19 :: u20 :: u21 :: u22 :: u23 :: u24 :: u25 :: u26 :: u27 :: u28 :: u29 :: u30 :: u31 :: u32 :: s33 :: s34 :: s35 :: s36 :: s37 :: s38 :: s39 :: s40 :: s41 :: s42 :: s43 :: s44 :: s45 :: s46 :: s47 :: s48 :: s49 :: s50 :: s51 :: s52 :: s53 :: s54 :: s55 :: s56 :: s57 :: s58 :: s59 :: s60 :: s61 :: s62 :: s63 :: s64 :: s65 :: s66 :: s67 :: s68 :: s69 :: s70 :: s71 :: s72 :: s73 :: s74 :: s75 :: s76 :: s77 :: u78 :: u79 :: u80 :: u81 :: u82 :: u83 :: u84 :: u85 :: u86 :: u87 :: u88 :: u89 :: u90 :: u91 :: u92 :: u93 :: u94 :: u95 :: u96 :: u97 :: u98 :: u99 :: u100 :: u101 :: u102 :: u103 :: u104 :: u105 :: u106 :: u107 :: u108 :: u109 :: u110 :: u111 :: u112 :: u113 :: u114 :: u115 :: u116 :: u117 :: u118 :: u119 :: u120 :: u121 :: u122 :: u123 :: u124 :: u125 :: u126 :: u127 :: u128 :: u129 :: u130 :: u131 :: u132 :: u133 :: u134 :: u135 :: u136 :: u137 :: u138 :: u139 :: u140 :: u141 :: u142 :: u143 :: u144 :: u145 :: u146 :: u147 :: u148 :: u149 :: u150 :: u151 :: u152 :: u153 :: u154 :: u155 :: u156 :: u157 :: u158 :: u159 :: u160 :: u161 :: u162 :: u163 :: u164 :: u165 :: u166 :: u167 :: u168 :: u169 :: u170 :: u171 :: u172 :: u173 :: u174 :: u175 :: u176 :: u177 :: u178 :: u179 :: u180 :: u181 :: u182 :: u183 :: u184 :: u185 :: u186 :: u187 :: u188 :: u189 :: u190 :: u191 :: u192 :: u193 :: u194 :: u195 :: u196 :: u197 :: u198 :: u199 :: u200 :: u201 :: u202 :: u203 :: u204 :: u205 :: u206 :: u207 :: u208 :: u209 :: u210 :: u211 :: u212 :: u213 :: u214 :: u215 :: u216 :: u217 :: u218 :: u219 :: u220 :: u221 :: u222 :: u223 :: u224 :: u225 :: u226 :: u227 :: u228 :: u229 :: u230 :: u231 :: u232 :: u233 :: u234 :: u235 :: u236 :: u237 :: u238 :: u239 :: u240 :: u241 :: u242 :: u243 :: u244 :: u245 :: u246 :: u247 :: u248 :: u249 :: u250 :: u251 :: u252 :: u253 :: u254 :: u255 :: u256 :: u257 :: u258 :: u259 :: u260 :: u261 :: u262 :: u263 :: u264 :: u265 :: u266 :: u267 :: u268 :: s269 :: []), []⟩ w')) :
    Code.wp Tryd.prog (Code.loop wb2) Q ⟨List.toArray (s0 :: s1 :: s2 :: (.slice a3 NS.length c3) :: (.slice a4 AD.length c4) :: (.slice (some ⟨bN, oN, none⟩) NNl cN3) :: (.slice (some ⟨bL, oL, none⟩) LLl cL3) :: (.int .i64 (p : Int)) :: (.slice aI X.length cI) :: (.bool M0) :: (.string old) :: (.int .i64 0) :: s12 :: s13 :: s14 :: s15 :: s16 :: s17 :: s18 :: s19 :: s20 :: s21 :: s22 :: s23 :: s24 :: s25 :: s26 :: s27 :: s28 :: s29 :: s30 :: s31 :: s32 :: s33 :: s34 :: s35 :: s36 :: s37 :: s38 :: s39 :: s40 :: s41 :: s42 :: s43 :: s44 :: s45 :: s46 :: s47 :: s48 :: s49 :: s50 :: s51 :: s52 :: s53 :: s54 :: s55 :: s56 :: s57 :: s58 :: s59 :: s60 :: s61 :: s62 :: s63 :: s64 :: s65 :: s66 :: s67 :: s68 :: s69 :: s70 :: s71 :: s72 :: s73 :: s74 :: s75 :: s76 :: s77 :: s78 :: s79 :: s80 :: s81 :: s82 :: s83 :: s84 :: s85 :: s86 :: s87 :: s88 :: s89 :: s90 :: s91 :: s92 :: s93 :: s94 :: s95 :: s96 :: s97 :: s98 :: s99 :: s100 :: s101 :: s102 :: s103 :: s104 :: s105 :: s106 :: s107 :: s108 :: s109 :: s110 :: s111 :: s112 :: s113 :: s114 :: s115 :: s116 :: s117 :: s118 :: s119 :: s120 :: s121 :: s122 :: s123 :: s124 :: s125 :: s126 :: s127 :: s128 :: s129 :: s130 :: s131 :: s132 :: s133 :: s134 :: s135 :: s136 :: s137 :: s138 :: s139 :: s140 :: s141 :: s142 :: s143 :: s144 :: s145 :: s146 :: s147 :: s148 :: s149 :: s150 :: s151 :: s152 :: s153 :: s154 :: s155 :: s156 :: s157 :: s158 :: s159 :: s160 :: s161 :: s162 :: s163 :: s164 :: s165 :: s166 :: s167 :: s168 :: s169 :: s170 :: s171 :: s172 :: s173 :: s174 :: s175 :: s176 :: s177 :: s178 :: s179 :: s180 :: s181 :: s182 :: s183 :: s184 :: s185 :: s186 :: s187 :: s188 :: s189 :: s190 :: s191 :: s192 :: s193 :: s194 :: s195 :: s196 :: s197 :: s198 :: s199 :: s200 :: s201 :: s202 :: s203 :: s204 :: s205 :: s206 :: s207 :: s208 :: s209 :: s210 :: s211 :: s212 :: s213 :: s214 :: s215 :: s216 :: s217 :: s218 :: s219 :: s220 :: s221 :: s222 :: s223 :: s224 :: s225 :: s226 :: s227 :: s228 :: s229 :: s230 :: s231 :: s232 :: s233 :: s234 :: s235 :: s236 :: s237 :: s238 :: s239 :: s240 :: s241 :: s242 :: s243 :: s244 :: s245 :: s246 :: s247 :: s248 :: s249 :: s250 :: s251 :: s252 :: s253 :: s254 :: s255 :: s256 :: s257 :: s258 :: s259 :: s260 :: s261 :: s262 :: s263 :: s264 :: s265 :: s266 :: s267 :: s268 :: s269 :: []), []⟩ w6 := by
  conv => arg 2; arg 1; whnf
  go_loopw [11] (fun aa wr3 => ∃ (a : Nat), a ≤ NS.length ∧ a ≤ 14 ∧ aa = .int .i64 a ∧ Below w6.heap.size w6 wr3) (fun aa _ => NS.length - (intOf aa).toNat)
  case atStart => exact ⟨0, by omega, by omega, rfl, nwR w6⟩
  case round =>
    obtain ⟨a, ha, ha14, rfl, hba⟩ := hrel
    by_cases ha1 : (a : Int) < (NS.length : Int) ∧ (a : Int) < 14
    · obtain ⟨ha2, ha3⟩ := ha1
      have haN : a < NS.length := by omega
      obtain ⟨b8, o8, rfl, hca⟩ := HNS.out.cell haN
      have HCA : Hid (∀ w', Below w3.heap.size w3 w' → w'.cell? ⟨b8, o8 + a, none⟩ = some (.int .i64 (NS.getD a 0))) := fun w' h => (h.cell (p := ⟨b8, o8 + a, none⟩) (block_lt_of_cell hca)).trans hca
      generalize NS.getD a 0 = x at HCA
      clear hca HNS
      have hb3r := nwT hb6 hba
      obtain ⟨⟨M, Xs, F, E⟩, hSZ⟩ : ∃ r, sized n X x = r := ⟨_, rfl⟩
      have HSZ : Hid (sized n X x = (M, Xs, F, E)) := hSZ
      obtain ⟨hXs1, hF1⟩ := sized_len hSZ
      clear hSZ
      go_wp2_with fail
      have y9 : ∀ w', Below wr.heap.size wr w' → w'.cell? ⟨bN, oN + p, none⟩ = some (.int .i64 n) := fun w' h => HCn.out _ (nwT hb3r h)
      have ya : ∀ w', Below wr.heap.size wr w' → w'.cell? ⟨b8, o8 + a, none⟩ = some (.int .i64 x) := fun w' h => HCA.out _ (nwT hb3r h)
      have HI7 : Hid (∀ w', Below wr.heap.size wr w' → StrsAt w' aI X) := fun w' h => HI6.out.below (nwT hba h)
      go_region_held3 (fun w' => Below wr.heap.size wr w') (first | assumption | exact Below.drew (nwR _) | exact Below.drew (by assumption) | exact nwT (by assumption) (by assumption)) (first
        | (go_at_call 21; refine (size_is aI X _ cI n x _ rfl (HI7.out _ (by assumption)) hcpI (by omega) M Xs F E HSZ.out).mono ?_; rintro e w7 ⟨⟨a1, c1, a2, c2, rfl, ⟨hx1, hcx1, _⟩, ⟨hi2, hci2⟩⟩, hb7⟩)
        | fail)
      rename_i hw7
      clear y9 ya hb7
      have HX1 : Hid (StrsAt w7 a1 Xs) := hx1
      have HF2 : Hid (IntsAt w7 a2 F) := hi2
      have hb7a := nwT hba hw7
      have hb73 := nwT hb6 hb7a
      clear hx1 hcx1 hi2 hci2 hw7
      go_upto_region 21 with fail
      go_cut [110] from 103 to 109 (fun s110 wx => s110 = .bool (M0 && decide (0 ≤ x)) ∧ wx = w7)
      case first =>
        clear HX1 HF2 HAD HI6
        cases M0
        · go_wp2_with fail
          go_meet
          exact ⟨rfl, rfl⟩
        · have cA := HCA.out _ hb73
          go_wp2_with fail
          go_meet
          exact ⟨rfl, rfl⟩
      case rest =>
      obtain ⟨rfl, rfl⟩ := hcut
      obtain ⟨wy, rfl⟩ : ∃ wy, wy = wc := ⟨wc, rfl⟩
      obtain ⟨G, hG⟩ : ∃ G, (M0 && decide (0 ≤ x)) = G := ⟨_, rfl⟩
      rw [hG]
      have HG : Hid ((M0 && decide (0 ≤ x)) = G) := hG
      clear hG
      go_upto_if 110 with fail
      go_cut [16, 17, 18, 19, 20, 21] from 111 to 129 (fun s16 s17 s18 s19 _ _ wx => s16 = .int .i64 E ∧ s17 = .int .i64 M ∧ (∃ a' c', s18 = .slice a' Xs.length c' ∧ StrsAt wx a' Xs) ∧ (∃ a' c', s19 = .slice a' F.length c' ∧ IntsAt wx a' F) ∧ Below wy.heap.size wy wx)
      case first =>
        clear HX1 HF2 HAD HI6
        cases hGb : G
        · have hGG : (mayB n X && decide (0 ≤ x)) = false := by rw [HM0.out, HG.out]; exact hGb
          subst hGb
          have hz : sized n X x = (0, [], [], 1) := by unfold sized; rw [hGG]; rfl
          rw [HSZ.out] at hz
          injection hz with hz1 hz2
          injection hz2 with hz2 hz3
          injection hz3 with hz3 hz4
          have HMM : Hid (M = _) := hz1
          have HXe : Hid (Xs = _) := hz2
          have HFe : Hid (F = _) := hz3
          have HEE : Hid (E = _) := hz4
          clear hz1 hz2 hz3 hz4
          clear hGG
          go_wp2_with fail
          go_meet
          exact ⟨by rw [HEE.out], by rw [HMM.out], ⟨none, 0, by rw [HXe.out]; rfl, .inl HXe.out⟩, ⟨none, 0, by rw [HFe.out]; rfl, .inl HFe.out⟩, nwR _⟩
        · obtain ⟨hMt, hNu⟩ : M0 = true ∧ decide (0 ≤ x) = true := by have := HG.out; rw [hGb] at this; simpa using this
          subst hGb
          have hM : mayB n X = true := by rw [HM0.out, hMt]
          have HLD : Hid (old = bs (tx n X)) := HOLD.out hMt
          have hx0 : 0 ≤ x := of_decide_eq_true hNu
          clear hMt
          have cA := HCA.out _ hb73
          by_cases hlim : x ≤ 200
          case neg =>
            have hz : sized n X x = (0, [], [], 2) := by unfold sized; rw [hM, hNu, if_pos (by rfl), if_neg hlim]
            rw [HSZ.out] at hz
            injection hz with hz1 hz2
            injection hz2 with hz2 hz3
            injection hz3 with hz3 hz4
            have HMM : Hid (M = _) := hz1
            have HXe : Hid (Xs = _) := hz2
            have HFe : Hid (F = _) := hz3
            have HEE : Hid (E = _) := hz4
            clear hz1 hz2 hz3 hz4
            clear hNu
            go_wp2_with fail
            go_meet
            exact ⟨by rw [HEE.out], by rw [HMM.out], ⟨none, 0, by rw [HXe.out]; rfl, .inl HXe.out⟩, ⟨none, 0, by rw [HFe.out]; rfl, .inl HFe.out⟩, nwR _⟩
          case pos =>
            obtain ⟨k, rfl⟩ : ∃ k : Nat, x = k := ⟨x.toNat, by omega⟩
            have hz : sized n X k = ((k : Int), pcs (siz (tx n X) k), frz (tx n X) k, 0) := by unfold sized; rw [hM, hNu, if_pos (by rfl), if_pos hlim, Int.toNat_natCast]
            rw [HSZ.out] at hz
            injection hz with hz1 hz2
            injection hz2 with hz2 hz3
            injection hz3 with hz3 hz4
            have HMM : Hid (M = _) := hz1
            have HXe : Hid (Xs = _) := hz2
            have HFe : Hid (F = _) := hz3
            have HEE : Hid (E = _) := hz4
            clear hz1 hz2 hz3 hz4
            have hold := HLD.out
            have hls : ls old = tx n X := by rw [hold, ls_bs]
            have hos : old.size ≤ 200 := by rw [← ls_size, hls, tx_len hM]; have := (mayB_parts hM).2.1; omega
            have HRW : Hid (∀ w', Calls Tryd.prog 22 #[.string old, .int .i64 k] w' (PairPost (bs (siz (tx n X) k)) (frz (tx n X) k) w')) := fun w' => by have := rsize_any old k w' (by omega) (by omega); rw [hls] at this; exact this
            have HTs : Hid (((bs (siz (tx n X) k)).size : Int) = (k : Int)) := by show _ = _; rw [bs_size, siz_len]
            have hTk : (bs (siz (tx n X) k)).size ≤ 10000 := by rw [bs_size, siz_len]; omega
            have HTL : Hid (pcs (ls (bs (siz (tx n X) k))) = pcs (siz (tx n X) k)) := by show _ = _; rw [ls_bs]
            generalize bs (siz (tx n X) k) = TT at HRW HTs hTk HTL
            generalize pcs (siz (tx n X) k) = PP at HXe HTL
            generalize frz (tx n X) k = FF at HFe HRW
            clear hls hos hold hNu
            go_wp2_with fail
            refine (HRW.out _).mono ?_
            rintro e w8 ⟨⟨a5, c5, rfl, hi5, hc5⟩, hb8⟩
            have HI5 : Hid (IntsAt w8 a5 FF) := hi5
            clear hi5 hc5
            go_wp2_with fail
            refine (rcut_any TT _ hTk).mono ?_
            rintro e w9 ⟨⟨v9, rfl, ho9⟩, hb9⟩
            rw [HTL.out] at ho9
            obtain ⟨a9, c9, rfl, hs9⟩ := ho9.at
            have HS9 : Hid (StrsAt w9 a9 PP) := hs9
            have HI9 : Hid (IntsAt w9 a5 FF) := HI5.out.below hb9
            have hb89 := nwT hb8 hb9
            clear ho9 hs9 hb9 HI5
            go_wp2_with fail
            go_meet
            exact ⟨by rw [HEE.out], by rw [HMM.out, HTs.out], ⟨a9, c9, by rw [HXe.out], by rw [HXe.out]; exact HS9.out⟩, ⟨a5, c5, by rw [HFe.out], by rw [HFe.out]; exact HI9.out⟩, hb89⟩
      case rest =>
        obtain ⟨rfl, rfl, ⟨a5, c5, rfl, hs5⟩, ⟨a6, c6, rfl, hi6⟩, hbc⟩ := hcut
        have HS5 : Hid (StrsAt wc a5 Xs) := hs5
        have HI6' : Hid (IntsAt wc a6 F) := hi6
        have hbc3 := nwT hb73 hbc
        have HX1c : Hid (StrsAt wc a1 Xs) := HX1.out.below hbc
        have HF2c : Hid (IntsAt wc a2 F) := HF2.out.below hbc
        have hbca := nwT hb7a hbc
        clear hs5 hi6 HX1 HF2
        go_wp2_with (go_at_call 11; refine (num_w _ _).mono ?_; rintro e w' ⟨rfl, rfl⟩)
        refine (eqs_same a1 a5 Xs _ c1 c5 _ rfl HX1c.out HS5.out (by omega)).mono ?_
        rintro e w8 ⟨rfl, hb8⟩
        have HF8 : Hid (IntsAt w8 a2 F) := HF2c.out.below hb8
        have HI8 : Hid (IntsAt w8 a6 F) := HI6'.out.below hb8
        go_wp2_with fail
        refine (eqn_same a2 a6 F _ c2 c6 _ rfl HF8.out HI8.out (by omega)).mono ?_
        rintro e w9 ⟨rfl, hb9⟩
        have hb9c := nwT hb8 hb9
        have hb93 := nwT hbc3 hb9c
        have hb9a := nwT hbca hb9c
        have cX := HCX.out _ hb93
        clear HF8 HI8 hb8 hb9
        go_wp2_with fail
        refine (eqs_same aI aR X _ cI cR _ rfl (HI6.out.below hb9a) (HSX.out.below hb93) hlX).mono ?_
        rintro e w10 ⟨rfl, hb10⟩
        have hb10a := nwT hb9a hb10
        have hb103 := nwT hb6 hb10a
        have HI10 : Hid (StrsAt w10 aI X) := HI6.out.below hb10a
        clear cX hb10
        go_wp2_with fail
        refine wloop3 (w3 := w3) hb103 hp1 hpLi ha2 hla HCn HCX HCA HAD HADS HSX HI10 hcpI hlX HM0 HOLD ?_
        unfold Hid
        intro v2 v22 v23 v24 v25 v26 v27 v28 v29 v30 v31 v32 v160 v161 v162 v163 v164 v165 v166 v167 v168 v169 v170 v171 v172 v173 v174 v175 v176 v177 v178 v179 v180 v181 v182 v183 v184 v185 v186 v187 v188 v189 v190 v191 v192 v193 v194 v195 v196 v197 v198 v199 v200 v201 v202 v203 v204 v205 v206 v207 v208 v209 v210 v211 v212 v213 v214 v215 v216 v217 v218 v219 v220 v221 v222 v223 v224 v225 v226 v227 v228 v229 v230 v231 v232 v233 v234 v235 v236 v237 v238 v239 v240 v241 v242 v243 v244 v245 v246 v247 v248 v249 v250 v251 v252 v253 v254 v255 v256 v257 v258 v259 v260 v261 v262 v263 v264 v265 v266 v267 v268 w11 hb11
        have hb11a := nwT hb10a hb11
        go_wp2_with fail
        go_roundw
        case rel => exact ⟨a + 1, by omega, by omega, by go_num, hb11a⟩
        case measure => simp [intOf]; omega
    · by_cases hk2 : (a : Int) < (NS.length : Int)
      · have hk5 : ¬ (a : Int) < 14 := fun h => ha1 ⟨hk2, h⟩
        clear ha1
        go_wp2_with fail
        exact HEX.out _ _ _ _ _ _ _ _ _ _ _ _ _ _ _ _ _ _ _ _ _ _ _ _ _ _ _ _ _ _ _ _ _ _ _ _ _ _ _ _ _ _ _ _ _ _ _ _ _ _ _ _ _ _ _ _ _ _ _ _ _ _ _ _ _ _ _ _ _ _ _ _ _ _ _ _ _ _ _ _ _ _ _ _ _ _ _ _ _ _ _ _ _ _ _ _ _ _ _ _ _ _ _ _ _ _ _ _ _ _ _ _ _ _ _ _ _ _ _ _ _ _ _ _ _ _ _ _ _ _ _ _ _ _ _ _ _ _ _ _ _ _ _ _ _ _ _ _ _ _ _ _ _ _ _ _ _ _ _ _ _ _ _ _ _ _ _ _ _ _ _ _ _ _ _ _ _ _ _ _ _ _ _ _ _ _ _ _ _ _ _ _ _ _ _ _ _ _ _ _ _ _ _ _ _ _ _ _ _ _ _ _ _ _ _  hba
      · clear ha1
        go_wp2_with fail
        exact HEX.out _ _ _ _ _ _ _ _ _ _ _ _ _ _ _ _ _ _ _ _ _ _ _ _ _ _ _ _ _ _ _ _ _ _ _ _ _ _ _ _ _ _ _ _ _ _ _ _ _ _ _ _ _ _ _ _ _ _ _ _ _ _ _ _ _ _ _ _ _ _ _ _ _ _ _ _ _ _ _ _ _ _ _ _ _ _ _ _ _ _ _ _ _ _ _ _ _ _ _ _ _ _ _ _ _ _ _ _ _ _ _ _ _ _ _ _ _ _ _ _ _ _ _ _ _ _ _ _ _ _ _ _ _ _ _ _ _ _ _ _ _ _ _ _ _ _ _ _ _ _ _ _ _ _ _ _ _ _ _ _ _ _ _ _ _ _ _ _ _ _ _ _ _ _ _ _ _ _ _ _ _ _ _ _ _ _ _ _ _ _ _ _ _ _ _ _ _ _ _ _ _ _ _ _ _ _ _ _ _ _ _ _ _ _ _  hba

end Go.Proofs.YtifbnojkjbjngaaDoor
