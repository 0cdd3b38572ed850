/- What is proved: what the walks of this seat need of layers below, merged out of the texts Trd (of each just what is needed). Conditions: each theorem names its own. -/
import Derived.Test.YtkaeoflgnnlbeaaGreatDoorCf
/- What is proved: what the library's merge does behind its search: both parts are turned about, each half is merged: all are in order. Conditions: the list lies in a block; the comparison's contract. -/
namespace Go.Proofs.YtkaeoflgnnlbeaaGreatDoor
open Go.Shelf Go.RowKit Go.Lib Go.Sort
set_option linter.unusedVariables false
section
variable {α : Type} [Inhabited α]
/-- What the merge says of one call. -/
def MergeSays (enc : α → List Value) (cf : α → α → Int) (ixf : α → Nat) (g : Nat) (cb : Array Value) (blk off cap : Nat) (d0 : Array α) (w0 : World) (a m b : Nat) (d : Array α) (w : World) : Prop :=
  Calls Tryz.prog 228 #[.slice (some ⟨blk, off, none⟩) d.size cap, .int .i64 a, .int .i64 m, .int .i64 b, .func (.func g) #[] cb] w fun e w' => e = .returned (.tuple #[]) ∧
      ∃ d', SWK enc 34 w0 blk off d' w' ∧ PermIn a b d d' ∧ St (ltOf cf) ixf a b d'
/-- What stands behind the search, in the merge's text. -/
def sndC : Code → Code
  | .seq _ y => y
  | c => c
noncomputable def mergeTail : Code := sndC (sndC (sndC (sndC (sndC (sndC (sndC (sndC (sndC (Tryz.f228.body.getD .skip)))))))))
set_option maxHeartbeats 16000000 in
set_option maxRecDepth 1000000 in
/-- Both parts turned about, and each half merged. -/
theorem merge_tail (enc : α → List Value) (cf : α → α → Int) (ixf : α → Nat) (g : Nat) (cb : Array Value) (blk off cap a m b mid s e : Nat) (d0 d : Array α) (w0 w : World) (Q : Exit → Act → World → Prop)
    (hO : SWO (ltOf cf)) (R : RowK enc 34 w0 blk off d0) (hs : d0.size = d.size) (S : SWK enc 34 w0 blk off d w)
    (ht : Two (ltOf cf) ixf a m b d) (ham : a + 2 ≤ m) (hmb : m + 2 ≤ b) (hb : b ≤ d.size) (hsz : d.size < 1000000) (hm1 : a + 2 ≤ mid) (hm2 : mid + 2 ≤ b)
    (hD : a ≤ s ∧ s ≤ m ∧ m ≤ e ∧ e ≤ b ∧ mid = s + (e - m) ∧ (∀ x y, a ≤ x → x < s → e ≤ y → y < b → LL (ltOf cf) ixf d[x]! d[y]!) ∧ (∀ y x, m ≤ y → y < e → s ≤ x → x < m → LL (ltOf cf) ixf d[y]! d[x]!))
    (ih : ∀ (a' m' b' : Nat) (d' : Array α) (w' : World), b' - a' < b - a → d'.size = d.size → SWK enc 34 w0 blk off d' w' → Two (ltOf cf) ixf a' m' b' d' → a' < m' → m' < b' → b' ≤ d.size → MergeSays enc cf ixf g cb blk off cap d0 w0 a' m' b' d' w')
    (hQ : ∀ a' w' d', a'.defers = [] → SWK enc 34 w0 blk off d' w' → PermIn a b d d' → St (ltOf cf) ixf a b d' → Q .normal a' w')
    (c5 c6 c7 c8 c9 c10 c11 c12 c13 c14 c15 c16 c17 c19 c21 c22 c23 c25 c26 c27 c28 c29 c30 c31 c32 c33 c34 c35 c36 c37 c38 c39 c40 c41 c42 c43 c44 c45 c46 c47 c48 c49 c50 c51 c52 c53 c54 c55 c56 c57 c58 c59 c60 c61 c62 c63 c64 c65 c66 c67 c68 c69 c70 c71 c72 c73 c74 c75 c76 c77 c78 c79 c80 c81 c82 c83 c84 c85 c86 c87 c88 c89 c90 c91 c92 c93 c94 c95 c96 c97 c98 c99 c100 c101 c102 c103 c104 c105 c106 c107 c108 c109 c110 c111 c112 c113 c114 c115 c116 c117 c118 c119 c120 c121 c122 c123 c124 c125 c126 c127 c128 c129 c130 c131 c132 c133 c134 c135 c136 c137 c138 c139 c140 c141 c142 c143 c144 c145 c146 c147 c148 c149 c150 c151 c152 c153 c154 c155 c156 c157 c158 c159 c160 c161 c162 c163 c164 c165 c166 c167 c168 c169 c170 c171 c172 c173 c174 c175 c176 c177 c178 c179 c180 c181 c182 c183 c184 c185 c186 c187 c188 c189 c190 c191 c192 c193 c194 c195 c196 c197 c198 c199 c200 c201 c202 c203 c204 c205 c206 c207 c208 c209 c210 c211 c212 c213 c214 c215 c216 c217 c218 c219 : Value) : Code.wp Tryz.prog mergeTail Q ⟨List.toArray ((.slice (some ⟨blk, off, none⟩) d.size cap : Value) :: (.int .i64 a : Value) :: (.int .i64 m : Value) :: (.int .i64 b : Value) :: (.func (.func g) #[] cb : Value) :: c5 :: c6 :: c7 :: c8 :: c9 :: c10 :: c11 :: c12 :: c13 :: c14 :: c15 :: c16 :: c17 :: (.int .i64 mid : Value) :: c19 :: (.int .i64 s : Value) :: c21 :: c22 :: c23 :: (.int .i64 e : Value) :: c25 :: c26 :: c27 :: c28 :: c29 :: c30 :: c31 :: c32 :: c33 :: c34 :: c35 :: c36 :: c37 :: c38 :: c39 :: c40 :: c41 :: c42 :: c43 :: c44 :: c45 :: c46 :: c47 :: c48 :: c49 :: c50 :: c51 :: c52 :: c53 :: c54 :: c55 :: c56 :: c57 :: c58 :: c59 :: c60 :: c61 :: c62 :: c63 :: c64 :: c65 :: c66 :: c67 :: c68 :: c69 :: c70 :: c71 :: c72 :: c73 :: c74 :: c75 :: c76 :: c77 :: c78 :: c79 :: c80 :: c81 :: c82 :: c83 :: c84 :: c85 :: c86 :: c87 :: c88 :: c89 :: c90 :: c91 :: c92 :: c93 :: c94 :: c95 :: c96 :: c97 :: c98 :: c99 :: c100 :: c101 :: c102 :: c103 :: c104 :: c105 :: c106 :: c107 :: c108 :: c109 :: c110 :: c111 :: c112 :: c113 :: c114 :: c115 :: c116 :: c117 :: c118 :: c119 :: c120 :: c121 :: c122 :: c123 :: c124 :: c125 :: c126 :: c127 :: c128 :: c129 :: c130 :: c131 :: c132 :: c133 :: c134 :: c135 :: c136 :: c137 :: c138 :: c139 :: c140 :: c141 :: c142 :: c143 :: c144 :: c145 :: c146 :: c147 :: c148 :: c149 :: c150 :: c151 :: c152 :: c153 :: c154 :: c155 :: c156 :: c157 :: c158 :: c159 :: c160 :: c161 :: c162 :: c163 :: c164 :: c165 :: c166 :: c167 :: c168 :: c169 :: c170 :: c171 :: c172 :: c173 :: c174 :: c175 :: c176 :: c177 :: c178 :: c179 :: c180 :: c181 :: c182 :: c183 :: c184 :: c185 :: c186 :: c187 :: c188 :: c189 :: c190 :: c191 :: c192 :: c193 :: c194 :: c195 :: c196 :: c197 :: c198 :: c199 :: c200 :: c201 :: c202 :: c203 :: c204 :: c205 :: c206 :: c207 :: c208 :: c209 :: c210 :: c211 :: c212 :: c213 :: c214 :: c215 :: c216 :: c217 :: c218 :: c219 :: []), []⟩ w := by
  conv => arg 2; whnf
  unfold MergeSays at ih
  have S1 : Aside (SWK enc 34 w0 blk off d w) := S
  have HT := Lib.hid ht
  have HIH := Lib.hid ih
  have HQ := Lib.hid hQ
  have hd0 := hD.1
  have hd1 := hD.2.1
  have hd2 := hD.2.2.1
  have hd3 := hD.2.2.2.1
  have hme0 : mid ≤ e := by have := hD.2.2.2.2.1; omega
  have hsm0 : s ≤ mid := by have := hD.2.2.2.2.1; omega
  have HD := Lib.hid hD
  clear hD hQ ih ht S
  go_upto_region 39 with fail
  go_cut [185] from 25 to 219 (fun s185 wc => ∃ c : Bool, s185 = .bool c ∧ Hid (c = true ↔ (s < m ∧ m < e)) ∧ Aside (SWK enc 34 w0 blk off d wc))
  case first =>
    by_cases g1 : s < m
    · have g1z : (s : Int) < (m : Int) := by omega
      by_cases g2 : m < e
      · have g2z : (m : Int) < (e : Int) := by omega
        go_wp2
        go_meet
        case rel => exact ⟨true, by first | rfl | simp, Lib.hid ⟨fun _ => ⟨g1, g2⟩, fun _ => rfl⟩, S1⟩
      · have g2z : ¬ ((m : Int) < (e : Int)) := by omega
        go_wp2
        go_meet
        case rel => exact ⟨false, by first | rfl | simp, Lib.hid ⟨fun h => (by cases h), fun h => absurd h.2 g2⟩, S1⟩
    · have g1z : ¬ ((s : Int) < (m : Int)) := by omega
      go_wp2
      go_meet
      case rel => exact ⟨false, by first | rfl | simp, Lib.hid ⟨fun h => (by cases h), fun h => absurd h.1 g1⟩, S1⟩
  case rest =>
    clear S1
    obtain ⟨c1, rfl, HC1, S2⟩ := hcut
    go_upto_if 185 with fail
    go_cut [] from 25 to 219 (fun wc => ∃ d1 : Array α, d1.size = d.size ∧ Aside (SWK enc 34 w0 blk off d1 wc) ∧ Hid (PermIn a b d d1) ∧ Hid (∀ k, d1[k]! = d[src m (m - s) (e - m) k]!))
    case first =>
      cases c1
      · go_wp2
        go_meet
        case rel => exact ⟨d, rfl, S2, Lib.hid (permIn_refl _ _ _), Lib.hid (fun k => by
          by_cases g1 : s < m
          · have g2 : ¬ m < e := fun h => by have := HC1.out.2 ⟨g1, h⟩; cases this
            rw [show e - m = 0 by omega, src_none2]
          · rw [show m - s = 0 by omega, src_none])⟩
      · have hsm := (HC1.out.1 rfl).1
        have hme := (HC1.out.1 rfl).2
        have hc := Grotate_any enc g cb blk off cap s m e d0 d w0 wc R hs S2.out hsm hme (by omega) (by omega)
        have HG := Lib.hid hc
        clear hc
        go_wp2_with (go_at_call 229; refine HG.out.mono ?_; rintro e2 w2 ⟨rfl, d1, S3, hp3, hw3⟩)
        go_meet
        case rel => exact ⟨d1, hp3.1, S3, Lib.hid (permIn_mono _ _ _ _ _ _ (by omega) (by omega) hb hp3), Lib.hid hw3⟩
    case rest =>
      clear S2 HC1 c1
      obtain ⟨d1, hd1s, S3, HP1, HW1⟩ := hcut
      have hTw := HT.out.turned hd0 hd1 hd2 hd3 HD.out.2.2.2.2.1 HD.out.2.2.2.2.2.1 HD.out.2.2.2.2.2.2 HW1.out
      have HTw := Lib.hid hTw
      clear hTw
      have hwt : ∀ (X : Array α), PermIn a mid d1 X → Two (ltOf cf) ixf mid e b X := fun X hX => ⟨HTw.out.2.1.left.away hX (.inr (Nat.le_refl _)), HTw.out.2.1.right.away hX (.inr (by omega)), HTw.out.2.1.cross.perm hX (by omega) (.inr (.inr (.inl (Nat.le_refl _))))⟩
      have HWT := Lib.hid hwt
      clear hwt
      go_upto_region 41 with fail
      go_cut [199] from 25 to 219 (fun s199 wc => ∃ c : Bool, s199 = .bool c ∧ Hid (c = true ↔ (a < s ∧ s < mid)) ∧ Aside (SWK enc 34 w0 blk off d1 wc))
      case first =>
        by_cases g1 : a < s
        · have g1z : (a : Int) < (s : Int) := by omega
          by_cases g2 : s < mid
          · have g2z : (s : Int) < (mid : Int) := by omega
            go_wp2
            go_meet
            case rel => exact ⟨true, by first | rfl | simp, Lib.hid ⟨fun _ => ⟨g1, g2⟩, fun _ => rfl⟩, S3⟩
          · have g2z : ¬ ((s : Int) < (mid : Int)) := by omega
            go_wp2
            go_meet
            case rel => exact ⟨false, by first | rfl | simp, Lib.hid ⟨fun h => (by cases h), fun h => absurd h.2 g2⟩, S3⟩
        · have g1z : ¬ ((a : Int) < (s : Int)) := by omega
          go_wp2
          go_meet
          case rel => exact ⟨false, by first | rfl | simp, Lib.hid ⟨fun h => (by cases h), fun h => absurd h.1 g1⟩, S3⟩
      case rest =>
        clear S3
        obtain ⟨c2, rfl, HC2, S4⟩ := hcut
        go_upto_if 199 with fail
        go_cut [] from 25 to 219 (fun wc => ∃ d2 : Array α, d2.size = d.size ∧ Aside (SWK enc 34 w0 blk off d2 wc) ∧ Hid (PermIn a mid d1 d2) ∧ Hid (St (ltOf cf) ixf a mid d2))
        case first =>
          cases c2
          · go_wp2
            go_meet
            case rel => exact ⟨d1, hd1s, S4, Lib.hid (permIn_refl _ _ _), Lib.hid (HTw.out.1.one (by
              by_cases g1 : a < s
              · have g2 : ¬ s < mid := fun h => by have := HC2.out.2 ⟨g1, h⟩; cases this
                exact .inr (by omega)
              · exact .inl (by omega)))⟩
          · have has := (HC2.out.1 rfl).1
            have hsm := (HC2.out.1 rfl).2
            have hc := HIH.out a s mid d1 wc (by omega) hd1s S4.out HTw.out.1 has hsm (by omega)
            rw [hd1s] at hc
            have HG := Lib.hid hc
            clear hc
            go_wp2_with (go_at_call 228; refine HG.out.mono ?_; rintro e2 w2 ⟨rfl, d2, S5, hp3, hs3⟩)
            go_meet
            case rel => exact ⟨d2, hp3.1.trans hd1s, S5, Lib.hid hp3, Lib.hid hs3⟩
        case rest =>
          clear S4 HC2 c2
          obtain ⟨d2, hd2s, S5, HP2, HS2⟩ := hcut
          by_cases g1 : mid < e ∧ e < b
          · have g1z : (mid : Int) < (e : Int) := by omega
            have g2z : (e : Int) < (b : Int) := by omega
            have hc := HIH.out mid e b d2 wc (by omega) hd2s S5.out (HWT.out d2 HP2.out) g1.1 g1.2 (by omega)
            rw [hd2s] at hc
            have HG := Lib.hid hc
            clear hc
            go_wp2_with (go_at_call 228; refine HG.out.mono ?_; rintro e2 w2 ⟨rfl, d3, S6, hp3, hs3⟩)
            exact HQ.out _ _ d3 rfl S6 (permIn_trans _ _ _ _ _ HP1.out (permIn_trans _ _ _ _ _ (permIn_mono _ _ _ _ _ _ (Nat.le_refl _) (by omega) (by omega) HP2.out) (permIn_mono _ _ _ _ _ _ (by omega) (Nat.le_refl _) (by omega) hp3)))
              (St.join (d := d1) (dl := d2) (dr := d3) (mid := mid) (by omega) (by omega) HTw.out.2.2 HP2.out HS2.out hp3 hs3)
          · have hend : St (ltOf cf) ixf a b d2 := St.join (d := d1) (dl := d2) (dr := d2) (mid := mid) (by omega) (by omega) HTw.out.2.2 HP2.out HS2.out (permIn_refl _ _ _) ((HWT.out d2 HP2.out).one (by omega))
            have HE := Lib.hid hend
            clear hend
            by_cases g2 : mid < e
            · have g2z : (mid : Int) < (e : Int) := by omega
              have g3z : ¬ ((e : Int) < (b : Int)) := by omega
              go_wp2
              exact HQ.out _ _ d2 rfl S5.out (permIn_trans _ _ _ _ _ HP1.out (permIn_mono _ _ _ _ _ _ (Nat.le_refl _) (by omega) (by omega) HP2.out)) HE.out
            · have g2z : ¬ ((mid : Int) < (e : Int)) := by omega
              go_wp2
              exact HQ.out _ _ d2 rfl S5.out (permIn_trans _ _ _ _ _ HP1.out (permIn_mono _ _ _ _ _ _ (Nat.le_refl _) (by omega) (by omega) HP2.out)) HE.out
end
end Go.Proofs.YtkaeoflgnnlbeaaGreatDoor
