/- What is proved: Author, Date, Topo, Plain of the program. Conditions: the cells are there; at most ten thousand numbers. -/
import Derived.Test.YtpaigmmpihcdaaaJp
namespace Go.Proofs.Ytpaigmmpihcdaaa
open Go.RowKit Go.Shelf
set_option linter.unusedVariables false

theorem qu_start {pr : Nat → List Nat} {t : Nat → Int} {N : Nat} {has : Nat → Bool} {l : List Nat} (h : Qu t N (rdyF has (ahN pr has N)) l) : Qu t N (rdyB pr N has) l := by
  have e : rdyF has (ahN pr has N) = rdyB pr N has := funext (rdyF_start pr N has)
  rwa [e] at h
theorem tell_own {w wq w' : World} {ga : Nat} {v : Value} {T : List Nat} (f : Fr (fun _ => False) w wq) (hga : w.heap.size ≤ ga) (o : w'.ownsRow wq.heap.size 3 1 v T.length (nC T)) (k : Fr (fun j => j = ga) wq w') : OwnN w w' v T :=
  ⟨own_low o f.size, f.trans k (fun j hj e => by have e2 : j = ga := e; omega)⟩

set_option maxHeartbeats 1600000 in
set_option maxRecDepth 100000 in
theorem OrAuthor_no (A : Option Addr) (c : Nat) (G : List Nd) (B : Option Addr) (cB : Nat) (ls : List Int) (v2 : Value) (hn : ls.length ≤ 10000) (w : World) (hG : GAt w A G) (hl : Lies w B (zC ls)) (h0 : ¬ nodE G ls = 0) :
    Calls Try.prog 23 #[.slice A G.length c, .slice B ls.length cB, v2] w fun e w' => e = .returned (.tuple #[.slice none 0 0, .int .i64 (nodE G ls)]) ∧ Fr (fun _ => False) w w' := by
  have HNl := Lib.hid (show Calls Try.prog 26 #[.slice A G.length c, .slice B ls.length cB] w fun e w' => e = .returned (.tuple #[.pointer none, .int .i64 (nodE G ls)]) ∧ Fr (fun _ => False) w w' from by
    by_cases h : chkG G = 0
    · exact OrnewList_bad A c G B cB ls hn w hG hl h h0
    · exact OrnewList_no A c G B cB ls w hG h)
  obtain ⟨r, hr⟩ : ∃ r, nodE G ls = r := ⟨_, rfl⟩
  rw [hr] at h0 HNl ⊢
  have hbz : (r == 0) = false := by simpa using h0
  clear hr hG hl
  go_enter Try.func23, Try.ntmps23
  go_wp2_with (go_at_call 26; refine HNl.out.mono ?_; rintro e w1 ⟨rfl, hf⟩; have HF1 := Lib.hid hf; clear hf)
  go_ret2
  exact ⟨by simp, HF1.out⟩

set_option maxHeartbeats 3200000 in
set_option maxRecDepth 100000 in
theorem OrAuthor_ok (A : Option Addr) (c : Nat) (G : List Nd) (B : Option Addr) (cB : Nat) (ls : List Int) (B2 : Option Addr) (nb c2 : Nat) (by' : List Int) (hn : ls.length ≤ 10000) (hb : by'.length = nb) (hnb : G.length ≤ nb) (w : World) (hG : GAt w A G) (hl : Lies w B (zC ls)) (h2 : Lies w B2 (zC by')) (h0 : nodE G ls = 0) :
    Calls Try.prog 23 #[.slice A G.length c, .slice B ls.length cB, .slice B2 nb c2] w fun e w' => ∃ v, e = .returned (.tuple #[v, .int .i64 0]) ∧ OwnN w w' v (dateL (prG G) (fun n => by'.getD n 0) G.length (nz ls)) := by
  have HNl := Lib.hid (OrnewList_yes A c G B cB ls hn w hG hl h0)
  obtain ⟨hokG, _⟩ := nodE_zero h0
  have hR := right_of hokG
  have hlen := hR.len
  have HQ := Lib.hid (fun gl gh ga has ah w1 (hL : Whole w1 gl 60 #[.slice A G.length c, .slice (some ⟨gh, 0, none⟩) G.length G.length, .slice (some ⟨ga, 0, none⟩) G.length G.length]) hH hA hby => Orqueue_any gl gh ga G.length A c has ah B2 nb c2 by' hb hnb hlen w1 hL hH hA hby)
  have HTell := Lib.hid (fun wq gl gh ga gq gb (h : NlR w wq gl gh ga G.length (.slice A G.length c) (fun k => decide (k ∈ nz ls)) (ahN (prG G) (fun k => decide (k ∈ nz ls)) G.length)) w3 vq l (hq : Qu (fun n => by'.getD n 0) G.length (rdyF (fun k => decide (k ∈ nz ls)) (ahN (prG G) (fun k => decide (k ∈ nz ls)) G.length)) l) (ht : TlR wq w3 ga gq gb G.length (ahN (prG G) (fun k => decide (k ∈ nz ls)) G.length) (.slice B2 nb c2) vq l (.slice none 0 0) []) =>
    Ortell_queue w wq A c G.length G rfl gl gh ga gq gb (fun k => decide (k ∈ nz ls)) (.slice B2 nb c2) (dateL (prG G) (fun n => by'.getD n 0) G.length (nz ls)) _ _ (queueK (prG G) (fun n => by'.getD n 0) G.length (fun k => decide (k ∈ nz ls)) (dateL (prG G) (fun n => by'.getD n 0) G.length (nz ls)) hR.dn (fun n hn => pr_nodup hokG n hn)) hR (fun n hn => pr_nodup hokG n hn) hG h.old h.la (h.lb.apart h.ab (by decide)) (h.hb.apart h.ab (by decide)) h.lb h.hb
      (fun ah vq l vo out x w4 hp hx ht => Orqput_any wq ga gq gb G.length ah B2 nb c2 by' vq vo l out x hb (by have := QPre.len hp; omega) (fun y hy => by have := hp.lt y hy; omega) (by omega) hp.asc w4 ht (h2.fr (h.old.trans ht.fr (fun j hj e => by have e2 : j = ga := e; have := h.la; omega)) (fun _ _ e => e)))
      w3 vq l (queue_start _ _ _ _ _ (qu_start hq)) ht)
  have HBy := Lib.hid (fun wq ga (f0 : Fr (fun _ => False) w wq) (hga : w.heap.size ≤ ga) wr (f : Fr (fun k => k = ga) wq wr) => show Lies wr B2 (zC by') from h2.fr (f0.trans f (fun j hj e => by have e2 : j = ga := e; omega)) (fun _ _ e => e))
  obtain ⟨N, hN⟩ : ∃ N, G.length = N := ⟨_, rfl⟩
  obtain ⟨L, hL⟩ : ∃ L, ls.length = L := ⟨_, rfl⟩
  obtain ⟨T, hT⟩ : ∃ T, dateL (prG G) (fun n => by'.getD n 0) G.length (nz ls) = T := ⟨_, rfl⟩
  obtain ⟨has, hhas⟩ : ∃ f : Nat → Bool, (fun k => decide (k ∈ nz ls)) = f := ⟨_, rfl⟩
  rw [hT] at HTell ⊢
  rw [hhas] at HNl HTell
  obtain ⟨ah, hah⟩ : ∃ a, ahN (prG G) has G.length = a := ⟨_, rfl⟩
  rw [hah] at HNl HTell
  rw [hN] at HNl HTell HQ hnb ⊢
  rw [hL] at HNl ⊢
  have hnbz : ¬ ((nb : Int) < (N : Int)) := by omega
  clear hT hhas hah hG hl h2 h0 hokG hR hN hL hb hlen
  go_enter Try.func23, Try.ntmps23
  go_wp2_with (first
    | (go_at_call 26; refine HNl.out.mono ?_; rintro e w1 ⟨gl, gh, ga, rfl, hnl⟩; have HN1 := Lib.hid hnl; clear hnl)
    | (go_at_call 28; refine (HQ.out gl gh ga has ah w1 HN1.out.lb HN1.out.hb HN1.out.ab (HBy.out w1 ga HN1.out.old HN1.out.la)).mono ?_; rintro e w2 ⟨gq, gb, vq, l, rfl, hq, ht⟩; have HQ2 := Lib.hid hq; have HT2 := Lib.hid ht; clear hq ht)
    | (go_at_call 27; refine (HTell.out w1 gl gh ga gq gb HN1.out w2 vq l HQ2.out HT2.out).mono ?_; rintro e w3 ⟨v, rfl, ho, hf⟩; have HO3 := Lib.hid (tell_own HN1.out.old HN1.out.la ho hf); clear ho hf))
  go_ret2
  exact ⟨v, by simp, HO3.out⟩

theorem OwnN.sub {w w1 w' : World} {v : Value} {l : List Nat} (h : OwnN w1 w' v l) (f : Fr (fun _ => False) w w1) : OwnN w w' v l := ⟨own_low h.1 f.size, f.trans h.2 (fun _ _ e => e)⟩
theorem time_len (G : List Nd) : (timeL G).length = G.length := by unfold timeL; rw [List.length_map]
set_option maxHeartbeats 1600000 in
set_option maxRecDepth 100000 in
theorem OrDate_no (A : Option Addr) (c : Nat) (G : List Nd) (B : Option Addr) (cB : Nat) (ls : List Int) (hn : ls.length ≤ 10000) (hg : G.length ≤ 2000000) (w : World) (hG : GAt w A G) (hl : Lies w B (zC ls)) (h0 : ¬ nodE G ls = 0) :
    Calls Try.prog 12 #[.slice A G.length c, .slice B ls.length cB] w fun e w' => e = .returned (.tuple #[.slice none 0 0, .int .i64 (nodE G ls)]) ∧ Fr (fun _ => False) w w' := by
  have HTm := Lib.hid (Ortimes_any A c G hg w hG)
  have HAu := Lib.hid (fun v2 w1 (f : Fr (fun _ => False) w w1) => OrAuthor_no A c G B cB ls v2 hn w1 (hG.fr f) (hl.fr f (fun _ _ e => e)) h0)
  obtain ⟨r, hr⟩ : ∃ r, nodE G ls = r := ⟨_, rfl⟩
  rw [hr] at HAu ⊢
  obtain ⟨N, hN⟩ : ∃ N, G.length = N := ⟨_, rfl⟩
  obtain ⟨L, hL⟩ : ∃ L, ls.length = L := ⟨_, rfl⟩
  rw [hN] at HTm HAu ⊢
  rw [hL] at HAu ⊢
  clear hr hG hl h0 hN hL hg hn
  go_enter Try.func12, Try.ntmps12
  go_wp2_with (first
    | (go_at_call 24; refine HTm.out.mono ?_; rintro e w1 ⟨g, rfl, _, hf, _⟩; have HF1 := Lib.hid hf; clear hf)
    | (go_at_call 23; refine (HAu.out _ w1 HF1.out).mono ?_; rintro e w2 ⟨rfl, hf⟩; have HF2 := Lib.hid (HF1.out.trans hf (fun _ _ e => e)); clear hf))
  go_ret2
  exact ⟨by simp, HF2.out⟩
set_option maxHeartbeats 1600000 in
set_option maxRecDepth 100000 in
theorem OrDate_ok (A : Option Addr) (c : Nat) (G : List Nd) (B : Option Addr) (cB : Nat) (ls : List Int) (hn : ls.length ≤ 10000) (w : World) (hG : GAt w A G) (hl : Lies w B (zC ls)) (h0 : nodE G ls = 0) :
    Calls Try.prog 12 #[.slice A G.length c, .slice B ls.length cB] w fun e w' => ∃ v, e = .returned (.tuple #[v, .int .i64 0]) ∧ OwnN w w' v (dateL (prG G) (fun n => (timeL G).getD n 0) G.length (nz ls)) := by
  have hlen := (right_of (nodE_zero h0).1).len
  have HTm := Lib.hid (Ortimes_any A c G (by omega) w hG)
  have HAu := Lib.hid (fun g w1 (f : Fr (fun _ => False) w w1) (h1 : Whole w1 g 3 (zC (timeL G)).toArray) => OrAuthor_ok A c G B cB ls (some ⟨g, 0, none⟩) G.length G.length (timeL G) hn (time_len G) (Nat.le_refl _) w1 (hG.fr f) (hl.fr f (fun _ _ e => e)) (Lies.of_whole h1) h0)
  obtain ⟨T, hT⟩ : ∃ T, dateL (prG G) (fun n => (timeL G).getD n 0) G.length (nz ls) = T := ⟨_, rfl⟩
  rw [hT] at HAu ⊢
  obtain ⟨R, hR⟩ : ∃ R, (zC (timeL G)).toArray = R := ⟨_, rfl⟩
  rw [hR] at HAu HTm
  obtain ⟨N, hN⟩ : ∃ N, G.length = N := ⟨_, rfl⟩
  obtain ⟨L, hL⟩ : ∃ L, ls.length = L := ⟨_, rfl⟩
  rw [hN] at HTm HAu ⊢
  rw [hL] at HAu ⊢
  clear hT hR hG hl h0 hN hL hlen hn
  go_enter Try.func12, Try.ntmps12
  go_wp2_with (first
    | (go_at_call 24; refine HTm.out.mono ?_; rintro e w1 ⟨g, rfl, hw, hf, _⟩; have HF1 := Lib.hid hf; have HW1 := Lib.hid hw; clear hf hw)
    | (go_at_call 23; refine (HAu.out g w1 HF1.out HW1.out).mono ?_; rintro e w2 ⟨v, rfl, ho⟩; have HO2 := Lib.hid (ho.sub HF1.out); clear ho))
  go_ret2
  exact ⟨v, by simp, HO2.out⟩

set_option maxHeartbeats 1600000 in
set_option maxRecDepth 100000 in
theorem OrTopo_no (A : Option Addr) (c : Nat) (G : List Nd) (B : Option Addr) (cB : Nat) (ls : List Int) (hn : ls.length ≤ 10000) (w : World) (hG : GAt w A G) (hl : Lies w B (zC ls)) (h0 : ¬ nodE G ls = 0) :
    Calls Try.prog 15 #[.slice A G.length c, .slice B ls.length cB] w fun e w' => e = .returned (.tuple #[.slice none 0 0, .int .i64 (nodE G ls)]) ∧ Fr (fun _ => False) w w' := by
  have HNl := Lib.hid (show Calls Try.prog 26 #[.slice A G.length c, .slice B ls.length cB] w fun e w' => e = .returned (.tuple #[.pointer none, .int .i64 (nodE G ls)]) ∧ Fr (fun _ => False) w w' from by
    by_cases h : chkG G = 0
    · exact OrnewList_bad A c G B cB ls hn w hG hl h h0
    · exact OrnewList_no A c G B cB ls w hG h)
  obtain ⟨r, hr⟩ : ∃ r, nodE G ls = r := ⟨_, rfl⟩
  rw [hr] at h0 HNl ⊢
  have hbz : (r == 0) = false := by simpa using h0
  clear hr hG hl
  go_enter Try.func15, Try.ntmps15
  go_wp2_with (go_at_call 26; refine HNl.out.mono ?_; rintro e w1 ⟨rfl, hf⟩; have HF1 := Lib.hid hf; clear hf)
  go_ret2
  exact ⟨by simp, HF1.out⟩

set_option maxHeartbeats 3200000 in
set_option maxRecDepth 100000 in
theorem OrTopo_ok (A : Option Addr) (c : Nat) (G : List Nd) (B : Option Addr) (cB : Nat) (ls : List Int) (hn : ls.length ≤ 10000) (w : World) (hG : GAt w A G) (hl : Lies w B (zC ls)) (h0 : nodE G ls = 0) :
    Calls Try.prog 15 #[.slice A G.length c, .slice B ls.length cB] w fun e w' => ∃ v, e = .returned (.tuple #[v, .int .i64 0]) ∧ OwnN w w' v (topoL (prG G) (fun n => (timeL G).getD n 0) G.length (nz ls)) := by
  have HNl := Lib.hid (OrnewList_yes A c G B cB ls hn w hG hl h0)
  obtain ⟨hokG, _⟩ := nodE_zero h0
  have hR := right_of hokG
  have hlen := hR.len
  have HTm := Lib.hid (fun w1 (f : Fr (fun _ => False) w w1) => Ortimes_any A c G (by omega) w1 (hG.fr f))
  have HQ := Lib.hid (fun gl gh ga has ah g w1 (hL : Whole w1 gl 60 #[.slice A G.length c, .slice (some ⟨gh, 0, none⟩) G.length G.length, .slice (some ⟨ga, 0, none⟩) G.length G.length]) hH hA hby => Orqueue_any gl gh ga G.length A c has ah (some ⟨g, 0, none⟩) G.length G.length (timeL G) (time_len G) (Nat.le_refl _) hlen w1 hL hH hA hby)
  have HTell := Lib.hid (fun wq gl gh ga gq gb g (h : NlR w wq gl gh ga G.length (.slice A G.length c) (fun k => decide (k ∈ nz ls)) (ahN (prG G) (fun k => decide (k ∈ nz ls)) G.length)) w3 vq l (hq : Qu (fun n => (timeL G).getD n 0) G.length (rdyF (fun k => decide (k ∈ nz ls)) (ahN (prG G) (fun k => decide (k ∈ nz ls)) G.length)) l) (ht : TlR wq w3 ga gq gb G.length (ahN (prG G) (fun k => decide (k ∈ nz ls)) G.length) (.slice (some ⟨g, 0, none⟩) G.length G.length) vq l (.slice none 0 0) []) =>
    Ortell_pile w wq A c G.length G rfl gl gh ga gq gb (fun k => decide (k ∈ nz ls)) (.slice (some ⟨g, 0, none⟩) G.length G.length) (topoL (prG G) (fun n => (timeL G).getD n 0) G.length (nz ls)) _ _ (pileK (prG G) G.length (fun k => decide (k ∈ nz ls)) (topoL (prG G) (fun n => (timeL G).getD n 0) G.length (nz ls)) hR.dn (fun n hn => pr_nodup hokG n hn)) hR (fun n hn => pr_nodup hokG n hn) hG h.old h.la (h.lb.apart h.ab (by decide)) (h.hb.apart h.ab (by decide)) h.lb h.hb
      (fun ah vq l vo out x w4 hp hx ht => (Orpput_any wq ga gq gb G.length ah (.slice (some ⟨g, 0, none⟩) G.length G.length) vq vo l out x (by have : l.length ≤ G.length := hp; omega) w4 ht).mono (fun e w5 ⟨h1, ⟨vq', h2⟩, h3⟩ => ⟨h1, ⟨vq', _, rfl, h2⟩, h3⟩))
      w3 vq l (pile_start _ _ _ _ _ (qu_start hq)) ht)
  obtain ⟨T, hT⟩ : ∃ T, topoL (prG G) (fun n => (timeL G).getD n 0) G.length (nz ls) = T := ⟨_, rfl⟩
  obtain ⟨has, hhas⟩ : ∃ f : Nat → Bool, (fun k => decide (k ∈ nz ls)) = f := ⟨_, rfl⟩
  rw [hT] at HTell ⊢
  rw [hhas] at HNl HTell
  obtain ⟨ah, hah⟩ : ∃ a, ahN (prG G) has G.length = a := ⟨_, rfl⟩
  rw [hah] at HNl HTell
  obtain ⟨N, hN⟩ : ∃ N, G.length = N := ⟨_, rfl⟩
  obtain ⟨L, hL⟩ : ∃ L, ls.length = L := ⟨_, rfl⟩
  rw [hN] at HNl HTell HQ HTm ⊢
  rw [hL] at HNl ⊢
  clear hT hhas hah hG hl h0 hokG hR hN hL hlen
  go_enter Try.func15, Try.ntmps15
  go_wp2_with (first
    | (go_at_call 26; refine HNl.out.mono ?_; rintro e w1 ⟨gl, gh, ga, rfl, hnl⟩; have HN1 := Lib.hid hnl; clear hnl)
    | (go_at_call 24; refine (HTm.out w1 HN1.out.old).mono ?_; rintro e w2 ⟨g, rfl, hw, hf, hg⟩; have HN2 := Lib.hid (HN1.out.frF hf); have HBy := Lib.hid (fun wr (f : Fr (fun k => k = ga) w2 wr) => show Lies wr (some ⟨g, 0, none⟩) (zC (timeL G)) from Lies.of_whole (hw.fr f (fun e => by have e2 : g = ga := e; have := HN1.out.ab.lt; omega))); clear hw hf hg)
    | (go_at_call 28; refine (HQ.out gl gh ga has ah g w2 HN2.out.lb HN2.out.hb HN2.out.ab HBy.out).mono ?_; rintro e w3 ⟨gq, gb, vq, l, rfl, hq, ht⟩; have HQ2 := Lib.hid hq; have HT2 := Lib.hid ht; clear hq ht)
    | (go_at_call 27; refine (HTell.out w2 gl gh ga gq gb g HN2.out w3 vq l HQ2.out HT2.out).mono ?_; rintro e w4 ⟨v, rfl, ho, hf⟩; have HO3 := Lib.hid (tell_own HN2.out.old HN2.out.la ho hf); clear ho hf))
  go_ret2
  exact ⟨v, by simp, HO3.out⟩
theorem nodE_alone {G : List Nd} {ls : List Int} (h : chkG G = 0) : nodE (aloG G) ls = nodE G ls := by
  rw [nodE_ok h, nodE_ok (alo_ok h), alo_len]
set_option maxHeartbeats 1600000 in
set_option maxRecDepth 100000 in
theorem OrPlain_no (A : Option Addr) (c : Nat) (G : List Nd) (B : Option Addr) (cB : Nat) (ls : List Int) (hn : ls.length ≤ 10000) (w : World) (hG : GAt w A G) (hl : Lies w B (zC ls)) (h0 : ¬ nodE G ls = 0) :
    Calls Try.prog 8 #[.slice A G.length c, .slice B ls.length cB] w fun e w' => e = .returned (.tuple #[.slice none 0 0, .int .i64 (nodE G ls)]) ∧ Fr (fun _ => False) w w' := by
  have HChk := Lib.hid (DaCheck_any A c G w hG)
  by_cases hc : chkG G = 0
  · have hlen := (right_of (chk_ok hc)).len
    have HAl := Lib.hid (fun w1 (f : Fr (fun _ => False) w w1) => Oralone_any A c G (by omega) w1 (hG.fr f))
    have HDt := Lib.hid (fun g w1 (f : Fr (fun _ => False) w w1) (h1 : GAt w1 (some ⟨g, 0, none⟩) (aloG G)) => OrDate_no (some ⟨g, 0, none⟩) G.length (aloG G) B cB ls hn (by rw [alo_len]; omega) w1 h1 (hl.fr f (fun _ _ e => e)) (by rw [nodE_alone hc]; exact h0))
    rw [nodE_alone hc, alo_len] at HDt
    rw [hc] at HChk
    obtain ⟨r, hr⟩ : ∃ r, nodE G ls = r := ⟨_, rfl⟩
    obtain ⟨N, hN⟩ : ∃ N, G.length = N := ⟨_, rfl⟩
    obtain ⟨L, hL⟩ : ∃ L, ls.length = L := ⟨_, rfl⟩
    obtain ⟨G', hG'⟩ : ∃ G', aloG G = G' := ⟨_, rfl⟩
    rw [hG'] at HAl HDt
    rw [hr] at HDt ⊢
    rw [hN] at HChk HAl HDt ⊢
    rw [hL] at HDt ⊢
    clear hG hl h0 hc hr hN hL hlen hG' hn
    go_enter Try.func8, Try.ntmps8
    go_wp2_with (first
      | (go_at_call 19; refine HChk.out.mono ?_; rintro e w1 ⟨rfl, b1⟩; have HF1 := Lib.hid (Fr.of_below (S := fun _ => False) b1); clear b1)
      | (go_at_call 20; refine (HAl.out w1 HF1.out).mono ?_; rintro e w2 ⟨g, rfl, hg, hf⟩; have HF2 := Lib.hid (HF1.out.trans hf (fun _ _ e => e)); have HG2 := Lib.hid hg; clear hg hf)
      | (go_at_call 12; refine (HDt.out g w2 HF2.out HG2.out).mono ?_; rintro e w3 ⟨rfl, hf⟩; have HF3 := Lib.hid (HF2.out.trans hf (fun _ _ e => e)); clear hf))
    go_ret2
    exact ⟨by simp, HF3.out⟩
  · rw [nodE_bad hc]
    obtain ⟨r, hr⟩ : ∃ r, chkG G = r := ⟨_, rfl⟩
    rw [hr] at hc HChk ⊢
    have hbz : (r == 0) = false := by simpa using hc
    obtain ⟨N, hN⟩ : ∃ N, G.length = N := ⟨_, rfl⟩
    obtain ⟨L, hL⟩ : ∃ L, ls.length = L := ⟨_, rfl⟩
    rw [hN] at HChk ⊢
    rw [hL]
    clear hG hl h0 hr hN hL hn
    go_enter Try.func8, Try.ntmps8
    go_wp2_with (go_at_call 19; refine HChk.out.mono ?_; rintro e w1 ⟨rfl, b1⟩; have HF1 := Lib.hid (Fr.of_below (S := fun _ => False) b1); clear b1)
    go_ret2
    exact ⟨by simp, HF1.out⟩
set_option maxHeartbeats 1600000 in
set_option maxRecDepth 100000 in
theorem OrPlain_ok (A : Option Addr) (c : Nat) (G : List Nd) (B : Option Addr) (cB : Nat) (ls : List Int) (hn : ls.length ≤ 10000) (w : World) (hG : GAt w A G) (hl : Lies w B (zC ls)) (h0 : nodE G ls = 0) :
    Calls Try.prog 8 #[.slice A G.length c, .slice B ls.length cB] w fun e w' => ∃ v, e = .returned (.tuple #[v, .int .i64 0]) ∧ OwnN w w' v (plainL (fun n => (timeL G).getD n 0) G.length (nz ls)) := by
  have HChk := Lib.hid (DaCheck_any A c G w hG)
  have hc : chkG G = 0 := by unfold chkG; rw [if_pos (nodE_zero h0).1]
  have hlen := (right_of (chk_ok hc)).len
  have HAl := Lib.hid (fun w1 (f : Fr (fun _ => False) w w1) => Oralone_any A c G (by omega) w1 (hG.fr f))
  have HDt := Lib.hid (fun g w1 (f : Fr (fun _ => False) w w1) (h1 : GAt w1 (some ⟨g, 0, none⟩) (aloG G)) => OrDate_ok (some ⟨g, 0, none⟩) G.length (aloG G) B cB ls hn w1 h1 (hl.fr f (fun _ _ e => e)) (by rw [nodE_alone hc]; exact h0))
  rw [alo_len, alo_pr, alo_time] at HDt
  have he := date_alone (fun n => (timeL G).getD n 0) G.length (nz ls)
  rw [he] at HDt
  rw [hc] at HChk
  obtain ⟨T, hT⟩ : ∃ T, plainL (fun n => (timeL G).getD n 0) G.length (nz ls) = T := ⟨_, rfl⟩
  obtain ⟨N, hN⟩ : ∃ N, G.length = N := ⟨_, rfl⟩
  obtain ⟨L, hL⟩ : ∃ L, ls.length = L := ⟨_, rfl⟩
  obtain ⟨G', hG'⟩ : ∃ G', aloG G = G' := ⟨_, rfl⟩
  rw [hG'] at HAl HDt
  rw [hT] at HDt ⊢
  rw [hN] at HChk HAl HDt
  rw [hN]
  rw [hL] at HDt ⊢
  clear hG hl h0 hc hT hN hL hlen hG' hn he
  go_enter Try.func8, Try.ntmps8
  go_wp2_with (first
    | (go_at_call 19; refine HChk.out.mono ?_; rintro e w1 ⟨rfl, b1⟩; have HF1 := Lib.hid (Fr.of_below (S := fun _ => False) b1); clear b1)
    | (go_at_call 20; refine (HAl.out w1 HF1.out).mono ?_; rintro e w2 ⟨g, rfl, hg, hf⟩; have HF2 := Lib.hid (HF1.out.trans hf (fun _ _ e => e)); have HG2 := Lib.hid hg; clear hg hf)
    | (go_at_call 12; refine (HDt.out g w2 HF2.out HG2.out).mono ?_; rintro e w3 ⟨v, rfl, ho⟩; have HO3 := Lib.hid (ho.sub HF2.out); clear ho))
  go_ret2
  exact ⟨v, by simp, HO3.out⟩
end Go.Proofs.Ytpaigmmpihcdaaa
