/- What is proved: an append that has room lies where the row was; what a cutter holds; new bytes behind those before, by the program. Conditions: the row is the call's own, and has room. -/
import Derived.Test.YthjfkeploofblaaDta
import Derived.Test.YthjfkeploofblaaDem
import Derived.Test.YthjfkeploofblaaDfc
import Derived.Deep.Cut
namespace Go.Proofs.Ythjfkeploofblaa
open Go.RowKit
set_option linter.unusedVariables false

section
variable {P : Program} (w : World)
theorem run_append_room (base : Nat) (t tx ty e : TypeId) (i : TypeInfo) (size : Nat) (ht : P.underlying t = some (.slice e)) (hi : P.info? e = some i) (hsize : i.size = size)
    (g n cap : Nat) (xs : List Value) (hown : w.ownsRow base e size (.slice (some ⟨g, 0, none⟩) n cap) n xs) (x : Value) (m : Nat) (news : List Value) (hs : Src P size tx x m news w)
    (hroom : n + m ≤ cap) :
    ∃ w', (Builtin.append_ #[t, tx] ty #[.slice (some ⟨g, 0, none⟩) n cap, x]).run P w = .ok (.slice (some ⟨g, 0, none⟩) (n + m) cap) w' ∧ w'.ownsRow base e size (.slice (some ⟨g, 0, none⟩) (n + m) cap) (n + m) (xs ++ news) ∧ w.grownBy w' (some g) := by
  subst hsize
  have hnl := hs.newsLen
  have hlen : (xs ++ news).length = (n + m) * i.size := by rw [List.length_append, hown.1, hnl, Nat.add_mul]
  rcases hown.2 with ⟨h0, _⟩ | ⟨g', cap', cur, h0, hbg, hg, hnc, hcm, hcs, htake⟩
  · cases h0
  · injection h0 with e1 e2 e3
    injection e1 with e1
    injection e1 with e1 _ _
    subst e1; subst e3
    have hfit : n * i.size + news.length ≤ cur.size := by rw [hnl, hcs, ← Nat.add_mul]; exact Nat.mul_le_mul_right _ hroom
    have hst := run_storeCells_at P g (n * i.size) e news 0 cur w hg (by simpa using hfit) hs.one
    simp only [Nat.add_zero] at hst
    have hr : (Builtin.append_ #[t, tx] ty #[.slice (some ⟨g, 0, none⟩) n cap, x]).run P w =
        .ok (.slice (some ⟨g, 0, none⟩) (n + m) cap) (w.setRow g (cur.toList.take (n * i.size) ++ news ++ cur.toList.drop (n * i.size + news.length)).toArray) := by
      rcases hs.kind with ⟨e', hk⟩ | hk <;> simp [Builtin.append_, run_underlying ht, run_underlying hk, sizeOf, typeInfo, hi, hs.len, hroom, hs.cells, Addr.add_lit, hst]
    refine ⟨_, hr, ⟨hlen, .inr ⟨g, cap, _, rfl, hbg, setRow_heap w g cur _ e _ hg, hroom, hcm, ?_, ?_⟩⟩, ⟨rfl, rfl, rfl, by simp, fun k _ hk => setRow_other w g k _ (fun e => hk (by simp [e]))⟩⟩
    · simp only [List.size_toArray, List.length_append, List.length_take, List.length_drop, Array.length_toList]
      omega
    · rw [htake, ← hlen]
      exact List.take_left
theorem wpList_append_room {ops : Array Oper} {rest : List Oper} {o : Oper} {a : Act} {Q : Exit → Act → World → Prop} (hgd : o.guard = none) (s x : Operand) (t tx : TypeId)
    (ho : o.op = .call { callee := .builtin .append, args := #[s, x], argTypes := #[t, tx] })
    (base : Nat) (e : TypeId) (i : TypeInfo) (size : Nat) (ht : P.underlying t = some (.slice e)) (hi : P.info? e = some i)
    (hsize : i.size = size) (g n cap : Nat) (xs : List Value) (hs : a.eval s = .slice (some ⟨g, 0, none⟩) n cap) (hown : w.ownsRow base e size (.slice (some ⟨g, 0, none⟩) n cap) n xs)
    (y : Value) (m : Nat) (news : List Value) (hx : a.eval x = y) (hsrc : Src P size tx y m news w) (hroom : n + m ≤ cap)
    (h : ∀ w', w'.ownsRow base e size (.slice (some ⟨g, 0, none⟩) (n + m) cap) (n + m) (xs ++ news) → w.grownBy w' (some g) → wpList P ops Q rest (a.put o.dst (.slice (some ⟨g, 0, none⟩) (n + m) cap)) w') : wpList P ops Q (o :: rest) a w :=
  wpList_plain hgd fun K hK => by
    obtain ⟨w', hrun, h2, h3⟩ := run_append_room (P := P) w base t tx o.type e i size ht hi hsize g n cap xs hown y m news hsrc hroom
    unfold Oper.wp execOp
    simp only [ho, resolve, invoke, builtin, Sem.run_bind, Sem.run_pure, Result.andThen_ok, List.map_toArray, List.map_cons, List.map_nil, hs, hx, hrun]
    exact hK _ _ (h w' h2 h3)
end

def endsV (os : List DOp) : List Value := (List.range os.length).map fun k => .int .i64 (sumO (os.take (k + 1)))
theorem endsV_get (os : List DOp) (k : Nat) (h : k < os.length) : (endsV os)[k]? = some (.int .i64 (sumO (os.take (k + 1)))) := by
  simp [endsV, h]
/-- What a cutter holds: the ops, where each ends, and a room of new bytes of the call's own. -/
structure Ctr (w0 w : World) (gc g M : Nat) (E : Option Addr) (ce : Nat) (A : Option Addr) (c : Nat) (ps : List POp) (R : List UInt8) : Prop where
  bel : Below w0.heap.size w0 w
  hc : w0.heap.size ≤ gc
  hg : w0.heap.size ≤ g
  cell : Whole w gc 114 #[.slice A ps.length c, .slice E ps.length ce, .slice (some ⟨g, 0, none⟩) R.length M]
  ends : w.ownsRow w0.heap.size 3 1 (.slice E ps.length ce) ps.length (endsV (opsO ps))
  room : w.ownsRow w0.heap.size 5 1 (.slice (some ⟨g, 0, none⟩) R.length M) R.length (bytesV R)
theorem Below.fr_high {w0 w w' : World} {S : Nat → Prop} (h : Below w0.heap.size w0 w) (f : Fr S w w') (hS : ∀ j, S j → w0.heap.size ≤ j) : Below w0.heap.size w0 w' :=
  (((Fr.of_below (S := fun j => w0.heap.size ≤ j) h)).trans f (fun i hi e => hS i e)).below (fun i hi e => by omega)
section
variable {w0 w w' : World} {gc g M ce c : Nat} {E A : Option Addr} {ps : List POp} {R : List UInt8}
theorem Ctr.fr {S : Nat → Prop} (h : Ctr w0 w gc g M E ce A c ps R) (f : Fr S w w') (hS : ∀ j, S j → w0.heap.size ≤ j) (h1 : ¬ S gc) (h2 : ¬ S g) (h3 : ∀ k, Value.ownBlock (.slice E ps.length ce) = some k → ¬ S k) : Ctr w0 w' gc g M E ce A c ps R :=
  ⟨Below.fr_high h.bel f hS, h.hc, h.hg, h.cell.fr f h1, own_fr h.ends f h3, own_fr h.room f (fun k hk e => h2 (by have : g = k := by simpa [Value.ownBlock] using hk
                                                                                                                   rw [this]; exact e))⟩
theorem Ctr.ne (h : Ctr w0 w gc g M E ce A c ps R) : g ≠ gc ∧ (∀ k, Value.ownBlock (.slice E ps.length ce) = some k → k ≠ gc ∧ k ≠ g) := by
  obtain ⟨cur, hW⟩ := own_whole h.room
  refine ⟨fun e => own_apart h.room h.cell (by decide) (by simp [Value.ownBlock, e]), fun k hk => ⟨fun e => own_apart h.ends h.cell (by decide) (by rw [hk, e]), fun e => own_apart h.ends hW (by decide) (by rw [hk, e])⟩⟩
theorem Ctr.lt (h : Ctr w0 w gc g M E ce A c ps R) : gc < w.heap.size ∧ g < w.heap.size := ⟨h.cell.lt, by obtain ⟨cur, hW⟩ := own_whole h.room; exact hW.lt⟩
end
theorem results_one_cell {P : Program} {fn : Func} {p : Tmp} {ty : TypeId} (h : fn.results = #[.cell p ty]) (tmps : Array Value) (w : World) (g : Nat) (t : TypeId) (cs : Array Value) (d : TypeDesc)
    (hp : tmps.getD p undef = .pointer (some ⟨g, 0, none⟩)) (hg : Whole w g t cs)
    (hu : P.underlying ty = some d) (hd : (match d with | .struct _ | .array _ _ => true | _ => false) = true) (hi : (P.info? ty).map (·.size) = some cs.size) :
    (results fn tmps).run P w = .ok (.agg cs) w := by
  have hp' : tmps[p]?.getD undef = .pointer (some ⟨g, 0, none⟩) := by simpa using hp
  have hg' : w.heap[g]? = some (.cells cs t (0, 0)) := hg
  simp [results, h, hp', asAddr, run_loadVar_row w g t ty cs (0, 0) d hg' hu hd hi]
/-- An op whose bytes, if it has some, lie in the room. -/
def InR (g : Nat) (R : List UInt8) (q : POp) : Prop := (I64 q.o.frm ∧ I64 q.o.n) ∧ ((q.o.b = [] ∧ q.B = none ∧ q.c = 0) ∨ ∃ off, q.B = some ⟨g, off, none⟩ ∧ q.c = q.o.b.length ∧ q.o.b.length ≤ 4000 ∧ off + q.o.b.length ≤ R.length ∧ (R.drop off).take q.o.b.length = q.o.b)
theorem InR.more {g : Nat} {R : List UInt8} {q : POp} (h : InR g R q) (l : List UInt8) : InR g (R ++ l) q := by
  refine ⟨h.1, ?_⟩
  rcases h.2 with h | ⟨off, h1, h2, h3, h4, h5⟩
  · exact .inl h
  · exact .inr ⟨off, h1, h2, h3, by rw [List.length_append]; omega, by rw [List.drop_append_of_le_length (by omega), List.take_append_of_le_length (by rw [List.length_drop]; omega), h5]⟩
theorem InR.ok {w : World} {base g M : Nat} {R : List UInt8} {q : POp} (h : InR g R q) (hr : w.ownsRow base 5 1 (.slice (some ⟨g, 0, none⟩) R.length M) R.length (bytesV R)) : q.Ok w := by
  rcases h with ⟨⟨a1, a2⟩, ⟨h1, h2, h3⟩ | ⟨off, h1, h2, h3, h4, h5⟩⟩
  · exact ⟨a1, a2, by rw [h1]; exact Nat.zero_le _, by omega, .inl (by rw [h1]; rfl)⟩
  · refine ⟨a1, a2, by omega, by omega, .inr ⟨g, off, h1, fun j u hu => ?_⟩⟩
    have hj : j < q.o.b.length := by have := (List.getElem?_eq_some_iff.1 hu).1; rwa [bytesV_length] at this
    have := World.ownsRow.cellAt hr (off + j) (by omega)
    rw [this, ← hu]
    conv => rhs; rw [← h5]
    unfold bytesV
    rw [List.getElem?_map, List.getElem?_map, List.getElem?_take_of_lt hj, List.getElem?_drop]

set_option maxHeartbeats 6400000 in
set_option maxRecDepth 100000 in
theorem Dfresh_any {w0 w : World} {gc g M ce c : Nat} {E A : Option Addr} {ps : List POp} {R : List UInt8} (h : Ctr w0 w gc g M E ce A c ps R) (hM : M ≤ 4000)
    (B : Option Addr) (cp : Nat) (p : List UInt8) (hp : 1 ≤ p.length) (hroom : R.length + p.length ≤ M) (hl : Lies w B (bytesV p)) :
    Calls Try.prog 51 #[.pointer (some ⟨gc, 0, none⟩), .slice B p.length cp] w fun e w' => e = .returned (.agg #[.bool false, .int .i64 0, .int .i64 0, .slice (some ⟨g, R.length, none⟩) p.length p.length]) ∧
      Ctr w0 w' gc g M E ce A c ps (R ++ p) ∧ Fr (fun j => j = g ∨ j = gc) w w' := by
  obtain ⟨K, hK⟩ : ∃ K, R.length = K := ⟨_, rfl⟩
  obtain ⟨L, hL⟩ : ∃ L, p.length = L := ⟨_, rfl⟩
  obtain ⟨n, hn⟩ : ∃ n, ps.length = n := ⟨_, rfl⟩
  obtain ⟨w1, hw1⟩ : ∃ w1, w.alloc (.cells #[.bool false, .int .i64 0, .int .i64 0, .slice none 0 0] 57) = w1 := ⟨_, rfl⟩
  have HF1 := Lib.hid (show Fr (fun _ => False) w w1 by subst hw1; exact (Fr.refl _ _).alloc _)
  have HW1 := Lib.hid (show Whole w1 w.heap.size 57 #[.bool false, .int .i64 0, .int .i64 0, .slice none 0 0] by subst hw1; exact Whole.new _ _ _)
  have HLt := Lib.hid h.lt
  have HE0 := Lib.hid h.ends
  have HNe := Lib.hid h.ne
  have HC1 := Lib.hid (h.fr HF1.out (fun _ e => e.elim) (fun e => e) (fun e => e) (fun _ _ e => e))
  have HSr := Lib.hid ((hl.fr HF1.out (fun _ _ e => e)).srcB hL cp)
  have hcell := HC1.out.cell
  have hro := HC1.out.room
  rw [hK] at hcell hro hroom ⊢
  rw [hL] at hroom hp ⊢
  rw [hn] at hcell
  have HCe := Lib.hid hcell
  have HRo := Lib.hid hro
  obtain ⟨c0, c1, c2⟩ := HCe.out.three
  have z2 := HCe.out.frozen 2
  obtain ⟨i1, ki, kz0, kz1, kz2⟩ := info_parts info_u8
  have HK := Lib.hid hK
  have HL := Lib.hid hL
  have HN := Lib.hid hn
  clear h hl hcell hro hK hL hn
  go_enter Try.func51, Try.ntmps51
  go_upto_region 1 with fail
  clear hw1
  go_upto_region 3 with (first
    | (at_builtin; refine wpList_append_room _ rfl (.tmp 15) (.tmp 16) 26 26 rfl w0.heap.size 5 i1 1 Try.underlying26 ki kz1 g K M _ rfl HRo.out _ L _ rfl HSr.out hroom ?_
       intro w2 o2 g2
       have HO2 := Lib.hid o2
       have HF2 := Lib.hid (show Fr (fun j => j = g) w1 w2 from (Fr.refl _ w1).grown g2 (fun j hj _ => by injection hj with hj; exact hj.symm))
       have HC2 := Lib.hid (HCe.out.fr HF2.out (fun e => HNe.out.1 e.symm))
       obtain ⟨d0, d1, d2⟩ := HC2.out.three
       have y2 := HC2.out.frozen 2
       clear o2 g2))
  obtain ⟨w3, hw3⟩ : ∃ w3, w2.setCell ⟨gc, 2, none⟩ (.slice (some ⟨g, 0, none⟩) (K + L) M) = w3 := ⟨_, rfl⟩
  rw [hw3]
  have HF3 := Lib.hid (show Fr (fun j => j = gc) w2 w3 by subst hw3; exact Fr.setCell (S := fun j => j = gc) (p := ⟨gc, 2, none⟩) (Fr.refl _ w2) (fun _ => rfl) _)
  have HC3 := Lib.hid (show Whole w3 gc 114 #[.slice A n c, .slice E n ce, .slice (some ⟨g, 0, none⟩) (K + L) M] by subst hw3; exact HC2.out.set 2 _)
  have HO3 := Lib.hid (own_fr HO2.out HF3.out (fun k hk e => HNe.out.1 ((show g = k by simpa [Value.ownBlock] using hk).trans e)))
  have HFt := Lib.hid ((HF2.out.mono (T := fun j => j = g ∨ j = gc) (fun _ _ e => .inl e)).trans HF3.out (fun _ _ e => .inr e))
  have HW3 := Lib.hid (HW1.out.fr HFt.out (fun e => by have := HLt.out; omega))
  clear hw3 c0 c1 c2 d0 d1 d2 y2 z2
  obtain ⟨c0, c1, c2⟩ := HC3.out.three
  obtain ⟨x0, x1, x2, x3⟩ := HW3.out.four
  have z0 := HW3.out.frozen 0
  have z1 := HW3.out.frozen 1
  have z2 := HW3.out.frozen 2
  have z3 := HW3.out.frozen 3
  have hK0 : (0 : Int) ≤ K := by omega
  have hM0 : (K : Int) + L ≤ M := by omega
  have hM1 : K + L ≤ M := by omega
  go_big_region
  have hW9 : Whole (((((w3.setCell ⟨w.heap.size, 0, none⟩ (.bool false)).setCell ⟨w.heap.size, 1, none⟩ (.int .i64 0)).setCell ⟨w.heap.size, 2, none⟩ (.int .i64 0)).setCell ⟨w.heap.size, 3, none⟩ (.slice (some ⟨g, K, none⟩) L L)).drew) w.heap.size 57 #[.bool false, .int .i64 0, .int .i64 0, .slice (some ⟨g, K, none⟩) L L] := setOp_whole HW3.out
  have HF9 := Lib.hid (show Fr (fun j => j = w.heap.size) w3 (((((w3.setCell ⟨w.heap.size, 0, none⟩ (.bool false)).setCell ⟨w.heap.size, 1, none⟩ (.int .i64 0)).setCell ⟨w.heap.size, 2, none⟩ (.int .i64 0)).setCell ⟨w.heap.size, 3, none⟩ (.slice (some ⟨g, K, none⟩) L L)).drew) from (setOp_fr w3 w.heap.size _ _ _ _).drew)
  have HW9 := Lib.hid hW9
  clear hW9 c0 c1 c2 x0 x1 x2 x3 z0 z1 z2 z3
  generalize (((((w3.setCell ⟨w.heap.size, 0, none⟩ (.bool false)).setCell ⟨w.heap.size, 1, none⟩ (.int .i64 0)).setCell ⟨w.heap.size, 2, none⟩ (.int .i64 0)).setCell ⟨w.heap.size, 3, none⟩ (.slice (some ⟨g, K, none⟩) L L)).drew) = w9 at HF9 HW9 ⊢
  go_wp2_with fail
  refine bodyPost_ret (v := .agg #[.bool false, .int .i64 0, .int .i64 0, .slice (some ⟨g, K, none⟩) L L]) (results_one_cell (p := 4) rfl _ _ _ _ _ _ rfl HW9.out Try.underlying57 rfl (by kernel_rfl)) rfl ?_
  have hlt := HLt.out
  have hFa : Fr (fun j => j = g ∨ j = gc) w w9 := ((HF1.out.mono (T := fun j => j = g ∨ j = gc) (fun _ _ e => e.elim)).trans HFt.out (fun _ _ e => e)).trans HF9.out (fun i hi e => by omega)
  have hbig : ∀ j, j = w.heap.size → w0.heap.size ≤ j := fun j e => by have := HC1.out.hc; omega
  have hlen : (R ++ p).length = K + L := by rw [List.length_append, HK.out, HL.out]
  refine ⟨rfl, ⟨?_, HC1.out.hc, HC1.out.hg, ?_, ?_, ?_⟩, hFa⟩
  · exact Below.fr_high (Below.fr_high HC1.out.bel HFt.out (fun j e => e.elim (fun e => by rw [e]; exact HC1.out.hg) (fun e => by rw [e]; exact HC1.out.hc))) HF9.out hbig
  · rw [hlen, HN.out]
    exact HC3.out.fr HF9.out (fun e => by omega)
  · exact own_fr (own_fr HC1.out.ends HFt.out (fun k hk e => by have := HNe.out.2 k hk; omega)) HF9.out (fun k hk e => by have := (World.ownsRow.lt HE0.out k hk).2; omega)
  · rw [hlen, bytesV_append]
    exact own_fr HO3.out HF9.out (fun k hk e => absurd ((show g = k by simpa [Value.ownBlock] using hk).trans e) (by omega))
end Go.Proofs.Ythjfkeploofblaa
