/- What is proved: the Reader's number, U32, U64 and Raw, NewReader and End. Conditions: a reader that the caller holds, or a nil one. -/
import Derived.Test.YticgmfnidhlkjaaNum
import Derived.Deep.RegionWith
namespace Go.Proofs.Yticgmfnidhlkjaa
open Go.RowKit
set_option linter.unusedVariables false

theorem ne_bool (x : Int) : (x = 0 ∧ (x != 0) = false) ∨ (x ≠ 0 ∧ (x != 0) = true) := by
  by_cases h : x = 0
  · exact .inl ⟨h, by rw [h]; rfl⟩
  · exact .inr ⟨h, by simpa using h⟩
def numV (bs : List UInt8) (p : Nat) (er : Int) (size : Nat) : Nat := if hasErr bs.length p er size = 0 then bigV ((bs.drop p).take size) else 0
theorem numV_lt (bs : List UInt8) (p : Nat) (er : Int) (size : Nat) : numV bs p er size < 256 ^ size := by
  unfold numV
  split
  · refine Nat.lt_of_lt_of_le (bigV_lt _) (Nat.pow_le_pow_right (by decide) ?_)
    rw [List.length_take]; omega
  · exact Nat.pow_pos (by decide)

theorem stepAt_back {len p q : Nat} {er : Int} {n : Nat} (hok : hasErr len p er n = 0 → q = p + n) : backAt (hasErr len p er n) q p = stepAt len p er n := by
  unfold backAt stepAt
  by_cases h : hasErr len p er n = 0
  · rw [if_pos h, hok h]
    obtain ⟨h1, h2⟩ := hasErr_zero h
    rw [if_pos ⟨h1, by omega⟩]
  · rw [if_neg h]
    rw [if_neg]
    rintro ⟨h1, h2⟩
    subst h1
    exact h (hasErr_ok (by omega))

set_option maxHeartbeats 1600000 in
theorem Rnumber_any (g : Nat) (v : Value) (bs : List UInt8) (p : Nat) (er : Int) (size : Nat) (w : World) (h : Rd w g v bs p er) (hs : size ≤ 8) :
    Calls Try.prog 44 #[.pointer (some ⟨g, 0, none⟩), .int .i64 size] w (RPost w g v bs (.int .u64 (numV bs p er size)) (stepAt bs.length p er size) (hasErr bs.length p er size)) := by
  have hmf : ∀ (fn : Fn) (first cap : Array Value) (w : World), (Instr.makeFunc fn first cap).run Try.prog w = .ok (.func fn first cap) w := fun _ _ _ _ => rfl
  rcases ne_bool (hasErr bs.length p er size) with ⟨he, heb⟩ | ⟨he, heb⟩
  all_goals
    have HE := Lib.hid he
    clear he
    go_enter_defers Try.func44, Try.ntmps44
    go_wp2_with (first
      | (go_at_call 28; refine (RAt_any g v bs p _ _ h).mono ?_; rintro e w1 ⟨rfl, rfl⟩)
      | (go_at_call 49; refine (takeHi_any g v bs p er size _ h hs).mono ?_; rintro e w2 ⟨q, m, rfl, h2, f2, hok⟩; have HK := Lib.hid hok; clear hok)
      | (go_at_call 24; refine (RErr_any g v bs _ _ _ h2).mono ?_; rintro e w3 ⟨rfl, rfl⟩))
    refine leaves_cons (f := 42) (args := #[.pointer (some ⟨g, 0, none⟩), .int .i64 p]) (by simp) (by simp [go_sem]) ?_
    refine (Rlook_any g v bs _ p _ .returning _ h2 h.le).mono ?_
    rintro e u' w'' ⟨rfl, rfl, h4, f4⟩
    rw [stepAt_back (fun e => (HK.out e).1)] at h4
    refine ⟨_, results_tmp rfl _ _ _, ?_, h4, f2.trans f4⟩
  · have : m = (numV bs p er size : Int) := by unfold numV; rw [if_pos HE.out]; exact (HK.out HE.out).2
    rw [← this]; rfl
  · have : numV bs p er size = 0 := by unfold numV; rw [if_neg HE.out]
    rw [this]; rfl

theorem Rnumber_nil (size : Nat) (w : World) (hs : size ≤ 8) :
    Calls Try.prog 44 #[.pointer none, .int .i64 size] w fun e w' => e = .returned (.int .u64 0) ∧ w = w' := by
  have hmf : ∀ (fn : Fn) (first cap : Array Value) (w : World), (Instr.makeFunc fn first cap).run Try.prog w = .ok (.func fn first cap) w := fun _ _ _ _ => rfl
  go_enter_defers Try.func44, Try.ntmps44
  go_wp2_with (first
    | (go_at_call 28; refine (RAt_nil _).mono ?_; rintro e w1 ⟨rfl, rfl⟩)
    | (go_at_call 49; refine (takeHi_nil size _ hs).mono ?_; rintro e w2 ⟨rfl, rfl⟩)
    | (go_at_call 24; refine (RErr_nil _).mono ?_; rintro e w3 ⟨rfl, rfl⟩))
  refine leaves_cons (f := 42) (args := #[.pointer none, .int .i64 0]) (by simp) (by simp [go_sem]) ?_
  refine (Rlook_nil 0 .returning _).mono ?_
  rintro e u' w'' ⟨rfl, rfl, rfl⟩
  exact ⟨_, results_tmp rfl _ _ _, rfl, rfl⟩

theorem RU32_any (g : Nat) (v : Value) (bs : List UInt8) (p : Nat) (er : Int) (w : World) (h : Rd w g v bs p er) :
    Calls Try.prog 18 #[.pointer (some ⟨g, 0, none⟩)] w (RPost w g v bs (.int .u32 (numV bs p er 4)) (stepAt bs.length p er 4) (hasErr bs.length p er 4)) := by
  have hc : Calls Try.prog 44 #[.pointer (some ⟨g, 0, none⟩), .int .i64 4] w _ := Rnumber_any g v bs p er 4 w h (by omega)
  have HC := Lib.hid hc
  clear hc
  have hb := numV_lt bs p er 4
  have hb1 : (numV bs p er 4 : Int) < 4294967296 := by omega
  clear hb
  go_enter Try.func18, Try.ntmps18
  go_wp2_with (go_at_call 44; refine HC.out.mono ?_; rintro e w2 ⟨rfl, h2, f2⟩)
  go_ret
  exact ⟨rfl, h2, f2⟩
theorem RU64_any (g : Nat) (v : Value) (bs : List UInt8) (p : Nat) (er : Int) (w : World) (h : Rd w g v bs p er) :
    Calls Try.prog 19 #[.pointer (some ⟨g, 0, none⟩)] w (RPost w g v bs (.int .u64 (numV bs p er 8)) (stepAt bs.length p er 8) (hasErr bs.length p er 8)) := by
  have hc : Calls Try.prog 44 #[.pointer (some ⟨g, 0, none⟩), .int .i64 8] w _ := Rnumber_any g v bs p er 8 w h (by omega)
  have HC := Lib.hid hc
  clear hc
  go_enter Try.func19, Try.ntmps19
  go_wp2_with (go_at_call 44; refine HC.out.mono ?_; rintro e w2 ⟨rfl, h2, f2⟩)
  go_ret
  exact ⟨rfl, h2, f2⟩
theorem RU32_nil (w : World) : Calls Try.prog 18 #[.pointer none] w fun e w' => e = .returned (.int .u32 0) ∧ w = w' := by
  have hc : Calls Try.prog 44 #[.pointer none, .int .i64 4] w _ := Rnumber_nil 4 w (by omega)
  have HC := Lib.hid hc
  clear hc
  go_enter Try.func18, Try.ntmps18
  go_wp2_with (go_at_call 44; refine HC.out.mono ?_; rintro e w2 ⟨rfl, rfl⟩)
  go_ret
  exact ⟨rfl, rfl⟩
theorem RU64_nil (w : World) : Calls Try.prog 19 #[.pointer none] w fun e w' => e = .returned (.int .u64 0) ∧ w = w' := by
  have hc : Calls Try.prog 44 #[.pointer none, .int .i64 8] w _ := Rnumber_nil 8 w (by omega)
  have HC := Lib.hid hc
  clear hc
  go_enter Try.func19, Try.ntmps19
  go_wp2_with (go_at_call 44; refine HC.out.mono ?_; rintro e w2 ⟨rfl, rfl⟩)
  go_ret
  exact ⟨rfl, rfl⟩

/-- End. -/
def endErr (len p : Nat) (er : Int) : Int := if er = 0 then (if p < len then 11 else 0) else er
theorem REnd_any (g : Nat) (v : Value) (bs : List UInt8) (p : Nat) (er : Int) (w : World) (h : Rd w g v bs p er) :
    Calls Try.prog 23 #[.pointer (some ⟨g, 0, none⟩)] w (QuietPost w (.int .i64 (endErr bs.length p er))) := by
  have hle := h.le
  by_cases he : er = 0
  · subst he
    by_cases hp : (0 : Int) < (bs.length : Int) - p
    · go_enter Try.func23, Try.ntmps23
      go_wp2_with (first
        | (go_at_call 24; refine (RErr_any g v bs p _ _ h).mono ?_; rintro e w1 ⟨rfl, rfl⟩)
        | (go_at_call 25; refine (RLeft_any g v bs p _ _ h).mono ?_; rintro e w2 ⟨rfl, n, rfl⟩))
      go_ret
      exact ⟨ret_num (by unfold endErr; rw [if_pos rfl, if_pos (by omega)]), n, rfl⟩
    · go_enter Try.func23, Try.ntmps23
      go_wp2_with (first
        | (go_at_call 24; (first | refine (RErr_any g v bs p _ _ h).mono ?_ | refine (RErr_any g v bs p _ _ (h.drewN _)).mono ?_); rintro e w1 ⟨rfl, rfl⟩)
        | (go_at_call 25; refine (RLeft_any g v bs p _ _ h).mono ?_; rintro e w2 ⟨rfl, n, rfl⟩))
      go_ret
      exact ⟨ret_num (by unfold endErr; rw [if_pos rfl, if_neg (by omega)]), n, rfl⟩
  · have he' : (er == 0) = false := by simpa using he
    go_enter Try.func23, Try.ntmps23
    go_wp2_with (go_at_call 24; refine (RErr_any g v bs p _ _ h).mono ?_; rintro e w1 ⟨rfl, rfl⟩)
    go_ret
    exact ⟨ret_num (by unfold endErr; rw [if_neg he]), 0, rfl⟩
theorem REnd_nil (w : World) : Calls Try.prog 23 #[.pointer none] w fun e w' => e = .returned (.int .i64 1) ∧ w = w' := by
  go_enter Try.func23, Try.ntmps23
  go_wp2_with (first
    | (go_at_call 24; refine (RErr_nil _).mono ?_; rintro e w1 ⟨rfl, rfl⟩)
    | (go_at_call 25; refine (RLeft_nil _).mono ?_; rintro e w2 ⟨rfl, rfl⟩))
  go_ret
  exact ⟨rfl, rfl⟩

def NewRPost (w : World) (bs : List UInt8) (e : Ending) (w' : World) : Prop :=
  ∃ g v, e = .returned (.pointer (some ⟨g, 0, none⟩)) ∧ w.heap.size ≤ g ∧ (∀ k, v.ownBlock = some k → w.heap.size ≤ k) ∧ Rd w' g v bs 0 0 ∧ Below w.heap.size w w'
theorem NewReader_any (A : Option Addr) (c : Nat) (bs : List UInt8) (w : World) (h : Lies w A (bytesV bs)) (hb : bs.length ≤ 140737488355328) :
    Calls Try.prog 15 #[.slice A bs.length c] w (NewRPost w bs) := by
  have H := Lib.hid h
  clear h
  go_enter Try.func15, Try.ntmps15
  go_wp2_with (go_at_call 36; refine (own_any A c bs _ H.out hb).mono ?_; rintro e w1 ⟨v, rfl, h1, b1⟩; obtain ⟨A1, c1, hv, -, -⟩ := own_slice h1; subst hv)
  go_ret
  refine ⟨w1.heap.size, _, rfl, b1.size, fun k hk => (World.ownsRow.lt h1 k hk).1, ⟨Whole.new _ _ _, own_base (h1.alloc _), Nat.zero_le _, hb⟩, b1.alloc b1.size _⟩
end Go.Proofs.Yticgmfnidhlkjaa
