/-
  What the small functions of package ids, of the page's answer and of Go's library that they call return, for every input.
-/
import Derived.Test.YtepdldglbhpegaaRows
import Derived.Test.YtepdldglbhpegaaHex
import Derived.Test.YtepdldglbhpegaaFrow
import Derived.Laws.Externs
namespace Go.Proofs.Ytepdldglbhpegaa
open Go.RowKit

theorem ret_bool {a b : Bool} (h : a = b) : Ending.returned (.bool a) = .returned (.bool b) := by rw [h]

/-- Is it an id? -/
def idB (n : Int) : Bool := decide (1 ≤ n) && decide (n ≤ 4611686018427387903)

/-- Check's error. -/
def chk (n : Int) : Int := if idB n = true then 0 else 1

theorem chk_ok {n : Int} (h : idB n = true) : chk n = 0 := if_pos h
theorem chk_no {n : Int} (h : idB n = false) : chk n = 1 := if_neg (by rw [h]; decide)
theorem idB_iff {n : Int} : idB n = true ↔ 1 ≤ n ∧ n ≤ 4611686018427387903 := by simp [idB]

theorem check_any (n : Int) (w : World) :
    Calls Try.prog 11 #[.int .i64 n] w fun e w' => e = .returned (.int .i64 (chk n)) ∧ w = w' := by
  have e : chk n = if 1 ≤ n ∧ n ≤ 4611686018427387903 then 0 else 1 := by unfold chk; simp only [idB_iff]
  have E := Wv.hid e
  clear e
  go_enter Try.func11, Try.ntmps11
  go_wp2
  all_goals go_ret
  all_goals refine ⟨?_, rfl⟩
  all_goals rw [E.out]
  all_goals first | (rw [if_neg (by omega)]; rfl) | (rw [if_pos (by omega)]; rfl)

theorem refIn_any (n lo hi : Int) (w : World) :
    Calls Try.prog 16 #[.int .i64 n, .int .i64 lo, .int .i64 hi] w fun e w' => e = .returned (.bool (decide (lo ≤ n) && decide (n ≤ hi))) ∧ w = w' := by
  go_enter Try.func16, Try.ntmps16
  go_wp2
  all_goals go_ret
  · exact ⟨ret_bool (by simp [*]), rfl⟩
  · exact ⟨ret_bool (by symm; rw [Bool.eq_false_iff]; simp; omega), rfl⟩

theorem refId_any (n : Int) (w : World) :
    Calls Try.prog 10 #[.int .i64 n] w fun e w' => e = .returned (.bool (idB n)) ∧ w = w' := by
  go_enter Try.func10, Try.ntmps10
  go_wp2_with (first | (go_at_call 16; refine (refIn_any _ _ _ _).mono ?_; rintro e w' ⟨rfl, rfl⟩))
  go_ret
  exact ⟨rfl, rfl⟩

theorem idx17 (c : Int) (w : World) (h0 : 0 ≤ c) (h1 : c < 256) :
    Calls Try.prog 17 #[.string ⟨#[48, 49, 50, 51, 52, 53, 54, 55, 56, 57, 97, 98, 99, 100, 101, 102]⟩, .int .u8 c] w fun e w' => e = .returned (.int .i64 (Wh.dv c)) ∧ w = w' := by
  go_enter Try.func17, Try.ntmps17
  go_wp2
  rw [run_callFunc_extern Try.func19 (by kernel_rfl) (by kernel_rfl) (by kernel_rfl) (e := Extern.BytealgIndexByte.indexByte) (by kernel_rfl), Lib.run_indexByteString]
  simp only [Result.andThen]
  rw [Oper.upon_value]
  go_wp2
  go_ret
  refine ⟨?_, rfl⟩
  have := Wh.index_digits c.toNat (by omega)
  rw [Int.toNat_of_nonneg h0] at this
  exact congrArg (fun x => Ending.returned (.int .i64 x)) this

theorem idx14 (c : Int) (w : World) (h0 : 0 ≤ c) (h1 : c < 256) :
    Calls Try.prog 14 #[.string ⟨#[48, 49, 50, 51, 52, 53, 54, 55, 56, 57, 97, 98, 99, 100, 101, 102]⟩, .int .u8 c] w fun e w' => e = .returned (.int .i64 (Wh.dv c)) ∧ w = w' := by
  go_enter Try.func14, Try.ntmps14
  go_wp2_with (first | (go_at_call 17; refine (idx17 _ _ h0 h1).mono ?_; rintro e w' ⟨rfl, rfl⟩))
  go_ret
  exact ⟨rfl, rfl⟩

/-- The place of n among the first k of xs is none. -/
theorem not_take {xs : List Int} {k : Nat} {n : Int} (h : k < xs.length) (h1 : n ∉ xs.take k) (h2 : ¬ n = xs.getD k 0) : n ∉ xs.take (k + 1) := by
  rw [List.take_add_one, List.getElem?_eq_getElem h]
  intro hm
  rcases List.mem_append.1 hm with hm | hm
  · exact h1 hm
  · apply h2
    have : n = xs[k] := by simpa using hm
    simp [List.getD, h, this]

theorem getD_mem {xs : List Int} {k : Nat} (h : k < xs.length) : xs.getD k 0 ∈ xs := by
  simp [List.getD, h]

theorem index_pos (b off n cap : Nat) (xs : List Int) (m : Int) (w : World) (hn : n ≤ 17592186044416) (hl : xs.length = n) (hc : ∀ i, i < n → w.cell? ⟨b, off + i, none⟩ = some (.int .i64 (xs.getD i 0))) :
    Calls Try.prog 18 #[.slice (some ⟨b, off, none⟩) n cap, .int .i64 m] w fun e w' => ∃ r : Int, e = .returned (.int .i64 r) ∧ (0 ≤ r ↔ m ∈ xs) ∧ w = w' := by
  have HL := Wv.hid hl
  have HC := Wv.hid hc
  clear hl hc
  go_enter Try.func18, Try.ntmps18
  go_wp2
  go_loop [8] (fun i => ∃ (k : Nat), k ≤ n ∧ i = .int .i64 k ∧ Hid (m ∉ xs.take k)) (fun i => n - (intOf i).toNat)
  case atStart => exact ⟨0, by omega, rfl, Wv.hid (by simp)⟩
  case round =>
    obtain ⟨k, hk, rfl, HM⟩ := hrel
    by_cases hlt : k < n
    · have hcell := HC.out k hlt
      have HT := Wv.hid (not_take (n := m) (by rw [HL.out]; exact hlt) HM.out)
      have HG := Wv.hid (getD_mem (xs := xs) (by rw [HL.out]; exact hlt))
      generalize xs.getD k 0 = x at *
      go_wp2
      · rename_i h1 _
        go_ret
        exact ⟨k, rfl, ⟨fun _ => by rw [beq_iff_eq] at h1; rw [h1]; exact HG.out, fun _ => by omega⟩, rfl⟩
      · rename_i h1
        go_round
        case rel => exact ⟨k + 1, by omega, rfl, Wv.hid (HT.out (by simpa using h1))⟩
        case measure => simp only [intOf]; omega
    · obtain rfl : k = n := by omega
      go_wp2
      go_ret
      refine ⟨-1, rfl, ⟨fun h => by omega, fun h => ?_⟩, rfl⟩
      have := HM.out
      rw [List.take_of_length_le (by rw [HL.out]; omega)] at this
      exact absurd h this

theorem index_empty (a : Option Addr) (cap : Nat) (m : Int) (w : World) :
    Calls Try.prog 18 #[.slice a 0 cap, .int .i64 m] w fun e w' => ∃ r : Int, e = .returned (.int .i64 r) ∧ (0 ≤ r ↔ m ∈ ([] : List Int)) ∧ w = w' := by
  go_enter Try.func18, Try.ntmps18
  go_wp2
  go_loop [8] (fun i => i = .int .i64 0) (fun _ => 0)
  case atStart => rfl
  case round =>
    obtain rfl := hrel
    go_wp2
    go_ret
    exact ⟨-1, rfl, by simp, rfl⟩

theorem index_any (v : Value) (xs : List Int) (m : Int) (w : World) (hv : Wv.Rv (Value.int .i64) 0 w v xs) :
    Calls Try.prog 18 #[v, .int .i64 m] w fun e w' => ∃ r : Int, e = .returned (.int .i64 r) ∧ (0 ≤ r ↔ m ∈ xs) ∧ w = w' := by
  rcases hv.open with ⟨rfl, a, cap, rfl, _⟩ | ⟨b, off, n, cap, rfl, h0, hl, _, _, hn, _, hc⟩
  · exact index_empty a cap m w
  · exact index_pos b off n cap xs m w hn hl hc

theorem contains_any (v : Value) (xs : List Int) (m : Int) (w : World) (hv : Wv.Rv (Value.int .i64) 0 w v xs) :
    Calls Try.prog 15 #[v, .int .i64 m] w fun e w' => e = .returned (.bool (decide (m ∈ xs))) ∧ w = w' := by
  go_enter Try.func15, Try.ntmps15
  go_wp2_with (first | (go_at_call 18; refine (index_any _ xs _ _ hv).mono ?_; rintro e w' ⟨r, rfl, hr, rfl⟩))
  all_goals go_ret
  all_goals exact ⟨ret_bool (by simp [← hr]), rfl⟩

/-- ids.Has, for every slice. -/
theorem has_any (v : Value) (xs : List Int) (m : Int) (w : World) (hv : Wv.Rv (Value.int .i64) 0 w v xs) :
    Calls Try.prog 9 #[v, .int .i64 m] w fun e w' => e = .returned (.bool (decide (m ∈ xs))) ∧ w = w' := by
  go_enter Try.func9, Try.ntmps9
  go_wp2_with (first | (go_at_call 15; refine (contains_any _ xs _ _ hv).mono ?_; rintro e w' ⟨rfl, rfl⟩))
  go_ret
  exact ⟨rfl, rfl⟩

end Go.Proofs.Ytepdldglbhpegaa
