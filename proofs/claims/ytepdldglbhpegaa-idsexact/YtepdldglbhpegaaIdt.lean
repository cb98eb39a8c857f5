/-
  What ids.Text and the page's IdText return, for every id.
-/
import Derived.Test.YtepdldglbhpegaaIdp
namespace Go.Proofs.Ytepdldglbhpegaa
open Go.RowKit

/-- Sixteen noughts. -/
def nought16 : Array Value := #[.int .u8 0, .int .u8 0, .int .u8 0, .int .u8 0, .int .u8 0, .int .u8 0, .int .u8 0, .int .u8 0, .int .u8 0, .int .u8 0, .int .u8 0, .int .u8 0, .int .u8 0, .int .u8 0, .int .u8 0, .int .u8 0]

theorem make16 (w : World) : (Instr.makeSlice 37 (.int .i64 16) (.int .i64 16)).run Try.prog w = .ok (.slice (some ⟨w.heap.size, 0, none⟩) 16 16) (w.alloc (.cells nought16 5)) := by kernel_rfl

/-- What the row holds behind k rounds. -/
def tf (n k j : Nat) : Int := if 16 - k ≤ j then (Wh.dn (n / 16 ^ (15 - j) % 16) : Int) else 0

theorem row0 (w : World) (n : Nat) : (w.alloc (.cells nought16 5)).rowIs w.heap.size 5 16 (fun j => .int .u8 (tf n 0 j)) := by
  refine World.rowIs_alloc w nought16 5 (fun j => .int .u8 (tf n 0 j)) (fun i hi => ?_)
  have h16 : nought16.size = 16 := rfl
  have : tf n 0 i = 0 := if_neg (by omega)
  rw [this]
  rw [h16] at hi
  have h0 : nought16 = (List.replicate 16 (.int .u8 0)).toArray := rfl
  rw [h0, List.getElem?_toArray, List.getElem?_replicate, if_pos hi]

theorem shift4 (n k : Nat) : (n : Int) / 2 ^ (4 * k) = ((n / 16 ^ k : Nat) : Int) := by
  rw [Int.pow_mul, show (2 : Int) ^ 4 = ((16 : Nat) : Int) from rfl, ← Int.natCast_pow, Int.natCast_ediv]

theorem low4 (a : Nat) (h : a < 9223372036854775808) : bits BinOp.and IntKind.i64 (a : Int) 15 = ((a % 16 : Nat) : Int) := by
  have hx : a &&& 15 < 2 ^ 64 := Nat.and_lt_two_pow _ (by omega)
  have h15 : a &&& 15 = a % 16 := Nat.and_two_pow_sub_one_eq_mod a 4
  show IntKind.i64.wrap ((BitVec.ofInt 64 (a : Int) &&& BitVec.ofInt 64 ((15 : Nat) : Int)).toNat : Int) = _
  rw [BitVec.toNat_and, ofInt_u64 a (by omega), ofInt_u64 15 (by omega), h15]
  have : a % 16 < 16 := Nat.mod_lt _ (by omega)
  generalize a % 16 = r at *
  rw [IntKind.wrap_i64]
  omega

/-- The digit's sign. -/
theorem sign_at (d : Nat) (hd : d < 16) (w : World) :
    (Instr.index 9 (.string ⟨#[48, 49, 50, 51, 52, 53, 54, 55, 56, 57, 97, 98, 99, 100, 101, 102]⟩) (.int .i64 (d : Int))).run Try.prog w = .ok (.int .u8 (Wh.dn d : Int)) w := by
  rw [idx_str Try.underlying9 ⟨#[48, 49, 50, 51, 52, 53, 54, 55, 56, 57, 97, 98, 99, 100, 101, 102]⟩ d hd w]
  have h : ∀ d, (hd : d < 16) → (([48, 49, 50, 51, 52, 53, 54, 55, 56, 57, 97, 98, 99, 100, 101, 102] : List UInt8)[d]'hd).toNat = Wh.dn d := by decide
  exact congrArg (fun x : Nat => Result.ok (Value.int .u8 (x : Int)) w) (h d hd)

theorem tf_next (n k j : Nat) (hk : k < 16) (hj : j < 16) : tf n (k + 1) j = if j = 15 - k then (Wh.dn (n / 16 ^ k % 16) : Int) else tf n k j := by
  unfold tf
  by_cases h : j = 15 - k
  · subst h
    rw [if_pos (by omega), if_pos rfl, show 15 - (15 - k) = k by omega]
  · rw [if_neg h]
    by_cases h2 : 16 - k ≤ j
    · rw [if_pos (by omega), if_pos h2]
    · rw [if_neg (by omega), if_neg h2]

theorem row_next {w : World} {g n k : Nat} (hk : k < 16) (h : w.rowIs g 5 16 (fun j => .int .u8 (tf n k j))) :
    (w.setCell ⟨g, 15 - k, none⟩ (.int .u8 (Wh.dn (n / 16 ^ k % 16) : Int))).rowIs g 5 16 (fun j => .int .u8 (tf n (k + 1) j)) := by
  refine (h.set (15 - k) _).congr fun j hj => ?_
  rw [tf_next n k j hk hj]
  split <;> rfl

/-- The row is the text. -/
theorem back16 {w : World} {g n : Nat} (h : w.rowIs g 5 16 (fun j => .int .u8 (tf n 16 j))) : (convert 37 9 (.slice (some ⟨g, 0, none⟩) 16 16)).run Try.prog w = .ok (.string ⟨(Wh.txt 16 n).toArray⟩) w := by
  have := run_convert_bytes_back (P := Try.prog) w 37 9 5 ⟨g, 0, none⟩ 16 (Wh.txt 16 n) Try.underlying37 Try.underlying5 Try.underlying9 (by
    intro j hj
    rw [Wh.txt_length] at hj
    rw [Wv.add_none, Nat.zero_add, h.cell hj]
    have h1 := Wh.txt_get 16 n j hj
    rw [List.getElem?_eq_getElem (by rw [Wh.txt_length]; exact hj)] at h1
    rw [Option.some.inj h1, Wh.dc_toNat (Nat.mod_lt _ (by omega))]
    unfold tf
    rw [if_pos (by omega), show 16 - 1 - j = 15 - j by omega])
  rw [Wh.txt_length] at this
  exact this

set_option maxHeartbeats 800000 in
theorem text_in (n : Nat) (w : World) (h1 : 1 ≤ n) (h2 : n ≤ 4611686018427387903) :
    Calls Try.prog 6 #[.int .i64 n] w fun e w' => e = .returned (.tuple #[.string ⟨(Wh.txt 16 n).toArray⟩, .int .i64 0]) ∧ Below w.heap.size w w' := by
  have hc : chk (n : Int) = 0 := chk_ok (idB_iff.2 (by omega))
  have hmk := make16
  have HR := Wv.hid (row0 w n)
  go_enter Try.func6, Try.ntmps6
  go_wp2_with (first | (go_at_call 11; refine (check_any _ _).mono ?_; rintro e w' ⟨rfl, rfl⟩; rw [hc]))
  clear hmk hc
  go_loopw [15] (fun i wr => ∃ k : Nat, k ≤ 16 ∧ i = .int .i64 k ∧ Hid (wr.rowIs w.heap.size 5 16 (fun j => .int .u8 (tf n k j))) ∧ Below w.heap.size w wr) (fun i _ => 16 - (intOf i).toNat)
  case atStart => exact ⟨0, by omega, rfl, HR, (Below.refl _ _).alloc (Nat.le_refl _) _⟩
  case round =>
    obtain ⟨k, hk, rfl, HW, hbr⟩ := hrel
    by_cases hlt : k < 16
    · have hcell := HW.out.cell (i := 15 - k) (by omega)
      have hfz := HW.out.frozen (15 - k)
      have hj : (15 : Int) - (k : Int) = ((15 - k : Nat) : Int) := by omega
      have HN := Wv.hid (row_next hlt HW.out)
      have hb : bits BinOp.and IntKind.i64 ((n : Int) / 2 ^ (4 * k)) 15 = ((n / 16 ^ k % 16 : Nat) : Int) := by
        rw [shift4, low4 _ (Nat.lt_of_le_of_lt (Nat.div_le_self _ _) (by omega))]
      have hd : n / 16 ^ k % 16 < 16 := Nat.mod_lt _ (by omega)
      have hi := fun w => sign_at _ hd w
      generalize tf n k (15 - k) = old at *
      generalize n / 16 ^ k % 16 = d at *
      go_wp2
      go_roundw
      case rel => exact ⟨k + 1, by omega, by go_num, HN, hbr.setCell (Nat.le_refl _) _⟩
      case measure => simp only [intOf]; omega
    · obtain rfl : k = 16 := by omega
      have hcv := back16 HW.out
      go_wp2
      go_ret2
      exact ⟨rfl, hbr⟩

theorem text_out (n : Int) (w : World) (h : idB n = false) :
    Calls Try.prog 6 #[.int .i64 n] w fun e w' => e = .returned (.tuple #[.string ⟨#[]⟩, .int .i64 1]) ∧ w = w' := by
  have hc := chk_no h
  clear h
  go_enter Try.func6, Try.ntmps6
  go_wp2_with (first | (go_at_call 11; refine (check_any _ _).mono ?_; rintro e w' ⟨rfl, rfl⟩; rw [hc]))
  go_ret2
  exact ⟨rfl, rfl⟩

/-- A digit's sign ahead of a text. -/
theorem sign_text (d : Nat) (hd : d < 16) (l : List UInt8) : (ByteArray.mk #[48, 49, 50, 51, 52, 53, 54, 55, 56, 57, 97, 98, 99, 100, 101, 102]).extract d (d + 1) ++ ⟨l.toArray⟩ = ⟨(Wh.dc d :: l).toArray⟩ := by
  have h : ∀ d, d < 16 → ((([48, 49, 50, 51, 52, 53, 54, 55, 56, 57, 97, 98, 99, 100, 101, 102] : List UInt8).drop d).take (d + 1 - d)) = [Wh.dc d] := by decide
  have e := ByteArray.extract_mk [48, 49, 50, 51, 52, 53, 54, 55, 56, 57, 97, 98, 99, 100, 101, 102] d (d + 1)
  rw [h d hd] at e
  rw [e]
  apply ByteArray.ext
  simp

set_option maxHeartbeats 800000 in
/-- The page's IdText. -/
theorem idText_any (n : Nat) (w : World) (h2 : n ≤ 4611686018427387903) :
    Calls Try.prog 13 #[.int .i64 n] w fun e w' => e = .returned (.string ⟨(Wh.txt 16 n).toArray⟩) ∧ w = w' := by
  go_enter Try.func13, Try.ntmps13
  go_wp2
  go_loop [0, 4, 5] (fun x t i => ∃ k : Nat, k ≤ 16 ∧ i = .int .i64 k ∧ x = .int .i64 ((n / 16 ^ k : Nat) : Int) ∧ t = .string ⟨(Wh.txt k n).toArray⟩) (fun _ _ i => 16 - (intOf i).toNat)
  case atStart => exact ⟨0, by omega, rfl, by simp, rfl⟩
  case round =>
    obtain ⟨k, hk, rfl, rfl, rfl⟩ := hrel
    by_cases hlt : k < 16
    · have hd : n / 16 ^ k % 16 < 16 := Nat.mod_lt _ (by omega)
      have hl : (Wh.txt k n).length ≤ 16 := by rw [Wh.txt_length]; exact hk
      have HS := Wv.hid (sign_text _ hd (Wh.txt k n))
      have hb : n / 16 ^ k ≤ 4611686018427387903 := Nat.le_trans (Nat.div_le_self _ _) h2
      have HQ : Hid (n / 16 ^ (k + 1) = n / 16 ^ k / 16) := Wv.hid (by rw [Nat.pow_succ, Nat.div_div_eq_div_mul])
      have HT : Hid (Wh.txt (k + 1) n = Wh.dc (n / 16 ^ k % 16) :: Wh.txt k n) := Wv.hid rfl
      generalize n / 16 ^ k = q at *
      generalize Wh.txt k n = t at *
      go_wp2
      go_round
      case rel => exact ⟨k + 1, by omega, by go_num, by rw [HQ.out]; go_num, by rw [HT.out]; exact congrArg Value.string HS.out⟩
      case measure => simp only [intOf]; omega
    · obtain rfl : k = 16 := by omega
      go_wp2
      go_ret
      exact ⟨rfl, rfl⟩

end Go.Proofs.Ytepdldglbhpegaa
