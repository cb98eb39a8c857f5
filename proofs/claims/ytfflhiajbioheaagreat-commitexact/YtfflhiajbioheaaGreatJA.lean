/-
  Plain mathematics of numbers in bytes, least byte first; it speaks of no program. No conditions beyond those that each theorem names.
  What the small tests of package le and of the page's answer return, for every input.
  What it says that a slice of bytes holds a list of numbers, and that it goes on holding it where nothing old has turned. It speaks of no program.
  le.Get, for every input.
  le.Put, for every input.
  What only reads bytes: le.Zeros, the page's Zeros, keep.Bytes, the page's Number, for every input.
  The page's Zeros, Number and Bytes and keep.Twin, for every input.
  keep.Twin for every input; the statements' own wakes returns true.
  Parts of slices of bytes; memory of the call's own that holds bytes, and append to it; keep.Twin answers such memory. No conditions beyond those that each theorem names.
  Plain mathematics of the sum CRC-32C over lists of bytes; it speaks of no program. No conditions beyond those that each theorem names.
  crc.More, crc.Sum, and the page's, for every input.
  The page's Get4 and Good for every input; the statements' own wakes returns true.
-/
import Derived.Test.YtfflhiajbioheaaGreatRows
import Derived.WalkKit
import Derived.WalkSpells
import Derived.WalkLawsBesides
import Derived.Deep.OwnRows
import Derived.OpenShut
import Derived.Laws.BitsAllLaws
import Derived.Laws.CopyOwn
import Derived.Deep.QuietTactic
import Derived.BigQuiet
import Derived.Laws.IdiomStrings
import Derived.Lib.SlBytesConst
namespace Wc

def rsB (s : Int) : Bool := s == 1 || s == 2 || s == 4 || s == 8
def fitB (n s : Int) : Bool := decide (0 ≤ n) && decide (n ≤ 4611686018427387903) && (s == 8 || decide (n < (256 : Int) ^ s.toNat))
def inB (len : Nat) (p s : Int) : Bool := decide (0 ≤ p) && decide (p + s ≤ (len : Int))

theorem rsB_cases {s : Int} (h : rsB s = true) : s = 1 ∨ s = 2 ∨ s = 4 ∨ s = 8 := by
  simp [rsB] at h; omega
theorem rsB_no {s : Int} (h : rsB s = false) : ¬ s = 1 ∧ ¬ s = 2 ∧ ¬ s = 4 ∧ ¬ s = 8 := by
  simp [rsB] at h; omega
theorem fitB_iff {n s : Int} (hs : rsB s = true) : fitB n s = true ↔ 0 ≤ n ∧ n ≤ 4611686018427387903 ∧ n < (256 : Int) ^ s.toNat := by
  rcases rsB_cases hs with rfl | rfl | rfl | rfl <;> simp [fitB] <;> omega
theorem inB_iff {len : Nat} {p s : Int} : inB len p s = true ↔ 0 ≤ p ∧ p + s ≤ (len : Int) := by simp [inB]

/-- The number that bytes tell, the least one first. -/
def val : List Int → Int
  | [] => 0
  | x :: xs => x + 256 * val xs

/-- The bytes of a number, the least one first. -/
def enc : Nat → Int → List Int
  | 0, _ => []
  | s + 1, n => n % 256 :: enc s (n / 256)

theorem val_snoc (l : List Int) (x : Int) : val (l ++ [x]) = val l + x * 256 ^ l.length := by
  induction l with
  | nil => simp [val]
  | cons a l ih => simp only [List.cons_append, val, ih, List.length_cons]; rw [Int.pow_succ, Int.mul_add, ← Int.add_assoc, Int.mul_comm x (256 ^ l.length * 256), Int.mul_comm (256 ^ l.length) 256, Int.mul_assoc 256, Int.mul_comm x]

theorem val_bd (l : List Int) (h : ∀ x ∈ l, 0 ≤ x ∧ x < 256) : 0 ≤ val l ∧ val l < 256 ^ l.length := by
  induction l with
  | nil => simp [val]
  | cons a l ih =>
    have h1 := h a (by simp)
    have h2 := ih (fun x hx => h x (by simp [hx]))
    simp only [val, List.length_cons, Int.pow_succ]
    omega

theorem enc_length (s : Nat) (n : Int) : (enc s n).length = s := by
  induction s generalizing n with
  | zero => rfl
  | succ s ih => simp [enc, ih]

theorem enc_bd (s : Nat) (n : Int) : ∀ x ∈ enc s n, 0 ≤ x ∧ x < 256 := by
  induction s generalizing n with
  | zero => simp [enc]
  | succ s ih =>
    intro x hx
    simp only [enc, List.mem_cons] at hx
    rcases hx with rfl | hx
    · omega
    · exact ih _ x hx

theorem val_enc (s : Nat) (n : Int) (h0 : 0 ≤ n) (h1 : n < 256 ^ s) : val (enc s n) = n := by
  induction s generalizing n with
  | zero => simp [enc, val] at *; omega
  | succ s ih =>
    rw [Int.pow_succ] at h1
    simp only [enc, val]
    rw [ih (n / 256) (by omega) (by omega)]
    omega

theorem enc_val (l : List Int) (h : ∀ x ∈ l, 0 ≤ x ∧ x < 256) : enc l.length (val l) = l := by
  induction l with
  | nil => rfl
  | cons a l ih =>
    have h1 := h a (by simp)
    simp only [enc, val, List.length_cons]
    rw [show (a + 256 * val l) / 256 = val l by omega, show (a + 256 * val l) % 256 = a by omega, ih (fun x hx => h x (by simp [hx]))]

theorem enc_getD (s : Nat) (n : Int) (i : Nat) (hi : i < s) : (enc s n).getD i 0 = n / 256 ^ i % 256 := by
  induction s generalizing n i with
  | zero => omega
  | succ s ih =>
    cases i with
    | zero => simp [enc]
    | succ i =>
      have := ih (n / 256) i (by omega)
      simp only [enc, List.getD_cons_succ, this, Int.pow_succ]
      rw [Int.ediv_ediv_of_nonneg (by omega), Int.mul_comm]

theorem val_drop (l : List Int) (k : Nat) (h : k < l.length) : val (l.drop k) = l.getD k 0 + 256 * val (l.drop (k + 1)) := by
  rw [List.drop_eq_getElem_cons h]
  simp [val, List.getD, h]

theorem val_nonneg (l : List Int) (h : ∀ x ∈ l, 0 ≤ x ∧ x < 256) : 0 ≤ val l := (val_bd l h).1

theorem val_drop_le (l : List Int) (h : ∀ x ∈ l, 0 ≤ x ∧ x < 256) (k : Nat) : val (l.drop k) ≤ val l := by
  induction k generalizing l with
  | zero => simp
  | succ k ih =>
    cases l with
    | nil => simp
    | cons a l =>
      have h1 := h a (by simp)
      have h2 := ih l (fun x hx => h x (by simp [hx]))
      have h3 := val_nonneg l (fun x hx => h x (by simp [hx]))
      simp only [List.drop_succ_cons, val]
      omega

theorem enc_snoc (k : Nat) (m : Int) : enc (k + 1) m = enc k m ++ [m / 256 ^ k % 256] := by
  induction k generalizing m with
  | zero => simp [enc]
  | succ k ih =>
    rw [enc, ih (m / 256), Int.ediv_ediv_of_nonneg (by omega)]
    simp only [enc, List.cons_append, Int.pow_succ]
    rw [Int.mul_comm]

/-- What Put answers. -/
def putL (xs : List Int) (p s : Nat) (n : Int) : List Int := xs.take p ++ (enc s n ++ xs.drop (p + s))

theorem putL_length (xs : List Int) (p s : Nat) (n : Int) (h : p + s ≤ xs.length) : (putL xs p s n).length = xs.length := by
  simp [putL, enc_length]; omega

theorem putL_bd (xs : List Int) (p s : Nat) (n : Int) (h : ∀ x ∈ xs, 0 ≤ x ∧ x < 256) : ∀ x ∈ putL xs p s n, 0 ≤ x ∧ x < 256 := by
  intro x hx
  simp only [putL, List.mem_append] at hx
  rcases hx with hx | hx | hx
  · exact h x (List.mem_of_mem_take hx)
  · exact enc_bd _ _ x hx
  · exact h x (List.mem_of_mem_drop hx)

theorem putL_mid (xs : List Int) (p s : Nat) (n : Int) (h : p + s ≤ xs.length) : ((putL xs p s n).drop p).take s = enc s n := by
  have e : (xs.take p).length = p := by simp; omega
  unfold putL
  rw [List.drop_append_of_le_length (by omega)]
  rw [show (xs.take p).drop p = [] from by apply List.drop_eq_nil_of_le; omega, List.nil_append, List.take_append_of_le_length (by rw [enc_length]; omega), List.take_of_length_le (by rw [enc_length]; omega)]

theorem putL_getD (xs : List Int) (p s : Nat) (n : Int) (h : p + s ≤ xs.length) (i : Nat) :
    (putL xs p s n).getD i 0 = if i < p then xs.getD i 0 else if i < p + s then n / 256 ^ (i - p) % 256 else xs.getD i 0 := by
  have e : (xs.take p).length = p := by simp; omega
  have e2 := enc_length s n
  unfold putL
  simp only [List.getD_eq_getElem?_getD]
  by_cases h1 : i < p
  · rw [if_pos h1, List.getElem?_append_left (by omega)]
    simp [h1]
  · rw [if_neg h1, List.getElem?_append_right (by omega), e]
    by_cases h2 : i < p + s
    · rw [if_pos h2, List.getElem?_append_left (by omega), ← List.getD_eq_getElem?_getD, enc_getD _ _ _ (by omega)]
    · rw [if_neg h2, List.getElem?_append_right (by omega), e2]
      simp only [List.getElem?_drop]
      rw [show p + s + (i - p - s) = i by omega]

theorem putL_back (xs : List Int) (p s : Nat) (h : p + s ≤ xs.length) (hx : ∀ x ∈ xs, 0 ≤ x ∧ x < 256) : putL xs p s (val ((xs.drop p).take s)) = xs := by
  have e : ((xs.drop p).take s).length = s := by simp; omega
  have := enc_val ((xs.drop p).take s) (fun x h' => hx x (List.mem_of_mem_drop (List.mem_of_mem_take h')))
  rw [e] at this
  unfold putL
  rw [this, ← List.drop_drop, List.take_append_drop, List.take_append_drop]

/-- What Get tells: the number and the error. -/
def getR (xs : List Int) (p s : Int) : Int × Int :=
  if rsB s = false then (0, 1) else if inB xs.length p s = false then (0, 3) else
  if val ((xs.drop p.toNat).take s.toNat) ≤ 4611686018427387903 then (val ((xs.drop p.toNat).take s.toNat), 0) else (0, 1)

/-- What Put tells: the bytes and the error. -/
def putR (xs : List Int) (p s n : Int) : List Int × Int :=
  if rsB s = false then ([], 1) else if fitB n s = false then ([], 1) else if inB xs.length p s = false then ([], 3) else
  (putL xs p.toNat s.toNat n, 0)

/-- What Zeros tells. -/
def zerosB (xs : List Int) (lo hi : Int) : Bool := decide (∀ j, j < xs.length → lo ≤ (j : Int) → (j : Int) < hi → xs.getD j 0 = 0)

theorem zerosB_true {xs : List Int} {lo hi : Int} (h : ∀ j : Nat, j < xs.length → lo ≤ (j : Int) → (j : Int) < hi → xs.getD j 0 = 0) : zerosB xs lo hi = true := by
  unfold zerosB; exact decide_eq_true h
theorem zerosB_false {xs : List Int} {lo hi : Int} (j : Nat) (h1 : j < xs.length) (h2 : lo ≤ (j : Int)) (h3 : (j : Int) < hi) (h4 : ¬ xs.getD j 0 = 0) : zerosB xs lo hi = false := by
  unfold zerosB; exact decide_eq_false (fun h => h4 (h j h1 h2 h3))

theorem list_ne {xs ys : List Int} (k : Nat) (h : ¬ xs.getD k 0 = ys.getD k 0) : (xs == ys) = false := by
  rw [beq_eq_false_iff_ne]; rintro rfl; exact h rfl
theorem list_eq {xs ys : List Int} (hl : xs.length = ys.length) (h : ∀ j, j < xs.length → xs.getD j 0 = ys.getD j 0) : (xs == ys) = true := by
  rw [beq_iff_eq]
  refine List.ext_getElem hl fun i h1 h2 => ?_
  have := h i h1
  simpa [List.getD, h1, h2] using this
theorem list_ne_len {xs ys : List Int} (hl : xs.length ≠ ys.length) : (xs == ys) = false := by
  rw [beq_eq_false_iff_ne]; rintro rfl; exact hl rfl

end Wc
namespace Go.Proofs.YtfflhiajbioheaaGreat
open Go.RowKit

theorem ret_bool {a b : Bool} (h : a = b) : Ending.returned (.bool a) = .returned (.bool b) := by rw [h]

set_option maxHeartbeats 400000 in
theorem rightSize_any (s : Int) (w : World) :
    Calls Tryz.prog 78 #[.int .i64 s] w fun e w' => e = .returned (.bool (Wc.rsB s)) ∧ w = w' := by
  go_enter Tryz.func78, Tryz.ntmps78
  go_wp2
  all_goals go_ret
  all_goals exact ⟨ret_bool (by simp [Wc.rsB, *]), rfl⟩

set_option maxHeartbeats 400000 in
theorem inside_any (a : Option Addr) (n cap : Nat) (p s : Int) (w : World) (hn : n ≤ 140737488355328) (hs : 0 ≤ s) (hs2 : s ≤ 8) :
    Calls Tryz.prog 80 #[.slice a n cap, .int .i64 p, .int .i64 s] w fun e w' => e = .returned (.bool (Wc.inB n p s)) ∧ w = w' := by
  go_enter Tryz.func80, Tryz.ntmps80
  go_wp2
  all_goals go_ret
  · exact ⟨ret_bool (by rw [Bool.eq_iff_iff]; simp [Wc.inB]; omega), rfl⟩
  · exact ⟨ret_bool (by symm; rw [Bool.eq_false_iff]; simp [Wc.inB]; omega), rfl⟩

set_option maxHeartbeats 400000 in
theorem refIn_any (n lo hi : Int) (w : World) :
    Calls Tryz.prog 36 #[.int .i64 n, .int .i64 lo, .int .i64 hi] w fun e w' => e = .returned (.bool (decide (lo ≤ n) && decide (n ≤ hi))) ∧ w = w' := by
  go_enter Tryz.func36, Tryz.ntmps36
  go_wp2
  all_goals go_ret
  · exact ⟨ret_bool (by simp [*]), rfl⟩
  · exact ⟨ret_bool (by symm; rw [Bool.eq_false_iff]; simp; omega), rfl⟩

set_option maxHeartbeats 400000 in
theorem fits_any (n s : Int) (w : World) (hs : Wc.rsB s = true) :
    Calls Tryz.prog 79 #[.int .i64 n, .int .i64 s] w fun e w' => e = .returned (.bool (Wc.fitB n s)) ∧ w = w' := by
  rcases Wc.rsB_cases hs with rfl | rfl | rfl | rfl
  all_goals
    clear hs
    go_enter Tryz.func79, Tryz.ntmps79
    go_wp2
    all_goals go_ret
    all_goals (refine ⟨ret_bool ?_, rfl⟩; rw [Bool.eq_iff_iff]; simp [Wc.fitB]; try omega)

end Go.Proofs.YtfflhiajbioheaaGreat
namespace Wc
open Go Go.RowKit

/-- The slice value v holds the bytes xs in the world w. -/
def Bs (w : World) (v : Value) (xs : List Int) : Prop :=
  ∃ a n cap, v = .slice a n cap ∧ xs.length = n ∧ n ≤ cap ∧ cap ≤ 9223372036854775807 ∧ n ≤ 140737488355328 ∧ (∀ x ∈ xs, 0 ≤ x ∧ x < 256) ∧
    (0 < n → ∃ b off, a = some ⟨b, off, none⟩ ∧ b < w.heap.size ∧ ∀ i, i < n → w.cell? ⟨b, off + i, none⟩ = some (.int .u8 (xs.getD i 0)))

theorem Bs.keep {w w' : World} {v : Value} {xs : List Int} (h : Bs w v xs) (hb : Below w.heap.size w w') : Bs w' v xs := by
  obtain ⟨a, n, cap, h1, h2, h3, h4, h5, h6, h7⟩ := h
  refine ⟨a, n, cap, h1, h2, h3, h4, h5, h6, fun hn => ?_⟩
  obtain ⟨b, off, ha, hlt, hc⟩ := h7 hn
  exact ⟨b, off, ha, Nat.lt_of_lt_of_le hlt hb.size, fun i hi => (hb.cell (p := ⟨b, off + i, none⟩) hlt).trans (hc i hi)⟩

theorem Bs.nil (w : World) : Bs w (.slice none 0 0) [] := ⟨none, 0, 0, rfl, rfl, Nat.le_refl _, by omega, by omega, by simp, by omega⟩

/-- Either nothing is held, or the first cell is known. -/
theorem Bs.open {w : World} {v : Value} {xs : List Int} (h : Bs w v xs) :
    (xs = [] ∧ ∃ a cap, v = .slice a 0 cap ∧ cap ≤ 9223372036854775807) ∨
    ∃ b off n cap, v = .slice (some ⟨b, off, none⟩) n cap ∧ 0 < n ∧ xs.length = n ∧ n ≤ cap ∧ cap ≤ 9223372036854775807 ∧ n ≤ 140737488355328 ∧ (∀ x ∈ xs, 0 ≤ x ∧ x < 256) ∧ b < w.heap.size ∧
      ∀ i, i < n → w.cell? ⟨b, off + i, none⟩ = some (.int .u8 (xs.getD i 0)) := by
  obtain ⟨a, n, cap, h1, h2, h3, h4, h5, h6, h7⟩ := h
  rcases Nat.eq_zero_or_pos n with h0 | h0
  · subst h0
    exact .inl ⟨List.eq_nil_of_length_eq_zero h2, a, cap, h1, h4⟩
  · obtain ⟨b, off, ha, hlt, hc⟩ := h7 h0
    subst ha
    exact .inr ⟨b, off, n, cap, h1, h0, h2, h3, h4, h5, h6, hlt, hc⟩

theorem hid {p : Prop} (h : p) : Hid p := h

theorem add_none (g o j : Nat) : (⟨g, o, none⟩ : Addr).add j = ⟨g, o + j, none⟩ := by
  unfold Addr.add; split <;> simp_all

/-- A row of the call's own holds bytes. -/
theorem Bs.own {w : World} {base e : Nat} {v : Value} {n : Nat} {xs : List Int} (h : w.ownsRow base e 1 v n (xs.map (Value.int .u8))) (hn : n ≤ 140737488355328) (hx : ∀ x ∈ xs, 0 ≤ x ∧ x < 256) : Bs w v xs := by
  have hl : xs.length = n := by have := h.1; simpa using this
  rcases h.2 with ⟨rfl, h0⟩ | ⟨g, cap, cur, rfl, hg, hh, h1, h2, h3, h4⟩
  · subst h0
    obtain rfl := List.eq_nil_of_length_eq_zero hl
    exact Bs.nil w
  · refine ⟨_, n, cap, rfl, hl, h1, by unfold maxLen at h2; omega, hn, hx, fun h0 => ⟨g, 0, rfl, (Array.getElem?_eq_some_iff.1 hh).1, fun i hi => ?_⟩⟩
    have := h.cells (g := g) rfl i (.int .u8 (xs.getD i 0)) (by simp [hl, hi])
    rw [add_none] at this
    simpa using this

/-- New cells hold bytes. -/
theorem Bs.lit (w : World) (cs : Array Value) (e n : Nat) (xs : List Int) (hn : xs.length = n) (hm : n ≤ 140737488355328) (hc : cs.toList = xs.map (Value.int .u8)) (hx : ∀ x ∈ xs, 0 ≤ x ∧ x < 256) :
    Bs (w.alloc (.cells cs e)) (.slice (some ⟨w.heap.size, 0, none⟩) n n) xs := by
  refine ⟨_, n, n, rfl, hn, Nat.le_refl _, by omega, hm, hx, fun _ => ⟨w.heap.size, 0, rfl, by simp, fun i hi => ?_⟩⟩
  have hsz : cs.size = n := by rw [← Array.length_toList, hc]; simpa using hn
  have hr := World.rowIs_alloc w cs e (fun i => .int .u8 (xs.getD i 0)) (fun i hi => by
    rw [← Array.getElem?_toList, hc]; simp [hn, ← hsz, hi])
  rw [Nat.zero_add]
  exact hr.cell (by omega)

theorem Bs.litAt (w : World) (cs : Array Value) (e n g : Nat) (hg : g = w.heap.size) (xs : List Int) (hn : xs.length = n) (hm : n ≤ 140737488355328) (hc : cs.toList = xs.map (Value.int .u8)) (hx : ∀ x ∈ xs, 0 ≤ x ∧ x < 256) :
    Bs (w.alloc (.cells cs e)) (.slice (some ⟨g, 0, none⟩) n n) xs := by
  subst hg; exact Bs.lit w cs e n xs hn hm hc hx

/-- A row that is known cell by cell holds bytes. -/
theorem Bs.row {w : World} {g e n : Nat} {xs : List Int} (hl : xs.length = n) (hn : n ≤ 140737488355328) (hx : ∀ x ∈ xs, 0 ≤ x ∧ x < 256) (h : w.rowIs g e n (fun j => .int .u8 (xs.getD j 0))) :
    Bs w (.slice (some ⟨g, 0, none⟩) n n) xs := by
  refine ⟨_, n, n, rfl, hl, Nat.le_refl _, by omega, hn, hx, fun _ => ⟨g, 0, rfl, h.lt, fun i hi => ?_⟩⟩
  rw [Nat.zero_add]; exact h.cell hi

/-- A new block turns nothing. -/
theorem Bs.alloc {w : World} {v : Value} {xs : List Int} (h : Bs w v xs) (o : Obj) : Bs (w.alloc o) v xs := h.keep ((Below.refl _ _).alloc (Nat.le_refl _) o)

/-- A call behind what has been done so far. -/
theorem step {B : Nat} {a b c : World} (h : Below B a b) (hB : B ≤ a.heap.size) (k : Below b.heap.size b c) : Below B a c :=
  h.trans (k.mono (Nat.le_trans hB h.size))

theorem cell_lt {w : World} {b o : Nat} {u : Value} (h : w.cell? ⟨b, o, none⟩ = some u) : b < w.heap.size := by
  rcases Nat.lt_or_ge b w.heap.size with h1 | h1
  · exact h1
  · have : w.heap[b]? = none := Array.getElem?_eq_none h1
    simp [World.cell?, this] at h

theorem byte_wf {x : Int} (h : (Lit.int .u8 x).wf = true) : 0 ≤ x ∧ x < 256 := by
  have := bounds_u8 h
  omega

/-- A slice of bytes that came in. -/
theorem Bs.of_row {w : World} {a : Option Addr} {len cap : Nat} {zs : List Int} (hlen : len ≤ 140737488355328)
    (h : (a = none ∧ len = 0 ∧ cap = 0 ∧ zs = []) ∨
      ∃ x, a = some x ∧ len ≤ cap ∧ cap ≤ maxLen ∧ zs.length = cap ∧ (∀ i, i < zs.length → w.cell? (x.add i) = some (.int .u8 (zs.getD i 0))) ∧ ∀ n ∈ zs, (Lit.int .u8 n).wf = true) :
    Bs w (.slice a len cap) (zs.take len) := by
  rcases h with ⟨rfl, rfl, rfl, rfl⟩ | ⟨x, rfl, h1, h2, h3, h4, h5⟩
  · exact Bs.nil w
  · refine ⟨_, len, cap, rfl, by simp; omega, h1, by unfold maxLen at h2; omega, hlen, fun y hy => byte_wf (h5 y (List.mem_of_mem_take hy)), fun h0 => ?_⟩
    obtain ⟨b, off, rfl, hc⟩ := ints_at h4 (by omega)
    refine ⟨b, off, rfl, cell_lt (hc 0 (by omega)), fun i hi => ?_⟩
    rw [hc i (by omega)]
    simp [hi]

theorem pow256 (k : Nat) : (256 : Int) ^ k = ((256 ^ k : Nat) : Int) := by rw [Int.natCast_pow]; rfl

/-- A byte laid on top of a smaller number. -/
theorem or_shift (m z : Int) (k : Nat) (hk : k < 8) (h0 : 0 ≤ m) (h1 : m < 256 ^ k) (h2 : 0 ≤ z) (h3 : z < 256) :
    bits BinOp.or IntKind.u64 m (IntKind.u64.wrap (IntKind.u64.wrap z * 2 ^ (8 * k))) = m + z * 256 ^ k := by
  obtain ⟨a, rfl⟩ := Int.eq_ofNat_of_zero_le h0
  obtain ⟨b, rfl⟩ := Int.eq_ofNat_of_zero_le h2
  have e : (2 : Int) ^ (8 * k) = 256 ^ k := by rw [Int.pow_mul]; rfl
  have hp : (256 : Nat) ^ k ≤ 256 ^ 7 := Nat.pow_le_pow_right (by omega) (by omega)
  have hb : b * 256 ^ k < 256 * 256 ^ 7 := by
    have : b * 256 ^ k ≤ b * 256 ^ 7 := Nat.mul_le_mul_left b hp
    have : b * 256 ^ 7 < 256 * 256 ^ 7 := by omega
    omega
  rw [pow256] at h1
  have ha : a < 256 ^ k := by omega
  rw [e, pow256, IntKind.wrap_u64, IntKind.wrap_u64, Int.emod_eq_of_lt h2 (by omega), ← Int.natCast_mul, Int.emod_eq_of_lt (by omega) (by omega), u64_or_nat a (b * 256 ^ k) (by omega) (by omega)]
  have h4 : a ||| b * 256 ^ k = b * 256 ^ k + a := by
    rw [show (256 : Nat) ^ k = 2 ^ (8 * k) by rw [Nat.pow_mul]] at *
    rw [Nat.or_comm, ← Nat.shiftLeft_eq, Nat.shiftLeft_add_eq_or_of_lt ha]
  rw [h4, Int.natCast_add, Int.add_comm]

end Wc
namespace Go.Proofs.YtfflhiajbioheaaGreat
open Go.RowKit

theorem ret_two {a b c d : Value} (h : a = c) (k : b = d) : Ending.returned (.tuple #[a, b]) = .returned (.tuple #[c, d]) := by rw [h, k]

theorem take_more (xs : List Int) (q k : Nat) (h : q + k < xs.length) : (xs.drop q).take (k + 1) = (xs.drop q).take k ++ [xs.getD (q + k) 0] := by
  rw [List.take_succ_eq_append_getElem (by simp; omega)]
  simp [List.getElem_drop, List.getD, h]

set_option maxHeartbeats 400000 in
theorem get_in (b off n cap : Nat) (xs : List Int) (p s : Int) (w : World) (hs : Wc.rsB s = true) (hp : Wc.inB n p s = true) (hn : n ≤ 140737488355328) (hl : xs.length = n) (hx : ∀ x ∈ xs, 0 ≤ x ∧ x < 256)
   (hc : ∀ i, i < n → w.cell? ⟨b, off + i, none⟩ = some (.int .u8 (xs.getD i 0))) :
    Calls Tryz.prog 101 #[.slice (some ⟨b, off, none⟩) n cap, .int .i64 p, .int .i64 s] w fun e w' => e = .returned (.tuple #[.int .i64 (Wc.getR xs p s).1, .int .i64 (Wc.getR xs p s).2]) ∧ w = w' := by
  obtain ⟨p1, p2⟩ := Wc.inB_iff.1 hp
  obtain ⟨q, rfl⟩ := Int.eq_ofNat_of_zero_le p1
  have hs1 : 1 ≤ s ∧ s ≤ 8 := by rcases Wc.rsB_cases hs with h | h | h | h <;> omega
  obtain ⟨t, rfl⟩ := Int.eq_ofNat_of_zero_le (show 0 ≤ s by omega)
  have HR : Hid (Wc.getR xs (q : Int) (t : Int) = if Wc.val ((xs.drop q).take t) ≤ 4611686018427387903 then (Wc.val ((xs.drop q).take t), 0) else (0, 1)) := by
    show _ = _
    unfold Wc.getR
    rw [hl, hs, hp]; simp
  have HL : Hid (xs.length = n) := hl
  clear hl
  go_enter Tryz.func101, Tryz.ntmps101
  go_wp2_with (first | (go_at_call 78; refine (rightSize_any _ _).mono ?_; rintro e w' ⟨rfl, rfl⟩) | (go_at_call 80; refine (inside_any _ _ _ _ _ _ hn (by omega) (by omega)).mono ?_; rintro e w' ⟨rfl, rfl⟩))
  go_loop [8, 19] (fun v i => ∃ (k : Nat) (m : Int), k ≤ t ∧ i = .int .i64 k ∧ v = .int .u64 m ∧ 0 ≤ m ∧ m < 256 ^ k ∧ Hid (m = Wc.val ((xs.drop q).take k))) (fun _ i => t - (intOf i).toNat)
  case atStart => exact ⟨0, 0, by omega, rfl, rfl, by omega, by simp, by show _ = _; simp [Wc.val]⟩
  case round =>
    obtain ⟨k, m, hk, rfl, rfl, hm0, hm1, HM⟩ := hrel
    by_cases hlt : k < t
    · have hcell := hc (q + k) (by omega)
      have hz := hx (xs.getD (q + k) 0) (by have := HL.out; rw [List.getD_eq_getElem?_getD, List.getElem?_eq_getElem (by omega)]; simp)
      have HS := Wc.or_shift m (xs.getD (q + k) 0) k (by omega) hm0 hm1 hz.1 hz.2
      have HS' : Hid (bits BinOp.or IntKind.u64 m (IntKind.u64.wrap (IntKind.u64.wrap (xs[q + k]?.getD 0) * 2 ^ (8 * k))) = m + (xs.getD (q + k) 0) * 256 ^ k) := by
        rw [List.getD_eq_getElem?_getD] at *; exact HS
      clear HS hz
      go_wp2
      go_round
      case rel =>
        have hb := Wc.val_bd ((xs.drop q).take (k + 1)) (fun x h' => hx x (List.mem_of_mem_drop (List.mem_of_mem_take h')))
        have e1 : ((xs.drop q).take (k + 1)).length = k + 1 := by have := HL.out; simp; omega
        have e0 : ((xs.drop q).take k).length = k := by have := HL.out; simp; omega
        have e2 := Wc.val_snoc ((xs.drop q).take k) (xs.getD (q + k) 0)
        rw [← take_more xs q k (by have := HL.out; omega), e0, ← HM.out] at e2
        rw [e1, e2] at hb
        exact ⟨k + 1, _, by omega, by go_num, by rw [HS'.out], hb.1, hb.2, e2.symm⟩
      case measure => simp [intOf]; omega
    · obtain rfl : k = t := by omega
      have hm2 : m < 256 ^ 8 := Int.lt_of_lt_of_le hm1 (by
        have : (256 : Nat) ^ k ≤ 256 ^ 8 := Nat.pow_le_pow_right (by omega) (by omega)
        rw [Wc.pow256]; omega)
      by_cases hle : m ≤ 4611686018427387903
      · go_wp2
        go_ret2
        have e := HR.out
        rw [← HM.out, if_pos hle] at e
        exact ⟨ret_two (by rw [e]; rfl) (by rw [e]; rfl), rfl⟩
      · go_wp2
        go_ret2
        have e := HR.out
        rw [← HM.out, if_neg (by omega)] at e
        exact ⟨ret_two (by rw [e]; rfl) (by rw [e]; rfl), rfl⟩

set_option maxHeartbeats 400000 in
theorem get_any (v : Value) (xs : List Int) (p s : Int) (w : World) (hv : Wc.Bs w v xs) :
    Calls Tryz.prog 101 #[v, .int .i64 p, .int .i64 s] w fun e w' => e = .returned (.tuple #[.int .i64 (Wc.getR xs p s).1, .int .i64 (Wc.getR xs p s).2]) ∧ w = w' := by
  obtain ⟨a, n, cap, rfl, hl, _, _, hn, hx, hpos⟩ := hv
  cases hs : Wc.rsB s with
  | false =>
    have e : Wc.getR xs p s = (0, 1) := by simp [Wc.getR, hs]
    rw [e]
    go_enter Tryz.func101, Tryz.ntmps101
    go_wp2_with (first | (go_at_call 78; refine (rightSize_any _ _).mono ?_; rintro e w' ⟨rfl, rfl⟩))
    go_ret2
    exact ⟨rfl, rfl⟩
  | true =>
    have hs1 : 1 ≤ s ∧ s ≤ 8 := by rcases Wc.rsB_cases hs with h | h | h | h <;> omega
    cases hp : Wc.inB n p s with
    | false =>
      have e : Wc.getR xs p s = (0, 3) := by simp [Wc.getR, hs, hl, hp]
      rw [e]
      go_enter Tryz.func101, Tryz.ntmps101
      go_wp2_with (first | (go_at_call 78; refine (rightSize_any _ _).mono ?_; rintro e w' ⟨rfl, rfl⟩) | (go_at_call 80; refine (inside_any _ _ _ _ _ _ hn (by omega) (by omega)).mono ?_; rintro e w' ⟨rfl, rfl⟩))
      go_ret2
      exact ⟨rfl, rfl⟩
    | true =>
      obtain ⟨p1, p2⟩ := Wc.inB_iff.1 hp
      obtain ⟨b, off, rfl, _, hc⟩ := hpos (by omega)
      exact get_in b off n cap xs p s w hs hp hn hl hx hc
end Go.Proofs.YtfflhiajbioheaaGreat
namespace Go.Proofs.YtfflhiajbioheaaGreat
open Go.RowKit

theorem Tryz.infoU8 : (Tryz.prog.info? 5).map (fun i => (i.zero, i.size, i.bytes)) = some (some (.int .u8 0), 1, 1) := by kernel_rfl
theorem Tryz.sizeU8 : (Tryz.prog.info? 5).map (·.size) = some 1 := by kernel_rfl

theorem made_heap (w : World) (z : Value) (n e : Nat) : (w.alloc (.cells (madeCells #[z] n) e)).heap[w.heap.size]? = some (.cells (List.replicate n z).toArray e (0, 0)) := by
  have h : madeCells #[z] n = (List.replicate n z).toArray := by rw [← toList_madeCells_one]
  rw [h]
  show (w.heap.push _)[w.heap.size]? = _
  simp

theorem splice_all (n : Nat) (z : Value) (cs : List Value) (h : cs.length = n) : splice (List.replicate n z) 0 cs = cs := by
  simp [splice, h]

/-- What the row holds behind k rounds. -/
def putF (xs : List Int) (q : Nat) (m : Int) (k j : Nat) : Int := if q ≤ j ∧ j < q + k then m / 256 ^ (j - q) % 256 else xs.getD j 0

theorem putF_zero (xs : List Int) (q : Nat) (m : Int) (j : Nat) : putF xs q m 0 j = xs.getD j 0 := by
  unfold putF; rw [if_neg (by omega)]

theorem putF_succ (xs : List Int) (q : Nat) (m : Int) (k j : Nat) : putF xs q m (k + 1) j = if j = q + k then m / 256 ^ k % 256 else putF xs q m k j := by
  unfold putF
  by_cases h : j = q + k
  · subst h; rw [if_pos (by omega), if_pos rfl, show q + k - q = k by omega]
  · rw [if_neg h]
    by_cases h2 : q ≤ j ∧ j < q + k
    · rw [if_pos (by omega), if_pos h2]
    · rw [if_neg (by omega), if_neg h2]

theorem row_of_list (w : World) (g n : Nat) (xs : List Int) (q : Nat) (m : Int) (hl : xs.length = n) (h : w.heap[g]? = some (.cells (xs.map (Value.int .u8)).toArray 5 (0, 0))) : w.rowIs g 5 n (fun j => .int .u8 (putF xs q m 0 j)) := by
  refine ⟨_, h, by simpa using hl, fun i hi => ?_⟩
  simp [putF_zero, hl, hi]

theorem row_next {w : World} {g n : Nat} {xs : List Int} {q k : Nat} {m : Int} (h : w.rowIs g 5 n (fun j => .int .u8 (putF xs q m k j))) :
    (w.setCell ⟨g, q + k, none⟩ (.int .u8 (m / 2 ^ (8 * k) % 256))).rowIs g 5 n (fun j => .int .u8 (putF xs q m (k + 1) j)) := by
  have e : (2 : Int) ^ (8 * k) = 256 ^ k := by rw [Int.pow_mul]; rfl
  refine (h.set (q + k) _).congr fun j _ => ?_
  rw [putF_succ, e]
  split <;> rfl

/-- The run of copy(out, b), out made just ahead of it. -/
theorem copy_made (b off n cap : Nat) (xs : List Int) (w : World) (hl : xs.length = n) (hb : b < w.heap.size)
   (hc : ∀ i, i < n → w.cell? ⟨b, off + i, none⟩ = some (.int .u8 (xs.getD i 0))) :
    ∃ w2, Sem.run Tryz.prog (Builtin.copy_ #[48, 48] 3 #[.slice (some ⟨w.heap.size, 0, none⟩) n n, .slice (some ⟨b, off, none⟩) n cap]) (w.alloc (.cells (madeCells #[.int .u8 0] n) 5)) = .ok (.int .i64 n) w2 ∧
      w2.heap[w.heap.size]? = some (.cells (xs.map (Value.int .u8)).toArray 5 (0, 0)) ∧ Below w.heap.size w w2 := by
  obtain ⟨cs, hcs⟩ : ∃ cs, cs = xs.map (Value.int .u8) := ⟨_, rfl⟩
  have hcl : cs.length = n := by rw [hcs]; simpa using hl
  have hcc : ∀ j v, cs[j]? = some v → (w.alloc (.cells (madeCells #[.int .u8 0] n) 5)).cell? ((⟨b, off, none⟩ : Addr).add j) = some v := by
    intro j v hj
    have hjn : j < n := by rw [← hcl]; exact (List.getElem?_eq_some_iff.1 hj).1
    rw [Wc.add_none, World.cell?_alloc_old _ _ _ (show b ≠ w.heap.size by omega), hc j hjn]
    rw [hcs] at hj
    simpa [hl, hjn] using hj
  have hc1 : ∀ v ∈ cs, v.oneCell' = true := by
    intro v hv; rw [hcs] at hv; obtain ⟨x, _, rfl⟩ := List.mem_map.1 hv; rfl
  have hg := made_heap w (.int .u8 0) n 5
  have hrun := run_copy_row (P := Tryz.prog) (w.alloc (.cells (madeCells #[.int .u8 0] n) 5)) 48 48 3 5 w.heap.size 0 n n ⟨b, off, none⟩ n cap (List.replicate n (.int .u8 0)).toArray 5 cs Tryz.underlying48 Tryz.sizeU8 hg (by rw [hcl]; exact (Nat.min_self n).symm) hcc (by simp [hcl]) hc1
  refine ⟨_, hrun.trans (by rw [hcl]; rfl), ?_, ?_⟩
  · rw [setRow_heap _ _ _ _ 5 _ hg, ← hcs]
    simp
  · exact below_setRow ((Below.refl _ _).alloc (Nat.le_refl _) _) (Nat.le_refl _) _

theorem row_putL {w : World} {g : Nat} (n : Nat) (xs : List Int) (q t : Nat) (m : Int) (hl : xs.length = n) (hq : q + t ≤ n) (h : w.rowIs g 5 n (fun j => .int .u8 (putF xs q m t j))) :
    w.rowIs g 5 n (fun j => .int .u8 ((Wc.putL xs q t m).getD j 0)) := by
  refine h.congr fun i _ => ?_
  rw [Wc.putL_getD _ _ _ _ (by omega)]
  unfold putF
  congr 1
  by_cases h1 : i < q
  · rw [if_pos h1, if_neg (by omega)]
  · rw [if_neg h1]
    by_cases h2 : i < q + t
    · rw [if_pos h2, if_pos (by omega)]
    · rw [if_neg h2, if_neg (by omega)]

set_option maxHeartbeats 400000 in
theorem put_row (b off n cap : Nat) (xs : List Int) (p s m : Int) (w : World) (hs : Wc.rsB s = true) (hf : Wc.fitB m s = true) (hp : Wc.inB n p s = true) (hn : n ≤ 140737488355328) (hl : xs.length = n) (hb : b < w.heap.size)
   (hc : ∀ i, i < n → w.cell? ⟨b, off + i, none⟩ = some (.int .u8 (xs.getD i 0))) :
    Calls Tryz.prog 60 #[.slice (some ⟨b, off, none⟩) n cap, .int .i64 p, .int .i64 s, .int .i64 m] w fun e w' => ∃ g, e = .returned (.tuple #[.slice (some ⟨g, 0, none⟩) n n, .int .i64 0]) ∧ w.heap.size ≤ g ∧ w'.rowIs g 5 n (fun j => .int .u8 ((Wc.putL xs p.toNat s.toNat m).getD j 0)) ∧ Below w.heap.size w w' := by
  obtain ⟨p1, p2⟩ := Wc.inB_iff.1 hp
  obtain ⟨q, rfl⟩ := Int.eq_ofNat_of_zero_le p1
  have hs1 : 1 ≤ s ∧ s ≤ 8 := by rcases Wc.rsB_cases hs with h | h | h | h <;> omega
  obtain ⟨t, rfl⟩ := Int.eq_ofNat_of_zero_le (show 0 ≤ s by omega)
  obtain ⟨f1, f2, -⟩ := (Wc.fitB_iff hs).1 hf
  obtain ⟨w2, hcp, hrow, hb2⟩ := copy_made b off n cap xs w hl hb hc
  have HR := Wc.hid (row_of_list w2 w.heap.size n xs q m hl hrow)
  have HL := Wc.hid hl
  clear hl hc hrow
  rw [Int.toNat_natCast, Int.toNat_natCast]
  have hmk := fun w => run_make_row' (P := Tryz.prog) 48 5 (.int .u8 0) 1 Tryz.underlying48 Tryz.infoU8 rfl .i64 .i64 n (by omega) (by omega) w
  go_enter Tryz.func60, Tryz.ntmps60
  go_wp2_with (first | (go_at_call 78; refine (rightSize_any _ _).mono ?_; rintro e w' ⟨rfl, rfl⟩) | (go_at_call 79; refine (fits_any _ _ _ hs).mono ?_; rintro e w' ⟨rfl, rfl⟩) | (go_at_call 80; refine (inside_any _ _ _ _ _ _ hn (by omega) (by omega)).mono ?_; rintro e w' ⟨rfl, rfl⟩))
  clear hmk hcp
  go_loopw [33] (fun i wr => ∃ k : Nat, k ≤ t ∧ i = .int .i64 k ∧ Hid (wr.rowIs w.heap.size 5 n (fun j => .int .u8 (putF xs q m k j))) ∧ Below w.heap.size w wr) (fun i _ => t - (intOf i).toNat)
  case atStart => exact ⟨0, by omega, rfl, HR, hb2⟩
  case round =>
    obtain ⟨k, hk, rfl, HW, hbr⟩ := hrel
    by_cases hlt : k < t
    · have hcell := HW.out.cell (i := q + k) (by omega)
      have hfz := HW.out.frozen (q + k)
      go_wp2
      go_roundw
      case rel => exact ⟨k + 1, by omega, by go_num, Wc.hid (row_next HW.out), hbr.setCell (Nat.le_refl _) _⟩
      case measure => simp [intOf]; omega
    · obtain rfl : k = t := by omega
      go_wp2
      go_ret2
      exact ⟨_, rfl, Nat.le_refl _, row_putL n xs q k m HL.out (by omega) HW.out, hbr⟩

theorem put_in (b off n cap : Nat) (xs : List Int) (p s m : Int) (w : World) (hs : Wc.rsB s = true) (hf : Wc.fitB m s = true) (hp : Wc.inB n p s = true) (hn : n ≤ 140737488355328) (hl : xs.length = n) (hx : ∀ x ∈ xs, 0 ≤ x ∧ x < 256) (hb : b < w.heap.size)
   (hc : ∀ i, i < n → w.cell? ⟨b, off + i, none⟩ = some (.int .u8 (xs.getD i 0))) :
    Calls Tryz.prog 60 #[.slice (some ⟨b, off, none⟩) n cap, .int .i64 p, .int .i64 s, .int .i64 m] w fun e w' => ∃ v, e = .returned (.tuple #[v, .int .i64 0]) ∧ Wc.Bs w' v (Wc.putL xs p.toNat s.toNat m) ∧ Below w.heap.size w w' := by
  obtain ⟨p1, p2⟩ := Wc.inB_iff.1 hp
  have hs1 : 1 ≤ s ∧ s ≤ 8 := by rcases Wc.rsB_cases hs with h | h | h | h <;> omega
  refine (put_row b off n cap xs p s m w hs hf hp hn hl hb hc).mono ?_
  rintro e w' ⟨g, rfl, -, hr, hb⟩
  exact ⟨_, rfl, Wc.Bs.row (by rw [Wc.putL_length _ _ _ _ (by omega)]; exact hl) hn (Wc.putL_bd _ _ _ _ hx) hr, hb⟩

set_option maxHeartbeats 400000 in
theorem put_any (v : Value) (xs : List Int) (p s m : Int) (w : World) (hv : Wc.Bs w v xs) :
    Calls Tryz.prog 60 #[v, .int .i64 p, .int .i64 s, .int .i64 m] w fun e w' => ∃ x, e = .returned (.tuple #[x, .int .i64 (Wc.putR xs p s m).2]) ∧ Wc.Bs w' x (Wc.putR xs p s m).1 ∧ Below w.heap.size w w' := by
  obtain ⟨a, n, cap, rfl, hl, _, _, hn, hx, hpos⟩ := hv
  cases hs : Wc.rsB s with
  | false =>
    have e : Wc.putR xs p s m = ([], 1) := by simp [Wc.putR, hs]
    rw [e]
    go_enter Tryz.func60, Tryz.ntmps60
    go_wp2_with (first | (go_at_call 78; refine (rightSize_any _ _).mono ?_; rintro e w' ⟨rfl, rfl⟩))
    go_ret2
    exact ⟨_, rfl, Wc.Bs.nil w, Below.refl _ _⟩
  | true =>
    have hs1 : 1 ≤ s ∧ s ≤ 8 := by rcases Wc.rsB_cases hs with h | h | h | h <;> omega
    cases hf : Wc.fitB m s with
    | false =>
      have e : Wc.putR xs p s m = ([], 1) := by simp [Wc.putR, hs, hf]
      rw [e]
      go_enter Tryz.func60, Tryz.ntmps60
      go_wp2_with (first | (go_at_call 78; refine (rightSize_any _ _).mono ?_; rintro e w' ⟨rfl, rfl⟩) | (go_at_call 79; refine (fits_any _ _ _ hs).mono ?_; rintro e w' ⟨rfl, rfl⟩))
      go_ret2
      exact ⟨_, rfl, Wc.Bs.nil w, Below.refl _ _⟩
    | true =>
      cases hp : Wc.inB n p s with
      | false =>
        have e : Wc.putR xs p s m = ([], 3) := by simp [Wc.putR, hs, hf, hl, hp]
        rw [e]
        go_enter Tryz.func60, Tryz.ntmps60
        go_wp2_with (first | (go_at_call 78; refine (rightSize_any _ _).mono ?_; rintro e w' ⟨rfl, rfl⟩) | (go_at_call 79; refine (fits_any _ _ _ hs).mono ?_; rintro e w' ⟨rfl, rfl⟩) | (go_at_call 80; refine (inside_any _ _ _ _ _ _ hn (by omega) (by omega)).mono ?_; rintro e w' ⟨rfl, rfl⟩))
        go_ret2
        exact ⟨_, rfl, Wc.Bs.nil w, Below.refl _ _⟩
      | true =>
        obtain ⟨p1, p2⟩ := Wc.inB_iff.1 hp
        obtain ⟨b, off, rfl, hb, hc⟩ := hpos (by omega)
        have e : Wc.putR xs p s m = (Wc.putL xs p.toNat s.toNat m, 0) := by simp [Wc.putR, hs, hf, hl, hp]
        rw [e]
        exact put_in b off n cap xs p s m w hs hf hp hn hl hx hb hc
end Go.Proofs.YtfflhiajbioheaaGreat
namespace Go.Proofs.YtfflhiajbioheaaGreat
open Go.RowKit

theorem getD_get (xs : List Int) (k : Nat) : xs[k]?.getD 0 = xs.getD k 0 := by simp

set_option maxHeartbeats 400000 in
theorem zeros_pos (b off n cap : Nat) (xs : List Int) (lo hi : Int) (w : World) (hn : n ≤ 140737488355328) (hl : xs.length = n)
   (hlo : lo ≤ 9223372036854775807) (hc : ∀ i, i < n → w.cell? ⟨b, off + i, none⟩ = some (.int .u8 (xs.getD i 0))) :
    Calls Tryz.prog 96 #[.slice (some ⟨b, off, none⟩) n cap, .int .i64 lo, .int .i64 hi] w fun e w' => e = .returned (.bool (Wc.zerosB xs lo hi)) ∧ w = w' := by
  have HL : Hid (xs.length = n) := hl
  clear hl
  rcases Int.lt_or_le lo 0 with h0 | h0 <;> rcases Int.lt_or_le (n : Int) hi with h9 | h9
  all_goals
    go_enter Tryz.func96, Tryz.ntmps96
    go_wp2
    go_loop [7] (fun i => ∃ k : Int, i = .int .i64 k ∧ 0 ≤ k ∧ k ≤ 9223372036854775807 ∧ Hid (∀ j : Nat, lo ≤ (j : Int) → (j : Int) < k → xs.getD j 0 = 0) ∧ Hid (lo ≤ k)) (fun i => n - (intOf i).toNat)
    case atStart => exact ⟨_, rfl, by omega, by omega, fun j h1 h2 => by omega, Wc.hid (by omega)⟩
    case round =>
      obtain ⟨k', rfl, hk0, hk1, HZ, HK⟩ := hrel
      obtain ⟨k, rfl⟩ := Int.eq_ofNat_of_zero_le hk0
      by_cases hlt : k < n ∧ (k : Int) < hi
      · obtain ⟨hlt, hhi⟩ := hlt
        have hcell := hc k hlt
        by_cases hz : xs.getD k 0 = 0
        · have hzb : (xs[k]?.getD 0 != 0) = false := by rw [getD_get, hz]; rfl
          have HZ0 := Wc.hid hz
          clear hz
          go_wp2
          go_round
          case rel =>
            refine ⟨_, rfl, by omega, by omega, fun j h1 h2 => ?_, Wc.hid (by have := HK.out; omega)⟩
            by_cases hj : j = k
            · subst hj; exact HZ0.out
            · exact HZ.out j h1 (by omega)
          case measure => simp [intOf]; omega
        · have hzb : (xs[k]?.getD 0 != 0) = true := by rw [getD_get]; simpa using hz
          have HZ0 := Wc.hid hz
          clear hz
          go_wp2
          go_ret
          exact ⟨ret_bool (Wc.zerosB_false k (by rw [HL.out]; omega) HK.out (by omega) HZ0.out).symm, rfl⟩
      · go_wp2
        go_ret
        exact ⟨ret_bool (Wc.zerosB_true (fun j h1 h2 h3 => HZ.out j h2 (by rw [HL.out] at h1; omega))).symm, rfl⟩

set_option maxHeartbeats 400000 in
theorem zeros_nil (a : Option Addr) (cap : Nat) (lo hi : Int) (w : World) (hlo : lo ≤ 9223372036854775807) :
    Calls Tryz.prog 96 #[.slice a 0 cap, .int .i64 lo, .int .i64 hi] w fun e w' => e = .returned (.bool true) ∧ w = w' := by
  rcases Int.lt_or_le lo 0 with h0 | h0 <;> rcases Int.lt_or_le 0 hi with h9 | h9
  all_goals
    go_enter Tryz.func96, Tryz.ntmps96
    go_wp2
    go_loop [7] (fun i => ∃ k : Int, i = .int .i64 k ∧ 0 ≤ k) (fun i => 0 - (intOf i).toNat)
    case atStart => exact ⟨_, rfl, by omega⟩
    case round =>
      obtain ⟨k', rfl, hk0⟩ := hrel
      go_wp2
      go_ret
      exact ⟨rfl, rfl⟩

theorem zeros_any (v : Value) (xs : List Int) (lo hi : Int) (w : World) (hv : Wc.Bs w v xs) (hlo : lo ≤ 9223372036854775807) :
    Calls Tryz.prog 96 #[v, .int .i64 lo, .int .i64 hi] w fun e w' => e = .returned (.bool (Wc.zerosB xs lo hi)) ∧ w = w' := by
  rcases hv.open with ⟨rfl, a, cap, rfl, _⟩ | ⟨b, off, n, cap, rfl, h0, hl, _, _, hn, hx, _, hc⟩
  · rw [show Wc.zerosB [] lo hi = true from Wc.zerosB_true (by simp)]
    exact zeros_nil a cap lo hi w hlo
  · exact zeros_pos b off n cap xs lo hi w hn hl hlo hc

set_option maxHeartbeats 400000 in
theorem bytes_pos (b off n cap b' off' cap' : Nat) (xs ys : List Int) (w : World) (hn : n ≤ 140737488355328) (hl : xs.length = n) (hl' : ys.length = n)
   (hc : ∀ i, i < n → w.cell? ⟨b, off + i, none⟩ = some (.int .u8 (xs.getD i 0)))
   (hc' : ∀ i, i < n → w.cell? ⟨b', off' + i, none⟩ = some (.int .u8 (ys.getD i 0))) :
    Calls Tryz.prog 24 #[.slice (some ⟨b, off, none⟩) n cap, .slice (some ⟨b', off', none⟩) n cap'] w fun e w' => e = .returned (.bool (xs == ys)) ∧ Below w.heap.size w w' := by
  have HL := Wc.hid hl
  have HL' := Wc.hid hl'
  clear hl hl'
  go_enter Tryz.func24, Tryz.ntmps24
  go_wp2
  go_loopw [5] (fun i wr => ∃ k : Nat, i = .int .i64 k ∧ k ≤ n ∧ Below w.heap.size w wr ∧ Hid (∀ a, wr.cell? a = w.cell? a) ∧ Hid (∀ j, j < k → xs.getD j 0 = ys.getD j 0)) (fun i _ => n - (intOf i).toNat)
  case atStart => exact ⟨0, rfl, by omega, Below.refl _ _, fun _ => rfl, fun j h => by omega⟩
  case round =>
    obtain ⟨k, rfl, hk, hb, hcc, HZ⟩ := hrel
    by_cases hlt : k < n
    · have h1 : wr.cell? ⟨b, off + k, none⟩ = some (.int .u8 (xs.getD k 0)) := by rw [hcc.out]; exact hc k hlt
      have h2 : wr.cell? ⟨b', off' + k, none⟩ = some (.int .u8 (ys.getD k 0)) := by rw [hcc.out]; exact hc' k hlt
      by_cases hz : xs.getD k 0 = ys.getD k 0
      · have hzb : (xs[k]?.getD 0 != ys[k]?.getD 0) = false := by rw [getD_get, getD_get, hz]; simp
        have HZ0 := Wc.hid hz
        clear hz
        go_wp2
        go_quiet (fail)
        go_wp2
        go_roundw
        case rel =>
          refine ⟨k + 1, by go_num, by omega, below_drewN hb _, hcc, fun j hj => ?_⟩
          by_cases hjk : j = k
          · subst hjk; exact HZ0.out
          · exact HZ.out j (by omega)
        case measure => simp [intOf]; omega
      · have hzb : (xs[k]?.getD 0 != ys[k]?.getD 0) = true := by rw [getD_get, getD_get]; simpa using hz
        have HZ0 := Wc.hid hz
        clear hz
        go_wp2
        go_quiet (fail)
        go_wp2
        go_ret
        exact ⟨ret_bool (Wc.list_ne k HZ0.out).symm, below_drewN hb _⟩
    · go_wp2
      go_ret
      exact ⟨ret_bool (Wc.list_eq (by rw [HL.out, HL'.out]) (fun j hj => HZ.out j (by rw [HL.out] at hj; omega))).symm, hb⟩

set_option maxHeartbeats 400000 in
theorem bytes_nil (a a' : Option Addr) (cap cap' : Nat) (w : World) :
    Calls Tryz.prog 24 #[.slice a 0 cap, .slice a' 0 cap'] w fun e w' => e = .returned (.bool true) ∧ Below w.heap.size w w' := by
  go_enter Tryz.func24, Tryz.ntmps24
  go_wp2
  go_loopw [5] (fun i wr => i = .int .i64 0 ∧ Below w.heap.size w wr) (fun _ _ => 0)
  case atStart => exact ⟨rfl, Below.refl _ _⟩
  case round =>
    obtain ⟨rfl, hb⟩ := hrel
    go_wp2
    go_ret
    exact ⟨rfl, hb⟩

set_option maxHeartbeats 400000 in
theorem bytes_len (a a' : Option Addr) (n n' cap cap' : Nat) (w : World) (h : ((n : Int) != (n' : Int)) = true) :
    Calls Tryz.prog 24 #[.slice a n cap, .slice a' n' cap'] w fun e w' => e = .returned (.bool false) ∧ Below w.heap.size w w' := by
  go_enter Tryz.func24, Tryz.ntmps24
  go_wp2
  go_ret
  exact ⟨rfl, Below.refl _ _⟩

theorem bytes_any (v v' : Value) (xs ys : List Int) (w : World) (hv : Wc.Bs w v xs) (hv' : Wc.Bs w v' ys) :
    Calls Tryz.prog 24 #[v, v'] w fun e w' => e = .returned (.bool (xs == ys)) ∧ Below w.heap.size w w' := by
  by_cases hlen : xs.length = ys.length
  · rcases hv.open with ⟨rfl, a, cap, rfl, _⟩ | ⟨b, off, n, cap, rfl, h0, hl, _, _, hn, hx, _, hc⟩
    · obtain rfl : ys = [] := List.eq_nil_of_length_eq_zero hlen.symm
      rcases hv'.open with ⟨_, a', cap', rfl, _⟩ | ⟨b, off, n, cap, rfl, h0, hl, _⟩
      · exact bytes_nil a a' cap cap' w
      · simp at hl; omega
    · rcases hv'.open with ⟨rfl, a', cap', rfl, _⟩ | ⟨b', off', n', cap', rfl, h0', hl', _, _, _, _, _, hc'⟩
      · simp at hlen; subst hlen; simp at hl; omega
      · obtain rfl : n = n' := by omega
        exact bytes_pos b off n cap b' off' cap' xs ys w hn hl hl' hc hc'
  · rw [Wc.list_ne_len hlen]
    obtain ⟨a, n, cap, rfl, hl, -⟩ := hv
    obtain ⟨a', n', cap', rfl, hl', -⟩ := hv'
    exact bytes_len a a' n n' cap cap' w (by rw [bne_iff_ne]; omega)
end Go.Proofs.YtfflhiajbioheaaGreat
namespace Go.Proofs.YtfflhiajbioheaaGreat
open Go.RowKit

theorem ret_two' {a b c d : Value} (h : a = c) (k : b = d) : Ending.returned (.tuple #[a, b]) = .returned (.tuple #[c, d]) := by rw [h, k]

/-- What the page's Number tells. -/
def numR (xs : List Int) : Int × Bool := if Wc.val xs ≤ 4611686018427387903 then (Wc.val xs, true) else (0, false)

theorem Tryz.infoU8' : (Tryz.prog.info? 5).map (fun i => (i.zero, i.size, i.bytes)) = some (some (.int .u8 0), 1, 1) := by kernel_rfl

set_option maxHeartbeats 400000 in
theorem refBytes_any (s : Nat) (m : Int) (w : World) (hs : s ≤ 8) (h0 : 0 ≤ m) (h1 : m ≤ 4611686018427387903) :
    Calls Tryz.prog 45 #[.int .i64 s, .int .i64 m] w fun e w' => ∃ v, e = .returned v ∧ Wc.Bs w' v (Wc.enc s m) ∧ Below w.heap.size w w' := by
  obtain ⟨i0, hi, hz0, hz1, hz2⟩ := info_parts Tryz.infoU8'
  go_enter Tryz.func45, Tryz.ntmps45
  go_wp2
  go_loopw [1, 5, 6] (fun x v i wr => ∃ (k : Nat) (y : Int), k ≤ s ∧ i = .int .i64 k ∧ x = .int .i64 y ∧ 0 ≤ y ∧ y ≤ 4611686018427387903 ∧ Hid (y = m / 256 ^ k) ∧ wr.ownsRow w.heap.size 5 1 v k ((Wc.enc k m).map (Value.int .u8)) ∧ Below w.heap.size w wr) (fun _ _ i _ => s - (intOf i).toNat)
  case atStart => exact ⟨0, m, by omega, rfl, rfl, h0, h1, Wc.hid (by simp), World.ownsRow_nil _ _ _ _, Below.refl _ _⟩
  case round =>
    obtain ⟨k, y, hk, rfl, rfl, hy0, hy1, HE, hown, hbr⟩ := hrel
    by_cases hlt : k < s
    · go_wp2_with (first
        | (at_builtin; refine wpList_append_own _ rfl _ _ 48 rfl w.heap.size 5 i0 (.int .u8 0) 1 1 Tryz.underlying48 hi hz0 hz1 hz2 rfl (by decide) _ _ _ rfl (hown.alloc _) ⟨wr.heap.size, 0, none⟩ 1 1 [.int .u8 (y % 256)] rfl rfl ?c1 ?c2 ?c3 ?c4 ?c5 ?_))
      case c1 => exact cell_one_new _ _ _
      case c2 => intro u hu; simp at hu; subst hu; rfl
      case c3 => unfold maxLen; omega
      case c4 => omega
      case c5 => have := hbr.size; simp; omega
      · intro v' w1 hown' hgrow _
        have hb1 : Below w.heap.size w w1 := (hbr.alloc hbr.size _).grown hgrow (by have := hbr.size; simp; omega) (fun g hg => (hown.lt g hg).1)
        have HO : Hid (w1.ownsRow w.heap.size 5 1 v' (k + 1) ((Wc.enc (k + 1) m).map (Value.int .u8))) := by
          show World.ownsRow _ _ _ _ _ _ _
          rw [Wc.enc_snoc, List.map_append, ← HE.out]; exact hown'
        clear hown' hgrow hown hbr
        go_wp2
        go_roundw
        case rel => exact ⟨k + 1, y / 256, by omega, by go_num, rfl, by omega, by omega, Wc.hid (by rw [HE.out, Int.ediv_ediv_of_nonneg (Int.pow_nonneg (by omega)), Int.pow_succ]), HO.out, hb1⟩
        case measure => simp [intOf]; omega
    · obtain rfl : k = s := by omega
      go_wp2
      go_ret
      exact ⟨_, rfl, Wc.Bs.own hown (by omega) (Wc.enc_bd _ _), hbr⟩
end Go.Proofs.YtfflhiajbioheaaGreat
namespace Go.Proofs.YtfflhiajbioheaaGreat
open Go.RowKit

set_option maxHeartbeats 400000 in
theorem twin_some (ad : Addr) (n cap : Nat) (xs : List Int) (w : World) (hn : n ≤ 140737488355328) (hl : xs.length = n) (hx : ∀ x ∈ xs, 0 ≤ x ∧ x < 256)
   (hc : ∀ i, i < n → w.cell? (ad.add i) = some (.int .u8 (xs.getD i 0))) :
    Calls Tryz.prog 16 #[.slice (some ad) n cap] w fun e w' => ∃ v, e = .returned v ∧ Wc.Bs w' v xs ∧ Below w.heap.size w w' := by
  obtain ⟨i0, hi, hz0, hz1, hz2⟩ := info_parts Tryz.infoU8
  go_enter Tryz.func16, Tryz.ntmps16
  go_wp2_with (first | (at_builtin; refine wpList_append_own _ rfl _ _ 48 rfl w.heap.size 5 i0 (.int .u8 0) 1 1 Tryz.underlying48 hi hz0 hz1 hz2 rfl (by decide) _ _ _ rfl (World.ownsRow_nil _ _ _ _) ad n cap (xs.map (Value.int .u8)) rfl (by simpa using hl) ?c1 ?c2 ?c3 ?c4 ?c5 ?_))
  case c1 =>
    intro j u hj
    have hjn : j < n := by have := (List.getElem?_eq_some_iff.1 hj).1; simpa [hl] using this
    rw [hc j hjn]; simpa [hl, hjn] using hj
  case c2 => intro u hu; obtain ⟨x, _, rfl⟩ := List.mem_map.1 hu; rfl
  case c3 => unfold maxLen; omega
  case c4 => omega
  case c5 => exact Nat.le_refl _
  · intro v' w1 hown' hgrow _
    have hb1 : Below w.heap.size w w1 := (Below.refl _ _).grown hgrow (Nat.le_refl _) (fun g hg => by simp [Value.ownBlock] at hg)
    have HB := Wc.hid (Wc.Bs.own (xs := xs) (by simpa using hown') (by omega) hx)
    clear hown' hgrow
    go_wp2
    go_ret
    exact ⟨_, rfl, HB.out, hb1⟩

set_option maxHeartbeats 400000 in
theorem twin_none (w : World) :
    Calls Tryz.prog 16 #[.slice none 0 0] w fun e w' => ∃ v, e = .returned v ∧ Wc.Bs w' v [] ∧ Below w.heap.size w w' := by
  obtain ⟨i0, hi, hz0, hz1, hz2⟩ := info_parts Tryz.infoU8
  have hrun := run_append_owned_none (P := Tryz.prog) w w.heap.size 48 48 5 i0 1 Tryz.underlying48 hi _ 0 [] (World.ownsRow_nil w w.heap.size 5 1)
  go_enter Tryz.func16, Tryz.ntmps16
  go_wp2
  go_ret
  exact ⟨_, rfl, Wc.Bs.nil _, Below.refl _ _⟩

theorem wake_a : Wc.putR [9, 9, 9] 1 2 258 = ([9, 2, 1], 0) := by decide
theorem wake_b : Wc.getR [9, 2, 1] 1 2 = (258, 0) := by decide
theorem wake_c : Wc.putR [] 0 3 1 = ([], 1) := by decide
theorem wake_e : (([9, 2, 1] : List Int) == [9, 2, 1]) = true := by decide
theorem wake_d : Wc.zerosB [9, 2, 1] 0 3 = false := by decide

theorem twin_any (v : Value) (xs : List Int) (w : World) (hv : Wc.Bs w v xs) (h0 : v = .slice none 0 0 ∨ ∃ ad n cap, v = .slice (some ad) n cap) :
    Calls Tryz.prog 16 #[v] w fun e w' => ∃ v, e = .returned v ∧ Wc.Bs w' v xs ∧ Below w.heap.size w w' := by
  rcases h0 with rfl | ⟨ad, n, cap, rfl⟩
  · obtain ⟨a, n, cap, h, hl, -⟩ := hv
    cases h
    obtain rfl := List.eq_nil_of_length_eq_zero hl
    exact twin_none w
  · obtain ⟨a, n', cap', h, hl, _, _, hn, hx, hpos⟩ := hv
    cases h
    refine twin_some ad n cap xs w hn hl hx fun i hi => ?_
    obtain ⟨b, off, h, _, hc⟩ := hpos (by omega)
    cases h
    rw [Wc.add_none]; exact hc i hi
end Go.Proofs.YtfflhiajbioheaaGreat
namespace Wc
open Go Go.RowKit

theorem bs_take {w : World} {b off n cap : Nat} {xs : List Int} (h : Wc.Bs w (.slice (some ⟨b, off, none⟩) n cap) xs) (k : Nat) (hk : k ≤ n) : Wc.Bs w (.slice (some ⟨b, off, none⟩) k cap) (xs.take k) := by
  obtain ⟨a, n', cap', h1, h2, h3, h4, h5, h6, h7⟩ := h
  cases h1
  refine ⟨_, k, cap, rfl, by simp; omega, by omega, h4, by omega, fun x hx => h6 x (List.mem_of_mem_take hx), fun h0 => ?_⟩
  obtain ⟨b', off', ha, hb, hc⟩ := h7 (by omega)
  cases ha
  exact ⟨b, off, rfl, hb, fun i hi => by rw [hc i (by omega)]; simp [hi]⟩

theorem bs_mid {w : World} {b off n cap : Nat} {xs : List Int} (h : Wc.Bs w (.slice (some ⟨b, off, none⟩) n cap) xs) (j t : Nat) (hk : j + t ≤ n) : Wc.Bs w (.slice (some ⟨b, off + j, none⟩) t (cap - j)) ((xs.drop j).take t) := by
  obtain ⟨a, n', cap', h1, h2, h3, h4, h5, h6, h7⟩ := h
  cases h1
  refine ⟨_, t, cap - j, rfl, by simp; omega, by omega, by omega, by omega, fun x hx => h6 x (List.mem_of_mem_drop (List.mem_of_mem_take hx)), fun h0 => ?_⟩
  obtain ⟨b', off', ha, hb, hc⟩ := h7 (by omega)
  cases ha
  refine ⟨b, off + j, rfl, hb, fun i hi => ?_⟩
  rw [Nat.add_assoc, hc (j + i) (by omega)]
  simp [hi]

theorem bs_cells {w : World} {b off n cap : Nat} {xs : List Int} (h : Wc.Bs w (.slice (some ⟨b, off, none⟩) n cap) xs) (h0 : 0 < n) : xs.length = n ∧ ∀ i, i < n → w.cell? ⟨b, off + i, none⟩ = some (.int .u8 (xs.getD i 0)) := by
  obtain ⟨a, n', cap', h1, h2, h3, h4, h5, h6, h7⟩ := h
  cases h1
  obtain ⟨b', off', ha, hb, hc⟩ := h7 h0
  cases ha
  exact ⟨h2, hc⟩

theorem bs_bytes {w : World} {v : Value} {xs : List Int} (h : Wc.Bs w v xs) : ∀ x ∈ xs, 0 ≤ x ∧ x < 256 := by
  obtain ⟨a, n', cap', h1, h2, h3, h4, h5, h6, h7⟩ := h
  exact h6

theorem bs_len {w : World} {a : Option Addr} {n cap : Nat} {xs : List Int} (h : Wc.Bs w (.slice a n cap) xs) : xs.length = n := by
  obtain ⟨a, n', cap', h1, h2, h3, h4, h5, h6, h7⟩ := h
  cases h1
  exact h2

theorem bs_cap {w : World} {a : Option Addr} {n cap : Nat} {xs : List Int} (h : Wc.Bs w (.slice a n cap) xs) : n ≤ cap ∧ cap ≤ 9223372036854775807 := by
  obtain ⟨a, n', cap', h1, h2, h3, h4, h5, h6, h7⟩ := h
  cases h1
  exact ⟨h3, h4⟩

theorem made_zero (n : Nat) : (madeCells #[Value.int .u8 0] n).toList = (List.replicate n (0 : Int)).map (Value.int .u8) := by
  rw [toList_madeCells_one, List.map_replicate]

theorem low (m i : Int) (h0 : 0 < m) (h : m ≤ 4294967296) : ∃ A : Int, (0 ≤ A ∧ A < m) ∧ wrap64 ((IntKind.u64.wrap i).tmod m) = A := by
  rw [IntKind.wrap_u64, Int.tmod_eq_emod_of_nonneg (by omega)]
  have h1 := Int.emod_nonneg (i % 18446744073709551616) (b := m) (by omega)
  have h2 := Int.emod_lt_of_pos (i % 18446744073709551616) (b := m) h0
  exact ⟨_, ⟨h1, h2⟩, by unfold wrap64; omega⟩

theorem putR_ok (xs : List Int) (p s m : Int) (hs : Wc.rsB s = true) (hf : 0 ≤ m ∧ m ≤ 4611686018427387903 ∧ m < 256 ^ s.toNat) (hp : Wc.inB xs.length p s = true) :
    Wc.putR xs p s m = (Wc.putL xs p.toNat s.toNat m, 0) := by
  have := (Wc.fitB_iff hs).2 hf
  unfold Wc.putR
  rw [hs, this, hp]; simp

theorem getR_ok (xs : List Int) (p s m : Int) (hs : Wc.rsB s = true) (hp : Wc.inB xs.length p s = true) (hm : Wc.val ((xs.drop p.toNat).take s.toNat) = m) (hle : m ≤ 4611686018427387903) :
    Wc.getR xs p s = (m, 0) := by
  unfold Wc.getR
  rw [hs, hp, hm]; simp [hle]

/-- New cells hold bytes, whatever of them bears a mark. -/
theorem Bs.litF (w : World) (cs : Array Value) (e n : Nat) (fr : Nat × Nat) (xs : List Int) (hn : xs.length = n) (hm : n ≤ 140737488355328) (hc : cs.toList = xs.map (Value.int .u8)) (hx : ∀ x ∈ xs, 0 ≤ x ∧ x < 256) :
    Bs (w.alloc (.cells cs e fr)) (.slice (some ⟨w.heap.size, 0, none⟩) n n) xs := by
  refine ⟨_, n, n, rfl, hn, Nat.le_refl _, by omega, hm, hx, fun _ => ⟨w.heap.size, 0, rfl, by simp, fun i hi => ?_⟩⟩
  rw [Nat.zero_add, World.cell?_alloc_mark, ← Array.getElem?_toList, hc]
  simp [hn, hi]

/-- A slice that is nil, or has an address: as one comes in, or is made. -/
def Shaped (v : Value) : Prop := v = .slice none 0 0 ∨ ∃ ad n cap, v = .slice (some ad) n cap

theorem Shaped.of_row {w : World} {a : Option Addr} {len cap : Nat} {zs : List Int}
    (h : (a = none ∧ len = 0 ∧ cap = 0 ∧ zs = []) ∨
      ∃ x, a = some x ∧ len ≤ cap ∧ cap ≤ maxLen ∧ zs.length = cap ∧ (∀ i, i < zs.length → w.cell? (x.add i) = some (.int .u8 (zs.getD i 0))) ∧ ∀ n ∈ zs, (Lit.int .u8 n).wf = true) :
    Shaped (.slice a len cap) := by
  rcases h with ⟨rfl, rfl, rfl, -⟩ | ⟨x, rfl, -⟩
  · exact .inl rfl
  · exact .inr ⟨x, len, cap, rfl⟩

theorem bs_drewN {w : World} {v : Value} {xs : List Int} (h : Bs w v xs) (n : Nat) : Bs (w.drewN n) v xs := h.keep (below_drewN (Below.refl _ _) n)

theorem quiet_same {P : Program} {f : FuncId} {args : Array Value} {w : World} {n : Nat} {v : Value}
    (h : Calls P f args (w.drewN n) fun e w' => e = .returned v ∧ w.drewN n = w') : Calls P f args (w.drewN n) fun e w'' => e = .returned v ∧ ∃ m, w'' = w.drewN m :=
  h.mono fun _ _ ⟨he, hm⟩ => ⟨he, n, hm.symm⟩

/-- Memory of the call's own, from the block base on, that holds bytes: e is the number of the bytes' type. -/
def Ob (e base : Nat) (w : World) (v : Value) (xs : List Int) : Prop :=
  w.ownsRow base e 1 v xs.length (xs.map (Value.int .u8)) ∧ xs.length ≤ 140737488355328 ∧ ∀ x ∈ xs, 0 ≤ x ∧ x < 256

theorem Ob.nil (e base : Nat) (w : World) : Ob e base w (.slice none 0 0) [] := ⟨World.ownsRow_nil _ _ _ _, by simp, by simp⟩

theorem Ob.bs {e base : Nat} {w : World} {v : Value} {xs : List Int} (h : Ob e base w v xs) : Bs w v xs := Bs.own h.1 h.2.1 h.2.2

theorem Ob.shaped {e base : Nat} {w : World} {v : Value} {xs : List Int} (h : Ob e base w v xs) : Shaped v := by
  rcases h.1.2 with ⟨rfl, _⟩ | ⟨g, cap, cur, rfl, _⟩
  · exact .inl rfl
  · exact .inr ⟨_, _, _, rfl⟩

/-- It stays where nothing that was there has turned. -/
theorem Ob.keep {e base : Nat} {w w' : World} {v : Value} {xs : List Int} (h : Ob e base w v xs) (hb : Below w.heap.size w w') : Ob e base w' v xs := by
  refine ⟨⟨h.1.1, ?_⟩, h.2⟩
  rcases h.1.2 with hn | ⟨g, cap, cur, hv, hbg, hg, rest⟩
  · exact .inl hn
  · refine .inr ⟨g, cap, cur, hv, hbg, ?_, rest⟩
    rw [hb.block g (Array.getElem?_eq_some_iff.1 hg).1]
    exact hg

theorem Ob.base {e base base' : Nat} {w : World} {v : Value} {xs : List Int} (h : Ob e base w v xs) (hb : base' ≤ base) : Ob e base' w v xs := by
  refine ⟨⟨h.1.1, ?_⟩, h.2⟩
  rcases h.1.2 with hn | ⟨g, cap, cur, hv, hbg, rest⟩
  · exact .inl hn
  · exact .inr ⟨g, cap, cur, hv, Nat.le_trans hb hbg, rest⟩

/-- Bytes are put behind memory of the call's own. -/
theorem append_run {P : Program} {e t ty base : Nat} {i : TypeInfo} {w : World} {v u : Value} {xs ys : List Int} (ht : P.underlying t = some (.slice e)) (hi : P.info? e = some i) (hz : i.zero = some (.int .u8 0)) (hsz : i.size = 1) (hby : i.bytes = 1)
    (hv : Ob e base w v xs) (hu : Bs w u ys) (hs : Shaped u) (hl : xs.length + ys.length ≤ 140737488355328) (hbase : base ≤ w.heap.size) :
    ∃ v' w', Sem.run P (Builtin.append_ #[t, t] ty #[v, u]) w = .ok v' w' ∧ Ob e base w' v' (xs ++ ys) ∧ Below base w w' := by
  have hbd : ∀ x ∈ xs ++ ys, 0 ≤ x ∧ x < 256 := by
    intro x hx
    rcases List.mem_append.1 hx with h | h
    · exact hv.2.2 x h
    · exact bs_bytes hu x h
  rcases hs with rfl | ⟨ad, n, cap, rfl⟩
  · have hr := run_append_owned_none (P := P) w base t ty e i 1 ht hi v _ _ hv.1
    have h0 := bs_len hu
    obtain rfl := List.eq_nil_of_length_eq_zero h0
    exact ⟨_, _, hr, by rw [List.append_nil]; exact hv, Below.refl _ _⟩
  · have h0 := bs_len hu
    obtain ⟨v', w', h1, h2, h3, h4⟩ := run_append_own (P := P) w base t ty e i (.int .u8 0) 1 1 ht hi hz hsz hby rfl (by decide) v _ _ hv.1 ad n cap (ys.map (Value.int .u8)) (by simpa using h0) (by
        intro j c hj
        have hjn : j < n := by have := (List.getElem?_eq_some_iff.1 hj).1; simpa [h0] using this
        rcases hu.open with ⟨_, a', cap', h, _⟩ | ⟨b, off, n', cap', h, _, _, _, _, _, _, _, hc⟩
        · cases h; omega
        · cases h
          rw [add_none, hc j hjn]; simpa [h0, hjn] using hj) (by
        intro c hc; obtain ⟨x, _, rfl⟩ := List.mem_map.1 hc; rfl) (by unfold maxLen; omega) (by omega) hbase
    refine ⟨v', w', h1, ⟨by simpa [h0] using h2, by simpa using hl, hbd⟩, ?_⟩
    exact (Below.refl _ _).grown h3 hbase (fun g hg => (hv.1.lt g hg).1)

/-- The walk over an append whose run is known; it may stand behind a guard that is met. -/
theorem wp_append {P : Program} {w w' : World} {ops : Array Oper} {rest : List Oper} {o : Oper} {a : Act} {Q : Exit → Act → World → Prop} {s x : Operand} {t : TypeId} {v u v' : Value}
    (hrun : Sem.run P (Builtin.append_ #[t, t] o.type #[v, u]) w = .ok v' w') (hw : Region.wanted o (yielded ops a.tmps) = true)
    (ho : o.op = .call { callee := .builtin .append, args := #[s, x], argTypes := #[t, t] }) (hs : a.eval s = v) (hx : a.eval x = u)
    (h : wpList P ops Q rest (a.put o.dst v') w') : wpList P ops Q (o :: rest) a w := by
  refine wpList_step fun K hK => ?_
  rw [if_pos hw]
  unfold Oper.wp
  simp [execOp, ho, resolve, invoke, builtin, hs, hx, hrun, Result.andThen]
  exact hK _ _ h

theorem mapM_some {α β : Type} {f : α → Option β} : ∀ (L : List α) (ys : List β), L.mapM f = some ys → ∀ i ∈ L, ∃ y, f i = some y
  | [], _, _ => by simp
  | a :: L, ys, h => by
    rw [List.mapM_cons] at h
    simp only [bind, Option.bind_eq_some_iff, pure, Option.some.injEq] at h
    obtain ⟨y, hy, zs, hzs, rfl⟩ := h
    intro i hi
    rcases List.mem_cons.1 hi with rfl | hi
    · exact ⟨y, hy⟩
    · exact mapM_some L zs hzs i hi

def intAt : Value → Int
  | .int _ z => z
  | _ => 0

/-- An array of numbers that came in, by value. -/
theorem open_array {P : Program} {W : World} {r : Reach} {b0 base n : Nat} {t e : TypeId} {k : IntKind} {v : Value} {H : Type} {enc : TypeId × Value → H} {sp : Nat → Bool} {held : Bool} {d : DataW H} {ps : List MemPlace}
    (hu : P.underlying t = some (.array n e)) (he : P.underlying e = some (.int k)) (h1 : P.cellsOf e = 1) (hc : P.cellsOf t = n)
    (hv : Value.okWide P W r b0 t v) (hd : DataW.Trod enc P W base sp held t v d ps) :
    ∃ zs : List Int, v = .agg (zs.map (Value.int k)).toArray ∧ zs.length = n ∧ ∀ z ∈ zs, (Lit.int k z).wf = true := by
  simp only [Value.okWide, hu] at hv
  obtain ⟨cs, rfl, hsz, _⟩ := hv
  rw [hc] at hsz
  obtain ⟨fuel, hf⟩ := hd
  cases fuel with
  | zero => simp [DataW.trod] at hf
  | succ m =>
    rw [DataW.trod_step] at hf
    unfold DataW.trodStep at hf
    simp only [hu, Value.cells] at hf
    rw [if_pos (by rw [hc]; simpa using hsz)] at hf
    simp only [Option.map_eq_some_iff] at hf
    obtain ⟨ys, hy, -⟩ := hf
    have hall : ∀ i, i < n → ∃ z, cs.toList[i]? = some (.int k z) ∧ (Lit.int k z).wf = true := by
      intro i hi
      obtain ⟨y, hy'⟩ := mapM_some _ _ hy i (by simpa using hi)
      obtain ⟨z, hz, -, wz⟩ := DataW.trod_int he hy'
      rw [h1, Nat.mul_one] at hz
      refine ⟨z, ?_, wz⟩
      have : ((cs.toList.drop i).take 1)[0]? = some (.int k z) := by rw [hz]; rfl
      simpa using this
    refine ⟨cs.toList.map intAt, ?_, by simpa using hsz, ?_⟩
    · have : (cs.toList.map intAt).map (Value.int k) = cs.toList := by
        refine List.ext_getElem (by simp) fun i h1' h2' => ?_
        obtain ⟨z, hz, -⟩ := hall i (by simpa [hsz] using h2')
        have e2 : cs.toList[i] = .int k z := by
          have := List.getElem?_eq_getElem h2'
          rw [this] at hz; exact Option.some.inj hz
        simp only [List.getElem_map, e2, intAt]
      rw [this]
    · intro z hz
      rw [List.mem_map] at hz
      obtain ⟨c, hcm, rfl⟩ := hz
      obtain ⟨i, hi, rfl⟩ := List.mem_iff_getElem.1 hcm
      obtain ⟨z, hz, wz⟩ := hall i (by simpa [hsz] using hi)
      rw [List.getElem?_eq_getElem hi] at hz
      rw [Option.some.inj hz]; exact wz

end Wc
namespace Go.Proofs.YtfflhiajbioheaaGreat
open Go.RowKit

set_option maxHeartbeats 400000 in
theorem twin_ob (v : Value) (xs : List Int) (w : World) (hv : Wc.Bs w v xs) (hs : Wc.Shaped v) :
    Calls Tryz.prog 16 #[v] w fun e w' => ∃ x, e = .returned x ∧ Wc.Ob 5 w.heap.size w' x xs ∧ Below w.heap.size w w' := by
  obtain ⟨i0, hi, hz0, hz1, hz2⟩ := info_parts Tryz.infoU8
  have hlen : xs.length ≤ 140737488355328 := by obtain ⟨_, n, _, _, h, _, _, h5, _⟩ := hv; omega
  obtain ⟨v', w', hrun, hO, hb⟩ := Wc.append_run (P := Tryz.prog) (ty := 48) Tryz.underlying48 hi hz0 hz1 hz2 (Wc.Ob.nil 5 w.heap.size w) hv hs (by simpa using hlen) (Nat.le_refl _)
  have HO := Wc.hid hO
  have HB := Wc.hid hb
  clear hO hb hv
  go_enter Tryz.func16, Tryz.ntmps16
  go_wp2_with (at_builtin; refine Wc.wp_append hrun rfl rfl rfl rfl ?_)
  go_ret
  exact ⟨_, rfl, HO.out, HB.out⟩

end Go.Proofs.YtfflhiajbioheaaGreat
namespace Wc

/-- One bit is shifted out. -/
def st (r : Nat) : Nat := r / 2 ^^^ r % 2 * 2197175160

/-- So many bits are shifted out. -/
def shk : Nat → Nat → Nat
  | 0, r => r
  | k + 1, r => st (shk k r)

/-- The bits behind bytes. -/
def crun : Nat → List Int → Nat
  | r, [] => r
  | r, x :: xs => crun (shk 8 (r ^^^ x.toNat)) xs

/-- What More tells. -/
def more (s : Int) (xs : List Int) : Int := ((4294967295 ^^^ crun (4294967295 ^^^ (s % 4294967296).toNat) xs : Nat) : Int)

/-- What Good tells. -/
def goodB (xs : List Int) : Bool := decide (4 ≤ xs.length) && (val (xs.drop (xs.length - 4)) == more 0 (xs.take (xs.length - 4)))

theorem xor_lt32 {a b : Nat} (ha : a < 4294967296) (hb : b < 4294967296) : a ^^^ b < 4294967296 := Nat.xor_lt_two_pow (n := 32) (by omega) (by omega)

theorem xor_self_left (a b : Nat) : a ^^^ (a ^^^ b) = b := by rw [← Nat.xor_assoc, Nat.xor_self, Nat.zero_xor]

theorem xor_zero_iff {a b : Nat} : a ^^^ b = 0 ↔ a = b := by
  constructor
  · intro h
    have := xor_self_left a b
    rw [h, Nat.xor_zero] at this
    exact this
  · rintro rfl; exact Nat.xor_self a

theorem st_lt {r : Nat} (h : r < 4294967296) : st r < 4294967296 := by
  unfold st
  refine xor_lt32 (by omega) ?_
  have : r % 2 ≤ 1 := by omega
  have : r % 2 * 2197175160 ≤ 1 * 2197175160 := Nat.mul_le_mul_right _ this
  omega

theorem st_zero : st 0 = 0 := by decide

theorem xor_half (a b : Nat) : (a ^^^ b) / 2 = a / 2 ^^^ b / 2 := by
  apply Nat.eq_of_testBit_eq
  intro i
  rw [Nat.testBit_xor, ← Nat.testBit_succ, ← Nat.testBit_succ, ← Nat.testBit_succ, Nat.testBit_xor]

theorem xor_low (a b : Nat) : (a ^^^ b) % 2 = (a + b) % 2 := by
  have h := Nat.testBit_xor a b 0
  rw [Nat.testBit_zero, Nat.testBit_zero, Nat.testBit_zero] at h
  rcases Nat.mod_two_eq_zero_or_one a with ha | ha <;> rcases Nat.mod_two_eq_zero_or_one b with hb | hb <;> rcases Nat.mod_two_eq_zero_or_one (a ^^^ b) with hc | hc <;> simp [ha, hb, hc] at h <;> omega

theorem st_xor (a b : Nat) : st (a ^^^ b) = st a ^^^ st b := by
  unfold st
  rw [xor_half, xor_low]
  have e : (a + b) % 2 * 2197175160 = a % 2 * 2197175160 ^^^ b % 2 * 2197175160 := by
    rcases Nat.mod_two_eq_zero_or_one a with ha | ha <;> rcases Nat.mod_two_eq_zero_or_one b with hb | hb <;> rw [Nat.add_mod, ha, hb] <;> decide
  rw [e]
  rw [Nat.xor_assoc, Nat.xor_assoc, ← Nat.xor_assoc (b / 2), Nat.xor_comm (b / 2) (a % 2 * 2197175160), Nat.xor_assoc (a % 2 * 2197175160)]

theorem st_ker {r : Nat} (h : r < 4294967296) (h0 : st r = 0) : r = 0 := by
  unfold st at h0
  have := xor_zero_iff.1 h0
  rcases Nat.mod_two_eq_zero_or_one r with hr | hr <;> rw [hr] at this <;> omega

theorem st_double (u : Nat) : st (2 * u) = u := by
  unfold st
  rw [show 2 * u / 2 = u by omega, show 2 * u % 2 = 0 by omega, Nat.zero_mul, Nat.xor_zero]

theorem shk_lt (k : Nat) {r : Nat} (h : r < 4294967296) : shk k r < 4294967296 := by
  induction k with
  | zero => exact h
  | succ k ih => exact st_lt ih

theorem shk_zero (k : Nat) : shk k 0 = 0 := by
  induction k with
  | zero => rfl
  | succ k ih => rw [shk, ih, st_zero]

theorem shk_xor (k a b : Nat) : shk k (a ^^^ b) = shk k a ^^^ shk k b := by
  induction k with
  | zero => rfl
  | succ k ih => rw [shk, ih, st_xor]; rfl

theorem shk_ker (k : Nat) {r : Nat} (h : r < 4294967296) (h0 : shk k r = 0) : r = 0 := by
  induction k with
  | zero => exact h0
  | succ k ih => exact ih (st_ker (shk_lt k h) h0)

theorem shk_inj (k : Nat) {a b : Nat} (ha : a < 4294967296) (hb : b < 4294967296) (h : shk k a = shk k b) : a = b := by
  refine xor_zero_iff.1 (shk_ker k (xor_lt32 ha hb) ?_)
  rw [shk_xor, h, Nat.xor_self]

theorem shk_add (a b r : Nat) : shk a (shk b r) = shk (a + b) r := by
  induction a with
  | zero => rw [Nat.zero_add]; rfl
  | succ a ih => rw [shk, ih, Nat.succ_add]; rfl

theorem shk_pow (k u : Nat) : shk k (2 ^ k * u) = u := by
  induction k generalizing u with
  | zero => simp [shk]
  | succ k ih => rw [shk, Nat.pow_succ, Nat.mul_assoc, ih, st_double]

theorem crun_append (r : Nat) (a b : List Int) : crun r (a ++ b) = crun (crun r a) b := by
  induction a generalizing r with
  | nil => rfl
  | cons x a ih => exact ih _

theorem crun_snoc (r : Nat) (a : List Int) (x : Int) : crun r (a ++ [x]) = shk 8 (crun r a ^^^ x.toNat) := crun_append r a [x]

theorem crun_lt (r : Nat) (a : List Int) (h : r < 4294967296) (ha : ∀ x ∈ a, 0 ≤ x ∧ x < 256) : crun r a < 4294967296 := by
  induction a generalizing r with
  | nil => exact h
  | cons x a ih =>
    have := ha x (by simp)
    exact ih _ (shk_lt 8 (xor_lt32 h (by omega))) (fun y hy => ha y (by simp [hy]))

/-- Bytes put together bit by bit. -/
def zipx (a b : List Int) : List Int := List.zipWith (fun x y => ((x.toNat ^^^ y.toNat : Nat) : Int)) a b

theorem crun_zipx (r s : Nat) (a b : List Int) (h : a.length = b.length) : crun (r ^^^ s) (zipx a b) = crun r a ^^^ crun s b := by
  induction a generalizing r s b with
  | nil =>
    cases b with
    | nil => rfl
    | cons => simp at h
  | cons x a ih =>
    cases b with
    | nil => simp at h
    | cons y b =>
      show crun (shk 8 (r ^^^ s ^^^ (x.toNat ^^^ y.toNat))) (zipx a b) = _
      have e : r ^^^ s ^^^ (x.toNat ^^^ y.toNat) = (r ^^^ x.toNat) ^^^ (s ^^^ y.toNat) := by
        rw [Nat.xor_assoc, Nat.xor_assoc, ← Nat.xor_assoc s, Nat.xor_comm s x.toNat, Nat.xor_assoc x.toNat]
      rw [e, shk_xor, ih _ _ b (by simpa using h)]
      rfl

theorem low_high (v : Nat) : v % 256 ^^^ 256 * (v / 256) = v := by
  apply Nat.eq_of_testBit_eq
  intro i
  have e : (256 : Nat) = 2 ^ 8 := by decide
  rw [Nat.testBit_xor, e, Nat.testBit_mod_two_pow, Nat.testBit_two_pow_mul, Nat.testBit_div_two_pow]
  by_cases h : i < 8
  · have h2 : ¬ 8 ≤ i := by omega
    simp [h, h2]
  · have h2 : 8 ≤ i := by omega
    simp [h, h2]

theorem crun_enc (k r v : Nat) (h : v < 256 ^ k) : crun r (enc k (v : Int)) = shk (8 * k) (r ^^^ v) := by
  induction k generalizing r v with
  | zero =>
    have : v = 0 := by simp at h; exact h
    subst this
    simp [enc, crun, shk]
  | succ k ih =>
    rw [Nat.pow_succ] at h
    have e : ((v : Int) / 256) = ((v / 256 : Nat) : Int) := by omega
    have e2 : ((v : Int) % 256).toNat = v % 256 := by omega
    rw [enc, crun, e, e2, ih _ _ (by omega)]
    conv => lhs; rw [← shk_pow 8 (v / 256), ← shk_xor, shk_add]
    rw [Nat.xor_assoc, show (2 : Nat) ^ 8 = 256 by decide, low_high]
    rfl

theorem more_range (s : Int) (xs : List Int) (hx : ∀ x ∈ xs, 0 ≤ x ∧ x < 256) : 0 ≤ more s xs ∧ more s xs < 4294967296 := by
  unfold more
  have := xor_lt32 (show 4294967295 < 4294967296 by omega) (crun_lt _ xs (xor_lt32 (show 4294967295 < 4294967296 by omega) (show (s % 4294967296).toNat < 4294967296 by omega)) hx)
  omega

theorem more_nil (s : Int) : more s [] = s % 4294967296 := by
  unfold more crun
  rw [xor_self_left]
  omega

theorem more_append (s : Int) (a b : List Int) (ha : ∀ x ∈ a, 0 ≤ x ∧ x < 256) : more s (a ++ b) = more (more s a) b := by
  have h := more_range s a ha
  have e : (more s a % 4294967296).toNat = 4294967295 ^^^ crun (4294967295 ^^^ (s % 4294967296).toNat) a := by
    rw [Int.emod_eq_of_lt h.1 h.2]; rfl
  rw [more, more, e, crun_append, xor_self_left]

theorem more_zero (xs : List Int) : more 0 xs = ((4294967295 ^^^ crun 4294967295 xs : Nat) : Int) := rfl

/-- Three texts of one length. -/
theorem more_three (a b c : List Int) (h1 : a.length = b.length) (h2 : a.length = c.length) :
    4294967295 ^^^ crun 4294967295 (zipx (zipx a b) c) = (4294967295 ^^^ crun 4294967295 a) ^^^ (4294967295 ^^^ crun 4294967295 b) ^^^ (4294967295 ^^^ crun 4294967295 c) := by
  have h3 : (zipx a b).length = c.length := by simp [zipx]; omega
  have e := crun_zipx (4294967295 ^^^ 4294967295) 4294967295 (zipx a b) c h3
  rw [crun_zipx 4294967295 4294967295 a b h1, Nat.xor_self, Nat.zero_xor] at e
  rw [e]
  generalize crun 4294967295 a = p
  generalize crun 4294967295 b = q
  generalize crun 4294967295 c = r
  apply Nat.eq_of_testBit_eq
  intro i
  simp only [Nat.testBit_xor]
  cases Nat.testBit 4294967295 i <;> cases p.testBit i <;> cases q.testBit i <;> cases r.testBit i <;> rfl

/-- Bytes are good just if the bits behind all of them are these. -/
theorem good_iff (xs : List Int) (hx : ∀ x ∈ xs, 0 ≤ x ∧ x < 256) (h4 : 4 ≤ xs.length) : goodB xs = true ↔ crun 4294967295 xs = shk 32 4294967295 := by
  have hl : (xs.drop (xs.length - 4)).length = 4 := by simp; omega
  have hd : ∀ x ∈ xs.drop (xs.length - 4), 0 ≤ x ∧ x < 256 := fun x h => hx x (List.mem_of_mem_drop h)
  have ht : ∀ x ∈ xs.take (xs.length - 4), 0 ≤ x ∧ x < 256 := fun x h => hx x (List.mem_of_mem_take h)
  have hv := val_bd _ hd
  have he := enc_val _ hd
  have ha : xs.take (xs.length - 4) ++ xs.drop (xs.length - 4) = xs := List.take_append_drop _ _
  have hr := crun_lt 4294967295 _ (by omega) ht
  rw [hl] at hv he
  have e0 : goodB xs = true ↔ val (xs.drop (xs.length - 4)) = ((4294967295 ^^^ crun 4294967295 (xs.take (xs.length - 4)) : Nat) : Int) := by
    unfold goodB
    simp only [h4, decide_true, Bool.true_and, beq_iff_eq, more_zero]
  have e1 : crun 4294967295 xs = crun (crun 4294967295 (xs.take (xs.length - 4))) (xs.drop (xs.length - 4)) := by
    rw [← crun_append, ha]
  rw [e0, e1]
  generalize crun 4294967295 (xs.take (xs.length - 4)) = r at *
  generalize xs.drop (xs.length - 4) = d at *
  obtain ⟨v, hv'⟩ := Int.eq_ofNat_of_zero_le hv.1
  rw [hv'] at he hv ⊢
  have hv2 : v < 256 ^ 4 := by have := hv.2; omega
  rw [← he, crun_enc 4 r v hv2]
  constructor
  · intro h
    have h' : v = 4294967295 ^^^ r := by omega
    rw [h', Nat.xor_comm 4294967295 r, xor_self_left]
  · intro h
    have := shk_inj 32 (xor_lt32 hr (by omega)) (by omega) h
    rw [← this, Nat.xor_comm r v, Nat.xor_assoc, Nat.xor_self, Nat.xor_zero]

theorem crun_zeros (m r : Nat) : crun r (List.replicate m 0) = shk (8 * m) r := by
  induction m generalizing r with
  | zero => rfl
  | succ m ih =>
    rw [List.replicate_succ, crun, ih, shk_add]
    show shk (8 * m + 8) (r ^^^ 0) = _
    rw [Nat.xor_zero]; rfl

theorem val_zero (l : List Int) (h : ∀ x ∈ l, 0 ≤ x ∧ x < 256) : val l = 0 ↔ ∀ x ∈ l, x = 0 := by
  induction l with
  | nil => simp [val]
  | cons a l ih =>
    have h1 := h a (by simp)
    have h2 := val_nonneg l (fun x hx => h x (by simp [hx]))
    have h3 := ih (fun x hx => h x (by simp [hx]))
    simp only [val, List.mem_cons, forall_eq_or_imp]
    rw [← h3]; omega

/-- What is put to bytes: a run at a place. -/
def runAt (p m : Nat) (x : List Int) : List Int := List.replicate p 0 ++ (x ++ List.replicate m 0)

theorem crun_runAt (p m : Nat) (x : List Int) (hl : x.length = 4) (hx : ∀ y ∈ x, 0 ≤ y ∧ y < 256) : crun 0 (runAt p m x) = 0 ↔ ∀ y ∈ x, y = 0 := by
  have hv := val_bd _ hx
  have he := enc_val _ hx
  rw [hl] at hv he
  rw [← val_zero x hx]
  obtain ⟨v, hv'⟩ := Int.eq_ofNat_of_zero_le hv.1
  rw [hv'] at he hv ⊢
  have hv2 : v < 256 ^ 4 := by have := hv.2; omega
  unfold runAt
  rw [crun_append, crun_append, crun_zeros, crun_zeros, shk_zero, ← he, crun_enc 4 0 v hv2, Nat.zero_xor, shk_add]
  constructor
  · intro h; have := shk_ker _ (show v < 4294967296 by omega) h; omega
  · intro h; have : v = 0 := by omega
    rw [this, shk_zero]

/-- Bytes that are good, with a run of four changed, are good just if nothing was. -/
theorem good_changed (c : List Int) (p m : Nat) (x : List Int) (hc : ∀ y ∈ c, 0 ≤ y ∧ y < 256) (hl : x.length = 4) (hx : ∀ y ∈ x, 0 ≤ y ∧ y < 256) (hn : c.length = p + 4 + m) (hg : goodB c = true)
    (hz : ∀ y ∈ zipx c (runAt p m x), 0 ≤ y ∧ y < 256) : goodB (zipx c (runAt p m x)) = true ↔ ∀ y ∈ x, y = 0 := by
  have h1 : c.length = (runAt p m x).length := by simp [runAt, hl]; omega
  have h2 : (zipx c (runAt p m x)).length = c.length := by simp only [zipx, List.length_zipWith]; omega
  have h3 := (good_iff c hc (by omega)).1 hg
  have h4 := crun_zipx 4294967295 0 c (runAt p m x) h1
  rw [Nat.xor_zero, h3] at h4
  rw [good_iff _ hz (by omega), h4, ← crun_runAt p m x hl hx]
  constructor
  · intro h
    have := xor_self_left (shk 32 4294967295) (crun 0 (runAt p m x))
    rw [h, Nat.xor_self] at this
    exact this.symm
  · intro h; rw [h, Nat.xor_zero]

theorem zipx_bd (a b : List Int) (ha : ∀ y ∈ a, 0 ≤ y ∧ y < 256) (hb : ∀ y ∈ b, 0 ≤ y ∧ y < 256) : ∀ y ∈ zipx a b, 0 ≤ y ∧ y < 256 := by
  intro y hy
  unfold zipx at hy
  rw [List.mem_iff_getElem] at hy
  obtain ⟨i, hi, rfl⟩ := hy
  rw [List.getElem_zipWith]
  simp only [List.length_zipWith] at hi
  have h1 := ha a[i] (List.getElem_mem _)
  have h2 := hb b[i] (List.getElem_mem _)
  have := Nat.xor_lt_two_pow (n := 8) (x := a[i].toNat) (y := b[i].toNat) (by omega) (by omega)
  omega

/-- Bytes with their sum behind are good. -/
theorem good_sealed (b : List Int) (hb : ∀ y ∈ b, 0 ≤ y ∧ y < 256) : goodB (b ++ enc 4 (more 0 b)) = true := by
  have h := more_range 0 b hb
  have e : (b ++ enc 4 (more 0 b)).length - 4 = b.length := by simp [enc_length]
  unfold goodB
  rw [e, List.drop_left, List.take_left, val_enc 4 _ h.1 (by omega)]
  simp [enc_length]

end Wc
namespace Go.Proofs.YtfflhiajbioheaaGreat
open Go.RowKit

theorem ret_int {a b : Int} (h : a = b) : Ending.returned (.int .i64 a) = .returned (.int .i64 b) := by rw [h]

theorem step_u32 (r : Nat) (h : r < 4294967296) : bits BinOp.xor IntKind.u32 ((r : Int) / 2) (bits BinOp.and IntKind.u32 (r : Int) 1 * 2197175160 % 4294967296) = ((Wc.st r : Nat) : Int) := by
  have h1 : bits BinOp.and IntKind.u32 (r : Int) 1 = ((r % 2 : Nat) : Int) := by
    have := u32_and_nat r 1 h (by omega)
    rw [Nat.and_one_is_mod] at this
    exact this
  have h2 : r % 2 * 2197175160 < 4294967296 := by
    have : r % 2 ≤ 1 := by omega
    have : r % 2 * 2197175160 ≤ 1 * 2197175160 := Nat.mul_le_mul_right _ this
    omega
  rw [h1, show ((r % 2 : Nat) : Int) * 2197175160 = ((r % 2 * 2197175160 : Nat) : Int) by omega, Int.emod_eq_of_lt (by omega) (by omega), show (r : Int) / 2 = ((r / 2 : Nat) : Int) by omega, u32_xor_nat _ _ (by omega) h2]
  rfl

set_option maxHeartbeats 400000 in
theorem shift_any (r : Nat) (w : World) (h : r < 4294967296) :
    Calls Tryz.prog 81 #[.int .u32 r] w fun e w' => e = .returned (.int .u32 (Wc.shk 8 r : Nat)) ∧ w = w' := by
  go_enter Tryz.func81, Tryz.ntmps81
  go_wp2
  go_loop [0, 3] (fun v i => ∃ k q : Nat, k ≤ 8 ∧ i = .int .i64 k ∧ v = .int .u32 q ∧ q < 4294967296 ∧ Hid (q = Wc.shk k r)) (fun _ i => 8 - (intOf i).toNat)
  case atStart => exact ⟨0, r, by omega, rfl, rfl, h, Wc.hid rfl⟩
  case round =>
    obtain ⟨k, q, hk, rfl, rfl, hq, HQ⟩ := hrel
    by_cases hlt : k < 8
    · go_wp2
      go_round
      case rel => exact ⟨k + 1, Wc.st q, by omega, by go_num, by rw [step_u32 q hq], Wc.st_lt hq, Wc.hid (by rw [HQ.out]; rfl)⟩
      case measure => simp [intOf]; omega
    · obtain rfl : k = 8 := by omega
      go_wp2
      go_ret
      exact ⟨by rw [HQ.out]; rfl, rfl⟩

theorem not_u32 (r : Nat) (h : r < 4294967296) : bits BinOp.xor IntKind.u32 IntKind.u32.max (r : Int) = ((4294967295 ^^^ r : Nat) : Int) := u32_xor_nat 4294967295 r (by omega) h

theorem xor_byte (q : Nat) (z : Int) (h : q < 4294967296) (h0 : 0 ≤ z) (h1 : z < 256) : bits BinOp.xor IntKind.u32 (q : Int) (z % 4294967296) = ((q ^^^ z.toNat : Nat) : Int) := by
  obtain ⟨a, rfl⟩ := Int.eq_ofNat_of_zero_le h0
  rw [Int.emod_eq_of_lt h0 (by omega), u32_xor_nat _ _ h (by omega), Int.toNat_natCast]

theorem wrap_not (q : Nat) (h : q < 4294967296) : wrap64 (bits BinOp.xor IntKind.u32 IntKind.u32.max (q : Int)) = ((4294967295 ^^^ q : Nat) : Int) := by
  have := Wc.xor_lt32 (show 4294967295 < 4294967296 by omega) h
  rw [not_u32 q h]
  unfold wrap64; omega

theorem take_next (xs : List Int) (k : Nat) (h : k < xs.length) : xs.take (k + 1) = xs.take k ++ [xs.getD k 0] := by
  rw [List.take_succ_eq_append_getElem h]
  simp [List.getD, h]

set_option maxHeartbeats 400000 in
theorem more_pos (s : Int) (b off n cap : Nat) (xs : List Int) (w : World) (hn : n ≤ 140737488355328) (hl : xs.length = n) (hx : ∀ x ∈ xs, 0 ≤ x ∧ x < 256)
   (hc : ∀ i, i < n → w.cell? ⟨b, off + i, none⟩ = some (.int .u8 (xs.getD i 0))) :
    Calls Tryz.prog 61 #[.int .i64 s, .slice (some ⟨b, off, none⟩) n cap] w fun e w' => e = .returned (.int .i64 (Wc.more s xs)) ∧ w = w' := by
  have HL : Hid (xs.length = n) := hl
  clear hl
  obtain ⟨t, ht⟩ : ∃ t : Nat, s % 4294967296 = (t : Int) := Int.eq_ofNat_of_zero_le (by omega)
  have ht2 : t < 4294967296 := by omega
  have HN := not_u32 t ht2
  go_enter Tryz.func61, Tryz.ntmps61
  go_wp2
  go_loop [5, 13] (fun v i => ∃ k q : Nat, k ≤ n ∧ i = .int .i64 k ∧ v = .int .u32 q ∧ q < 4294967296 ∧ Hid (q = Wc.crun (4294967295 ^^^ t) (xs.take k))) (fun _ i => n - (intOf i).toNat)
  case atStart => exact ⟨0, _, by omega, rfl, rfl, Wc.xor_lt32 (by omega) ht2, Wc.hid rfl⟩
  case round =>
    obtain ⟨k, q, hk, rfl, rfl, hq, HQ⟩ := hrel
    by_cases hlt : k < n
    · have hcell := hc k hlt
      have hz := hx (xs.getD k 0) (by have := HL.out; rw [List.getD_eq_getElem?_getD, List.getElem?_eq_getElem (by omega)]; simp)
      have HX := xor_byte q _ hq hz.1 hz.2
      have hq2 := Wc.xor_lt32 hq (show (xs.getD k 0).toNat < 4294967296 by omega)
      have HS : Hid (Wc.crun (4294967295 ^^^ t) (xs.take (k + 1)) = Wc.shk 8 (q ^^^ (xs.getD k 0).toNat)) := Wc.hid (by
        rw [take_next xs k (by rw [HL.out]; omega), Wc.crun_snoc, ← HQ.out])
      rw [List.getD_eq_getElem?_getD] at HX hq2 HS
      clear hz
      go_wp2_with fail
      refine (shift_any _ _ hq2).mono ?_
      rintro e w' ⟨rfl, rfl⟩
      go_wp2
      go_round
      case rel => exact ⟨k + 1, _, by omega, by go_num, rfl, Wc.shk_lt 8 hq2, Wc.hid HS.out.symm⟩
      case measure => simp [intOf]; omega
    · obtain rfl : k = n := by omega
      go_wp2
      go_ret
      have e : Wc.more s xs = ((4294967295 ^^^ q : Nat) : Int) := by
        unfold Wc.more
        rw [ht, Int.toNat_natCast, HQ.out, List.take_of_length_le (by rw [HL.out]; omega)]
      rw [e]
      exact ⟨ret_int (wrap_not q hq), rfl⟩

set_option maxHeartbeats 400000 in
theorem more_zero (s : Int) (a : Option Addr) (cap : Nat) (w : World) :
    Calls Tryz.prog 61 #[.int .i64 s, .slice a 0 cap] w fun e w' => e = .returned (.int .i64 (Wc.more s [])) ∧ w = w' := by
  obtain ⟨t, ht⟩ : ∃ t : Nat, s % 4294967296 = (t : Int) := Int.eq_ofNat_of_zero_le (by omega)
  have ht2 : t < 4294967296 := by omega
  have HN := not_u32 t ht2
  go_enter Tryz.func61, Tryz.ntmps61
  go_wp2
  go_loop [5, 13] (fun v i => i = .int .i64 0 ∧ v = .int .u32 ((4294967295 ^^^ t : Nat) : Int)) (fun _ i => 0)
  case atStart => exact ⟨rfl, rfl⟩
  case round =>
    obtain ⟨rfl, rfl⟩ := hrel
    go_wp2
    go_ret
    have e : Wc.more s [] = ((4294967295 ^^^ (4294967295 ^^^ t) : Nat) : Int) := by
      unfold Wc.more
      rw [ht, Int.toNat_natCast]; rfl
    rw [e]
    exact ⟨ret_int (wrap_not _ (Wc.xor_lt32 (by omega) ht2)), rfl⟩

theorem more_any (s : Int) (v : Value) (xs : List Int) (w : World) (hv : Wc.Bs w v xs) :
    Calls Tryz.prog 61 #[.int .i64 s, v] w fun e w' => e = .returned (.int .i64 (Wc.more s xs)) ∧ w = w' := by
  rcases hv.open with ⟨rfl, a, cap, rfl, _⟩ | ⟨b, off, n, cap, rfl, h0, hl, _, _, hn, hx, _, hc⟩
  · exact more_zero s a cap w
  · exact more_pos s b off n cap xs w hn hl hx hc

set_option maxHeartbeats 400000 in
theorem sum_any (v : Value) (xs : List Int) (w : World) (hv : Wc.Bs w v xs) :
    Calls Tryz.prog 43 #[v] w fun e w' => e = .returned (.int .i64 (Wc.more 0 xs)) ∧ w = w' := by
  have h := fun (w1 : World) (h1 : w1 = w) => more_any 0 v xs w1 (h1 ▸ hv)
  go_enter Tryz.func43, Tryz.ntmps43
  go_wp2_with fail
  refine (h _ rfl).mono ?_
  rintro e w' ⟨rfl, rfl⟩
  go_wp2
  go_ret
  exact ⟨rfl, rfl⟩

theorem good_short (xs : List Int) (h : xs.length < 4) : Wc.goodB xs = false := by
  unfold Wc.goodB
  rw [decide_eq_false (by omega)]; rfl

theorem good_long (xs : List Int) (n : Nat) (hl : xs.length = n) (h : 4 ≤ n) : Wc.goodB xs = (Wc.val (xs.drop (n - 4)) == Wc.more 0 (xs.take (n - 4))) := by
  subst hl
  unfold Wc.goodB
  rw [decide_eq_true h]; rfl

theorem get_last (xs : List Int) (n : Nat) (hl : xs.length = n) (h : 4 ≤ n) (hx : ∀ x ∈ xs, 0 ≤ x ∧ x < 256) : Wc.getR xs ((n - 4 : Nat) : Int) 4 = (Wc.val (xs.drop (n - 4)), 0) := by
  have e : (xs.drop (n - 4)).length = 4 := by simp; omega
  have hb := Wc.val_bd (xs.drop (n - 4)) (fun x h => hx x (List.mem_of_mem_drop h))
  rw [e] at hb
  refine Wc.getR_ok _ _ _ _ (by decide) (Wc.inB_iff.2 (by omega)) ?_ (by omega)
  rw [Int.toNat_natCast, List.take_of_length_le (by rw [e]; decide)]

set_option maxHeartbeats 400000 in
theorem good_any (v : Value) (xs : List Int) (w : World) (hv : Wc.Bs w v xs) :
    Calls Tryz.prog 94 #[v] w fun e w' => e = .returned (.bool (Wc.goodB xs)) ∧ w = w' := by
  have HV := Wc.hid hv
  rcases hv.open with ⟨rfl, a, cap, rfl, _⟩ | ⟨b, off, n, cap, rfl, h0, hl, hcap, hcap2, hn, hx, _, hc⟩
  · go_enter Tryz.func94, Tryz.ntmps94
    go_wp2
    go_ret
    exact ⟨rfl, rfl⟩
  · clear hv hc
    by_cases h4 : n < 4
    · rw [good_short xs (by omega)]
      clear hl
      go_enter Tryz.func94, Tryz.ntmps94
      go_wp2
      go_ret
      exact ⟨rfl, rfl⟩
    · obtain ⟨m, rfl⟩ : ∃ m, n = m + 4 := ⟨n - 4, by omega⟩
      have HG := Wc.hid (get_last xs (m + 4) hl (by omega) hx)
      have HE := Wc.hid (good_long xs (m + 4) hl (by omega))
      rw [show m + 4 - 4 = m by omega] at HG HE
      rw [HE.out]
      clear hl hx
      go_enter Tryz.func94, Tryz.ntmps94
      go_wp2_with fail
      refine (get_any _ xs _ _ _ HV.out).mono ?_
      rintro e w2 ⟨rfl, rfl⟩
      rw [HG.out]
      go_wp2_with fail
      refine (sum_any _ _ _ (Wc.bs_take HV.out m (by omega))).mono ?_
      rintro e w3 ⟨rfl, rfl⟩
      go_wp2_with fail
      go_ret
      exact ⟨rfl, rfl⟩

theorem step_ref1 (q : Nat) (hq : q < 4294967296) (h : q % 2 = 1) : bits BinOp.xor IntKind.u32 ((q : Int) / 2) 2197175160 = ((Wc.st q : Nat) : Int) := by
  rw [show (q : Int) / 2 = ((q / 2 : Nat) : Int) by omega]
  have := u32_xor_nat (q / 2) 2197175160 (by omega) (by omega)
  unfold Wc.st
  rw [h, Nat.one_mul]; exact this

theorem step_ref0 (q : Nat) (h : q % 2 = 0) : ((q : Int) / 2) = ((Wc.st q : Nat) : Int) := by
  unfold Wc.st
  rw [h, Nat.zero_mul, Nat.xor_zero]; omega

set_option maxHeartbeats 400000 in
theorem refMore_pos (s : Int) (b off n cap : Nat) (xs : List Int) (w : World) (hn : n ≤ 140737488355328) (hl : xs.length = n) (hx : ∀ x ∈ xs, 0 ≤ x ∧ x < 256)
   (hc : ∀ i, i < n → w.cell? ⟨b, off + i, none⟩ = some (.int .u8 (xs.getD i 0))) :
    Calls Tryz.prog 82 #[.int .i64 s, .slice (some ⟨b, off, none⟩) n cap] w fun e w' => e = .returned (.int .i64 (Wc.more s xs)) ∧ w = w' := by
  have HL : Hid (xs.length = n) := hl
  clear hl
  obtain ⟨t, ht⟩ : ∃ t : Nat, s % 4294967296 = (t : Int) := Int.eq_ofNat_of_zero_le (by omega)
  have ht2 : t < 4294967296 := by omega
  have HN := not_u32 t ht2
  go_enter Tryz.func82, Tryz.ntmps82
  go_wp2
  go_loop [5, 6] (fun v i => ∃ k q : Nat, k ≤ n ∧ i = .int .i64 k ∧ v = .int .u32 q ∧ q < 4294967296 ∧ Hid (q = Wc.crun (4294967295 ^^^ t) (xs.take k))) (fun _ i => n - (intOf i).toNat)
  case atStart => exact ⟨0, _, by omega, rfl, rfl, Wc.xor_lt32 (by omega) ht2, Wc.hid rfl⟩
  case round =>
    obtain ⟨k, q, hk, rfl, rfl, hq, HQ⟩ := hrel
    by_cases hlt : k < n
    · have hcell := hc k hlt
      have hz := hx (xs.getD k 0) (by have := HL.out; rw [List.getD_eq_getElem?_getD, List.getElem?_eq_getElem (by omega)]; simp)
      have HX := xor_byte q _ hq hz.1 hz.2
      have hq2 := Wc.xor_lt32 hq (show (xs.getD k 0).toNat < 4294967296 by omega)
      have HS : Hid (Wc.crun (4294967295 ^^^ t) (xs.take (k + 1)) = Wc.shk 8 (q ^^^ (xs.getD k 0).toNat)) := Wc.hid (by
        rw [take_next xs k (by rw [HL.out]; omega), Wc.crun_snoc, ← HQ.out])
      rw [List.getD_eq_getElem?_getD] at HX hq2 HS
      clear hz
      go_wp2
      go_loop [5, 7] (fun v i => ∃ j p : Nat, j ≤ 8 ∧ i = .int .i64 j ∧ v = .int .u32 p ∧ p < 4294967296 ∧ Hid (p = Wc.shk j (q ^^^ (xs[k]?.getD 0).toNat))) (fun _ i => 8 - (intOf i).toNat)
      case atStart => exact ⟨0, _, by omega, rfl, rfl, hq2, Wc.hid rfl⟩
      case round =>
        obtain ⟨j, p, hj, rfl, rfl, hp, HP⟩ := hrel
        by_cases hjt : j < 8
        · by_cases hodd : p % 2 = 1
          · have h1 : ((p : Int) % 2 == 1) = true := by rw [beq_iff_eq]; omega
            have HS1 := step_ref1 p hp hodd
            clear hodd
            go_wp2
            go_round
            case rel => exact ⟨j + 1, _, by omega, by go_num, rfl, Wc.st_lt hp, Wc.hid (by rw [HP.out]; rfl)⟩
            case measure => simp [intOf]; omega
          · have h1 : ((p : Int) % 2 == 1) = false := by rw [beq_eq_false_iff_ne]; omega
            have HS1 := step_ref0 p (by omega)
            clear hodd
            go_wp2
            go_round
            case rel => exact ⟨j + 1, _, by omega, by go_num, rfl, Wc.st_lt hp, Wc.hid (by rw [HP.out]; rfl)⟩
            case measure => simp [intOf]; omega
        · obtain rfl : j = 8 := by omega
          go_wp2
          go_round
          case rel => exact ⟨k + 1, _, by omega, by go_num, rfl, hp, Wc.hid (by rw [HP.out, HS.out])⟩
          case measure => simp [intOf]; omega
    · obtain rfl : k = n := by omega
      go_wp2
      go_ret
      have e : Wc.more s xs = ((4294967295 ^^^ q : Nat) : Int) := by
        unfold Wc.more
        rw [ht, Int.toNat_natCast, HQ.out, List.take_of_length_le (by rw [HL.out]; omega)]
      rw [e]
      exact ⟨ret_int (wrap_not q hq), rfl⟩

set_option maxHeartbeats 400000 in
theorem refMore_zero (s : Int) (a : Option Addr) (cap : Nat) (w : World) :
    Calls Tryz.prog 82 #[.int .i64 s, .slice a 0 cap] w fun e w' => e = .returned (.int .i64 (Wc.more s [])) ∧ w = w' := by
  obtain ⟨t, ht⟩ : ∃ t : Nat, s % 4294967296 = (t : Int) := Int.eq_ofNat_of_zero_le (by omega)
  have ht2 : t < 4294967296 := by omega
  have HN := not_u32 t ht2
  go_enter Tryz.func82, Tryz.ntmps82
  go_wp2
  go_loop [5, 6] (fun v i => i = .int .i64 0 ∧ v = .int .u32 ((4294967295 ^^^ t : Nat) : Int)) (fun _ i => 0)
  case atStart => exact ⟨rfl, rfl⟩
  case round =>
    obtain ⟨rfl, rfl⟩ := hrel
    go_wp2
    go_ret
    have e : Wc.more s [] = ((4294967295 ^^^ (4294967295 ^^^ t) : Nat) : Int) := by
      unfold Wc.more
      rw [ht, Int.toNat_natCast]; rfl
    rw [e]
    exact ⟨ret_int (wrap_not _ (Wc.xor_lt32 (by omega) ht2)), rfl⟩

theorem refMore_any (s : Int) (v : Value) (xs : List Int) (w : World) (hv : Wc.Bs w v xs) :
    Calls Tryz.prog 82 #[.int .i64 s, v] w fun e w' => e = .returned (.int .i64 (Wc.more s xs)) ∧ w = w' := by
  rcases hv.open with ⟨rfl, a, cap, rfl, _⟩ | ⟨b, off, n, cap, rfl, h0, hl, _, _, hn, hx, _, hc⟩
  · exact refMore_zero s a cap w
  · exact refMore_pos s b off n cap xs w hn hl hx hc

set_option maxHeartbeats 400000 in
theorem refSum_any (v : Value) (xs : List Int) (w : World) (hv : Wc.Bs w v xs) :
    Calls Tryz.prog 62 #[v] w fun e w' => e = .returned (.int .i64 (Wc.more 0 xs)) ∧ w = w' := by
  have h := fun (w1 : World) (h1 : w1 = w) => refMore_any 0 v xs w1 (h1 ▸ hv)
  go_enter Tryz.func62, Tryz.ntmps62
  go_wp2_with fail
  refine (h _ rfl).mono ?_
  rintro e w' ⟨rfl, rfl⟩
  go_wp2
  go_ret
  exact ⟨rfl, rfl⟩

end Go.Proofs.YtfflhiajbioheaaGreat
namespace Go.Proofs.YtfflhiajbioheaaGreat
open Go.RowKit

theorem num_four (ys : List Int) (hl : ys.length = 4) (hx : ∀ x ∈ ys, 0 ≤ x ∧ x < 256) : numR ys = (Wc.val ys, true) := by
  have hb := Wc.val_bd ys hx
  rw [hl] at hb
  unfold numR
  rw [if_pos (by omega)]

theorem wake_sum : Wc.more 0 [49, 50, 51, 52, 53, 54, 55, 56, 57] = 3808858755 := by decide +kernel
theorem wake_nil : Wc.more 0 [] = 0 := by decide +kernel
theorem wake_good : Wc.goodB [1, 2, 3, 4, 5] = false := by decide +kernel

end Go.Proofs.YtfflhiajbioheaaGreat
