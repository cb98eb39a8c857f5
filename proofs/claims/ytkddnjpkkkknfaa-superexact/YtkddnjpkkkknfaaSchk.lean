/-
  What the small functions of package super and of the page's layer 6 return, for every input.
-/
import Derived.Test.YtkddnjpkkkknfaaSsup
import Derived.Test.YtkddnjpkkkknfaaRefGood
import Derived.Test.YtkddnjpkkkknfaaDleaf
namespace Go.Proofs.Ytkddnjpkkkknfaa
open Go.RowKit

/-- A superblock as a value. -/
def sv (s : Ws.Sup) : Value := .agg #[.int .i64 s.gen, .int .i64 s.blocks, .int .i64 s.root, .int .i64 s.size, .int .i64 s.first]

set_option maxHeartbeats 400000 in
theorem within_any (n lo hi : Int) (w : World) :
    Calls Try.prog 34 #[.int .i64 n, .int .i64 lo, .int .i64 hi] w fun e w' => e = .returned (.bool (decide (lo ≤ n) && decide (n ≤ hi))) ∧ w = w' := by
  go_enter Try.func34, Try.ntmps34
  go_wp2
  all_goals go_ret
  · exact ⟨ret_bool (by simp [*]), rfl⟩
  · exact ⟨ret_bool (by symm; rw [Bool.eq_false_iff]; simp; omega), rfl⟩

set_option maxHeartbeats 400000 in
theorem leads_any (n m : Int) (w : World) :
    Calls Try.prog 35 #[.int .i64 n, .int .i64 m] w fun e w' => e = .returned (.bool (Ws.linkB n m)) ∧ w = w' := by
  go_enter Try.func35, Try.ntmps35
  go_wp2
  all_goals go_ret
  all_goals (refine ⟨ret_bool ?_, rfl⟩; rw [Bool.eq_iff_iff]; simp [Ws.linkB]; try omega)

set_option maxHeartbeats 400000 in
theorem link_any (n m : Int) (w : World) (hm : 4 ≤ m ∧ m ≤ 4096) :
    Calls Try.prog 33 #[.int .i64 n, .int .i64 m] w fun e w' => e = .returned (.bool (Ws.linkB n m)) ∧ w = w' := by
  go_enter Try.func33, Try.ntmps33
  go_wp2_with (go_at_call 32; refine (refIn_any _ _ _ _).mono ?_; rintro e w' ⟨rfl, rfl⟩)
  all_goals go_ret
  all_goals (refine ⟨ret_bool ?_, rfl⟩; rw [Bool.eq_iff_iff]; simp [Ws.linkB]; try omega)

set_option maxHeartbeats 1600000 in
theorem check6_any (s : Ws.Sup) (w : World) :
    Calls Try.prog 15 #[sv s] w fun e w' => e = .returned (.int .i64 (Ws.supE s)) ∧ Below w.heap.size w w' := by
  unfold sv
  go_enter Try.func15, Try.ntmps15
  go_wp2_with (first | (go_at_call 34; refine (within_any _ _ _ _).mono ?_; rintro e w' ⟨rfl, rfl⟩) | (go_at_call 35; refine (leads_any _ _ _).mono ?_; rintro e w' ⟨rfl, rfl⟩))
  all_goals go_ret
  all_goals (refine ⟨ret_int ?_, (Below.refl _ _).alloc (Nat.le_refl _) _⟩; simp_all [Ws.supE, Ws.supB] <;> omega)

set_option maxHeartbeats 1600000 in
theorem refSuper_any (s : Ws.Sup) (w : World) :
    Calls Try.prog 14 #[sv s] w fun e w' => e = .returned (.bool (Ws.supB s)) ∧ Below w.heap.size w w' := by
  unfold sv
  go_enter Try.func14, Try.ntmps14
  go_wp2_with (first | (go_at_call 32; refine (refIn_any _ _ _ _).mono ?_; rintro e w' ⟨rfl, rfl⟩) | (go_at_call 33; refine (link_any _ _ _ (by assumption)).mono ?_; rintro e w' ⟨rfl, rfl⟩))
  all_goals go_ret
  all_goals (refine ⟨ret_bool ?_, (Below.refl _ _).alloc (Nat.le_refl _) _⟩; simp_all [Ws.supB] <;> omega)

set_option maxHeartbeats 400000 in
theorem put6_row (b off n cap : Nat) (xs : List Int) (p s m : Int) (w : World) (hs : Wc.rsB s = true) (hf : Wc.fitB m s = true) (hp : Wc.inB n p s = true) (hn : n ≤ 140737488355328) (hl : xs.length = n) (hb : b < w.heap.size)
   (hc : ∀ i, i < n → w.cell? ⟨b, off + i, none⟩ = some (.int .u8 (xs.getD i 0))) :
    Calls Try.prog 21 #[.slice (some ⟨b, off, none⟩) n cap, .int .i64 p, .int .i64 s, .int .i64 m] w fun e w' => ∃ g, e = .returned (.slice (some ⟨g, 0, none⟩) n n) ∧ w.heap.size ≤ g ∧ w'.rowIs g 5 n (fun j => .int .u8 ((Wc.putL xs p.toNat s.toNat m).getD j 0)) ∧ Below w.heap.size w w' := by
  have HC := Wc.hid hc
  clear hc
  go_enter Try.func21, Try.ntmps21
  go_wp2_with fail
  refine (put_row b off n cap xs p s m w hs hf hp hn hl hb HC.out).mono ?_
  rintro e w' ⟨g, rfl, hg, hr, hb⟩
  go_wp2
  go_ret
  exact ⟨g, rfl, hg, hr, hb⟩

set_option maxHeartbeats 400000 in
theorem get6_any (v : Value) (xs : List Int) (p s : Int) (w : World) (hv : Wc.Bs w v xs) :
    Calls Try.prog 24 #[v, .int .i64 p, .int .i64 s] w fun e w' => e = .returned (.int .i64 (Wc.getR xs p s).1) ∧ w = w' := by
  have HV := Wc.hid hv
  clear hv
  go_enter Try.func24, Try.ntmps24
  go_wp2_with fail
  refine (get_any v xs p s _ HV.out).mono ?_
  rintro e w' ⟨rfl, rfl⟩
  go_wp2
  go_ret
  exact ⟨rfl, rfl⟩

set_option maxHeartbeats 400000 in
theorem refGet8_any (b off n cap m : Nat) (xs : List Int) (w : World) (hv : Wc.Bs w (.slice (some ⟨b, off, none⟩) n cap) xs) (h4 : m + 8 ≤ n) (hcap : n ≤ cap) (hcap2 : cap ≤ 9223372036854775807) :
    Calls Try.prog 29 #[.slice (some ⟨b, off, none⟩) n cap, .int .i64 m] w fun e w' => e = .returned (.tuple #[.int .i64 (numR ((xs.drop m).take 8)).1, .bool (numR ((xs.drop m).take 8)).2]) ∧ w = w' := by
  have HV := Wc.hid hv
  clear hv
  go_enter Try.func29, Try.ntmps29
  go_wp2_with fail
  refine (refNumber_any _ _ _ (Wc.bs_mid HV.out m 8 (by omega))).mono ?_
  rintro e w2 ⟨rfl, rfl⟩
  go_wp2_with fail
  go_ret2
  exact ⟨rfl, rfl⟩

end Go.Proofs.Ytkddnjpkkkknfaa
