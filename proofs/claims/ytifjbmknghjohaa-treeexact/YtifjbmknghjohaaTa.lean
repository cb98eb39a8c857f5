/-
  What found.apart returns: whether each node has a block of its own, and no sector's block is a node's or beyond the device.
-/
import Derived.Test.YtifjbmknghjohaaTx
namespace Wt
open Go Go.RowKit

/-- Is a block beyond the device, or a node's? -/
def outB (nodes : List Int) (m : Nat) (x : Int) : Bool := decide ((m : Int) ≤ x) || decide (x ∈ nodes)
/-- Is all that is met apart? -/
def apB (nodes sec : List Int) (m : Nat) : Bool := decide nodes.Nodup && !(sec.any (outB nodes m))

end Wt
namespace Go.Proofs.Ytifjbmknghjohaa
open Go.RowKit

theorem Try.infoB : (Try.prog.info? 4).map (fun i => (i.zero, i.size, i.bytes)) = some (some (.bool false), 1, 1) := by kernel_rfl

/-- A block of one cell. -/
def One (w : World) (B : Nat) (v : Value) (T : TypeId) : Prop := w.heap[B]? = some (.cells #[v] T (0, 0))

theorem One.lt {w : World} {B : Nat} {v : Value} {T : TypeId} (h : One w B v T) : B < w.heap.size := (Array.getElem?_eq_some_iff.1 h).1
theorem One.cell {w : World} {B : Nat} {v : Value} {T : TypeId} (h : One w B v T) : w.cell? ⟨B, 0, none⟩ = some v := by
  unfold One at h; simp [World.cell?, h]
theorem One.frozen {w : World} {B : Nat} {v : Value} {T : TypeId} (h : One w B v T) : w.frozen? ⟨B, 0, none⟩ = false := by
  unfold One at h; simp [World.frozen?, h]
theorem One.new (w : World) (v : Value) (T : TypeId) : One (w.alloc (.cells #[v] T)) w.heap.size v T := by
  show (w.heap.push _)[w.heap.size]? = _; simp
theorem One.keep {w w' : World} {B : Nat} {v : Value} {T : TypeId} (h : One w B v T) (hb : Below w.heap.size w w') : One w' B v T := by
  unfold One; rw [hb.block B h.lt]; exact h
theorem One.other {w : World} {B : Nat} {v : Value} {T : TypeId} (h : One w B v T) {B' : Nat} (hne : B ≠ B') (o : Nat) (u : Value) : One (w.setCell ⟨B', o, none⟩ u) B v T := by
  unfold One; rw [heap_setCell_other _ _ _ _ hne]; exact h

/-- The row of marks: which blocks are among the nodes. -/
def Marks (w : World) (g m : Nat) (l : List Int) : Prop := w.rowIs g 4 m (fun j => .bool (decide ((j : Int) ∈ l)))

set_option maxHeartbeats 800000 in
theorem clos_any (P1 P2 g m : Nat) (l : List Int) (x : Int) (w : World) (h1 : One w P1 (.int .i64 m) 3) (h2 : One w P2 (.slice (some ⟨g, 0, none⟩) m m) 67) (hM : Marks w g m l) (hx : 0 ≤ x) (_hm : m ≤ 100000) :
    Calls Try.prog 55 #[.int .i64 x, .pointer (some ⟨P1, 0, none⟩), .pointer (some ⟨P2, 0, none⟩)] w fun e w' => e = .returned (.bool (Wt.outB l m x)) ∧ w = w' := by
  have c1 := h1.cell
  have c2 := h2.cell
  by_cases hb : (m : Int) ≤ x
  · clear hM h1 h2
    go_enter Try.func55, Try.ntmps55
    go_wp2_with fail
    go_ret
    exact ⟨ret_bool (by simp [Wt.outB, hb]), rfl⟩
  · obtain ⟨k, rfl⟩ : ∃ k : Nat, x = k := ⟨x.toNat, by omega⟩
    have hk : k < m := by omega
    have c3 := hM.cell hk
    clear hM h1 h2
    cases hd : decide ((k : Int) ∈ l)
    · rw [hd] at c3
      go_enter Try.func55, Try.ntmps55
      go_wp2_with fail
      go_ret
      exact ⟨ret_bool (by unfold Wt.outB; rw [hd]; simp; omega), rfl⟩
    · rw [hd] at c3
      go_enter Try.func55, Try.ntmps55
      go_wp2_with fail
      go_ret
      exact ⟨ret_bool (by unfold Wt.outB; rw [hd]; simp), rfl⟩

theorem getD_at {xs : List Int} {k : Nat} (h : k < xs.length) : xs.getD k 0 = xs[k] := by simp [h]

theorem any_take {P : Int → Bool} {xs : List Int} {k : Nat} (hk : k < xs.length) (_h : ∀ j, j < k → P (xs.getD j 0) = false) (hp : P (xs.getD k 0) = true) : xs.any P = true := by
  rw [List.any_eq_true]
  exact ⟨_, by rw [getD_at hk]; exact List.getElem_mem hk, hp⟩

theorem any_none {P : Int → Bool} {xs : List Int} (h : ∀ j, j < xs.length → P (xs.getD j 0) = false) : xs.any P = false := by
  rw [List.any_eq_false]
  intro x hx
  obtain ⟨j, hj, rfl⟩ := List.getElem_of_mem hx
  have := h j hj
  rw [getD_at hj] at this
  rw [this]; decide

set_option maxHeartbeats 1600000 in
theorem indexf_any (b off n cap : Nat) (xs : List Int) (P : Int → Bool) (p1 p2 : Value) (w : World) (hl : xs.length = n) (hn : n ≤ 17592186044416) (hc : ∀ i, i < n → w.cell? ⟨b, off + i, none⟩ = some (.int .i64 (xs.getD i 0)))
   (hf : ∀ x ∈ xs, Calls Try.prog 55 #[.int .i64 x, p1, p2] w fun e w' => e = .returned (.bool (P x)) ∧ w = w') :
    Calls Try.prog 66 #[.slice (some ⟨b, off, none⟩) n cap, .func (.func 55) #[] #[p1, p2]] w fun e w' => ∃ r : Int, e = .returned (.int .i64 r) ∧ decide (0 ≤ r) = xs.any P ∧ w = w' := by
  have HL := Wc.hid hl
  have HF := Wc.hid hf
  have HC := Wc.hid hc
  clear hl hf hc
  go_enter Try.func66, Try.ntmps66
  go_wp2_with fail
  go_loop [8] (fun i => ∃ k : Nat, i = .int .i64 k ∧ k ≤ n ∧ Hid (∀ j, j < k → P (xs.getD j 0) = false)) (fun i => n - (intOf i).toNat)
  case atStart => exact ⟨0, rfl, by omega, fun j h => by omega⟩
  case round =>
    obtain ⟨k, rfl, hk, HZ⟩ := hrel
    by_cases hlt : k < n
    · have h1 := HC.out k hlt
      have hmem : xs.getD k 0 ∈ xs := by
        have hk' : k < xs.length := by rw [HL.out]; exact hlt
        rw [getD_at hk']; exact List.getElem_mem hk'
      have HM := Wc.hid hmem
      obtain ⟨x, hx⟩ : ∃ x, xs.getD k 0 = x := ⟨_, rfl⟩
      rw [hx] at h1
      have HX := Wc.hid hx
      clear hx hmem
      cases hp : P x
      · have HP := Wc.hid hp
        clear hp
        go_wp2_with fail
        refine (HF.out x (by rw [← HX.out]; exact HM.out)).mono ?_
        rintro e w1 ⟨rfl, rfl⟩
        rw [HP.out]
        go_wp2_with fail
        go_round
        case rel =>
          refine ⟨k + 1, by go_num, by omega, fun j hj => ?_⟩
          by_cases hjk : j = k
          · subst hjk; rw [HX.out]; exact HP.out
          · exact HZ.out j (by omega)
        case measure => simp [intOf]; omega
      · have HP := Wc.hid hp
        clear hp
        go_wp2_with fail
        refine (HF.out x (by rw [← HX.out]; exact HM.out)).mono ?_
        rintro e w1 ⟨rfl, rfl⟩
        rw [HP.out]
        go_wp2_with fail
        go_ret
        refine ⟨_, rfl, ?_, rfl⟩
        rw [any_take (k := k) (by rw [HL.out]; exact hlt) HZ.out (by rw [HX.out]; exact HP.out)]
        simp
    · go_wp2_with fail
      go_ret
      refine ⟨_, rfl, ?_, rfl⟩
      rw [any_none (fun j hj => HZ.out j (by rw [HL.out] at hj; omega))]
      rfl

set_option maxHeartbeats 800000 in
theorem containsf_any (b off n cap : Nat) (xs : List Int) (P : Int → Bool) (p1 p2 : Value) (w : World) (hl : xs.length = n) (hn : n ≤ 17592186044416) (hc : ∀ i, i < n → w.cell? ⟨b, off + i, none⟩ = some (.int .i64 (xs.getD i 0)))
   (hf : ∀ x ∈ xs, Calls Try.prog 55 #[.int .i64 x, p1, p2] w fun e w' => e = .returned (.bool (P x)) ∧ w = w') :
    Calls Try.prog 54 #[.slice (some ⟨b, off, none⟩) n cap, .func (.func 55) #[] #[p1, p2]] w fun e w' => e = .returned (.bool (xs.any P)) ∧ w = w' := by
  have HI := Wc.hid (indexf_any b off n cap xs P p1 p2 w hl hn hc hf)
  clear hl hc hf
  go_enter Try.func54, Try.ntmps54
  go_wp2_with fail
  refine HI.out.mono ?_
  rintro e w1 ⟨r, rfl, hr, rfl⟩
  have HR := Wc.hid hr
  clear hr
  go_wp2_with fail
  go_ret
  exact ⟨ret_bool (by rw [← HR.out]), rfl⟩

end Go.Proofs.Ytifjbmknghjohaa
