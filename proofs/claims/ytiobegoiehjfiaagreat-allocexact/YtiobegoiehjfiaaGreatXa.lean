/-
  What the page's in, has and Records return, for every right device and every first block.
-/
import Derived.Test.YtiobegoiehjfiaaGreatQh
import Derived.Test.YtiobegoiehjfiaaGreatJD
namespace Wi
open Wr
theorem bd_in {xs : List Int} {p : Int} (h : recOk xs p = true) : 2 ≤ p ∧ p ≤ ((xs.length / 64 : Nat) : Int) - 1 := by
  have := recOk_in h
  omega
theorem has_fits {xs : List Int} {p : Int} {b : List Int} (h : (b.any (· == p)) = true) : fitsB (recAt xs p) (b.map (recAt xs)) = false := by
  rw [List.any_eq_true] at h
  obtain ⟨q, hq, e⟩ := h
  obtain rfl : q = p := by simpa using e
  unfold fitsB hasB
  rw [Bool.and_eq_false_iff]
  left
  rw [Bool.not_eq_false', List.any_eq_true]
  exact ⟨recAt xs q, List.mem_map.2 ⟨q, hq, rfl⟩, by simp⟩
theorem id_fits {r : Rec} {l : List Rec} (h : hasB l r.id = true) : fitsB r l = false := by
  unfold fitsB
  rw [h]; rfl
theorem pend_fits {r : Rec} {l : List Rec} (hk : r.kind = 1) (h : 0 < l.length) : fitsB r l = false := by
  unfold fitsB
  rw [Bool.and_eq_false_iff, if_pos hk]
  right
  exact decide_eq_false (by omega)
theorem full_fits {r : Rec} {l : List Rec} (hk : r.kind = 0) (h : 60 < whN l + 1) : fitsB r l = false := by
  unfold fitsB
  rw [Bool.and_eq_false_iff, if_neg (by omega)]
  right
  exact decide_eq_false (by omega)
theorem yes_fits {r : Rec} {l : List Rec} (h : hasB l r.id = false) (hk : (r.kind = 1 ∧ l.length = 0) ∨ (r.kind = 0 ∧ whN l + 1 ≤ 60)) : fitsB r l = true := by
  unfold fitsB
  rw [h]
  rcases hk with ⟨h1, h2⟩ | ⟨h1, h2⟩
  · rw [if_pos h1, decide_eq_true h2]; rfl
  · rw [if_neg (by omega), decide_eq_true (by omega)]; rfl
end Wi
namespace Go.Proofs.YtiobegoiehjfiaaGreat
open Go.RowKit

/-- The slice lies in a block of that type. -/
def Tk (k : Nat) (w : World) (v : Value) : Prop := ∀ b o n c, v = .slice (some ⟨b, o, none⟩) n c → ∃ cs fr, w.heap[b]? = some (.cells cs k fr)
theorem Tk.nil (k : Nat) (w : World) (n c : Nat) : Tk k w (.slice none n c) := fun _ _ _ _ h => by cases h
theorem Tk.ov {w : World} {v : Value} {base : Nat} {l : List Int} (h : Wv.Ov (Value.int .i64) 3 base w v l) : Tk 3 w v := fun b o n c e => by
  subst e
  rcases h.1.2 with ⟨h0, _⟩ | ⟨g, cap, cur, hv, _, hg, _⟩
  · cases h0
  · cases hv
    exact ⟨cur, _, hg⟩
theorem Tk.or {w : World} {v : Value} {base : Nat} {l : List Wr.Rec} (h : Wi.Or 63 base w v l) : Tk 63 w v := fun b o n c e => by
  subst e
  rcases h.1.2 with ⟨h0, _⟩ | ⟨g, cap, cur, hv, _, hg, _⟩
  · cases h0
  · cases hv
    exact ⟨cur, _, hg⟩

set_option maxHeartbeats 400000 in
theorem in39_any (n lo hi : Int) (w : World) :
    Calls Tryz.prog 27 #[.int .i64 n, .int .i64 lo, .int .i64 hi] w fun e w' => e = .returned (.bool (decide (lo ≤ n) && decide (n ≤ hi))) ∧ w = w' := by
  go_enter Tryz.func27, Tryz.ntmps27
  go_wp2
  all_goals go_ret
  · exact ⟨ret_bool (by simp [*]), rfl⟩
  · exact ⟨ret_bool (by symm; rw [Bool.eq_false_iff]; simp; omega), rfl⟩

theorem any_nextI {l : List Int} {k : Nat} (f : Int → Bool) (h : k < l.length) : (l.take (k + 1)).any f = ((l.take k).any f || f (l.getD k 0)) := by
  have : l.take (k + 1) = l.take k ++ [l.getD k 0] := by rw [List.take_add_one]; simp [h]
  rw [this]; simp

set_option maxHeartbeats 1600000 in
theorem has40_any (v : Value) (l : List Int) (p : Int) (w : World) (hv : Wd.In w v l) :
    Calls Tryz.prog 34 #[v, .int .i64 p] w fun e w' => e = .returned (.bool (l.any (· == p))) ∧ Below w.heap.size w w' := by
  rcases hv.open with ⟨rfl, a, cap, rfl, _⟩ | ⟨b, off, n, cap, rfl, h0, hl, _, _, hn, hblt, hc⟩
  · go_enter Tryz.func34, Tryz.ntmps34
    go_wp2_with fail
    go_loopw [5] (fun i wr => i = .int .i64 0 ∧ Below w.heap.size w wr) (fun _ _ => 0)
    case atStart => exact ⟨rfl, Below.refl _ _⟩
    case round =>
      obtain ⟨rfl, hb⟩ := hrel
      go_wp2_with fail
      go_ret
      exact ⟨rfl, hb⟩
  · have HC := Wc.hid hc
    have HL := Wc.hid hl
    clear hc hl hv
    go_enter Tryz.func34, Tryz.ntmps34
    go_wp2_with fail
    go_loopw [5] (fun i wr => ∃ k : Nat, i = .int .i64 k ∧ k ≤ n ∧ Hid (Below w.heap.size w wr) ∧ Hid ((l.take k).any (· == p) = false)) (fun i _ => n - (intOf i).toNat)
    case atStart => exact ⟨0, rfl, by omega, Wc.hid (Below.refl _ _), Wc.hid (by simp)⟩
    case round =>
      obtain ⟨k, rfl, hk, RB, RZ⟩ := hrel
      by_cases hlt : k < n
      · have h1 := (RB.out.cell (p := ⟨b, off + k, none⟩) hblt).trans (HC.out k hlt)
        have HS := Wc.hid (any_nextI (l := l) (k := k) (· == p) (by rw [HL.out]; exact hlt))
        have HT : Hid ((l.getD k 0 == p) = true → l.any (· == p) = true) := Wc.hid (fun h => by
          rw [List.any_eq_true]
          exact ⟨l.getD k 0, by rw [List.getD_eq_getElem?_getD, List.getElem?_eq_getElem (by rw [HL.out]; exact hlt)]; simp, h⟩)
        obtain ⟨x, hx⟩ : ∃ x, l.getD k 0 = x := ⟨_, rfl⟩
        rw [hx] at h1 HS HT
        clear hx
        cases hq : (x == p)
        · have HQ := Wc.hid hq
          go_wp2_with fail
          go_roundw
          case rel => exact ⟨k + 1, by go_num, by omega, RB, Wc.hid (by rw [HS.out, RZ.out, HQ.out]; rfl)⟩
          case measure => simp [intOf]; omega
        · have HQ := Wc.hid hq
          go_wp2_with fail
          go_ret
          exact ⟨ret_bool (HT.out HQ.out).symm, RB.out⟩
      · go_wp2_with fail
        go_ret
        refine ⟨ret_bool ?_, RB.out⟩
        have := RZ.out
        rw [List.take_of_length_le (by rw [HL.out]; omega)] at this
        exact this.symm

end Go.Proofs.YtiobegoiehjfiaaGreat
