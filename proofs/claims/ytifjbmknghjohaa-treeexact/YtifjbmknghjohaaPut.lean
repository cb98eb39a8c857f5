/-
  le.Put, for every input.
-/
import Derived.Test.YtifjbmknghjohaaLeaf
import Derived.Test.YtifjbmknghjohaaMem
import Derived.Laws.CopyOwn
namespace Go.Proofs.Ytifjbmknghjohaa
open Go.RowKit

theorem Try.infoU8 : (Try.prog.info? 5).map (fun i => (i.zero, i.size, i.bytes)) = some (some (.int .u8 0), 1, 1) := by kernel_rfl
theorem Try.sizeU8 : (Try.prog.info? 5).map (·.size) = some 1 := by kernel_rfl

theorem made_heap (w : World) (z : Value) (n e : Nat) : (w.alloc (.cells (madeCells #[z] n) e)).heap[w.heap.size]? = some (.cells (List.replicate n z).toArray e (0, 0)) := by
  have h : madeCells #[z] n = (List.replicate n z).toArray := by rw [← toList_madeCells_one]
  rw [h]
  show (w.heap.push _)[w.heap.size]? = _
  simp

theorem splice_all (n : Nat) (z : Value) (cs : List Value) (h : cs.length = n) : splice (List.replicate n z) 0 cs = cs := by
  simp [splice, h]

/-- What the row holds behind k rounds. -/
def putF (xs : List Int) (q : Nat) (m : Int) (k j : Nat) : Int := if q ≤ j ∧ j < q + k then m / 256 ^ (j - q) % 256 else xs.getD j 0

theorem putF_zero (xs : List Int) (q : Nat) (m : Int) (j : Nat) : putF xs q m 0 j = xs.getD j 0 := by
  unfold putF; rw [if_neg (by omega)]

theorem putF_succ (xs : List Int) (q : Nat) (m : Int) (k j : Nat) : putF xs q m (k + 1) j = if j = q + k then m / 256 ^ k % 256 else putF xs q m k j := by
  unfold putF
  by_cases h : j = q + k
  · subst h; rw [if_pos (by omega), if_pos rfl, show q + k - q = k by omega]
  · rw [if_neg h]
    by_cases h2 : q ≤ j ∧ j < q + k
    · rw [if_pos (by omega), if_pos h2]
    · rw [if_neg (by omega), if_neg h2]

theorem row_of_list (w : World) (g n : Nat) (xs : List Int) (q : Nat) (m : Int) (hl : xs.length = n) (h : w.heap[g]? = some (.cells (xs.map (Value.int .u8)).toArray 5 (0, 0))) : w.rowIs g 5 n (fun j => .int .u8 (putF xs q m 0 j)) := by
  refine ⟨_, h, by simpa using hl, fun i hi => ?_⟩
  simp [putF_zero, hl, hi]

theorem row_next {w : World} {g n : Nat} {xs : List Int} {q k : Nat} {m : Int} (h : w.rowIs g 5 n (fun j => .int .u8 (putF xs q m k j))) :
    (w.setCell ⟨g, q + k, none⟩ (.int .u8 (m / 2 ^ (8 * k) % 256))).rowIs g 5 n (fun j => .int .u8 (putF xs q m (k + 1) j)) := by
  have e : (2 : Int) ^ (8 * k) = 256 ^ k := by rw [Int.pow_mul]; rfl
  refine (h.set (q + k) _).congr fun j _ => ?_
  rw [putF_succ, e]
  split <;> rfl

/-- The run of copy(out, b), out made just ahead of it. -/
theorem copy_made (b off n cap : Nat) (xs : List Int) (w : World) (hl : xs.length = n) (hb : b < w.heap.size)
   (hc : ∀ i, i < n → w.cell? ⟨b, off + i, none⟩ = some (.int .u8 (xs.getD i 0))) :
    ∃ w2, Sem.run Try.prog (Builtin.copy_ #[22, 22] 3 #[.slice (some ⟨w.heap.size, 0, none⟩) n n, .slice (some ⟨b, off, none⟩) n cap]) (w.alloc (.cells (madeCells #[.int .u8 0] n) 5)) = .ok (.int .i64 n) w2 ∧
      w2.heap[w.heap.size]? = some (.cells (xs.map (Value.int .u8)).toArray 5 (0, 0)) ∧ Below w.heap.size w w2 := by
  obtain ⟨cs, hcs⟩ : ∃ cs, cs = xs.map (Value.int .u8) := ⟨_, rfl⟩
  have hcl : cs.length = n := by rw [hcs]; simpa using hl
  have hcc : ∀ j v, cs[j]? = some v → (w.alloc (.cells (madeCells #[.int .u8 0] n) 5)).cell? ((⟨b, off, none⟩ : Addr).add j) = some v := by
    intro j v hj
    have hjn : j < n := by rw [← hcl]; exact (List.getElem?_eq_some_iff.1 hj).1
    rw [Wc.add_none, World.cell?_alloc_old _ _ _ (show b ≠ w.heap.size by omega), hc j hjn]
    rw [hcs] at hj
    simpa [hl, hjn] using hj
  have hc1 : ∀ v ∈ cs, v.oneCell' = true := by
    intro v hv; rw [hcs] at hv; obtain ⟨x, _, rfl⟩ := List.mem_map.1 hv; rfl
  have hg := made_heap w (.int .u8 0) n 5
  have hrun := run_copy_row (P := Try.prog) (w.alloc (.cells (madeCells #[.int .u8 0] n) 5)) 22 22 3 5 w.heap.size 0 n n ⟨b, off, none⟩ n cap (List.replicate n (.int .u8 0)).toArray 5 cs Try.underlying22 Try.sizeU8 hg (by rw [hcl]; exact (Nat.min_self n).symm) hcc (by simp [hcl]) hc1
  refine ⟨_, hrun.trans (by rw [hcl]; rfl), ?_, ?_⟩
  · rw [setRow_heap _ _ _ _ 5 _ hg, ← hcs]
    simp
  · exact below_setRow ((Below.refl _ _).alloc (Nat.le_refl _) _) (Nat.le_refl _) _

theorem row_putL {w : World} {g : Nat} (n : Nat) (xs : List Int) (q t : Nat) (m : Int) (hl : xs.length = n) (hq : q + t ≤ n) (h : w.rowIs g 5 n (fun j => .int .u8 (putF xs q m t j))) :
    w.rowIs g 5 n (fun j => .int .u8 ((Wc.putL xs q t m).getD j 0)) := by
  refine h.congr fun i _ => ?_
  rw [Wc.putL_getD _ _ _ _ (by omega)]
  unfold putF
  congr 1
  by_cases h1 : i < q
  · rw [if_pos h1, if_neg (by omega)]
  · rw [if_neg h1]
    by_cases h2 : i < q + t
    · rw [if_pos h2, if_pos (by omega)]
    · rw [if_neg h2, if_neg (by omega)]

set_option maxHeartbeats 400000 in
theorem put_row (b off n cap : Nat) (xs : List Int) (p s m : Int) (w : World) (hs : Wc.rsB s = true) (hf : Wc.fitB m s = true) (hp : Wc.inB n p s = true) (hn : n ≤ 140737488355328) (hl : xs.length = n) (hb : b < w.heap.size)
   (hc : ∀ i, i < n → w.cell? ⟨b, off + i, none⟩ = some (.int .u8 (xs.getD i 0))) :
    Calls Try.prog 47 #[.slice (some ⟨b, off, none⟩) n cap, .int .i64 p, .int .i64 s, .int .i64 m] w fun e w' => ∃ g, e = .returned (.tuple #[.slice (some ⟨g, 0, none⟩) n n, .int .i64 0]) ∧ w.heap.size ≤ g ∧ w'.rowIs g 5 n (fun j => .int .u8 ((Wc.putL xs p.toNat s.toNat m).getD j 0)) ∧ Below w.heap.size w w' := by
  obtain ⟨p1, p2⟩ := Wc.inB_iff.1 hp
  obtain ⟨q, rfl⟩ := Int.eq_ofNat_of_zero_le p1
  have hs1 : 1 ≤ s ∧ s ≤ 8 := by rcases Wc.rsB_cases hs with h | h | h | h <;> omega
  obtain ⟨t, rfl⟩ := Int.eq_ofNat_of_zero_le (show 0 ≤ s by omega)
  obtain ⟨f1, f2, -⟩ := (Wc.fitB_iff hs).1 hf
  obtain ⟨w2, hcp, hrow, hb2⟩ := copy_made b off n cap xs w hl hb hc
  have HR := Wc.hid (row_of_list w2 w.heap.size n xs q m hl hrow)
  have HL := Wc.hid hl
  clear hl hc hrow
  rw [Int.toNat_natCast, Int.toNat_natCast]
  have hmk := fun w => run_make_row' (P := Try.prog) 22 5 (.int .u8 0) 1 Try.underlying22 Try.infoU8 rfl .i64 .i64 n (by omega) (by omega) w
  go_enter Try.func47, Try.ntmps47
  go_wp2_with (first | (go_at_call 60; refine (rightSize_any _ _).mono ?_; rintro e w' ⟨rfl, rfl⟩) | (go_at_call 61; refine (fits_any _ _ _ hs).mono ?_; rintro e w' ⟨rfl, rfl⟩) | (go_at_call 62; refine (inside_any _ _ _ _ _ _ hn (by omega) (by omega)).mono ?_; rintro e w' ⟨rfl, rfl⟩))
  clear hmk hcp
  go_loopw [33] (fun i wr => ∃ k : Nat, k ≤ t ∧ i = .int .i64 k ∧ Hid (wr.rowIs w.heap.size 5 n (fun j => .int .u8 (putF xs q m k j))) ∧ Below w.heap.size w wr) (fun i _ => t - (intOf i).toNat)
  case atStart => exact ⟨0, by omega, rfl, HR, hb2⟩
  case round =>
    obtain ⟨k, hk, rfl, HW, hbr⟩ := hrel
    by_cases hlt : k < t
    · have hcell := HW.out.cell (i := q + k) (by omega)
      have hfz := HW.out.frozen (q + k)
      go_wp2
      go_roundw
      case rel => exact ⟨k + 1, by omega, by go_num, Wc.hid (row_next HW.out), hbr.setCell (Nat.le_refl _) _⟩
      case measure => simp [intOf]; omega
    · obtain rfl : k = t := by omega
      go_wp2
      go_ret2
      exact ⟨_, rfl, Nat.le_refl _, row_putL n xs q k m HL.out (by omega) HW.out, hbr⟩

theorem put_in (b off n cap : Nat) (xs : List Int) (p s m : Int) (w : World) (hs : Wc.rsB s = true) (hf : Wc.fitB m s = true) (hp : Wc.inB n p s = true) (hn : n ≤ 140737488355328) (hl : xs.length = n) (hx : ∀ x ∈ xs, 0 ≤ x ∧ x < 256) (hb : b < w.heap.size)
   (hc : ∀ i, i < n → w.cell? ⟨b, off + i, none⟩ = some (.int .u8 (xs.getD i 0))) :
    Calls Try.prog 47 #[.slice (some ⟨b, off, none⟩) n cap, .int .i64 p, .int .i64 s, .int .i64 m] w fun e w' => ∃ v, e = .returned (.tuple #[v, .int .i64 0]) ∧ Wc.Bs w' v (Wc.putL xs p.toNat s.toNat m) ∧ Below w.heap.size w w' := by
  obtain ⟨p1, p2⟩ := Wc.inB_iff.1 hp
  have hs1 : 1 ≤ s ∧ s ≤ 8 := by rcases Wc.rsB_cases hs with h | h | h | h <;> omega
  refine (put_row b off n cap xs p s m w hs hf hp hn hl hb hc).mono ?_
  rintro e w' ⟨g, rfl, -, hr, hb⟩
  exact ⟨_, rfl, Wc.Bs.row (by rw [Wc.putL_length _ _ _ _ (by omega)]; exact hl) hn (Wc.putL_bd _ _ _ _ hx) hr, hb⟩

set_option maxHeartbeats 400000 in
theorem put_any (v : Value) (xs : List Int) (p s m : Int) (w : World) (hv : Wc.Bs w v xs) :
    Calls Try.prog 47 #[v, .int .i64 p, .int .i64 s, .int .i64 m] w fun e w' => ∃ x, e = .returned (.tuple #[x, .int .i64 (Wc.putR xs p s m).2]) ∧ Wc.Bs w' x (Wc.putR xs p s m).1 ∧ Below w.heap.size w w' := by
  obtain ⟨a, n, cap, rfl, hl, _, _, hn, hx, hpos⟩ := hv
  cases hs : Wc.rsB s with
  | false =>
    have e : Wc.putR xs p s m = ([], 1) := by simp [Wc.putR, hs]
    rw [e]
    go_enter Try.func47, Try.ntmps47
    go_wp2_with (first | (go_at_call 60; refine (rightSize_any _ _).mono ?_; rintro e w' ⟨rfl, rfl⟩))
    go_ret2
    exact ⟨_, rfl, Wc.Bs.nil w, Below.refl _ _⟩
  | true =>
    have hs1 : 1 ≤ s ∧ s ≤ 8 := by rcases Wc.rsB_cases hs with h | h | h | h <;> omega
    cases hf : Wc.fitB m s with
    | false =>
      have e : Wc.putR xs p s m = ([], 1) := by simp [Wc.putR, hs, hf]
      rw [e]
      go_enter Try.func47, Try.ntmps47
      go_wp2_with (first | (go_at_call 60; refine (rightSize_any _ _).mono ?_; rintro e w' ⟨rfl, rfl⟩) | (go_at_call 61; refine (fits_any _ _ _ hs).mono ?_; rintro e w' ⟨rfl, rfl⟩))
      go_ret2
      exact ⟨_, rfl, Wc.Bs.nil w, Below.refl _ _⟩
    | true =>
      cases hp : Wc.inB n p s with
      | false =>
        have e : Wc.putR xs p s m = ([], 3) := by simp [Wc.putR, hs, hf, hl, hp]
        rw [e]
        go_enter Try.func47, Try.ntmps47
        go_wp2_with (first | (go_at_call 60; refine (rightSize_any _ _).mono ?_; rintro e w' ⟨rfl, rfl⟩) | (go_at_call 61; refine (fits_any _ _ _ hs).mono ?_; rintro e w' ⟨rfl, rfl⟩) | (go_at_call 62; refine (inside_any _ _ _ _ _ _ hn (by omega) (by omega)).mono ?_; rintro e w' ⟨rfl, rfl⟩))
        go_ret2
        exact ⟨_, rfl, Wc.Bs.nil w, Below.refl _ _⟩
      | true =>
        obtain ⟨p1, p2⟩ := Wc.inB_iff.1 hp
        obtain ⟨b, off, rfl, hb, hc⟩ := hpos (by omega)
        have e : Wc.putR xs p s m = (Wc.putL xs p.toNat s.toNat m, 0) := by simp [Wc.putR, hs, hf, hl, hp]
        rw [e]
        exact put_in b off n cap xs p s m w hs hf hp hn hl hx hb hc
end Go.Proofs.Ytifjbmknghjohaa
