/-
  What the small functions of package node and of the page's layer 7 return, for every input.
-/
import Derived.Test.YtifjbmknghjohaaNblk
import Derived.Test.YtifjbmknghjohaaArr
namespace Go.Proofs.Ytifjbmknghjohaa
open Go.RowKit

/-- A node as a value. -/
def nv (n : Wn.Nod) : Value := .agg #[.int .i64 n.level, .int .i64 n.p0, .int .i64 n.p1, .int .i64 n.p2, .int .i64 n.p3, .int .i64 n.p4, .int .i64 n.p5, .int .i64 n.p6, .int .i64 n.p7]

/-- The block B is a node's own cells. -/
def Nh (w : World) (B : Nat) (n : Wn.Nod) : Prop := w.heap[B]? = some (.cells #[.int .i64 n.level, .int .i64 n.p0, .int .i64 n.p1, .int .i64 n.p2, .int .i64 n.p3, .int .i64 n.p4, .int .i64 n.p5, .int .i64 n.p6, .int .i64 n.p7] 47 (0, 0))

theorem Nh.new (w : World) (n : Wn.Nod) : Nh (w.alloc (.cells #[.int .i64 n.level, .int .i64 n.p0, .int .i64 n.p1, .int .i64 n.p2, .int .i64 n.p3, .int .i64 n.p4, .int .i64 n.p5, .int .i64 n.p6, .int .i64 n.p7] 47)) w.heap.size n := by
  show (w.heap.push _)[w.heap.size]? = _; simp

theorem Nh.lt {w : World} {B : Nat} {n : Wn.Nod} (h : Nh w B n) : B < w.heap.size := (Array.getElem?_eq_some_iff.1 h).1

theorem Nh.keep {w w' : World} {B : Nat} {n : Wn.Nod} (h : Nh w B n) (hb : Below w.heap.size w w') : Nh w' B n := by
  unfold Nh
  rw [hb.block B h.lt]; exact h

theorem Nh.below {w w' : World} {B base : Nat} {n : Wn.Nod} (h : Nh w B n) (hb : Below base w w') (hlt : B < base) : Nh w' B n := by
  unfold Nh
  rw [hb.block B hlt]; exact h

theorem Nh.frozen {w : World} {B : Nat} {n : Wn.Nod} (h : Nh w B n) (i : Nat) : w.frozen? ⟨B, i, none⟩ = false := by
  unfold Nh at h
  simp [World.frozen?, h]

/-- At the block B lies the node n. -/
def Nc (w : World) (B : Nat) (n : Wn.Nod) : Prop :=
  w.cell? ⟨B, 0, none⟩ = some (.int .i64 n.level) ∧ w.cell? ⟨B, 1, none⟩ = some (.int .i64 n.p0) ∧ w.cell? ⟨B, 2, none⟩ = some (.int .i64 n.p1) ∧ w.cell? ⟨B, 3, none⟩ = some (.int .i64 n.p2) ∧ w.cell? ⟨B, 4, none⟩ = some (.int .i64 n.p3) ∧ w.cell? ⟨B, 5, none⟩ = some (.int .i64 n.p4) ∧ w.cell? ⟨B, 6, none⟩ = some (.int .i64 n.p5) ∧ w.cell? ⟨B, 7, none⟩ = some (.int .i64 n.p6) ∧ w.cell? ⟨B, 8, none⟩ = some (.int .i64 n.p7)

theorem Nh.nc {w : World} {B : Nat} {n : Wn.Nod} (h : Nh w B n) : Nc w B n := by
  unfold Nh at h
  refine ⟨?_, ?_, ?_, ?_, ?_, ?_, ?_, ?_, ?_⟩ <;> simp [World.cell?, h]

/-- A pointer's cell. -/
theorem Nh.pat {w : World} {B : Nat} {n : Wn.Nod} (h : Nh w B n) {k : Nat} (hk : k < 8) : w.cell? ⟨B, 1 + k, none⟩ = some (.int .i64 (Wn.pat n k)) := by
  obtain ⟨c, c0, c1, c2, c3, c4, c5, c6, c7⟩ := h.nc
  rcases Wn.below8 hk with rfl | rfl | rfl | rfl | rfl | rfl | rfl | rfl
  · exact c0
  · exact c1
  · exact c2
  · exact c3
  · exact c4
  · exact c5
  · exact c6
  · exact c7

/-- A pointer written over. -/
theorem Nh.set {w : World} {B : Nat} {n : Wn.Nod} (h : Nh w B n) {k : Nat} (hk : k < 8) (z : Int) : Nh (w.setCell ⟨B, 1 + k, none⟩ (.int .i64 z)) B (Wn.setP n k z) := by
  have h1 := heap_setCell_same w B (1 + k) _ 47 (.int .i64 z) h
  unfold Nh
  rcases Wn.below8 hk with rfl | rfl | rfl | rfl | rfl | rfl | rfl | rfl
  all_goals (simp only [Wn.setP]; simpa using h1)

theorem idx8 (n : Wn.Nod) {k : Nat} (hk : k < 8) (w : World) : (Instr.index 45 (.agg #[.int .i64 n.p0, .int .i64 n.p1, .int .i64 n.p2, .int .i64 n.p3, .int .i64 n.p4, .int .i64 n.p5, .int .i64 n.p6, .int .i64 n.p7]) (.int .i64 (k : Int))).run Try.prog w = .ok (.int .i64 (Wn.pat n k)) w := by
  rcases Wn.below8 hk with rfl | rfl | rfl | rfl | rfl | rfl | rfl | rfl <;> kernel_rfl

/-- A right level. -/
def lvB (n : Int) : Bool := decide (0 ≤ n) && decide (n ≤ 2)
theorem lvB_iff {n : Int} : lvB n = true ↔ 0 ≤ n ∧ n ≤ 2 := by simp [lvB]

set_option maxHeartbeats 400000 in
theorem rightLevel_any (n : Int) (w : World) :
    Calls Try.prog 39 #[.int .i64 n] w fun e w' => e = .returned (.bool (lvB n)) ∧ w = w' := by
  unfold lvB
  go_enter Try.func39, Try.ntmps39
  go_wp2
  all_goals go_ret
  · exact ⟨ret_bool (by simp [*]), rfl⟩
  · exact ⟨ret_bool (by symm; rw [Bool.eq_false_iff]; simp; omega), rfl⟩

set_option maxHeartbeats 400000 in
theorem leads7_any (n : Int) (w : World) :
    Calls Try.prog 46 #[.int .i64 n] w fun e w' => e = .returned (.bool (Ws.linkB n 4096)) ∧ w = w' := by
  go_enter Try.func46, Try.ntmps46
  go_wp2
  all_goals go_ret
  all_goals (refine ⟨ret_bool ?_, rfl⟩; rw [Bool.eq_iff_iff]; simp [Ws.linkB]; try omega)

set_option maxHeartbeats 400000 in
theorem link_any (n m : Int) (w : World) (hm : 4 ≤ m ∧ m ≤ 4096) :
    Calls Try.prog 69 #[.int .i64 n, .int .i64 m] w fun e w' => e = .returned (.bool (Ws.linkB n m)) ∧ w = w' := by
  go_enter Try.func69, Try.ntmps69
  go_wp2_with (go_at_call 28; refine (refIn_any _ _ _ _).mono ?_; rintro e w' ⟨rfl, rfl⟩)
  all_goals go_ret
  all_goals (refine ⟨ret_bool ?_, rfl⟩; rw [Bool.eq_iff_iff]; simp [Ws.linkB]; try omega)

theorem nodE_yes {s : Wn.Nod} (h : Wn.nodB s = true) : Wn.nodE s = 0 := by simp [Wn.nodE, h]
theorem nodE_no {s : Wn.Nod} (h : Wn.nodB s = false) : Wn.nodE s = 1 := by simp [Wn.nodE, h]

theorem Try.infoInt : ∃ i, Try.prog.info? 3 = some i := Option.isSome_iff_exists.1 (by kernel_rfl)
theorem Try.cellsInt : Try.prog.cellsOf 3 = 1 := by kernel_rfl

theorem equal_ptr (s t : Wn.Nod) (d : Nat) (w : World) : (Op.equalIn (d + 2) 45 (.agg #[.int .i64 s.p0, .int .i64 s.p1, .int .i64 s.p2, .int .i64 s.p3, .int .i64 s.p4, .int .i64 s.p5, .int .i64 s.p6, .int .i64 s.p7]) (.agg #[.int .i64 t.p0, .int .i64 t.p1, .int .i64 t.p2, .int .i64 t.p3, .int .i64 t.p4, .int .i64 t.p5, .int .i64 t.p6, .int .i64 t.p7])).run Try.prog w = .ok (Wn.ptr s == Wn.ptr t) w := by
  obtain ⟨i, hi⟩ := Try.infoInt
  exact Wa.equal_ints Try.underlying45 hi Try.underlying3 Try.cellsInt d (Wn.ptr s) (Wn.ptr t) rfl rfl w

/-- Are all pointers 0? -/
def noneB (n : Wn.Nod) : Bool := Wn.ptr n == Wn.ptr Wn.n0

theorem noneB_yes {n : Wn.Nod} (h : noneB n = true) : ∀ k, k < 8 → Wn.pat n k = 0 := by
  intro k hk
  have e : Wn.ptr n = Wn.ptr Wn.n0 := by simpa [noneB] using h
  unfold Wn.pat
  rw [e]
  rcases Wn.below8 hk with rfl | rfl | rfl | rfl | rfl | rfl | rfl | rfl <;> rfl

theorem noneB_no {n : Wn.Nod} (h : noneB n = false) : ∃ k, k < 8 ∧ ¬ Wn.pat n k = 0 := by
  apply Classical.byContradiction
  intro hn
  have e : Wn.ptr n = Wn.ptr Wn.n0 := by
    have hz : ∀ k, k < 8 → Wn.pat n k = 0 := fun k hk => Classical.byContradiction fun hne => hn ⟨k, hk, hne⟩
    have h0 : n.p0 = 0 := hz 0 (by omega)
    have h1 : n.p1 = 0 := hz 1 (by omega)
    have h2 : n.p2 = 0 := hz 2 (by omega)
    have h3 : n.p3 = 0 := hz 3 (by omega)
    have h4 : n.p4 = 0 := hz 4 (by omega)
    have h5 : n.p5 = 0 := hz 5 (by omega)
    have h6 : n.p6 = 0 := hz 6 (by omega)
    have h7 : n.p7 = 0 := hz 7 (by omega)
    unfold Wn.ptr
    rw [h0, h1, h2, h3, h4, h5, h6, h7]
    rfl
  simp [noneB, e] at h

theorem eql_none (n : Wn.Nod) (w : World) : (binOp .eql 45 (.agg #[.int .i64 n.p0, .int .i64 n.p1, .int .i64 n.p2, .int .i64 n.p3, .int .i64 n.p4, .int .i64 n.p5, .int .i64 n.p6, .int .i64 n.p7]) (.agg #[.int .i64 0, .int .i64 0, .int .i64 0, .int .i64 0, .int .i64 0, .int .i64 0, .int .i64 0, .int .i64 0])).run Try.prog w = .ok (.bool (noneB n)) w := by
  rw [run_eql_struct]
  have h := equal_ptr n Wn.n0 9998 w
  have h' : (Op.equalIn 10000 45 (.agg #[.int .i64 n.p0, .int .i64 n.p1, .int .i64 n.p2, .int .i64 n.p3, .int .i64 n.p4, .int .i64 n.p5, .int .i64 n.p6, .int .i64 n.p7]) (.agg #[.int .i64 0, .int .i64 0, .int .i64 0, .int .i64 0, .int .i64 0, .int .i64 0, .int .i64 0, .int .i64 0])).run Try.prog w = .ok (noneB n) w := h
  rw [h']
  rfl

set_option maxHeartbeats 1600000 in
theorem check7_any (n : Wn.Nod) (w : World) :
    Calls Try.prog 30 #[nv n] w fun e w' => e = .returned (.int .i64 (Wn.nodE n)) ∧ Below w.heap.size w w' := by
  have A0 := Wc.hid (Nh.new w n)
  have B0 := Wc.hid ((Below.refl w.heap.size w).alloc (Nat.le_refl _) (.cells #[.int .i64 n.level, .int .i64 n.p0, .int .i64 n.p1, .int .i64 n.p2, .int .i64 n.p3, .int .i64 n.p4, .int .i64 n.p5, .int .i64 n.p6, .int .i64 n.p7] 47))
  unfold nv
  go_enter Try.func30, Try.ntmps30
  go_wp2_with fail
  refine (rightLevel_any _ _).mono ?_
  rintro e w' ⟨rfl, rfl⟩
  cases hlev : lvB n.level
  · have HN := Wc.hid (nodE_no (Wn.nodB_level (n := n) (fun h => by rw [lvB_iff.2 h] at hlev; cases hlev)))
    clear hlev
    go_wp2
    go_ret
    exact ⟨ret_int HN.out.symm, B0.out⟩
  · have HL := Wc.hid (lvB_iff.1 hlev)
    clear hlev
    go_wp2
    go_loopw [11] (fun i wr => ∃ k : Nat, i = .int .i64 k ∧ k ≤ 8 ∧ w.alloc (.cells #[.int .i64 n.level, .int .i64 n.p0, .int .i64 n.p1, .int .i64 n.p2, .int .i64 n.p3, .int .i64 n.p4, .int .i64 n.p5, .int .i64 n.p6, .int .i64 n.p7] 47) = wr ∧ Hid (∀ j, j < k → Ws.linkB (Wn.pat n j) 4096 = true)) (fun i _ => 8 - (intOf i).toNat)
    case atStart => exact ⟨0, rfl, by omega, rfl, Wc.hid (fun j h => by omega)⟩
    case round =>
      obtain ⟨k, rfl, hk, rfl, HZ⟩ := hrel
      by_cases hlt : k < 8
      · have hidx := fun w => idx8 n hlt w
        go_wp2_with fail
        refine (leads7_any _ _).mono ?_
        rintro e w' ⟨rfl, rfl⟩
        clear hidx
        cases hb : Ws.linkB (Wn.pat n k) 4096
        · have HN := Wc.hid (nodE_no (Wn.nodB_ptr k hlt hb))
          clear hb
          go_wp2
          go_ret
          exact ⟨ret_int HN.out.symm, B0.out⟩
        · have HB := Wc.hid hb
          clear hb
          go_wp2
          go_roundw
          case rel =>
            refine ⟨k + 1, by go_num, by omega, trivial, Wc.hid fun j hj => ?_⟩
            by_cases hjk : j = k
            · subst hjk; exact HB.out
            · exact HZ.out j (by omega)
          case measure => simp [intOf]; omega
      · obtain rfl : k = 8 := by omega
        have heq := fun w => eql_none n w
        cases hn : noneB n
        · have HN := Wc.hid (nodE_yes (Wn.nodB_yes HL.out HZ.out (noneB_no hn)))
          rw [hn] at heq
          clear hn
          go_wp2
          go_ret
          exact ⟨ret_int HN.out.symm, B0.out⟩
        · have HN := Wc.hid (nodE_no (Wn.nodB_none (noneB_yes hn)))
          rw [hn] at heq
          clear hn
          go_wp2
          go_ret
          exact ⟨ret_int HN.out.symm, B0.out⟩

/-- Is one of the first k pointers not 0? -/
def anyB (n : Wn.Nod) (k : Nat) : Bool := ((Wn.ptr n).take k).any (fun p => p != 0)

theorem anyB_next (n : Wn.Nod) {k : Nat} (hk : k < 8) : anyB n (k + 1) = (anyB n k || Wn.pat n k != 0) := by
  have h : (Wn.ptr n).take (k + 1) = (Wn.ptr n).take k ++ [Wn.pat n k] := by
    rcases Wn.below8 hk with rfl | rfl | rfl | rfl | rfl | rfl | rfl | rfl <;> rfl
  unfold anyB
  rw [h, List.any_append]
  simp

theorem nodB_any {n : Wn.Nod} (h : 0 ≤ n.level ∧ n.level ≤ 2) (hp : ∀ k, k < 8 → Ws.linkB (Wn.pat n k) 4096 = true) : Wn.nodB n = anyB n 8 := by
  have e : anyB n 8 = (Wn.ptr n).any (fun p => p != 0) := rfl
  rw [e, Bool.eq_iff_iff]
  constructor
  · intro hb
    obtain ⟨p, hm, hne⟩ := (Wn.nodB_iff.1 hb).2.2
    exact List.any_eq_true.2 ⟨p, hm, by simpa using hne⟩
  · intro ha
    obtain ⟨p, hm, hne⟩ := List.any_eq_true.1 ha
    obtain ⟨k, hk, rfl⟩ := Wn.mem_pat hm
    exact Wn.nodB_yes h hp ⟨k, hk, by simpa using hne⟩

set_option maxHeartbeats 1600000 in
theorem refNode_any (n : Wn.Nod) (w : World) :
    Calls Try.prog 58 #[nv n] w fun e w' => e = .returned (.bool (Wn.nodB n)) ∧ Below w.heap.size w w' := by
  have A0 := Wc.hid (Nh.new w n)
  have B0 := Wc.hid ((Below.refl w.heap.size w).alloc (Nat.le_refl _) (.cells #[.int .i64 n.level, .int .i64 n.p0, .int .i64 n.p1, .int .i64 n.p2, .int .i64 n.p3, .int .i64 n.p4, .int .i64 n.p5, .int .i64 n.p6, .int .i64 n.p7] 47))
  unfold nv
  go_enter Try.func58, Try.ntmps58
  go_wp2_with fail
  refine (refIn_any _ _ _ _).mono ?_
  rintro e w' ⟨rfl, rfl⟩
  rw [show (decide (0 ≤ n.level) && decide (n.level ≤ 2)) = lvB n.level from rfl]
  cases hlev : lvB n.level
  · have HN := Wc.hid (Wn.nodB_level (n := n) (fun h => by rw [lvB_iff.2 h] at hlev; cases hlev))
    clear hlev
    go_wp2
    go_ret
    exact ⟨ret_bool HN.out.symm, B0.out⟩
  · have HL := Wc.hid (lvB_iff.1 hlev)
    clear hlev
    go_wp2
    obtain ⟨W, hW⟩ : ∃ W, w.alloc (.cells #[.int .i64 n.level, .int .i64 n.p0, .int .i64 n.p1, .int .i64 n.p2, .int .i64 n.p3, .int .i64 n.p4, .int .i64 n.p5, .int .i64 n.p6, .int .i64 n.p7] 47) = W := ⟨_, rfl⟩
    rw [hW] at A0 B0 ⊢
    clear hW
    go_loopw [3, 4] (fun c i wr => ∃ k : Nat, i = .int .i64 k ∧ k ≤ 8 ∧ W = wr ∧ c = .bool (anyB n k) ∧ Hid (∀ j, j < k → Ws.linkB (Wn.pat n j) 4096 = true)) (fun _ i _ => 8 - (intOf i).toNat)
    case atStart => exact ⟨0, rfl, by omega, rfl, rfl, Wc.hid (fun j h => by omega)⟩
    case round =>
      obtain ⟨k, rfl, hk, rfl, rfl, HZ⟩ := hrel
      by_cases hlt : k < 8
      · have hcell := A0.out.pat hlt
        have HA := Wc.hid (anyB_next n hlt)
        go_wp2_with fail
        refine (link_any _ _ _ (by omega)).mono ?_
        rintro e w' ⟨rfl, rfl⟩
        cases hb : Ws.linkB (Wn.pat n k) 4096
        · have HN := Wc.hid (Wn.nodB_ptr k hlt hb)
          clear hb
          go_wp2
          go_ret
          exact ⟨ret_bool HN.out.symm, B0.out⟩
        · have HB := Wc.hid hb
          clear hb
          have HZ2 : Hid (∀ j, j < k + 1 → Ws.linkB (Wn.pat n j) 4096 = true) := Wc.hid fun j hj => by
            by_cases hjk : j = k
            · subst hjk; exact HB.out
            · exact HZ.out j (by omega)
          clear HZ HB
          generalize anyB n k = c0 at HA ⊢
          obtain ⟨z, hz⟩ : ∃ z, Wn.pat n k = z := ⟨_, rfl⟩
          rw [hz] at hcell HA ⊢
          clear hz
          cases c0
          · cases hz : (z != 0)
            · go_wp2
              go_roundw
              case rel => exact ⟨k + 1, by go_num, by omega, trivial, by rw [HA.out, hz]; rfl, HZ2⟩
              case measure => simp [intOf]; omega
            · go_wp2
              go_roundw
              case rel => exact ⟨k + 1, by go_num, by omega, trivial, by rw [HA.out, hz]; rfl, HZ2⟩
              case measure => simp [intOf]; omega
          · go_wp2
            go_roundw
            case rel => exact ⟨k + 1, by go_num, by omega, trivial, by rw [HA.out]; rfl, HZ2⟩
            case measure => simp [intOf]; omega
      · obtain rfl : k = 8 := by omega
        have HN := Wc.hid (nodB_any HL.out HZ.out)
        go_wp2
        go_ret
        exact ⟨ret_bool HN.out.symm, B0.out⟩

set_option maxHeartbeats 400000 in
theorem put7_row (b off n cap : Nat) (xs : List Int) (p m : Int) (w : World) (hf : Wc.fitB m 4 = true) (hp : Wc.inB n p 4 = true) (hn : n ≤ 140737488355328) (hl : xs.length = n) (hb : b < w.heap.size)
   (hc : ∀ i, i < n → w.cell? ⟨b, off + i, none⟩ = some (.int .u8 (xs.getD i 0))) :
    Calls Try.prog 31 #[.slice (some ⟨b, off, none⟩) n cap, .int .i64 p, .int .i64 m] w fun e w' => ∃ g, e = .returned (.slice (some ⟨g, 0, none⟩) n n) ∧ w.heap.size ≤ g ∧ w'.rowIs g 5 n (fun j => .int .u8 ((Wc.putL xs p.toNat 4 m).getD j 0)) ∧ Below w.heap.size w w' := by
  have HC := Wc.hid hc
  clear hc
  go_enter Try.func31, Try.ntmps31
  go_wp2_with fail
  refine (put_row b off n cap xs p 4 m w (by decide) hf hp hn hl hb HC.out).mono ?_
  rintro e w' ⟨g, rfl, hg, hr, hb⟩
  go_wp2
  go_ret
  exact ⟨g, rfl, hg, hr, hb⟩

theorem put7_lay (g : Nat) (xs ys : List Int) (p m : Int) (w : World) (hl : xs.length = 64) (hf : Wc.fitB m 4 = true) (hp : Wc.inB 64 p 4 = true) (hr : Rb w g xs) (he : Wc.putL xs p.toNat 4 m = ys) :
    Calls Try.prog 31 #[.slice (some ⟨g, 0, none⟩) 64 64, .int .i64 p, .int .i64 m] w fun e w' => ∃ g', e = .returned (.slice (some ⟨g', 0, none⟩) 64 64) ∧ w.heap.size ≤ g' ∧ Rb w' g' ys ∧ Below w.heap.size w w' := by
  refine (put7_row g 0 64 64 xs p m w hf hp (by omega) hl hr.lt (fun i hi => by rw [Nat.zero_add]; exact hr.cell hi)).mono ?_
  rintro e w' ⟨g', rfl, hg, hr', hb⟩
  rw [he] at hr'
  exact ⟨g', rfl, hg, hr', hb⟩

set_option maxHeartbeats 400000 in
theorem get7_any (v : Value) (xs : List Int) (p : Int) (w : World) (hv : Wc.Bs w v xs) :
    Calls Try.prog 37 #[v, .int .i64 p] w fun e w' => e = .returned (.int .i64 (Wc.getR xs p 4).1) ∧ w = w' := by
  have HV := Wc.hid hv
  clear hv
  go_enter Try.func37, Try.ntmps37
  go_wp2_with fail
  refine (get_any v xs p 4 _ HV.out).mono ?_
  rintro e w' ⟨rfl, rfl⟩
  go_wp2
  go_ret
  exact ⟨rfl, rfl⟩

end Go.Proofs.Ytifjbmknghjohaa
