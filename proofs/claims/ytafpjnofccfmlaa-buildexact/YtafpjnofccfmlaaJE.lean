/-
  What comparing two arrays of ints tells. It speaks of no program but of the types' shapes.
  What the small functions of package node and of the page's layer 7 return, for every input.
  What node.Bytes returns, for every node: its block in memory of its own, or the error.
  What node.Parse returns, for all bytes.
  What node.Place returns, for every sector and every level.
  What comparing two nodes tells.
  A node that came in, by value. It speaks of no program but of its type.
  What the page's open (at NODE) and ParseNode return, for all bytes.
  What the page's NodeBytes returns, for every right node.
-/
import Derived.DeepKeys
import Derived.Test.YtafpjnofccfmlaaJC
import Derived.Laws.ResultCell
import Derived.Lib.SmallJoins
import Derived.OpenShut
namespace Wa
open Go

theorem eqItems_ints {P : Program} {e : TypeId} (he : P.underlying e = some (.int .i64)) (d : Nat) (a b : List Int) : ∀ (m k : Nat), k + m = a.length → k + m = b.length → ∀ w : World,
    (Op.eqItems (d + 1) e 1 (a.map (Value.int .i64)).toArray (b.map (Value.int .i64)).toArray (List.range' k m)).run P w = .ok (a.drop k == b.drop k) w
  | 0, k, ha, hb, w => by
    rw [List.drop_eq_nil_of_le (by omega), List.drop_eq_nil_of_le (by omega)]
    simp [Op.eqItems]
  | m + 1, k, ha, hb, w => by
    have hp : P.plainKey e = true := by simp [Program.plainKey, he]
    have hka : k < a.length := by omega
    have hkb : k < b.length := by omega
    have p1 := run_part_plain (P := P) w hp (xs := (a.map (Value.int .i64)).toArray) (off := k * 1) (v := .int .i64 a[k]) (by simp [hka])
    have p2 := run_part_plain (P := P) w hp (xs := (b.map (Value.int .i64)).toArray) (off := k * 1) (v := .int .i64 b[k]) (by simp [hkb])
    have ih := eqItems_ints he d a b m (k + 1) (by omega) (by omega) w
    rw [List.range'_succ, List.drop_eq_getElem_cons hka, List.drop_eq_getElem_cons hkb]
    simp only [Op.eqItems, Sem.run_bind, p1, p2, Result.andThen_ok, run_equalIn_int w d e .i64 .i64 _ _ he]
    by_cases h : a[k] = b[k]
    · have hb' : (a[k] == b[k]) = true := by simpa using h
      simp only [hb', Bool.not_true, Bool.false_eq_true, if_false, ih, List.cons_beq_cons, Bool.true_and]
    · have hb' : (a[k] == b[k]) = false := by simpa using h
      simp only [hb', Bool.not_false, if_true, Sem.run_pure, List.cons_beq_cons, Bool.false_and]

/-- Two arrays of ints are one just if their lists are. -/
theorem equal_ints {P : Program} {t e : TypeId} {n : Nat} {i : TypeInfo} (hu : P.underlying t = some (.array n e)) (hi : P.info? e = some i) (he : P.underlying e = some (.int .i64)) (hc : P.cellsOf e = 1) (d : Nat) (a b : List Int) (ha : a.length = n) (hb : b.length = n) (w : World) :
    (Op.equalIn (d + 2) t (.agg (a.map (Value.int .i64)).toArray) (.agg (b.map (Value.int .i64)).toArray)).run P w = .ok (a == b) w := by
  rw [run_equalIn_array w (d + 1) _ _ hu hi, hc, List.range_eq_range']
  exact eqItems_ints he d a b n 0 (by omega) (by omega) w

end Wa
namespace Go.Proofs.Ytafpjnofccfmlaa
open Go.RowKit

/-- A node as a value. -/
def nv (n : Wn.Nod) : Value := .agg #[.int .i64 n.level, .int .i64 n.p0, .int .i64 n.p1, .int .i64 n.p2, .int .i64 n.p3, .int .i64 n.p4, .int .i64 n.p5, .int .i64 n.p6, .int .i64 n.p7]

/-- The block B is a node's own cells. -/
def Nh (w : World) (B : Nat) (n : Wn.Nod) : Prop := w.heap[B]? = some (.cells #[.int .i64 n.level, .int .i64 n.p0, .int .i64 n.p1, .int .i64 n.p2, .int .i64 n.p3, .int .i64 n.p4, .int .i64 n.p5, .int .i64 n.p6, .int .i64 n.p7] 83 (0, 0))

theorem Nh.new (w : World) (n : Wn.Nod) : Nh (w.alloc (.cells #[.int .i64 n.level, .int .i64 n.p0, .int .i64 n.p1, .int .i64 n.p2, .int .i64 n.p3, .int .i64 n.p4, .int .i64 n.p5, .int .i64 n.p6, .int .i64 n.p7] 83)) w.heap.size n := by
  show (w.heap.push _)[w.heap.size]? = _; simp

theorem Nh.lt {w : World} {B : Nat} {n : Wn.Nod} (h : Nh w B n) : B < w.heap.size := (Array.getElem?_eq_some_iff.1 h).1

theorem Nh.keep {w w' : World} {B : Nat} {n : Wn.Nod} (h : Nh w B n) (hb : Below w.heap.size w w') : Nh w' B n := by
  unfold Nh
  rw [hb.block B h.lt]; exact h

theorem Nh.below {w w' : World} {B base : Nat} {n : Wn.Nod} (h : Nh w B n) (hb : Below base w w') (hlt : B < base) : Nh w' B n := by
  unfold Nh
  rw [hb.block B hlt]; exact h

theorem Nh.frozen {w : World} {B : Nat} {n : Wn.Nod} (h : Nh w B n) (i : Nat) : w.frozen? ⟨B, i, none⟩ = false := by
  unfold Nh at h
  simp [World.frozen?, h]

/-- At the block B lies the node n. -/
def Nc (w : World) (B : Nat) (n : Wn.Nod) : Prop :=
  w.cell? ⟨B, 0, none⟩ = some (.int .i64 n.level) ∧ w.cell? ⟨B, 1, none⟩ = some (.int .i64 n.p0) ∧ w.cell? ⟨B, 2, none⟩ = some (.int .i64 n.p1) ∧ w.cell? ⟨B, 3, none⟩ = some (.int .i64 n.p2) ∧ w.cell? ⟨B, 4, none⟩ = some (.int .i64 n.p3) ∧ w.cell? ⟨B, 5, none⟩ = some (.int .i64 n.p4) ∧ w.cell? ⟨B, 6, none⟩ = some (.int .i64 n.p5) ∧ w.cell? ⟨B, 7, none⟩ = some (.int .i64 n.p6) ∧ w.cell? ⟨B, 8, none⟩ = some (.int .i64 n.p7)

theorem Nh.nc {w : World} {B : Nat} {n : Wn.Nod} (h : Nh w B n) : Nc w B n := by
  unfold Nh at h
  refine ⟨?_, ?_, ?_, ?_, ?_, ?_, ?_, ?_, ?_⟩ <;> simp [World.cell?, h]

/-- A pointer's cell. -/
theorem Nh.pat {w : World} {B : Nat} {n : Wn.Nod} (h : Nh w B n) {k : Nat} (hk : k < 8) : w.cell? ⟨B, 1 + k, none⟩ = some (.int .i64 (Wn.pat n k)) := by
  obtain ⟨c, c0, c1, c2, c3, c4, c5, c6, c7⟩ := h.nc
  rcases Wn.below8 hk with rfl | rfl | rfl | rfl | rfl | rfl | rfl | rfl
  · exact c0
  · exact c1
  · exact c2
  · exact c3
  · exact c4
  · exact c5
  · exact c6
  · exact c7

/-- A pointer written over. -/
theorem Nh.set {w : World} {B : Nat} {n : Wn.Nod} (h : Nh w B n) {k : Nat} (hk : k < 8) (z : Int) : Nh (w.setCell ⟨B, 1 + k, none⟩ (.int .i64 z)) B (Wn.setP n k z) := by
  have h1 := heap_setCell_same w B (1 + k) _ 83 (.int .i64 z) h
  unfold Nh
  rcases Wn.below8 hk with rfl | rfl | rfl | rfl | rfl | rfl | rfl | rfl
  all_goals (simp only [Wn.setP]; simpa using h1)

theorem idx8 (n : Wn.Nod) {k : Nat} (hk : k < 8) (w : World) : (Instr.index 81 (.agg #[.int .i64 n.p0, .int .i64 n.p1, .int .i64 n.p2, .int .i64 n.p3, .int .i64 n.p4, .int .i64 n.p5, .int .i64 n.p6, .int .i64 n.p7]) (.int .i64 (k : Int))).run Try.prog w = .ok (.int .i64 (Wn.pat n k)) w := by
  rcases Wn.below8 hk with rfl | rfl | rfl | rfl | rfl | rfl | rfl | rfl <;> kernel_rfl

/-- A right level. -/
def lvB (n : Int) : Bool := decide (0 ≤ n) && decide (n ≤ 2)
theorem lvB_iff {n : Int} : lvB n = true ↔ 0 ≤ n ∧ n ≤ 2 := by simp [lvB]

set_option maxHeartbeats 400000 in
theorem rightLevel_any (n : Int) (w : World) :
    Calls Try.prog 75 #[.int .i64 n] w fun e w' => e = .returned (.bool (lvB n)) ∧ w = w' := by
  unfold lvB
  go_enter Try.func75, Try.ntmps75
  go_wp2
  all_goals go_ret
  · exact ⟨ret_bool (by simp [*]), rfl⟩
  · exact ⟨ret_bool (by symm; rw [Bool.eq_false_iff]; simp; omega), rfl⟩

set_option maxHeartbeats 400000 in
theorem leads7_any (n : Int) (w : World) :
    Calls Try.prog 76 #[.int .i64 n] w fun e w' => e = .returned (.bool (Ws.linkB n 4096)) ∧ w = w' := by
  go_enter Try.func76, Try.ntmps76
  go_wp2
  all_goals go_ret
  all_goals (refine ⟨ret_bool ?_, rfl⟩; rw [Bool.eq_iff_iff]; simp [Ws.linkB]; try omega)

set_option maxHeartbeats 400000 in
theorem link_any (n m : Int) (w : World) (hm : 4 ≤ m ∧ m ≤ 4096) :
    Calls Try.prog 68 #[.int .i64 n, .int .i64 m] w fun e w' => e = .returned (.bool (Ws.linkB n m)) ∧ w = w' := by
  go_enter Try.func68, Try.ntmps68
  go_wp2_with (go_at_call 35; refine (refIn_any _ _ _ _).mono ?_; rintro e w' ⟨rfl, rfl⟩)
  all_goals go_ret
  all_goals (refine ⟨ret_bool ?_, rfl⟩; rw [Bool.eq_iff_iff]; simp [Ws.linkB]; try omega)

theorem nodE_yes {s : Wn.Nod} (h : Wn.nodB s = true) : Wn.nodE s = 0 := by simp [Wn.nodE, h]
theorem nodE_no {s : Wn.Nod} (h : Wn.nodB s = false) : Wn.nodE s = 1 := by simp [Wn.nodE, h]

theorem Try.infoInt : ∃ i, Try.prog.info? 3 = some i := Option.isSome_iff_exists.1 (by kernel_rfl)
theorem Try.cellsInt : Try.prog.cellsOf 3 = 1 := by kernel_rfl

theorem equal_ptr (s t : Wn.Nod) (d : Nat) (w : World) : (Op.equalIn (d + 2) 81 (.agg #[.int .i64 s.p0, .int .i64 s.p1, .int .i64 s.p2, .int .i64 s.p3, .int .i64 s.p4, .int .i64 s.p5, .int .i64 s.p6, .int .i64 s.p7]) (.agg #[.int .i64 t.p0, .int .i64 t.p1, .int .i64 t.p2, .int .i64 t.p3, .int .i64 t.p4, .int .i64 t.p5, .int .i64 t.p6, .int .i64 t.p7])).run Try.prog w = .ok (Wn.ptr s == Wn.ptr t) w := by
  obtain ⟨i, hi⟩ := Try.infoInt
  exact Wa.equal_ints Try.underlying81 hi Try.underlying3 Try.cellsInt d (Wn.ptr s) (Wn.ptr t) rfl rfl w

/-- Are all pointers 0? -/
def noneB (n : Wn.Nod) : Bool := Wn.ptr n == Wn.ptr Wn.n0

theorem noneB_yes {n : Wn.Nod} (h : noneB n = true) : ∀ k, k < 8 → Wn.pat n k = 0 := by
  intro k hk
  have e : Wn.ptr n = Wn.ptr Wn.n0 := by simpa [noneB] using h
  unfold Wn.pat
  rw [e]
  rcases Wn.below8 hk with rfl | rfl | rfl | rfl | rfl | rfl | rfl | rfl <;> rfl

theorem noneB_no {n : Wn.Nod} (h : noneB n = false) : ∃ k, k < 8 ∧ ¬ Wn.pat n k = 0 := by
  apply Classical.byContradiction
  intro hn
  have e : Wn.ptr n = Wn.ptr Wn.n0 := by
    have hz : ∀ k, k < 8 → Wn.pat n k = 0 := fun k hk => Classical.byContradiction fun hne => hn ⟨k, hk, hne⟩
    have h0 : n.p0 = 0 := hz 0 (by omega)
    have h1 : n.p1 = 0 := hz 1 (by omega)
    have h2 : n.p2 = 0 := hz 2 (by omega)
    have h3 : n.p3 = 0 := hz 3 (by omega)
    have h4 : n.p4 = 0 := hz 4 (by omega)
    have h5 : n.p5 = 0 := hz 5 (by omega)
    have h6 : n.p6 = 0 := hz 6 (by omega)
    have h7 : n.p7 = 0 := hz 7 (by omega)
    unfold Wn.ptr
    rw [h0, h1, h2, h3, h4, h5, h6, h7]
    rfl
  simp [noneB, e] at h

theorem eql_none (n : Wn.Nod) (w : World) : (binOp .eql 81 (.agg #[.int .i64 n.p0, .int .i64 n.p1, .int .i64 n.p2, .int .i64 n.p3, .int .i64 n.p4, .int .i64 n.p5, .int .i64 n.p6, .int .i64 n.p7]) (.agg #[.int .i64 0, .int .i64 0, .int .i64 0, .int .i64 0, .int .i64 0, .int .i64 0, .int .i64 0, .int .i64 0])).run Try.prog w = .ok (.bool (noneB n)) w := by
  rw [run_eql_struct]
  have h := equal_ptr n Wn.n0 9998 w
  have h' : (Op.equalIn 10000 81 (.agg #[.int .i64 n.p0, .int .i64 n.p1, .int .i64 n.p2, .int .i64 n.p3, .int .i64 n.p4, .int .i64 n.p5, .int .i64 n.p6, .int .i64 n.p7]) (.agg #[.int .i64 0, .int .i64 0, .int .i64 0, .int .i64 0, .int .i64 0, .int .i64 0, .int .i64 0, .int .i64 0])).run Try.prog w = .ok (noneB n) w := h
  rw [h']
  rfl

set_option maxHeartbeats 1600000 in
theorem check7_any (n : Wn.Nod) (w : World) :
    Calls Try.prog 62 #[nv n] w fun e w' => e = .returned (.int .i64 (Wn.nodE n)) ∧ Below w.heap.size w w' := by
  have A0 := Wc.hid (Nh.new w n)
  have B0 := Wc.hid ((Below.refl w.heap.size w).alloc (Nat.le_refl _) (.cells #[.int .i64 n.level, .int .i64 n.p0, .int .i64 n.p1, .int .i64 n.p2, .int .i64 n.p3, .int .i64 n.p4, .int .i64 n.p5, .int .i64 n.p6, .int .i64 n.p7] 83))
  unfold nv
  go_enter Try.func62, Try.ntmps62
  go_wp2_with fail
  refine (rightLevel_any _ _).mono ?_
  rintro e w' ⟨rfl, rfl⟩
  cases hlev : lvB n.level
  · have HN := Wc.hid (nodE_no (Wn.nodB_level (n := n) (fun h => by rw [lvB_iff.2 h] at hlev; cases hlev)))
    clear hlev
    go_wp2
    go_ret
    exact ⟨ret_int HN.out.symm, B0.out⟩
  · have HL := Wc.hid (lvB_iff.1 hlev)
    clear hlev
    go_wp2
    go_loopw [11] (fun i wr => ∃ k : Nat, i = .int .i64 k ∧ k ≤ 8 ∧ w.alloc (.cells #[.int .i64 n.level, .int .i64 n.p0, .int .i64 n.p1, .int .i64 n.p2, .int .i64 n.p3, .int .i64 n.p4, .int .i64 n.p5, .int .i64 n.p6, .int .i64 n.p7] 83) = wr ∧ Hid (∀ j, j < k → Ws.linkB (Wn.pat n j) 4096 = true)) (fun i _ => 8 - (intOf i).toNat)
    case atStart => exact ⟨0, rfl, by omega, rfl, Wc.hid (fun j h => by omega)⟩
    case round =>
      obtain ⟨k, rfl, hk, rfl, HZ⟩ := hrel
      by_cases hlt : k < 8
      · have hidx := fun w => idx8 n hlt w
        go_wp2_with fail
        refine (leads7_any _ _).mono ?_
        rintro e w' ⟨rfl, rfl⟩
        clear hidx
        cases hb : Ws.linkB (Wn.pat n k) 4096
        · have HN := Wc.hid (nodE_no (Wn.nodB_ptr k hlt hb))
          clear hb
          go_wp2
          go_ret
          exact ⟨ret_int HN.out.symm, B0.out⟩
        · have HB := Wc.hid hb
          clear hb
          go_wp2
          go_roundw
          case rel =>
            refine ⟨k + 1, by go_num, by omega, trivial, Wc.hid fun j hj => ?_⟩
            by_cases hjk : j = k
            · subst hjk; exact HB.out
            · exact HZ.out j (by omega)
          case measure => simp [intOf]; omega
      · obtain rfl : k = 8 := by omega
        have heq := fun w => eql_none n w
        cases hn : noneB n
        · have HN := Wc.hid (nodE_yes (Wn.nodB_yes HL.out HZ.out (noneB_no hn)))
          rw [hn] at heq
          clear hn
          go_wp2
          go_ret
          exact ⟨ret_int HN.out.symm, B0.out⟩
        · have HN := Wc.hid (nodE_no (Wn.nodB_none (noneB_yes hn)))
          rw [hn] at heq
          clear hn
          go_wp2
          go_ret
          exact ⟨ret_int HN.out.symm, B0.out⟩

/-- Is one of the first k pointers not 0? -/
def anyB (n : Wn.Nod) (k : Nat) : Bool := ((Wn.ptr n).take k).any (fun p => p != 0)

theorem anyB_next (n : Wn.Nod) {k : Nat} (hk : k < 8) : anyB n (k + 1) = (anyB n k || Wn.pat n k != 0) := by
  have h : (Wn.ptr n).take (k + 1) = (Wn.ptr n).take k ++ [Wn.pat n k] := by
    rcases Wn.below8 hk with rfl | rfl | rfl | rfl | rfl | rfl | rfl | rfl <;> rfl
  unfold anyB
  rw [h, List.any_append]
  simp

theorem nodB_any {n : Wn.Nod} (h : 0 ≤ n.level ∧ n.level ≤ 2) (hp : ∀ k, k < 8 → Ws.linkB (Wn.pat n k) 4096 = true) : Wn.nodB n = anyB n 8 := by
  have e : anyB n 8 = (Wn.ptr n).any (fun p => p != 0) := rfl
  rw [e, Bool.eq_iff_iff]
  constructor
  · intro hb
    obtain ⟨p, hm, hne⟩ := (Wn.nodB_iff.1 hb).2.2
    exact List.any_eq_true.2 ⟨p, hm, by simpa using hne⟩
  · intro ha
    obtain ⟨p, hm, hne⟩ := List.any_eq_true.1 ha
    obtain ⟨k, hk, rfl⟩ := Wn.mem_pat hm
    exact Wn.nodB_yes h hp ⟨k, hk, by simpa using hne⟩

set_option maxHeartbeats 1600000 in
theorem refNode_any (n : Wn.Nod) (w : World) :
    Calls Try.prog 53 #[nv n] w fun e w' => e = .returned (.bool (Wn.nodB n)) ∧ Below w.heap.size w w' := by
  have A0 := Wc.hid (Nh.new w n)
  have B0 := Wc.hid ((Below.refl w.heap.size w).alloc (Nat.le_refl _) (.cells #[.int .i64 n.level, .int .i64 n.p0, .int .i64 n.p1, .int .i64 n.p2, .int .i64 n.p3, .int .i64 n.p4, .int .i64 n.p5, .int .i64 n.p6, .int .i64 n.p7] 83))
  unfold nv
  go_enter Try.func53, Try.ntmps53
  go_wp2_with fail
  refine (refIn_any _ _ _ _).mono ?_
  rintro e w' ⟨rfl, rfl⟩
  rw [show (decide (0 ≤ n.level) && decide (n.level ≤ 2)) = lvB n.level from rfl]
  cases hlev : lvB n.level
  · have HN := Wc.hid (Wn.nodB_level (n := n) (fun h => by rw [lvB_iff.2 h] at hlev; cases hlev))
    clear hlev
    go_wp2
    go_ret
    exact ⟨ret_bool HN.out.symm, B0.out⟩
  · have HL := Wc.hid (lvB_iff.1 hlev)
    clear hlev
    go_wp2
    obtain ⟨W, hW⟩ : ∃ W, w.alloc (.cells #[.int .i64 n.level, .int .i64 n.p0, .int .i64 n.p1, .int .i64 n.p2, .int .i64 n.p3, .int .i64 n.p4, .int .i64 n.p5, .int .i64 n.p6, .int .i64 n.p7] 83) = W := ⟨_, rfl⟩
    rw [hW] at A0 B0 ⊢
    clear hW
    go_loopw [3, 4] (fun c i wr => ∃ k : Nat, i = .int .i64 k ∧ k ≤ 8 ∧ W = wr ∧ c = .bool (anyB n k) ∧ Hid (∀ j, j < k → Ws.linkB (Wn.pat n j) 4096 = true)) (fun _ i _ => 8 - (intOf i).toNat)
    case atStart => exact ⟨0, rfl, by omega, rfl, rfl, Wc.hid (fun j h => by omega)⟩
    case round =>
      obtain ⟨k, rfl, hk, rfl, rfl, HZ⟩ := hrel
      by_cases hlt : k < 8
      · have hcell := A0.out.pat hlt
        have HA := Wc.hid (anyB_next n hlt)
        go_wp2_with fail
        refine (link_any _ _ _ (by omega)).mono ?_
        rintro e w' ⟨rfl, rfl⟩
        cases hb : Ws.linkB (Wn.pat n k) 4096
        · have HN := Wc.hid (Wn.nodB_ptr k hlt hb)
          clear hb
          go_wp2
          go_ret
          exact ⟨ret_bool HN.out.symm, B0.out⟩
        · have HB := Wc.hid hb
          clear hb
          have HZ2 : Hid (∀ j, j < k + 1 → Ws.linkB (Wn.pat n j) 4096 = true) := Wc.hid fun j hj => by
            by_cases hjk : j = k
            · subst hjk; exact HB.out
            · exact HZ.out j (by omega)
          clear HZ HB
          generalize anyB n k = c0 at HA ⊢
          obtain ⟨z, hz⟩ : ∃ z, Wn.pat n k = z := ⟨_, rfl⟩
          rw [hz] at hcell HA ⊢
          clear hz
          cases c0
          · cases hz : (z != 0)
            · go_wp2
              go_roundw
              case rel => exact ⟨k + 1, by go_num, by omega, trivial, by rw [HA.out, hz]; rfl, HZ2⟩
              case measure => simp [intOf]; omega
            · go_wp2
              go_roundw
              case rel => exact ⟨k + 1, by go_num, by omega, trivial, by rw [HA.out, hz]; rfl, HZ2⟩
              case measure => simp [intOf]; omega
          · go_wp2
            go_roundw
            case rel => exact ⟨k + 1, by go_num, by omega, trivial, by rw [HA.out]; rfl, HZ2⟩
            case measure => simp [intOf]; omega
      · obtain rfl : k = 8 := by omega
        have HN := Wc.hid (nodB_any HL.out HZ.out)
        go_wp2
        go_ret
        exact ⟨ret_bool HN.out.symm, B0.out⟩

set_option maxHeartbeats 400000 in
theorem put7_row (b off n cap : Nat) (xs : List Int) (p m : Int) (w : World) (hf : Wc.fitB m 4 = true) (hp : Wc.inB n p 4 = true) (hn : n ≤ 140737488355328) (hl : xs.length = n) (hb : b < w.heap.size)
   (hc : ∀ i, i < n → w.cell? ⟨b, off + i, none⟩ = some (.int .u8 (xs.getD i 0))) :
    Calls Try.prog 63 #[.slice (some ⟨b, off, none⟩) n cap, .int .i64 p, .int .i64 m] w fun e w' => ∃ g, e = .returned (.slice (some ⟨g, 0, none⟩) n n) ∧ w.heap.size ≤ g ∧ w'.rowIs g 5 n (fun j => .int .u8 ((Wc.putL xs p.toNat 4 m).getD j 0)) ∧ Below w.heap.size w w' := by
  have HC := Wc.hid hc
  clear hc
  go_enter Try.func63, Try.ntmps63
  go_wp2_with fail
  refine (put_row b off n cap xs p 4 m w (by decide) hf hp hn hl hb HC.out).mono ?_
  rintro e w' ⟨g, rfl, hg, hr, hb⟩
  go_wp2
  go_ret
  exact ⟨g, rfl, hg, hr, hb⟩

theorem put7_lay (g : Nat) (xs ys : List Int) (p m : Int) (w : World) (hl : xs.length = 64) (hf : Wc.fitB m 4 = true) (hp : Wc.inB 64 p 4 = true) (hr : Rb w g xs) (he : Wc.putL xs p.toNat 4 m = ys) :
    Calls Try.prog 63 #[.slice (some ⟨g, 0, none⟩) 64 64, .int .i64 p, .int .i64 m] w fun e w' => ∃ g', e = .returned (.slice (some ⟨g', 0, none⟩) 64 64) ∧ w.heap.size ≤ g' ∧ Rb w' g' ys ∧ Below w.heap.size w w' := by
  refine (put7_row g 0 64 64 xs p m w hf hp (by omega) hl hr.lt (fun i hi => by rw [Nat.zero_add]; exact hr.cell hi)).mono ?_
  rintro e w' ⟨g', rfl, hg, hr', hb⟩
  rw [he] at hr'
  exact ⟨g', rfl, hg, hr', hb⟩

set_option maxHeartbeats 400000 in
theorem get7_any (v : Value) (xs : List Int) (p : Int) (w : World) (hv : Wc.Bs w v xs) :
    Calls Try.prog 88 #[v, .int .i64 p] w fun e w' => e = .returned (.int .i64 (Wc.getR xs p 4).1) ∧ w = w' := by
  have HV := Wc.hid hv
  clear hv
  go_enter Try.func88, Try.ntmps88
  go_wp2_with fail
  refine (get_any v xs p 4 _ HV.out).mono ?_
  rintro e w' ⟨rfl, rfl⟩
  go_wp2
  go_ret
  exact ⟨rfl, rfl⟩

end Go.Proofs.Ytafpjnofccfmlaa
namespace Go.Proofs.Ytafpjnofccfmlaa
open Go.RowKit

/-- copy(b, "NODE"), b made just ahead of it. -/
theorem named7 (w : World) : ∃ w2, Sem.run Try.prog (Builtin.copy_ #[22, 9] 3 #[.slice (some ⟨w.heap.size, 0, none⟩) 64 64, .string ⟨#[78, 79, 68, 69]⟩]) (w.alloc (.cells (madeCells #[.int .u8 0] 64) 5)) = .ok (.int .i64 4) w2 ∧
    Rb w2 w.heap.size Wn.q0 ∧ Below w.heap.size w w2 := by
  have hg := made_heap w (.int .u8 0) 64 5
  have hrun := Lib.run_copy_row_string (P := Try.prog) (w.alloc (.cells (madeCells #[.int .u8 0] 64) 5)) 22 9 3 5 w.heap.size 0 64 64 ⟨#[78, 79, 68, 69]⟩ _ 5 Try.underlying22 Try.sizeU8 hg (by decide) (by decide)
  refine ⟨_, hrun, ⟨_, setRow_heap _ _ _ _ 5 _ hg, by decide, fun i hi => ?_⟩, below_setRow ((Below.refl _ _).alloc (Nat.le_refl _) _) (Nat.le_refl _) _⟩
  have hl : i < Wn.q0.length := hi
  have hc : (Wn.q0.map (Value.int .u8)).toArray[i]? = some (.int .u8 (Wn.q0.getD i 0)) := by simp [hl]
  exact hc

set_option maxHeartbeats 1600000 in
theorem bytes7_ok (n : Wn.Nod) (w : World) (hs : Wn.nodB n = true) :
    Calls Try.prog 44 #[nv n] w fun e w' => ∃ g, e = .returned (.tuple #[.slice (some ⟨g, 0, none⟩) 64 64, .int .i64 0]) ∧ w.heap.size ≤ g ∧ Rb w' g (Wn.blk n) ∧ Below w.heap.size w w' := by
  have HS := Wc.hid (Wn.nodB_iff.1 hs).1
  have HK : Hid (∀ k, k < 8 → 0 ≤ Wn.pat n k ∧ Wn.pat n k < 4096) := Wc.hid fun k hk => Wn.nodB_pat hs hk
  have HE := Wc.hid (nodE_yes hs)
  clear hs
  unfold nv
  go_enter Try.func44, Try.ntmps44
  go_wp2_with fail
  refine (check7_any n _).mono ?_
  rintro e w1 ⟨rfl, hb1⟩
  rw [HE.out]
  have A1 := Wc.hid ((Nh.new w n).keep hb1)
  have HB1 := Wc.hid (Wc.step ((Below.refl w.heap.size w).alloc (Nat.le_refl _) _) (Nat.le_refl _) hb1)
  clear hb1
  obtain ⟨w2, hcp, hr2, hb2⟩ := named7 w1
  have hmk := make64
  have A2 := Wc.hid (A1.out.keep hb2)
  have HR2 := Wc.hid hr2
  have HB2 := Wc.hid (Wc.step HB1.out (Nat.le_refl _) hb2)
  clear hr2 hb2
  have ⟨c, c0, c1, c2, c3, c4, c5, c6, c7⟩ := A2.out.nc
  go_wp2_with fail
  clear hmk hcp c c0 c1 c2 c3 c4 c5 c6 c7
  refine (put7_lay _ Wn.q0 (Wn.part n 0) 4 n.level _ Wn.q0_length (fit4 (by have := HS.out; omega)) (by decide) HR2.out (Wn.put0 n)).mono ?_
  rintro e w3 ⟨g3, rfl, hg3, hr3, hb3⟩
  have A3 := Wc.hid (A2.out.keep hb3)
  have HR3 := Wc.hid hr3
  have HB3 := Wc.hid (Wc.step HB2.out (Nat.le_refl _) hb3)
  clear hg3 hr3 hb3 A2 HR2 HB2 A1 HB1
  have ⟨c, c0, c1, c2, c3, c4, c5, c6, c7⟩ := A3.out.nc
  go_wp2_with fail
  clear c c0 c1 c2 c3 c4 c5 c6 c7
  go_loopw [5, 22] (fun u i wr => ∃ k g, u = .slice (some ⟨g, 0, none⟩) 64 64 ∧ i = .int .i64 (k : Nat) ∧ k ≤ 8 ∧ Hid (Rb wr g (Wn.part n k)) ∧ Hid (Below w.heap.size w wr)) (fun _ i _ => 8 - (intOf i).toNat)
  case atStart => exact ⟨0, g3, rfl, rfl, by omega, HR3, HB3⟩
  case round =>
    obtain ⟨k, g, rfl, rfl, hk, HR, HB⟩ := hrel
    by_cases hlt : k < 8
    · have hidx := fun w => idx8 n hlt w
      have hpk : ((8 : Int) + (k : Int) * 4).toNat = 8 + 4 * k := by omega
      go_wp2_with fail
      clear hidx
      refine (put7_lay g (Wn.part n k) (Wn.part n (k + 1)) (8 + (k : Int) * 4) (Wn.pat n k) _ (Wn.part_length n k hk) (fit4 (by have := HK.out k hlt; omega)) (Wc.inB_iff.2 (by omega)) HR.out (by rw [hpk]; exact Wn.putk n k hlt)).mono ?_
      rintro e w4 ⟨g4, rfl, hg4, hr4, hb4⟩
      have HR4 := Wc.hid hr4
      have HB4 := Wc.hid (Wc.step HB.out (Nat.le_refl _) hb4)
      clear hg4 hr4 hb4
      go_wp2
      go_roundw
      case rel => exact ⟨k + 1, g4, rfl, by go_num, by omega, HR4, HB4⟩
      case measure => simp [intOf]; omega
    · obtain rfl : k = 8 := by omega
      have HV := Wc.hid (HR.out.bs (Wn.part_length n 8 (by omega)) (Wn.part_bd n))
      go_wp2_with fail
      refine (sum_any _ _ _ (Wc.bs_take HV.out 60 (by omega))).mono ?_
      rintro e w8 ⟨rfl, rfl⟩
      rw [Wn.part_take]
      have HM := Wc.hid (Wc.more_range 0 (Wn.head n) (Wn.head_bd n))
      go_wp2_with fail
      refine (put7_lay _ (Wn.part n 8) (Wn.blk n) 60 (Wc.more 0 (Wn.head n)) _ (Wn.part_length n 8 (by omega)) (fit4 HM.out) (by decide) HR.out (Wn.put_sum n)).mono ?_
      rintro e w9 ⟨g9, rfl, hg9, hr9, hb9⟩
      go_wp2_with fail
      go_ret2
      exact ⟨g9, rfl, Nat.le_trans HB.out.size hg9, hr9, Wc.step HB.out (Nat.le_refl _) hb9⟩

set_option maxHeartbeats 1600000 in
theorem bytes7_bad (n : Wn.Nod) (w : World) (hs : Wn.nodB n = false) :
    Calls Try.prog 44 #[nv n] w fun e w' => e = .returned (.tuple #[.slice none 0 0, .int .i64 1]) ∧ Below w.heap.size w w' := by
  have HE := Wc.hid (nodE_no hs)
  clear hs
  unfold nv
  go_enter Try.func44, Try.ntmps44
  go_wp2_with fail
  refine (check7_any n _).mono ?_
  rintro e w1 ⟨rfl, hb1⟩
  rw [HE.out]
  go_wp2_with fail
  go_ret2
  exact ⟨rfl, Wc.step ((Below.refl w.heap.size w).alloc (Nat.le_refl _) _) (Nat.le_refl _) hb1⟩

end Go.Proofs.Ytafpjnofccfmlaa
namespace Go.Proofs.Ytafpjnofccfmlaa
open Go.RowKit

/-- A node written over another one. -/
theorem Nh.over {w : World} {B : Nat} {s : Wn.Nod} (h : Nh w B s) (t : Wn.Nod) :
    Nh (((((((((w.setCell ⟨B, 0, none⟩ (.int .i64 t.level)).setCell ⟨B, 1, none⟩ (.int .i64 t.p0)).setCell ⟨B, 2, none⟩ (.int .i64 t.p1)).setCell ⟨B, 3, none⟩ (.int .i64 t.p2)).setCell ⟨B, 4, none⟩ (.int .i64 t.p3)).setCell ⟨B, 5, none⟩ (.int .i64 t.p4)).setCell ⟨B, 6, none⟩ (.int .i64 t.p5)).setCell ⟨B, 7, none⟩ (.int .i64 t.p6)).setCell ⟨B, 8, none⟩ (.int .i64 t.p7)) B t := by
  have h0 := heap_setCell_same w B 0 _ 83 (.int .i64 t.level) h
  have h1 := heap_setCell_same _ B 1 _ 83 (.int .i64 t.p0) h0
  have h2 := heap_setCell_same _ B 2 _ 83 (.int .i64 t.p1) h1
  have h3 := heap_setCell_same _ B 3 _ 83 (.int .i64 t.p2) h2
  have h4 := heap_setCell_same _ B 4 _ 83 (.int .i64 t.p3) h3
  have h5 := heap_setCell_same _ B 5 _ 83 (.int .i64 t.p4) h4
  have h6 := heap_setCell_same _ B 6 _ 83 (.int .i64 t.p5) h5
  have h7 := heap_setCell_same _ B 7 _ 83 (.int .i64 t.p6) h6
  have h8 := heap_setCell_same _ B 8 _ 83 (.int .i64 t.p7) h7
  unfold Nh
  simpa using h8

theorem below9 {B0 B : Nat} {a w : World} (h : Below B0 a w) (hB : B0 ≤ B) (t : Wn.Nod) :
    Below B0 a (((((((((w.setCell ⟨B, 0, none⟩ (.int .i64 t.level)).setCell ⟨B, 1, none⟩ (.int .i64 t.p0)).setCell ⟨B, 2, none⟩ (.int .i64 t.p1)).setCell ⟨B, 3, none⟩ (.int .i64 t.p2)).setCell ⟨B, 4, none⟩ (.int .i64 t.p3)).setCell ⟨B, 5, none⟩ (.int .i64 t.p4)).setCell ⟨B, 6, none⟩ (.int .i64 t.p5)).setCell ⟨B, 7, none⟩ (.int .i64 t.p6)).setCell ⟨B, 8, none⟩ (.int .i64 t.p7)) :=
  ((((((((h.setCell hB _).setCell hB _).setCell hB _).setCell hB _).setCell hB _).setCell hB _).setCell hB _).setCell hB _).setCell hB _

theorem Nh.other {w : World} {B B' : Nat} {n : Wn.Nod} (h : Nh w B n) (hne : B ≠ B') (o : Nat) (v : Value) : Nh (w.setCell ⟨B', o, none⟩ v) B n := by
  unfold Nh
  rw [heap_setCell_other _ _ _ _ hne]; exact h

theorem ret_cell7 {fn : Func} {tmps : Array Value} {w : World} {B : Nat} {s : Wn.Nod} {v : Value} (hr : fn.results = #[.cell 2 83, .tmp 3]) (hp : tmps.getD 2 undef = .pointer (some ⟨B, 0, none⟩)) (hv : tmps.getD 3 undef = v) (h : Nc w B s) :
    (results fn tmps).run Try.prog w = .ok (.tuple #[nv s, v]) w := by
  obtain ⟨c, c0, c1, c2, c3, c4, c5, c6, c7⟩ := h
  rw [results_cell_tmp hr, hp, hv]
  simp [go_sem, c, c0, c1, c2, c3, c4, c5, c6, c7, nv]

/-- The first four bytes are NODE just if their text is. -/
theorem txt_node (xs : List Int) (hl : 4 ≤ xs.length) (hx : ∀ x ∈ xs, 0 ≤ x ∧ x < 256) : ((txt xs).toList == [78, 79, 68, 69]) = true ↔ xs.take 4 = Wn.name := by
  rw [beq_iff_eq, ByteArray.toList_eq]
  match xs, hl with
  | x0 :: x1 :: x2 :: x3 :: r, _ =>
    have h0 := u8_eq (hx x0 (by simp)) 78
    have h1 := u8_eq (hx x1 (by simp)) 79
    have h2 := u8_eq (hx x2 (by simp)) 68
    have h3 := u8_eq (hx x3 (by simp)) 69
    have e0 : ((78 : UInt8).toNat : Int) = 78 := rfl
    have e1 : ((79 : UInt8).toNat : Int) = 79 := rfl
    have e2 : ((68 : UInt8).toNat : Int) = 68 := rfl
    have e3 : ((69 : UInt8).toNat : Int) = 69 := rfl
    rw [e0] at h0
    rw [e1] at h1
    rw [e2] at h2
    rw [e3] at h3
    simp only [txt, Wn.name, List.take_succ_cons, List.take_zero, List.map_cons, List.map_nil, List.cons.injEq, and_true, h0, h1, h2, h3]

theorem txt_nodeNo (xs : List Int) (hl : 4 ≤ xs.length) (hx : ∀ x ∈ xs, 0 ≤ x ∧ x < 256) (h : ¬ xs.take 4 = Wn.name) : ((txt xs).toList == [78, 79, 68, 69]) = false := by
  rw [Bool.eq_false_iff]
  exact fun e => h ((txt_node xs hl hx).1 e)

set_option maxHeartbeats 1600000 in
theorem parse7_len (a : Option Addr) (n cap : Nat) (w : World) (hl : ¬ n = 64) :
    Calls Try.prog 80 #[.slice a n cap] w fun e w' => e = .returned (.tuple #[nv Wn.n0, .int .i64 2]) ∧ Below w.heap.size w w' := by
  have hb : (((n : Int) != 64) = true) := by simp; omega
  clear hl
  go_enter Try.func80, Try.ntmps80
  go_wp2_with fail
  refine bodyPost_ret (ret_cell7 rfl rfl rfl (Nh.new w Wn.n0).nc) rfl ⟨rfl, (Below.refl w.heap.size w).alloc (Nat.le_refl _) _⟩

theorem get4_num (xs : List Int) (p : Nat) (hl : xs.length = 64) (hp : p + 4 ≤ 64) (hx : ∀ x ∈ xs, 0 ≤ x ∧ x < 256) : (Wc.getR xs (p : Int) 4).1 = Ws.num xs p 4 := by
  have e : ((xs.drop p).take 4).length = 4 := by simp; omega
  have hb := Wc.val_bd ((xs.drop p).take 4) (fun x h => hx x (List.mem_of_mem_drop (List.mem_of_mem_take h)))
  rw [e] at hb
  rw [Wc.getR_ok xs p 4 (Ws.num xs p 4) (by decide) (Wc.inB_iff.2 (by omega)) rfl (by unfold Ws.num; omega)]

set_option maxHeartbeats 1600000 in
theorem parse7_name (b off cap : Nat) (S : ByteArray) (w : World) (hc : 64 ≤ cap) (hc2 : cap ≤ 9223372036854775807)
   (hcv : (convert 22 9 (.slice (some ⟨b, off, none⟩) 4 cap)).run Try.prog (w.alloc (.cells #[.int .i64 0, .int .i64 0, .int .i64 0, .int .i64 0, .int .i64 0, .int .i64 0, .int .i64 0, .int .i64 0, .int .i64 0] 83)) = .ok (.string S) (w.alloc (.cells #[.int .i64 0, .int .i64 0, .int .i64 0, .int .i64 0, .int .i64 0, .int .i64 0, .int .i64 0, .int .i64 0, .int .i64 0] 83)))
   (hS : (S.toList == [78, 79, 68, 69]) = false) :
    Calls Try.prog 80 #[.slice (some ⟨b, off, none⟩) 64 cap] w fun e w' => e = .returned (.tuple #[nv Wn.n0, .int .i64 4]) ∧ Below w.heap.size w w' := by
  go_enter Try.func80, Try.ntmps80
  go_wp2_with fail
  exact bodyPost_ret (ret_cell7 rfl rfl rfl (Nh.new w Wn.n0).nc) rfl ⟨rfl, (Below.refl w.heap.size w).alloc (Nat.le_refl _) _⟩

set_option maxHeartbeats 1600000 in
theorem parse7_sum (b off cap : Nat) (xs : List Int) (S : ByteArray) (w : World) (hv : Wc.Bs w (.slice (some ⟨b, off, none⟩) 64 cap) xs) (hc : 64 ≤ cap) (hc2 : cap ≤ 9223372036854775807)
   (hcv : (convert 22 9 (.slice (some ⟨b, off, none⟩) 4 cap)).run Try.prog (w.alloc (.cells #[.int .i64 0, .int .i64 0, .int .i64 0, .int .i64 0, .int .i64 0, .int .i64 0, .int .i64 0, .int .i64 0, .int .i64 0] 83)) = .ok (.string S) (w.alloc (.cells #[.int .i64 0, .int .i64 0, .int .i64 0, .int .i64 0, .int .i64 0, .int .i64 0, .int .i64 0, .int .i64 0, .int .i64 0] 83)))
   (hS : (S.toList == [78, 79, 68, 69]) = true) (hg : Wc.goodB xs = false) :
    Calls Try.prog 80 #[.slice (some ⟨b, off, none⟩) 64 cap] w fun e w' => e = .returned (.tuple #[nv Wn.n0, .int .i64 5]) ∧ Below w.heap.size w w' := by
  have HV := Wc.hid (hv.alloc (.cells #[.int .i64 0, .int .i64 0, .int .i64 0, .int .i64 0, .int .i64 0, .int .i64 0, .int .i64 0, .int .i64 0, .int .i64 0] 83))
  clear hv
  go_enter Try.func80, Try.ntmps80
  go_wp2_with fail
  refine (good_any _ xs _ HV.out).mono ?_
  rintro e w1 ⟨rfl, rfl⟩
  rw [hg]
  go_wp2_with fail
  exact bodyPost_ret (ret_cell7 rfl rfl rfl (Nh.new w Wn.n0).nc) rfl ⟨rfl, (Below.refl w.heap.size w).alloc (Nat.le_refl _) _⟩

set_option maxRecDepth 100000 in
set_option maxHeartbeats 3200000 in
theorem parse7_nums (b off cap : Nat) (xs : List Int) (S : ByteArray) (w : World) (hv : Wc.Bs w (.slice (some ⟨b, off, none⟩) 64 cap) xs) (hc : 64 ≤ cap) (hc2 : cap ≤ 9223372036854775807)
   (hcv : (convert 22 9 (.slice (some ⟨b, off, none⟩) 4 cap)).run Try.prog (w.alloc (.cells #[.int .i64 0, .int .i64 0, .int .i64 0, .int .i64 0, .int .i64 0, .int .i64 0, .int .i64 0, .int .i64 0, .int .i64 0] 83)) = .ok (.string S) (w.alloc (.cells #[.int .i64 0, .int .i64 0, .int .i64 0, .int .i64 0, .int .i64 0, .int .i64 0, .int .i64 0, .int .i64 0, .int .i64 0] 83)))
   (hS : (S.toList == [78, 79, 68, 69]) = true) (hnm : xs.take 4 = Wn.name) (hg : Wc.goodB xs = true) :
    Calls Try.prog 80 #[.slice (some ⟨b, off, none⟩) 64 cap] w fun e w' => e = .returned (.tuple #[nv (Wn.par xs), .int .i64 (Wn.parE xs)]) ∧ Below w.heap.size w w' := by
  have HV0 := Wc.hid hv
  have HV := Wc.hid (hv.alloc (.cells #[.int .i64 0, .int .i64 0, .int .i64 0, .int .i64 0, .int .i64 0, .int .i64 0, .int .i64 0, .int .i64 0, .int .i64 0] 83))
  have hxl := Wc.bs_len hv
  have hxb := Wc.bs_bytes hv
  have GL : Hid ((Wc.getR xs 4 4).1 = Ws.num xs 4 4) := Wc.hid (get4_num xs 4 hxl (by omega) hxb)
  have GK : Hid (∀ k : Nat, k < 8 → (Wc.getR xs (8 + (k : Int) * 4) 4).1 = Ws.num xs (8 + 4 * k) 4) := Wc.hid fun k hk => by
    rw [← get4_num xs (8 + 4 * k) hxl (by omega) hxb]
    congr 2
    omega
  have HGD := Wc.hid hg
  have HNM := Wc.hid hnm
  clear hnm
  have HXL := Wc.hid hxl
  clear hv hxl hxb
  go_enter Try.func80, Try.ntmps80
  go_wp2_with fail
  refine (good_any _ xs _ HV.out).mono ?_
  rintro e w1 ⟨rfl, rfl⟩
  rw [HGD.out]
  clear hg hcv
  go_wp2_with fail
  refine (get7_any _ xs _ _ HV.out).mono ?_
  rintro e w' ⟨rfl, rfl⟩
  rw [GL.out]
  have A0 := Wc.hid ((Nh.new w Wn.n0).keep ((Below.refl _ _).alloc (Nat.le_refl _) (.cells #[.int .i64 (Ws.num xs 4 4), .int .i64 0, .int .i64 0, .int .i64 0, .int .i64 0, .int .i64 0, .int .i64 0, .int .i64 0, .int .i64 0] 83)))
  have A1 : Hid (Nh ((w.alloc (.cells #[.int .i64 0, .int .i64 0, .int .i64 0, .int .i64 0, .int .i64 0, .int .i64 0, .int .i64 0, .int .i64 0, .int .i64 0] 83)).alloc (.cells #[.int .i64 (Ws.num xs 4 4), .int .i64 0, .int .i64 0, .int .i64 0, .int .i64 0, .int .i64 0, .int .i64 0, .int .i64 0, .int .i64 0] 83)) (w.heap.size + 1) (Wn.fill xs 0)) := Wc.hid (by
    rw [Wn.fill_zero]
    have := Nh.new (w.alloc (.cells #[.int .i64 0, .int .i64 0, .int .i64 0, .int .i64 0, .int .i64 0, .int .i64 0, .int .i64 0, .int .i64 0, .int .i64 0] 83)) ⟨Ws.num xs 4 4, 0, 0, 0, 0, 0, 0, 0, 0⟩
    simpa using this)
  have HB0 := Wc.hid (((Below.refl w.heap.size w).alloc (Nat.le_refl _) (.cells #[.int .i64 0, .int .i64 0, .int .i64 0, .int .i64 0, .int .i64 0, .int .i64 0, .int .i64 0, .int .i64 0, .int .i64 0] 83)).alloc (by simp) (.cells #[.int .i64 (Ws.num xs 4 4), .int .i64 0, .int .i64 0, .int .i64 0, .int .i64 0, .int .i64 0, .int .i64 0, .int .i64 0, .int .i64 0] 83))
  go_wp2_with fail
  go_loopw [22] (fun i wr => ∃ k : Nat, i = .int .i64 k ∧ k ≤ 8 ∧ Hid (Nh wr w.heap.size Wn.n0) ∧ Hid (Nh wr (w.heap.size + 1) (Wn.fill xs k)) ∧ Hid (Below w.heap.size w wr)) (fun i _ => 8 - (intOf i).toNat)
  case atStart => exact ⟨0, rfl, by omega, A0, A1, HB0⟩
  case round =>
    obtain ⟨k, rfl, hk, A, D, HB⟩ := hrel
    by_cases hlt : k < 8
    · go_wp2_with fail
      refine (get7_any _ xs _ _ (HV0.out.keep HB.out)).mono ?_
      rintro e w' ⟨rfl, rfl⟩
      rw [GK.out k hlt]
      have hcell := D.out.pat hlt
      have hfz := D.out.frozen (1 + k)
      have A' := Wc.hid (A.out.other (B' := w.heap.size + 1) (by omega) (1 + k) (.int .i64 (Ws.num xs (8 + 4 * k) 4)))
      have D' := Wc.hid (D.out.set hlt (Ws.num xs (8 + 4 * k) 4))
      rw [Wn.fill_next xs hlt] at D'
      have HB' := Wc.hid (HB.out.setCell (p := ⟨w.heap.size + 1, 1 + k, none⟩) (by simp) (.int .i64 (Ws.num xs (8 + 4 * k) 4)))
      go_wp2_with fail
      go_roundw
      case rel => exact ⟨k + 1, by go_num, by omega, A', D', HB'⟩
      case measure => simp [intOf]; omega
    · obtain rfl : k = 8 := by omega
      rw [Wn.fill_all] at D
      obtain ⟨t, ht⟩ : ∃ t, Wn.parN xs = t := ⟨_, rfl⟩
      rw [ht] at D
      have HT := Wc.hid ht
      clear ht
      have ⟨d, d0, d1, d2, d3, d4, d5, d6, d7⟩ := D.out.nc
      go_wp2_with fail
      refine (check7_any t _).mono ?_
      rintro e w2 ⟨rfl, hb2⟩
      have A2 := Wc.hid (A.out.keep hb2)
      have D2 := Wc.hid (D.out.keep hb2)
      have HB2 := Wc.hid (Wc.step HB.out (Nat.le_refl _) hb2)
      have HV2 := Wc.hid (HV0.out.keep HB2.out)
      clear hb2 d d0 d1 d2 d3 d4 d5 d6 d7 A D HB
      have ⟨c, c0, c1, c2, c3, c4, c5, c6, c7⟩ := A2.out.nc
      have f := A2.out.frozen 0
      have f0 := A2.out.frozen 1
      have f1 := A2.out.frozen 2
      have f2 := A2.out.frozen 3
      have f3 := A2.out.frozen 4
      have f4 := A2.out.frozen 5
      have f5 := A2.out.frozen 6
      have f6 := A2.out.frozen 7
      have f7 := A2.out.frozen 8
      cases hnb : Wn.nodB t
      · rw [nodE_no hnb]
        have HP := Wc.hid (Wn.par_arg HXL.out HNM.out HGD.out (by rw [HT.out, hnb]; rfl))
        clear hnb
        go_wp2_with fail
        rw [HP.out.1, HP.out.2]
        exact bodyPost_ret (ret_cell7 rfl rfl rfl (A2.out.over Wn.n0).nc) rfl ⟨rfl, below9 HB2.out (Nat.le_refl _) Wn.n0⟩
      · rw [nodE_yes hnb]
        have HNB := Wc.hid hnb
        clear hnb
        have ⟨d, d0, d1, d2, d3, d4, d5, d6, d7⟩ := D2.out.nc
        go_wp2_with fail
        refine (zeros_any _ xs 40 60 _ HV2.out (by omega)).mono ?_
        rintro e w3 ⟨rfl, rfl⟩
        cases hz : Wc.zerosB xs 40 60
        · have HP := Wc.hid (Wn.par_arg HXL.out HNM.out HGD.out (by rw [hz, Bool.and_false]))
          clear hz
          go_wp2_with fail
          rw [HP.out.1, HP.out.2]
          exact bodyPost_ret (ret_cell7 rfl rfl rfl (A2.out.over Wn.n0).nc) rfl ⟨rfl, below9 HB2.out (Nat.le_refl _) Wn.n0⟩
        · have HP := Wc.hid (Wn.par_ok HXL.out HNM.out HGD.out (by rw [hz, HT.out, HNB.out]; rfl))
          clear hz
          go_wp2_with fail
          rw [HP.out.1, HP.out.2, HT.out]
          exact bodyPost_ret (ret_cell7 rfl rfl rfl (A2.out.over t).nc) rfl ⟨rfl, below9 HB2.out (Nat.le_refl _) t⟩

theorem parse7_any (v : Value) (xs : List Int) (w : World) (hv : Wc.Bs w v xs) :
    Calls Try.prog 80 #[v] w fun e w' => e = .returned (.tuple #[nv (Wn.par xs), .int .i64 (Wn.parE xs)]) ∧ Below w.heap.size w w' := by
  have hxb := Wc.bs_bytes hv
  by_cases hl : xs.length = 64
  · rcases hv.open with ⟨rfl, _⟩ | ⟨b, off, n, cap, rfl, h0, hn, hc, hc2, _⟩
    · simp at hl
    · obtain rfl : n = 64 := by omega
      have hcv := convert_txt (hv.alloc (.cells #[.int .i64 0, .int .i64 0, .int .i64 0, .int .i64 0, .int .i64 0, .int .i64 0, .int .i64 0, .int .i64 0, .int .i64 0] 83)) (by omega)
      by_cases hnm : xs.take 4 = Wn.name
      · have hS := (txt_node xs (by omega) hxb).2 hnm
        cases hg : Wc.goodB xs
        · have := Wn.par_sum hl hnm hg
          rw [this.1, this.2]
          exact parse7_sum b off cap xs _ w hv hc hc2 hcv hS hg
        · exact parse7_nums b off cap xs _ w hv hc hc2 hcv hS hnm hg
      · have := Wn.par_name hl hnm
        rw [this.1, this.2]
        exact parse7_name b off cap _ w hc hc2 hcv (txt_nodeNo xs (by omega) hxb hnm)
  · have := Wn.par_len hl
    rw [this.1, this.2]
    obtain ⟨a, n, cap, rfl, hn, -⟩ := hv
    exact parse7_len a n cap w (by omega)

end Go.Proofs.Ytafpjnofccfmlaa
namespace Go.Proofs.Ytafpjnofccfmlaa
open Go.RowKit

theorem pow8 {k : Nat} (h : k ≤ 2) : 1 ≤ (8 : Int) ^ k ∧ (8 : Int) ^ k ≤ 64 ∧ (k ≤ 1 → (8 : Int) ^ k ≤ 8) := by
  have : k = 0 ∨ k = 1 ∨ k = 2 := by omega
  rcases this with rfl | rfl | rfl <;> decide

end Go.Proofs.Ytafpjnofccfmlaa
namespace Go.Proofs.Ytafpjnofccfmlaa
open Go.RowKit

/-- Are two nodes one? -/
def nodEq (s t : Wn.Nod) : Bool := s.level == t.level && Wn.ptr s == Wn.ptr t

theorem nodEq_iff {s t : Wn.Nod} : nodEq s t = true ↔ s = t := by
  constructor
  · intro h
    simp only [nodEq, Bool.and_eq_true, beq_iff_eq] at h
    obtain ⟨h, hp⟩ := h
    simp only [Wn.ptr, List.cons.injEq, and_true] at hp
    exact Wn.nod_ext h hp.1 hp.2.1 hp.2.2.1 hp.2.2.2.1 hp.2.2.2.2.1 hp.2.2.2.2.2.1 hp.2.2.2.2.2.2.1 hp.2.2.2.2.2.2.2
  · rintro rfl; simp [nodEq]

theorem nodEq_no {s t : Wn.Nod} (h : ¬ s = t) : nodEq s t = false := by
  rw [Bool.eq_false_iff]
  exact fun e => h (nodEq_iff.1 e)

theorem equal_nod (s t : Wn.Nod) (w : World) : (Op.equalIn 10000 83 (.agg #[.int .i64 s.level, .int .i64 s.p0, .int .i64 s.p1, .int .i64 s.p2, .int .i64 s.p3, .int .i64 s.p4, .int .i64 s.p5, .int .i64 s.p6, .int .i64 s.p7]) (.agg #[.int .i64 t.level, .int .i64 t.p0, .int .i64 t.p1, .int .i64 t.p2, .int .i64 t.p3, .int .i64 t.p4, .int .i64 t.p5, .int .i64 t.p6, .int .i64 t.p7])).run Try.prog w = .ok (nodEq s t) w := by
  have hp := equal_ptr s t 9997 w
  unfold nodEq
  cases h : (s.level == t.level)
  · go_simp
  · go_simp
    by_cases hh : Wn.ptr s = Wn.ptr t <;> simp [hh]

theorem eql_nod (s t : Wn.Nod) (w : World) : (binOp .eql 83 (.agg #[.int .i64 s.level, .int .i64 s.p0, .int .i64 s.p1, .int .i64 s.p2, .int .i64 s.p3, .int .i64 s.p4, .int .i64 s.p5, .int .i64 s.p6, .int .i64 s.p7]) (.agg #[.int .i64 t.level, .int .i64 t.p0, .int .i64 t.p1, .int .i64 t.p2, .int .i64 t.p3, .int .i64 t.p4, .int .i64 t.p5, .int .i64 t.p6, .int .i64 t.p7])).run Try.prog w = .ok (.bool (nodEq s t)) w := by
  rw [run_eql_struct, equal_nod]
  rfl

theorem neq_nod (s t : Wn.Nod) (w : World) : (binOp .neq 83 (.agg #[.int .i64 s.level, .int .i64 s.p0, .int .i64 s.p1, .int .i64 s.p2, .int .i64 s.p3, .int .i64 s.p4, .int .i64 s.p5, .int .i64 s.p6, .int .i64 s.p7]) (.agg #[.int .i64 t.level, .int .i64 t.p0, .int .i64 t.p1, .int .i64 t.p2, .int .i64 t.p3, .int .i64 t.p4, .int .i64 t.p5, .int .i64 t.p6, .int .i64 t.p7])).run Try.prog w = .ok (.bool (!nodEq s t)) w := by
  rw [run_neq_struct, equal_nod]
  rfl

end Go.Proofs.Ytafpjnofccfmlaa
namespace Go.Proofs.Ytafpjnofccfmlaa
open Go Go.RowKit Go.ChangeShapes Go.WideShapes Go.Joins

theorem array9 {α : Type} {cs : Array α} (h : cs.size = 9) : ∃ c c0 c1 c2 c3 c4 c5 c6 c7, cs = #[c, c0, c1, c2, c3, c4, c5, c6, c7] := by
  obtain ⟨l⟩ := cs
  match l, h with
  | [c, c0, c1, c2, c3, c4, c5, c6, c7], _ => exact ⟨c, c0, c1, c2, c3, c4, c5, c6, c7, rfl⟩

theorem open_nod {P : Program} {W : World} {r : Reach} {b0 base : Nat} {t it at_ : TypeId} {f0 f1 : Field} {v : Value} {H : Type} {enc : TypeId × Value → H} {sp : Nat → Bool} {held : Bool} {d : DataW H} {ps : List MemPlace}
    (hu : P.underlying t = some (.struct #[f0, f1])) (ht : [f0, f1].map (fun f => (f.type, f.offset)) = [(it, 0), (at_, 1)]) (hi : P.underlying it = some (.int .i64)) (ha : P.underlying at_ = some (.array 8 it)) (hc1 : P.cellsOf it = 1) (hc8 : P.cellsOf at_ = 8) (hc : P.cellsOf t = 9)
    (hv : Value.okWide P W r b0 t v) (hd : DataW.Trod enc P W base sp held t v d ps) : ∃ s : Wn.Nod, v = nv s := by
  obtain ⟨cs, rfl, hsz⟩ := okWide_struct hu hv
  obtain ⟨c, c0, c1, c2, c3, c4, c5, c6, c7, rfl⟩ := array9 (hsz.trans hc)
  obtain ⟨fuel, hf⟩ := hd
  obtain ⟨xs, n, _, _, hl, hlen, hf⟩ := DataW.trod_struct hu hf
  simp only [List.map_cons, List.map_nil, List.cons.injEq, Prod.mk.injEq, and_true] at ht
  obtain ⟨⟨t0, o0⟩, t1, o1⟩ := ht
  match xs, hlen with
  | [y0, y1], _ =>
    have g0 := hf 0 f0 rfl
    have g1 := hf 1 f1 rfl
    rw [t0, o0, hc1] at g0
    rw [t1, o1, hc8] at g1
    obtain ⟨z, e, -⟩ := DataW.trod_int hi g0
    obtain ⟨zs, m, _, _, _, hzl, hz⟩ := DataW.trod_array ha g1
    rw [hc1] at hz
    match zs, hzl with
    | [q0, q1, q2, q3, q4, q5, q6, q7], _ =>
      obtain ⟨z0, e0, -⟩ := DataW.trod_int hi (hz 0 (by omega))
      obtain ⟨z1, e1, -⟩ := DataW.trod_int hi (hz 1 (by omega))
      obtain ⟨z2, e2, -⟩ := DataW.trod_int hi (hz 2 (by omega))
      obtain ⟨z3, e3, -⟩ := DataW.trod_int hi (hz 3 (by omega))
      obtain ⟨z4, e4, -⟩ := DataW.trod_int hi (hz 4 (by omega))
      obtain ⟨z5, e5, -⟩ := DataW.trod_int hi (hz 5 (by omega))
      obtain ⟨z6, e6, -⟩ := DataW.trod_int hi (hz 6 (by omega))
      obtain ⟨z7, e7, -⟩ := DataW.trod_int hi (hz 7 (by omega))
      simp [Value.cells] at e e0 e1 e2 e3 e4 e5 e6 e7
      subst e e0 e1 e2 e3 e4 e5 e6 e7
      exact ⟨⟨z, z0, z1, z2, z3, z4, z5, z6, z7⟩, rfl⟩

end Go.Proofs.Ytafpjnofccfmlaa
namespace Go.Proofs.Ytafpjnofccfmlaa
open Go.RowKit

/-- What the page's open tells. -/
def opN (xs : List Int) : Int := if xs.length = 64 then (if xs.take 4 = Wn.name then (if Wc.goodB xs = true then 0 else 5) else 4) else 2

set_option maxHeartbeats 800000 in
theorem openN_len (a : Option Addr) (n cap : Nat) (w : World) (hl : ¬ n = 64) :
    Calls Try.prog 51 #[.slice a n cap, .string ⟨#[78, 79, 68, 69]⟩] w fun e w' => e = .returned (.int .i64 2) ∧ Below w.heap.size w w' := by
  have hb : (((n : Int) != 64) = true) := by simp; omega
  clear hl
  go_enter Try.func51, Try.ntmps51
  go_wp2_with fail
  go_ret
  exact ⟨rfl, Below.refl _ _⟩

set_option maxHeartbeats 800000 in
theorem openN_name (b off cap : Nat) (S : ByteArray) (w : World) (hc : 64 ≤ cap) (hc2 : cap ≤ 9223372036854775807)
   (hcv : (convert 22 9 (.slice (some ⟨b, off, none⟩) 4 cap)).run Try.prog w = .ok (.string S) w) (hS : (S.toList == [78, 79, 68, 69]) = false) :
    Calls Try.prog 51 #[.slice (some ⟨b, off, none⟩) 64 cap, .string ⟨#[78, 79, 68, 69]⟩] w fun e w' => e = .returned (.int .i64 4) ∧ Below w.heap.size w w' := by
  go_enter Try.func51, Try.ntmps51
  go_wp2_with fail
  go_ret
  exact ⟨rfl, Below.refl _ _⟩

set_option maxRecDepth 100000 in
set_option maxHeartbeats 800000 in
theorem openN_good (b off cap : Nat) (xs : List Int) (S : ByteArray) (w : World) (hv : Wc.Bs w (.slice (some ⟨b, off, none⟩) 64 cap) xs) (hc : 64 ≤ cap) (hc2 : cap ≤ 9223372036854775807)
   (hcv : (convert 22 9 (.slice (some ⟨b, off, none⟩) 4 cap)).run Try.prog w = .ok (.string S) w) (hS : (S.toList == [78, 79, 68, 69]) = true) :
    Calls Try.prog 51 #[.slice (some ⟨b, off, none⟩) 64 cap, .string ⟨#[78, 79, 68, 69]⟩] w fun e w' => e = .returned (.int .i64 (if Wc.goodB xs = true then 0 else 5)) ∧ Below w.heap.size w w' := by
  have HV := Wc.hid hv
  clear hv
  cases hg : Wc.goodB xs
  · have HG := Wc.hid hg
    clear hg
    go_enter Try.func51, Try.ntmps51
    go_wp2_with fail
    refine (refGood_any _ xs _ HV.out).mono ?_
    rintro e w1 ⟨rfl, hb1⟩
    rw [HG.out]
    go_wp2_with fail
    go_ret
    exact ⟨rfl, hb1⟩
  · have HG := Wc.hid hg
    clear hg
    go_enter Try.func51, Try.ntmps51
    go_wp2_with fail
    refine (refGood_any _ xs _ HV.out).mono ?_
    rintro e w1 ⟨rfl, hb1⟩
    rw [HG.out]
    go_wp2_with fail
    go_ret
    exact ⟨rfl, hb1⟩

theorem openN_any (v : Value) (xs : List Int) (w : World) (hv : Wc.Bs w v xs) :
    Calls Try.prog 51 #[v, .string ⟨#[78, 79, 68, 69]⟩] w fun e w' => e = .returned (.int .i64 (opN xs)) ∧ Below w.heap.size w w' := by
  have hxb := Wc.bs_bytes hv
  unfold opN
  by_cases hl : xs.length = 64
  · rw [if_pos hl]
    rcases hv.open with ⟨rfl, _⟩ | ⟨b, off, n, cap, rfl, h0, hn, hc, hc2, _⟩
    · simp at hl
    · obtain rfl : n = 64 := by omega
      have hcv := convert_txt hv (by omega)
      by_cases hnm : xs.take 4 = Wn.name
      · rw [if_pos hnm]
        exact openN_good b off cap xs _ w hv hc hc2 hcv ((txt_node xs (by omega) hxb).2 hnm)
      · rw [if_neg hnm]
        exact openN_name b off cap _ w hc hc2 hcv (txt_nodeNo xs (by omega) hxb hnm)
  · rw [if_neg hl]
    obtain ⟨a, n, cap, rfl, hn, -⟩ := hv
    exact openN_len a n cap w (by omega)

theorem opN_zero {xs : List Int} (h : opN xs = 0) : xs.length = 64 ∧ xs.take 4 = Wn.name ∧ Wc.goodB xs = true := by
  unfold opN at h
  by_cases h1 : xs.length = 64
  · rw [if_pos h1] at h
    by_cases h2 : xs.take 4 = Wn.name
    · rw [if_pos h2] at h
      by_cases h3 : Wc.goodB xs = true
      · exact ⟨h1, h2, h3⟩
      · rw [if_neg h3] at h; omega
    · rw [if_neg h2] at h; omega
  · rw [if_neg h1] at h; omega

theorem opN_no {xs : List Int} (h : ¬ opN xs = 0) : Wn.parE xs = opN xs ∧ Wn.par xs = Wn.n0 := by
  by_cases h1 : xs.length = 64
  · by_cases h2 : xs.take 4 = Wn.name
    · cases h3 : Wc.goodB xs
      · have := Wn.par_sum h1 h2 h3
        exact ⟨by rw [this.1]; simp [opN, h1, h2, h3], this.2⟩
      · exact absurd (by simp [opN, h1, h2, h3]) h
    · have := Wn.par_name h1 h2
      exact ⟨by rw [this.1]; simp [opN, h1, h2], this.2⟩
  · have := Wn.par_len h1
    exact ⟨by rw [this.1]; simp [opN, h1], this.2⟩

set_option maxHeartbeats 1600000 in
theorem refParse7_no (v : Value) (xs : List Int) (w : World) (hv : Wc.Bs w v xs) (h : ¬ opN xs = 0) :
    Calls Try.prog 37 #[v] w fun e w' => e = .returned (.tuple #[nv (Wn.par xs), .int .i64 (Wn.parE xs)]) ∧ Below w.heap.size w w' := by
  have hE := opN_no h
  rw [hE.1, hE.2]
  have HV := Wc.hid (hv.alloc (.cells #[.int .i64 0, .int .i64 0, .int .i64 0, .int .i64 0, .int .i64 0, .int .i64 0, .int .i64 0, .int .i64 0, .int .i64 0] 83))
  have hne : (opN xs != 0) = true := by simpa using h
  clear hv h hE
  go_enter Try.func37, Try.ntmps37
  go_wp2_with fail
  refine (openN_any _ xs _ HV.out).mono ?_
  rintro e w1 ⟨rfl, hb1⟩
  have A1 := Wc.hid ((Nh.new w Wn.n0).keep hb1)
  have HB := Wc.hid (Wc.step ((Below.refl w.heap.size w).alloc (Nat.le_refl _) (.cells #[.int .i64 0, .int .i64 0, .int .i64 0, .int .i64 0, .int .i64 0, .int .i64 0, .int .i64 0, .int .i64 0, .int .i64 0] 83)) (Nat.le_refl _) hb1)
  clear hb1
  have ⟨c, c0, c1, c2, c3, c4, c5, c6, c7⟩ := A1.out.nc
  have f := A1.out.frozen 0
  have f0 := A1.out.frozen 1
  have f1 := A1.out.frozen 2
  have f2 := A1.out.frozen 3
  have f3 := A1.out.frozen 4
  have f4 := A1.out.frozen 5
  have f5 := A1.out.frozen 6
  have f6 := A1.out.frozen 7
  have f7 := A1.out.frozen 8
  go_wp2_with fail
  exact bodyPost_ret (ret_cell7 rfl rfl rfl (A1.out.over Wn.n0).nc) rfl ⟨rfl, below9 HB.out (Nat.le_refl _) Wn.n0⟩

set_option maxHeartbeats 3200000 in
theorem refParse7_yes (b off cap : Nat) (xs : List Int) (w : World) (hv : Wc.Bs w (.slice (some ⟨b, off, none⟩) 64 cap) xs) (hc : 64 ≤ cap) (hc2 : cap ≤ 9223372036854775807) (h : opN xs = 0) :
    Calls Try.prog 37 #[.slice (some ⟨b, off, none⟩) 64 cap] w fun e w' => e = .returned (.tuple #[nv (Wn.par xs), .int .i64 (Wn.parE xs)]) ∧ Below w.heap.size w w' := by
  have HO := Wc.hid (opN_zero h)
  have HE := Wc.hid h
  have HV0 := Wc.hid hv
  have HV := Wc.hid (hv.alloc (.cells #[.int .i64 0, .int .i64 0, .int .i64 0, .int .i64 0, .int .i64 0, .int .i64 0, .int .i64 0, .int .i64 0, .int .i64 0] 83))
  clear hv h
  go_enter Try.func37, Try.ntmps37
  go_wp2_with fail
  refine (openN_any _ xs _ HV.out).mono ?_
  rintro e w1 ⟨rfl, hb1⟩
  rw [HE.out]
  have A1 := Wc.hid ((Nh.new w Wn.n0).keep hb1)
  have HB := Wc.hid (Wc.step ((Below.refl w.heap.size w).alloc (Nat.le_refl _) (.cells #[.int .i64 0, .int .i64 0, .int .i64 0, .int .i64 0, .int .i64 0, .int .i64 0, .int .i64 0, .int .i64 0, .int .i64 0] 83)) (Nat.le_refl _) hb1)
  have V1 := Wc.hid (HV.out.keep hb1)
  clear hb1 HV
  go_wp2_with fail
  refine (refGet4_any b off 64 cap 4 xs _ V1.out (by omega) hc hc2).mono ?_
  rintro e w2 ⟨rfl, rfl⟩
  rw [show Wc.val ((xs.drop 4).take 4) = Ws.num xs 4 4 from rfl]
  have HAL := Wc.hid ((Below.refl w1.heap.size w1).alloc (Nat.le_refl _) (.cells #[.int .i64 (Ws.num xs 4 4), .int .i64 0, .int .i64 0, .int .i64 0, .int .i64 0, .int .i64 0, .int .i64 0, .int .i64 0, .int .i64 0] 83))
  have A2 := Wc.hid (A1.out.keep HAL.out)
  have B2 := Wc.hid (Wc.step HB.out (Nat.le_refl _) HAL.out)
  have D2 : Hid (Nh (w1.alloc (.cells #[.int .i64 (Ws.num xs 4 4), .int .i64 0, .int .i64 0, .int .i64 0, .int .i64 0, .int .i64 0, .int .i64 0, .int .i64 0, .int .i64 0] 83)) w1.heap.size (Wn.fill xs 0)) := Wc.hid (by
    rw [Wn.fill_zero]
    exact Nh.new w1 ⟨Ws.num xs 4 4, 0, 0, 0, 0, 0, 0, 0, 0⟩)
  have HNE : Hid (w.heap.size ≠ w1.heap.size) := Wc.hid (by have := A1.out.lt; omega)
  have HLE : Hid (w.heap.size ≤ w1.heap.size) := Wc.hid (by have := A1.out.lt; omega)
  clear HAL A1 V1 HB
  go_wp2_with fail
  go_loopw [6] (fun i wr => ∃ k : Nat, i = .int .i64 k ∧ k ≤ 8 ∧ Hid (Nh wr w.heap.size Wn.n0) ∧ Hid (Nh wr w1.heap.size (Wn.fill xs k)) ∧ Hid (Below w.heap.size w wr)) (fun i _ => 8 - (intOf i).toNat)
  case atStart => exact ⟨0, rfl, by omega, A2, D2, B2⟩
  case round =>
    obtain ⟨k, rfl, hk, A, D, HB⟩ := hrel
    by_cases hlt : k < 8
    · have hg4 := refGet4_any b off 64 cap (8 + 4 * k) xs wr (HV0.out.keep HB.out) (by omega) hc hc2
      rw [show ((8 + 4 * k : Nat) : Int) = 8 + 4 * (k : Int) from by omega, show Wc.val ((xs.drop (8 + 4 * k)).take 4) = Ws.num xs (8 + 4 * k) 4 from rfl] at hg4
      have HG4 := Wc.hid hg4
      clear hg4
      go_wp2_with fail
      refine HG4.out.mono ?_
      rintro e w' ⟨rfl, rfl⟩
      have hcell := D.out.pat hlt
      have hfz := D.out.frozen (1 + k)
      have A' := Wc.hid (A.out.other HNE.out (1 + k) (.int .i64 (Ws.num xs (8 + 4 * k) 4)))
      have D' := Wc.hid (D.out.set hlt (Ws.num xs (8 + 4 * k) 4))
      rw [Wn.fill_next xs hlt] at D'
      have HB' := Wc.hid (HB.out.setCell (p := ⟨w1.heap.size, 1 + k, none⟩) HLE.out (.int .i64 (Ws.num xs (8 + 4 * k) 4)))
      go_wp2_with fail
      go_roundw
      case rel => exact ⟨k + 1, by go_num, by omega, A', D', HB'⟩
      case measure => simp [intOf]; omega
    · obtain rfl : k = 8 := by omega
      rw [Wn.fill_all] at D
      obtain ⟨t, ht⟩ : ∃ t, Wn.parN xs = t := ⟨_, rfl⟩
      rw [ht] at D
      have HT := Wc.hid ht
      clear ht
      have ⟨d, d0, d1, d2, d3, d4, d5, d6, d7⟩ := D.out.nc
      go_wp2_with fail
      refine (refNode_any t _).mono ?_
      rintro e w2 ⟨rfl, hb2⟩
      have A3 := Wc.hid (A.out.keep hb2)
      have D3 := Wc.hid (D.out.keep hb2)
      have HB2 := Wc.hid (Wc.step HB.out (Nat.le_refl _) hb2)
      have HV2 := Wc.hid (HV0.out.keep HB2.out)
      clear hb2 d d0 d1 d2 d3 d4 d5 d6 d7 A D HB
      have ⟨c, c0, c1, c2, c3, c4, c5, c6, c7⟩ := A3.out.nc
      have f := A3.out.frozen 0
      have f0 := A3.out.frozen 1
      have f1 := A3.out.frozen 2
      have f2 := A3.out.frozen 3
      have f3 := A3.out.frozen 4
      have f4 := A3.out.frozen 5
      have f5 := A3.out.frozen 6
      have f6 := A3.out.frozen 7
      have f7 := A3.out.frozen 8
      cases hnb : Wn.nodB t
      · have HP := Wc.hid (Wn.par_arg HO.out.1 HO.out.2.1 HO.out.2.2 (by rw [HT.out, hnb]; rfl))
        clear hnb
        go_wp2_with fail
        rw [HP.out.1, HP.out.2]
        exact bodyPost_ret (ret_cell7 rfl rfl rfl (A3.out.over Wn.n0).nc) rfl ⟨rfl, below9 HB2.out (Nat.le_refl _) Wn.n0⟩
      · have HNB := Wc.hid hnb
        clear hnb
        have ⟨d, d0, d1, d2, d3, d4, d5, d6, d7⟩ := D3.out.nc
        go_wp2_with fail
        refine (refZeros_any _ xs 40 60 _ HV2.out (by omega)).mono ?_
        rintro e w3 ⟨rfl, rfl⟩
        cases hz : Wc.zerosB xs 40 60
        · have HP := Wc.hid (Wn.par_arg HO.out.1 HO.out.2.1 HO.out.2.2 (by rw [hz, Bool.and_false]))
          clear hz
          go_wp2_with fail
          rw [HP.out.1, HP.out.2]
          exact bodyPost_ret (ret_cell7 rfl rfl rfl (A3.out.over Wn.n0).nc) rfl ⟨rfl, below9 HB2.out (Nat.le_refl _) Wn.n0⟩
        · have HP := Wc.hid (Wn.par_ok HO.out.1 HO.out.2.1 HO.out.2.2 (by rw [hz, HT.out, HNB.out]; rfl))
          clear hz
          go_wp2_with fail
          rw [HP.out.1, HP.out.2, HT.out]
          exact bodyPost_ret (ret_cell7 rfl rfl rfl (A3.out.over t).nc) rfl ⟨rfl, below9 HB2.out (Nat.le_refl _) t⟩

theorem refParse7_any (v : Value) (xs : List Int) (w : World) (hv : Wc.Bs w v xs) :
    Calls Try.prog 37 #[v] w fun e w' => e = .returned (.tuple #[nv (Wn.par xs), .int .i64 (Wn.parE xs)]) ∧ Below w.heap.size w w' := by
  by_cases h : opN xs = 0
  · have hl := (opN_zero h).1
    rcases hv.open with ⟨rfl, _⟩ | ⟨b, off, n, cap, rfl, h0, hn, hc, hc2, _⟩
    · simp at hl
    · obtain rfl : n = 64 := by omega
      exact refParse7_yes b off cap xs w hv hc hc2 h
  · exact refParse7_no v xs w hv h

end Go.Proofs.Ytafpjnofccfmlaa
namespace Go.Proofs.Ytafpjnofccfmlaa
open Go.RowKit

/-- What NodeBytes has put together behind k pointers. -/
def pre (n : Wn.Nod) (k : Nat) : List Int := Wn.name ++ (Wc.enc 4 n.level ++ Wn.encs ((Wn.ptr n).take k))

theorem pre_length (n : Wn.Nod) {k : Nat} (hk : k ≤ 8) : (pre n k).length = 8 + 4 * k := by
  simp [pre, Wn.name, Wc.enc_length, Wn.encs_length, Wn.ptr_length]; omega
theorem pre_zero (n : Wn.Nod) : pre n 0 = Wn.name ++ Wc.enc 4 n.level := by simp [pre, Wn.encs]
theorem pre_next (n : Wn.Nod) {k : Nat} (hk : k < 8) : pre n k ++ Wc.enc 4 (Wn.pat n k) = pre n (k + 1) := by
  unfold pre
  rw [Wn.encs_next _ k (by rw [Wn.ptr_length]; exact hk)]
  simp only [List.append_assoc]
  rfl
theorem pre_head (n : Wn.Nod) : pre n 8 ++ List.replicate (60 - (pre n 8).length) 0 = Wn.head n := by
  rw [pre_length n (Nat.le_refl 8)]
  have h : (Wn.ptr n).take 8 = Wn.ptr n := rfl
  unfold pre Wn.head
  rw [h]
  simp only [List.append_assoc]

set_option maxRecDepth 100000 in
set_option maxHeartbeats 3200000 in
theorem refNodeBytes_any (n : Wn.Nod) (w : World) (hs : Wn.nodB n = true) :
    Calls Try.prog 39 #[nv n] w fun e w' => ∃ v, e = .returned v ∧ Wc.Bs w' v (Wn.blk n) ∧ Below w.heap.size w w' := by
  obtain ⟨i0, hi, hz0, hz1, hz2⟩ := info_parts Try.infoU8
  have HS := Wc.hid (Wn.nodB_iff.1 hs).1
  have HK : Hid (∀ k, k < 8 → 0 ≤ Wn.pat n k ∧ Wn.pat n k < 4096) := Wc.hid fun k hk => Wn.nodB_pat hs hk
  clear hs
  have kc := Joins.run_convert_bytes_const_at (P := Try.prog) (w.alloc (.cells #[.int .i64 n.level, .int .i64 n.p0, .int .i64 n.p1, .int .i64 n.p2, .int .i64 n.p3, .int .i64 n.p4, .int .i64 n.p5, .int .i64 n.p6, .int .i64 n.p7] 83)) 22 5 #[.int .u8 78, .int .u8 79, .int .u8 68, .int .u8 69] 4 4 (w.heap.size + 1) (by simp) Try.underlying22 Try.underlying5
  have A0 := Wc.hid ((Nh.new w n).keep ((Below.refl _ _).alloc (Nat.le_refl _) (.cells #[.int .u8 78, .int .u8 79, .int .u8 68, .int .u8 69] 5 (4, 5))))
  have B0 := Wc.hid (((Below.refl w.heap.size w).alloc (Nat.le_refl _) (.cells #[.int .i64 n.level, .int .i64 n.p0, .int .i64 n.p1, .int .i64 n.p2, .int .i64 n.p3, .int .i64 n.p4, .int .i64 n.p5, .int .i64 n.p6, .int .i64 n.p7] 83)).alloc (by simp) (.cells #[.int .u8 78, .int .u8 79, .int .u8 68, .int .u8 69] 5 (4, 5)))
  have V0 : Hid (Wc.Bs ((w.alloc (.cells #[.int .i64 n.level, .int .i64 n.p0, .int .i64 n.p1, .int .i64 n.p2, .int .i64 n.p3, .int .i64 n.p4, .int .i64 n.p5, .int .i64 n.p6, .int .i64 n.p7] 83)).alloc (.cells #[.int .u8 78, .int .u8 79, .int .u8 68, .int .u8 69] 5 (4, 5))) (.slice (some ⟨w.heap.size + 1, 0, none⟩) 4 4) Wn.name) := Wc.hid (by
    have := Wc.Bs.litF (w.alloc (.cells #[.int .i64 n.level, .int .i64 n.p0, .int .i64 n.p1, .int .i64 n.p2, .int .i64 n.p3, .int .i64 n.p4, .int .i64 n.p5, .int .i64 n.p6, .int .i64 n.p7] 83)) #[.int .u8 78, .int .u8 79, .int .u8 68, .int .u8 69] 5 4 (4, 5) Wn.name rfl (by omega) rfl (by decide)
    simpa using this)
  have ⟨c, c0, c1, c2, c3, c4, c5, c6, c7⟩ := A0.out.nc
  unfold nv
  go_enter Try.func39, Try.ntmps39
  go_wp2_with fail
  obtain ⟨W1, hW1⟩ : ∃ W1, (w.alloc (.cells #[.int .i64 n.level, .int .i64 n.p0, .int .i64 n.p1, .int .i64 n.p2, .int .i64 n.p3, .int .i64 n.p4, .int .i64 n.p5, .int .i64 n.p6, .int .i64 n.p7] 83)).alloc (.cells #[.int .u8 78, .int .u8 79, .int .u8 68, .int .u8 69] 5 (4, 5)) = W1 := ⟨_, rfl⟩
  rw [hW1] at A0 B0 V0 ⊢
  clear hW1 kc c c0 c1 c2 c3 c4 c5 c6 c7
  refine (refBytes_any 4 n.level _ (by omega) (by have := HS.out; omega) (by have := HS.out; omega)).mono ?_
  rintro e w2 ⟨u2, rfl, hu2, hb2⟩
  obtain ⟨q2, o2, k2, rfl⟩ := Wc.bs_shape hu2 (by rw [Wc.enc_length]; omega)
  have A2 := Wc.hid (A0.out.keep hb2)
  have B2 := Wc.hid (Wc.step B0.out (Nat.le_refl _) hb2)
  obtain ⟨v3, w3, hrun, hO3, hb3⟩ := Wc.grow_run (P := Try.prog) (ty := 22) Try.underlying22 hi hz0 hz1 hz2 (V0.out.keep hb2) hu2 (by rw [Wc.enc_length]; omega) (by rw [Wc.enc_length]; omega) (by rw [Wc.enc_length]; decide)
  have HLT : Hid (w.heap.size < w2.heap.size) := Wc.hid (by have := A2.out.lt; omega)
  have A3 := Wc.hid (A2.out.keep hb3)
  rw [← pre_zero] at hO3
  have O3 := Wc.hid hO3
  have B3 := Wc.hid (Wc.step B2.out (Nat.le_refl _) hb3)
  have BB3 := Wc.hid hb3.size
  clear hu2 hb2 hO3 hb3
  obtain ⟨g3, k3, rfl⟩ := Wc.ob_form O3.out (by rw [pre_length n (by omega)]; omega)
  rw [pre_length n (by omega)] at hrun O3
  go_wp2_with (at_builtin; refine Wc.wp_append hrun rfl rfl rfl rfl ?_)
  clear hrun A0 B0 V0 A2 B2
  go_loopw [3, 4] (fun u i wr => ∃ k g c : Nat, u = .slice (some ⟨g, 0, none⟩) (8 + 4 * k) c ∧ i = .int .i64 k ∧ k ≤ 8 ∧ Hid (Wc.Ob 5 w2.heap.size wr (.slice (some ⟨g, 0, none⟩) (8 + 4 * k) c) (pre n k)) ∧ Hid (Nh wr w.heap.size n) ∧ Hid (w2.heap.size ≤ wr.heap.size) ∧ Hid (Below w.heap.size w wr)) (fun _ i _ => 8 - (intOf i).toNat)
  case atStart => exact ⟨0, g3, k3, rfl, rfl, by omega, O3, A3, BB3, B3⟩
  case round =>
    obtain ⟨k, g, c, rfl, rfl, hk, O, A, HW, HB⟩ := hrel
    by_cases hlt : k < 8
    · have hcell := A.out.pat hlt
      go_wp2_with fail
      refine (refBytes_any 4 (Wn.pat n k) _ (by omega) (HK.out k hlt).1 (by have := HK.out k hlt; omega)).mono ?_
      rintro e w4 ⟨u4, rfl, hu, hb⟩
      obtain ⟨q4, o4, k4, rfl⟩ := Wc.bs_shape hu (by rw [Wc.enc_length]; omega)
      have A4 := Wc.hid (A.out.keep hb)
      have B4 := Wc.hid (Wc.step HB.out (Nat.le_refl _) hb)
      have hsz : w2.heap.size ≤ w4.heap.size := Nat.le_trans HW.out hb.size
      obtain ⟨v5, w5, hrun, hO, hb'⟩ := Wc.append_run (P := Try.prog) (ty := 22) (ys := Wc.enc 4 (Wn.pat n k)) Try.underlying22 hi hz0 hz1 hz2 (O.out.keep hb) hu (.inr ⟨_, _, _, rfl⟩) (by rw [pre_length n hk, Wc.enc_length]; omega) hsz
      rw [pre_next n hlt] at hO
      have A5 := Wc.hid (A4.out.below hb' HLT.out)
      have O5 := Wc.hid hO
      have W5 : Hid (w2.heap.size ≤ w5.heap.size) := Wc.hid (Nat.le_trans hsz hb'.size)
      have B5 := Wc.hid (B4.out.trans (hb'.mono (by have := HLT.out; omega)))
      clear hu hb hO hb' hsz hcell A4 B4 O A HW HB
      obtain ⟨g5, c5, rfl⟩ := Wc.ob_form O5.out (by rw [pre_length n (by omega)]; omega)
      rw [pre_length n (by omega)] at hrun O5
      go_wp2_with (at_builtin; refine Wc.wp_append hrun rfl rfl rfl rfl ?_)
      clear hrun
      go_roundw
      case rel => exact ⟨k + 1, g5, c5, rfl, by go_num, by omega, O5, A5, W5, B5⟩
      case measure => simp [intOf]; omega
    · obtain rfl : k = 8 := by omega
      go_wp2_with fail
      refine (seal_any w2.heap.size _ (pre n 8) _ O.out (by rw [pre_length n (by omega)]; omega) (by rw [pre_length n (by omega)]; omega) HW.out).mono ?_
      rintro e w12 ⟨vz, rfl, hz, hbz⟩
      have HZ := Wc.hid hz
      have BZ := Wc.hid (HB.out.trans (hbz.mono (by have := HLT.out; omega)))
      clear hz hbz
      go_wp2_with fail
      go_ret
      refine ⟨vz, rfl, ?_, BZ.out⟩
      have := HZ.out
      rw [pre_head] at this
      exact this

end Go.Proofs.Ytafpjnofccfmlaa
