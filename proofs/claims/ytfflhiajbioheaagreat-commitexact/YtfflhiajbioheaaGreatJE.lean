/-
  What comparing two arrays of ints tells. It speaks of no program but of the types' shapes.
  What the small functions of package node and of the page's layer 7 return, for every input.
  What node.Bytes returns, for every node: its block in memory of its own, or the error.
  What node.Parse returns, for all bytes.
  What node.Place returns, for every sector and every level.
  What comparing two nodes tells.
  A node that came in, by value. It speaks of no program but of its type.
  What the page's open (at NODE) and ParseNode return, for all bytes.
-/
import Derived.DeepKeys
import Derived.Test.YtfflhiajbioheaaGreatJC
import Derived.Laws.ResultCell
import Derived.Lib.SmallJoins
import Derived.OpenShut
namespace Wa
open Go

theorem eqItems_ints {P : Program} {e : TypeId} (he : P.underlying e = some (.int .i64)) (d : Nat) (a b : List Int) : ∀ (m k : Nat), k + m = a.length → k + m = b.length → ∀ w : World,
    (Op.eqItems (d + 1) e 1 (a.map (Value.int .i64)).toArray (b.map (Value.int .i64)).toArray (List.range' k m)).run P w = .ok (a.drop k == b.drop k) w
  | 0, k, ha, hb, w => by
    rw [List.drop_eq_nil_of_le (by omega), List.drop_eq_nil_of_le (by omega)]
    simp [Op.eqItems]
  | m + 1, k, ha, hb, w => by
    have hp : P.plainKey e = true := by simp [Program.plainKey, he]
    have hka : k < a.length := by omega
    have hkb : k < b.length := by omega
    have p1 := run_part_plain (P := P) w hp (xs := (a.map (Value.int .i64)).toArray) (off := k * 1) (v := .int .i64 a[k]) (by simp [hka])
    have p2 := run_part_plain (P := P) w hp (xs := (b.map (Value.int .i64)).toArray) (off := k * 1) (v := .int .i64 b[k]) (by simp [hkb])
    have ih := eqItems_ints he d a b m (k + 1) (by omega) (by omega) w
    rw [List.range'_succ, List.drop_eq_getElem_cons hka, List.drop_eq_getElem_cons hkb]
    simp only [Op.eqItems, Sem.run_bind, p1, p2, Result.andThen_ok, run_equalIn_int w d e .i64 .i64 _ _ he]
    by_cases h : a[k] = b[k]
    · have hb' : (a[k] == b[k]) = true := by simpa using h
      simp only [hb', Bool.not_true, Bool.false_eq_true, if_false, ih, List.cons_beq_cons, Bool.true_and]
    · have hb' : (a[k] == b[k]) = false := by simpa using h
      simp only [hb', Bool.not_false, if_true, Sem.run_pure, List.cons_beq_cons, Bool.false_and]

/-- Two arrays of ints are one just if their lists are. -/
theorem equal_ints {P : Program} {t e : TypeId} {n : Nat} {i : TypeInfo} (hu : P.underlying t = some (.array n e)) (hi : P.info? e = some i) (he : P.underlying e = some (.int .i64)) (hc : P.cellsOf e = 1) (d : Nat) (a b : List Int) (ha : a.length = n) (hb : b.length = n) (w : World) :
    (Op.equalIn (d + 2) t (.agg (a.map (Value.int .i64)).toArray) (.agg (b.map (Value.int .i64)).toArray)).run P w = .ok (a == b) w := by
  rw [run_equalIn_array w (d + 1) _ _ hu hi, hc, List.range_eq_range']
  exact eqItems_ints he d a b n 0 (by omega) (by omega) w

end Wa
namespace Go.Proofs.YtfflhiajbioheaaGreat
open Go.RowKit

/-- A node as a value. -/
def nv (n : Wn.Nod) : Value := .agg #[.int .i64 n.level, .int .i64 n.p0, .int .i64 n.p1, .int .i64 n.p2, .int .i64 n.p3, .int .i64 n.p4, .int .i64 n.p5, .int .i64 n.p6, .int .i64 n.p7]

/-- The block B is a node's own cells. -/
def Nh (w : World) (B : Nat) (n : Wn.Nod) : Prop := w.heap[B]? = some (.cells #[.int .i64 n.level, .int .i64 n.p0, .int .i64 n.p1, .int .i64 n.p2, .int .i64 n.p3, .int .i64 n.p4, .int .i64 n.p5, .int .i64 n.p6, .int .i64 n.p7] 133 (0, 0))

theorem Nh.new (w : World) (n : Wn.Nod) : Nh (w.alloc (.cells #[.int .i64 n.level, .int .i64 n.p0, .int .i64 n.p1, .int .i64 n.p2, .int .i64 n.p3, .int .i64 n.p4, .int .i64 n.p5, .int .i64 n.p6, .int .i64 n.p7] 133)) w.heap.size n := by
  show (w.heap.push _)[w.heap.size]? = _; simp

theorem Nh.lt {w : World} {B : Nat} {n : Wn.Nod} (h : Nh w B n) : B < w.heap.size := (Array.getElem?_eq_some_iff.1 h).1

theorem Nh.keep {w w' : World} {B : Nat} {n : Wn.Nod} (h : Nh w B n) (hb : Below w.heap.size w w') : Nh w' B n := by
  unfold Nh
  rw [hb.block B h.lt]; exact h

theorem Nh.below {w w' : World} {B base : Nat} {n : Wn.Nod} (h : Nh w B n) (hb : Below base w w') (hlt : B < base) : Nh w' B n := by
  unfold Nh
  rw [hb.block B hlt]; exact h

theorem Nh.frozen {w : World} {B : Nat} {n : Wn.Nod} (h : Nh w B n) (i : Nat) : w.frozen? ⟨B, i, none⟩ = false := by
  unfold Nh at h
  simp [World.frozen?, h]

/-- At the block B lies the node n. -/
def Nc (w : World) (B : Nat) (n : Wn.Nod) : Prop :=
  w.cell? ⟨B, 0, none⟩ = some (.int .i64 n.level) ∧ w.cell? ⟨B, 1, none⟩ = some (.int .i64 n.p0) ∧ w.cell? ⟨B, 2, none⟩ = some (.int .i64 n.p1) ∧ w.cell? ⟨B, 3, none⟩ = some (.int .i64 n.p2) ∧ w.cell? ⟨B, 4, none⟩ = some (.int .i64 n.p3) ∧ w.cell? ⟨B, 5, none⟩ = some (.int .i64 n.p4) ∧ w.cell? ⟨B, 6, none⟩ = some (.int .i64 n.p5) ∧ w.cell? ⟨B, 7, none⟩ = some (.int .i64 n.p6) ∧ w.cell? ⟨B, 8, none⟩ = some (.int .i64 n.p7)

theorem Nh.nc {w : World} {B : Nat} {n : Wn.Nod} (h : Nh w B n) : Nc w B n := by
  unfold Nh at h
  refine ⟨?_, ?_, ?_, ?_, ?_, ?_, ?_, ?_, ?_⟩ <;> simp [World.cell?, h]

/-- A pointer's cell. -/
theorem Nh.pat {w : World} {B : Nat} {n : Wn.Nod} (h : Nh w B n) {k : Nat} (hk : k < 8) : w.cell? ⟨B, 1 + k, none⟩ = some (.int .i64 (Wn.pat n k)) := by
  obtain ⟨c, c0, c1, c2, c3, c4, c5, c6, c7⟩ := h.nc
  rcases Wn.below8 hk with rfl | rfl | rfl | rfl | rfl | rfl | rfl | rfl
  · exact c0
  · exact c1
  · exact c2
  · exact c3
  · exact c4
  · exact c5
  · exact c6
  · exact c7

/-- A pointer written over. -/
theorem Nh.set {w : World} {B : Nat} {n : Wn.Nod} (h : Nh w B n) {k : Nat} (hk : k < 8) (z : Int) : Nh (w.setCell ⟨B, 1 + k, none⟩ (.int .i64 z)) B (Wn.setP n k z) := by
  have h1 := heap_setCell_same w B (1 + k) _ 133 (.int .i64 z) h
  unfold Nh
  rcases Wn.below8 hk with rfl | rfl | rfl | rfl | rfl | rfl | rfl | rfl
  all_goals (simp only [Wn.setP]; simpa using h1)

theorem idx8 (n : Wn.Nod) {k : Nat} (hk : k < 8) (w : World) : (Instr.index 131 (.agg #[.int .i64 n.p0, .int .i64 n.p1, .int .i64 n.p2, .int .i64 n.p3, .int .i64 n.p4, .int .i64 n.p5, .int .i64 n.p6, .int .i64 n.p7]) (.int .i64 (k : Int))).run Tryz.prog w = .ok (.int .i64 (Wn.pat n k)) w := by
  rcases Wn.below8 hk with rfl | rfl | rfl | rfl | rfl | rfl | rfl | rfl <;> kernel_rfl

/-- A right level. -/
def lvB (n : Int) : Bool := decide (0 ≤ n) && decide (n ≤ 2)
theorem lvB_iff {n : Int} : lvB n = true ↔ 0 ≤ n ∧ n ≤ 2 := by simp [lvB]

set_option maxHeartbeats 400000 in
theorem rightLevel_any (n : Int) (w : World) :
    Calls Tryz.prog 111 #[.int .i64 n] w fun e w' => e = .returned (.bool (lvB n)) ∧ w = w' := by
  unfold lvB
  go_enter Tryz.func111, Tryz.ntmps111
  go_wp2
  all_goals go_ret
  · exact ⟨ret_bool (by simp [*]), rfl⟩
  · exact ⟨ret_bool (by symm; rw [Bool.eq_false_iff]; simp; omega), rfl⟩

set_option maxHeartbeats 400000 in
theorem leads7_any (n : Int) (w : World) :
    Calls Tryz.prog 112 #[.int .i64 n] w fun e w' => e = .returned (.bool (Ws.linkB n 4096)) ∧ w = w' := by
  go_enter Tryz.func112, Tryz.ntmps112
  go_wp2
  all_goals go_ret
  all_goals (refine ⟨ret_bool ?_, rfl⟩; rw [Bool.eq_iff_iff]; simp [Ws.linkB]; try omega)

theorem nodE_yes {s : Wn.Nod} (h : Wn.nodB s = true) : Wn.nodE s = 0 := by simp [Wn.nodE, h]
theorem nodE_no {s : Wn.Nod} (h : Wn.nodB s = false) : Wn.nodE s = 1 := by simp [Wn.nodE, h]

theorem Tryz.infoInt : ∃ i, Tryz.prog.info? 3 = some i := Option.isSome_iff_exists.1 (by kernel_rfl)
theorem Tryz.cellsInt : Tryz.prog.cellsOf 3 = 1 := by kernel_rfl

theorem equal_ptr (s t : Wn.Nod) (d : Nat) (w : World) : (Op.equalIn (d + 2) 131 (.agg #[.int .i64 s.p0, .int .i64 s.p1, .int .i64 s.p2, .int .i64 s.p3, .int .i64 s.p4, .int .i64 s.p5, .int .i64 s.p6, .int .i64 s.p7]) (.agg #[.int .i64 t.p0, .int .i64 t.p1, .int .i64 t.p2, .int .i64 t.p3, .int .i64 t.p4, .int .i64 t.p5, .int .i64 t.p6, .int .i64 t.p7])).run Tryz.prog w = .ok (Wn.ptr s == Wn.ptr t) w := by
  obtain ⟨i, hi⟩ := Tryz.infoInt
  exact Wa.equal_ints Tryz.underlying131 hi Tryz.underlying3 Tryz.cellsInt d (Wn.ptr s) (Wn.ptr t) rfl rfl w

/-- Are all pointers 0? -/
def noneB (n : Wn.Nod) : Bool := Wn.ptr n == Wn.ptr Wn.n0

theorem noneB_yes {n : Wn.Nod} (h : noneB n = true) : ∀ k, k < 8 → Wn.pat n k = 0 := by
  intro k hk
  have e : Wn.ptr n = Wn.ptr Wn.n0 := by simpa [noneB] using h
  unfold Wn.pat
  rw [e]
  rcases Wn.below8 hk with rfl | rfl | rfl | rfl | rfl | rfl | rfl | rfl <;> rfl

theorem noneB_no {n : Wn.Nod} (h : noneB n = false) : ∃ k, k < 8 ∧ ¬ Wn.pat n k = 0 := by
  apply Classical.byContradiction
  intro hn
  have e : Wn.ptr n = Wn.ptr Wn.n0 := by
    have hz : ∀ k, k < 8 → Wn.pat n k = 0 := fun k hk => Classical.byContradiction fun hne => hn ⟨k, hk, hne⟩
    have h0 : n.p0 = 0 := hz 0 (by omega)
    have h1 : n.p1 = 0 := hz 1 (by omega)
    have h2 : n.p2 = 0 := hz 2 (by omega)
    have h3 : n.p3 = 0 := hz 3 (by omega)
    have h4 : n.p4 = 0 := hz 4 (by omega)
    have h5 : n.p5 = 0 := hz 5 (by omega)
    have h6 : n.p6 = 0 := hz 6 (by omega)
    have h7 : n.p7 = 0 := hz 7 (by omega)
    unfold Wn.ptr
    rw [h0, h1, h2, h3, h4, h5, h6, h7]
    rfl
  simp [noneB, e] at h

theorem eql_none (n : Wn.Nod) (w : World) : (binOp .eql 131 (.agg #[.int .i64 n.p0, .int .i64 n.p1, .int .i64 n.p2, .int .i64 n.p3, .int .i64 n.p4, .int .i64 n.p5, .int .i64 n.p6, .int .i64 n.p7]) (.agg #[.int .i64 0, .int .i64 0, .int .i64 0, .int .i64 0, .int .i64 0, .int .i64 0, .int .i64 0, .int .i64 0])).run Tryz.prog w = .ok (.bool (noneB n)) w := by
  rw [run_eql_struct]
  have h := equal_ptr n Wn.n0 9998 w
  have h' : (Op.equalIn 10000 131 (.agg #[.int .i64 n.p0, .int .i64 n.p1, .int .i64 n.p2, .int .i64 n.p3, .int .i64 n.p4, .int .i64 n.p5, .int .i64 n.p6, .int .i64 n.p7]) (.agg #[.int .i64 0, .int .i64 0, .int .i64 0, .int .i64 0, .int .i64 0, .int .i64 0, .int .i64 0, .int .i64 0])).run Tryz.prog w = .ok (noneB n) w := h
  rw [h']
  rfl

set_option maxHeartbeats 1600000 in
theorem check7_any (n : Wn.Nod) (w : World) :
    Calls Tryz.prog 110 #[nv n] w fun e w' => e = .returned (.int .i64 (Wn.nodE n)) ∧ Below w.heap.size w w' := by
  have A0 := Wc.hid (Nh.new w n)
  have B0 := Wc.hid ((Below.refl w.heap.size w).alloc (Nat.le_refl _) (.cells #[.int .i64 n.level, .int .i64 n.p0, .int .i64 n.p1, .int .i64 n.p2, .int .i64 n.p3, .int .i64 n.p4, .int .i64 n.p5, .int .i64 n.p6, .int .i64 n.p7] 133))
  unfold nv
  go_enter Tryz.func110, Tryz.ntmps110
  go_wp2_with fail
  refine (rightLevel_any _ _).mono ?_
  rintro e w' ⟨rfl, rfl⟩
  cases hlev : lvB n.level
  · have HN := Wc.hid (nodE_no (Wn.nodB_level (n := n) (fun h => by rw [lvB_iff.2 h] at hlev; cases hlev)))
    clear hlev
    go_wp2
    go_ret
    exact ⟨ret_int HN.out.symm, B0.out⟩
  · have HL := Wc.hid (lvB_iff.1 hlev)
    clear hlev
    go_wp2
    go_loopw [11] (fun i wr => ∃ k : Nat, i = .int .i64 k ∧ k ≤ 8 ∧ w.alloc (.cells #[.int .i64 n.level, .int .i64 n.p0, .int .i64 n.p1, .int .i64 n.p2, .int .i64 n.p3, .int .i64 n.p4, .int .i64 n.p5, .int .i64 n.p6, .int .i64 n.p7] 133) = wr ∧ Hid (∀ j, j < k → Ws.linkB (Wn.pat n j) 4096 = true)) (fun i _ => 8 - (intOf i).toNat)
    case atStart => exact ⟨0, rfl, by omega, rfl, Wc.hid (fun j h => by omega)⟩
    case round =>
      obtain ⟨k, rfl, hk, rfl, HZ⟩ := hrel
      by_cases hlt : k < 8
      · have hidx := fun w => idx8 n hlt w
        go_wp2_with fail
        refine (leads7_any _ _).mono ?_
        rintro e w' ⟨rfl, rfl⟩
        clear hidx
        cases hb : Ws.linkB (Wn.pat n k) 4096
        · have HN := Wc.hid (nodE_no (Wn.nodB_ptr k hlt hb))
          clear hb
          go_wp2
          go_ret
          exact ⟨ret_int HN.out.symm, B0.out⟩
        · have HB := Wc.hid hb
          clear hb
          go_wp2
          go_roundw
          case rel =>
            refine ⟨k + 1, by go_num, by omega, trivial, Wc.hid fun j hj => ?_⟩
            by_cases hjk : j = k
            · subst hjk; exact HB.out
            · exact HZ.out j (by omega)
          case measure => simp [intOf]; omega
      · obtain rfl : k = 8 := by omega
        have heq := fun w => eql_none n w
        cases hn : noneB n
        · have HN := Wc.hid (nodE_yes (Wn.nodB_yes HL.out HZ.out (noneB_no hn)))
          rw [hn] at heq
          clear hn
          go_wp2
          go_ret
          exact ⟨ret_int HN.out.symm, B0.out⟩
        · have HN := Wc.hid (nodE_no (Wn.nodB_none (noneB_yes hn)))
          rw [hn] at heq
          clear hn
          go_wp2
          go_ret
          exact ⟨ret_int HN.out.symm, B0.out⟩

/-- Is one of the first k pointers not 0? -/
def anyB (n : Wn.Nod) (k : Nat) : Bool := ((Wn.ptr n).take k).any (fun p => p != 0)

theorem anyB_next (n : Wn.Nod) {k : Nat} (hk : k < 8) : anyB n (k + 1) = (anyB n k || Wn.pat n k != 0) := by
  have h : (Wn.ptr n).take (k + 1) = (Wn.ptr n).take k ++ [Wn.pat n k] := by
    rcases Wn.below8 hk with rfl | rfl | rfl | rfl | rfl | rfl | rfl | rfl <;> rfl
  unfold anyB
  rw [h, List.any_append]
  simp

theorem nodB_any {n : Wn.Nod} (h : 0 ≤ n.level ∧ n.level ≤ 2) (hp : ∀ k, k < 8 → Ws.linkB (Wn.pat n k) 4096 = true) : Wn.nodB n = anyB n 8 := by
  have e : anyB n 8 = (Wn.ptr n).any (fun p => p != 0) := rfl
  rw [e, Bool.eq_iff_iff]
  constructor
  · intro hb
    obtain ⟨p, hm, hne⟩ := (Wn.nodB_iff.1 hb).2.2
    exact List.any_eq_true.2 ⟨p, hm, by simpa using hne⟩
  · intro ha
    obtain ⟨p, hm, hne⟩ := List.any_eq_true.1 ha
    obtain ⟨k, hk, rfl⟩ := Wn.mem_pat hm
    exact Wn.nodB_yes h hp ⟨k, hk, by simpa using hne⟩

set_option maxHeartbeats 400000 in
theorem get7_any (v : Value) (xs : List Int) (p : Int) (w : World) (hv : Wc.Bs w v xs) :
    Calls Tryz.prog 109 #[v, .int .i64 p] w fun e w' => e = .returned (.int .i64 (Wc.getR xs p 4).1) ∧ w = w' := by
  have HV := Wc.hid hv
  clear hv
  go_enter Tryz.func109, Tryz.ntmps109
  go_wp2_with fail
  refine (get_any v xs p 4 _ HV.out).mono ?_
  rintro e w' ⟨rfl, rfl⟩
  go_wp2
  go_ret
  exact ⟨rfl, rfl⟩

end Go.Proofs.YtfflhiajbioheaaGreat
namespace Go.Proofs.YtfflhiajbioheaaGreat
open Go.RowKit

/-- copy(b, "NODE"), b made just ahead of it. -/
theorem named7 (w : World) : ∃ w2, Sem.run Tryz.prog (Builtin.copy_ #[48, 9] 3 #[.slice (some ⟨w.heap.size, 0, none⟩) 64 64, .string ⟨#[78, 79, 68, 69]⟩]) (w.alloc (.cells (madeCells #[.int .u8 0] 64) 5)) = .ok (.int .i64 4) w2 ∧
    Rb w2 w.heap.size Wn.q0 ∧ Below w.heap.size w w2 := by
  have hg := made_heap w (.int .u8 0) 64 5
  have hrun := Lib.run_copy_row_string (P := Tryz.prog) (w.alloc (.cells (madeCells #[.int .u8 0] 64) 5)) 48 9 3 5 w.heap.size 0 64 64 ⟨#[78, 79, 68, 69]⟩ _ 5 Tryz.underlying48 Tryz.sizeU8 hg (by decide) (by decide)
  refine ⟨_, hrun, ⟨_, setRow_heap _ _ _ _ 5 _ hg, by decide, fun i hi => ?_⟩, below_setRow ((Below.refl _ _).alloc (Nat.le_refl _) _) (Nat.le_refl _) _⟩
  have hl : i < Wn.q0.length := hi
  have hc : (Wn.q0.map (Value.int .u8)).toArray[i]? = some (.int .u8 (Wn.q0.getD i 0)) := by simp [hl]
  exact hc

end Go.Proofs.YtfflhiajbioheaaGreat
namespace Go.Proofs.YtfflhiajbioheaaGreat
open Go.RowKit

/-- A node written over another one. -/
theorem Nh.over {w : World} {B : Nat} {s : Wn.Nod} (h : Nh w B s) (t : Wn.Nod) :
    Nh (((((((((w.setCell ⟨B, 0, none⟩ (.int .i64 t.level)).setCell ⟨B, 1, none⟩ (.int .i64 t.p0)).setCell ⟨B, 2, none⟩ (.int .i64 t.p1)).setCell ⟨B, 3, none⟩ (.int .i64 t.p2)).setCell ⟨B, 4, none⟩ (.int .i64 t.p3)).setCell ⟨B, 5, none⟩ (.int .i64 t.p4)).setCell ⟨B, 6, none⟩ (.int .i64 t.p5)).setCell ⟨B, 7, none⟩ (.int .i64 t.p6)).setCell ⟨B, 8, none⟩ (.int .i64 t.p7)) B t := by
  have h0 := heap_setCell_same w B 0 _ 133 (.int .i64 t.level) h
  have h1 := heap_setCell_same _ B 1 _ 133 (.int .i64 t.p0) h0
  have h2 := heap_setCell_same _ B 2 _ 133 (.int .i64 t.p1) h1
  have h3 := heap_setCell_same _ B 3 _ 133 (.int .i64 t.p2) h2
  have h4 := heap_setCell_same _ B 4 _ 133 (.int .i64 t.p3) h3
  have h5 := heap_setCell_same _ B 5 _ 133 (.int .i64 t.p4) h4
  have h6 := heap_setCell_same _ B 6 _ 133 (.int .i64 t.p5) h5
  have h7 := heap_setCell_same _ B 7 _ 133 (.int .i64 t.p6) h6
  have h8 := heap_setCell_same _ B 8 _ 133 (.int .i64 t.p7) h7
  unfold Nh
  simpa using h8

theorem below9 {B0 B : Nat} {a w : World} (h : Below B0 a w) (hB : B0 ≤ B) (t : Wn.Nod) :
    Below B0 a (((((((((w.setCell ⟨B, 0, none⟩ (.int .i64 t.level)).setCell ⟨B, 1, none⟩ (.int .i64 t.p0)).setCell ⟨B, 2, none⟩ (.int .i64 t.p1)).setCell ⟨B, 3, none⟩ (.int .i64 t.p2)).setCell ⟨B, 4, none⟩ (.int .i64 t.p3)).setCell ⟨B, 5, none⟩ (.int .i64 t.p4)).setCell ⟨B, 6, none⟩ (.int .i64 t.p5)).setCell ⟨B, 7, none⟩ (.int .i64 t.p6)).setCell ⟨B, 8, none⟩ (.int .i64 t.p7)) :=
  ((((((((h.setCell hB _).setCell hB _).setCell hB _).setCell hB _).setCell hB _).setCell hB _).setCell hB _).setCell hB _).setCell hB _

theorem Nh.other {w : World} {B B' : Nat} {n : Wn.Nod} (h : Nh w B n) (hne : B ≠ B') (o : Nat) (v : Value) : Nh (w.setCell ⟨B', o, none⟩ v) B n := by
  unfold Nh
  rw [heap_setCell_other _ _ _ _ hne]; exact h

theorem ret_cell7 {fn : Func} {tmps : Array Value} {w : World} {B : Nat} {s : Wn.Nod} {v : Value} (hr : fn.results = #[.cell 2 133, .tmp 3]) (hp : tmps.getD 2 undef = .pointer (some ⟨B, 0, none⟩)) (hv : tmps.getD 3 undef = v) (h : Nc w B s) :
    (results fn tmps).run Tryz.prog w = .ok (.tuple #[nv s, v]) w := by
  obtain ⟨c, c0, c1, c2, c3, c4, c5, c6, c7⟩ := h
  rw [results_cell_tmp hr, hp, hv]
  simp [go_sem, c, c0, c1, c2, c3, c4, c5, c6, c7, nv]

/-- The first four bytes are NODE just if their text is. -/
theorem txt_node (xs : List Int) (hl : 4 ≤ xs.length) (hx : ∀ x ∈ xs, 0 ≤ x ∧ x < 256) : ((txt xs).toList == [78, 79, 68, 69]) = true ↔ xs.take 4 = Wn.name := by
  rw [beq_iff_eq, ByteArray.toList_eq]
  match xs, hl with
  | x0 :: x1 :: x2 :: x3 :: r, _ =>
    have h0 := u8_eq (hx x0 (by simp)) 78
    have h1 := u8_eq (hx x1 (by simp)) 79
    have h2 := u8_eq (hx x2 (by simp)) 68
    have h3 := u8_eq (hx x3 (by simp)) 69
    have e0 : ((78 : UInt8).toNat : Int) = 78 := rfl
    have e1 : ((79 : UInt8).toNat : Int) = 79 := rfl
    have e2 : ((68 : UInt8).toNat : Int) = 68 := rfl
    have e3 : ((69 : UInt8).toNat : Int) = 69 := rfl
    rw [e0] at h0
    rw [e1] at h1
    rw [e2] at h2
    rw [e3] at h3
    simp only [txt, Wn.name, List.take_succ_cons, List.take_zero, List.map_cons, List.map_nil, List.cons.injEq, and_true, h0, h1, h2, h3]

theorem txt_nodeNo (xs : List Int) (hl : 4 ≤ xs.length) (hx : ∀ x ∈ xs, 0 ≤ x ∧ x < 256) (h : ¬ xs.take 4 = Wn.name) : ((txt xs).toList == [78, 79, 68, 69]) = false := by
  rw [Bool.eq_false_iff]
  exact fun e => h ((txt_node xs hl hx).1 e)

set_option maxHeartbeats 1600000 in
theorem parse7_len (a : Option Addr) (n cap : Nat) (w : World) (hl : ¬ n = 64) :
    Calls Tryz.prog 108 #[.slice a n cap] w fun e w' => e = .returned (.tuple #[nv Wn.n0, .int .i64 2]) ∧ Below w.heap.size w w' := by
  have hb : (((n : Int) != 64) = true) := by simp; omega
  clear hl
  go_enter Tryz.func108, Tryz.ntmps108
  go_wp2_with fail
  refine bodyPost_ret (ret_cell7 rfl rfl rfl (Nh.new w Wn.n0).nc) rfl ⟨rfl, (Below.refl w.heap.size w).alloc (Nat.le_refl _) _⟩

set_option maxHeartbeats 1600000 in
theorem parse7_name (b off cap : Nat) (S : ByteArray) (w : World) (hc : 64 ≤ cap) (hc2 : cap ≤ 9223372036854775807)
   (hcv : (convert 48 9 (.slice (some ⟨b, off, none⟩) 4 cap)).run Tryz.prog (w.alloc (.cells #[.int .i64 0, .int .i64 0, .int .i64 0, .int .i64 0, .int .i64 0, .int .i64 0, .int .i64 0, .int .i64 0, .int .i64 0] 133)) = .ok (.string S) (w.alloc (.cells #[.int .i64 0, .int .i64 0, .int .i64 0, .int .i64 0, .int .i64 0, .int .i64 0, .int .i64 0, .int .i64 0, .int .i64 0] 133)))
   (hS : (S.toList == [78, 79, 68, 69]) = false) :
    Calls Tryz.prog 108 #[.slice (some ⟨b, off, none⟩) 64 cap] w fun e w' => e = .returned (.tuple #[nv Wn.n0, .int .i64 4]) ∧ Below w.heap.size w w' := by
  go_enter Tryz.func108, Tryz.ntmps108
  go_wp2_with fail
  exact bodyPost_ret (ret_cell7 rfl rfl rfl (Nh.new w Wn.n0).nc) rfl ⟨rfl, (Below.refl w.heap.size w).alloc (Nat.le_refl _) _⟩

set_option maxHeartbeats 1600000 in
theorem parse7_sum (b off cap : Nat) (xs : List Int) (S : ByteArray) (w : World) (hv : Wc.Bs w (.slice (some ⟨b, off, none⟩) 64 cap) xs) (hc : 64 ≤ cap) (hc2 : cap ≤ 9223372036854775807)
   (hcv : (convert 48 9 (.slice (some ⟨b, off, none⟩) 4 cap)).run Tryz.prog (w.alloc (.cells #[.int .i64 0, .int .i64 0, .int .i64 0, .int .i64 0, .int .i64 0, .int .i64 0, .int .i64 0, .int .i64 0, .int .i64 0] 133)) = .ok (.string S) (w.alloc (.cells #[.int .i64 0, .int .i64 0, .int .i64 0, .int .i64 0, .int .i64 0, .int .i64 0, .int .i64 0, .int .i64 0, .int .i64 0] 133)))
   (hS : (S.toList == [78, 79, 68, 69]) = true) (hg : Wc.goodB xs = false) :
    Calls Tryz.prog 108 #[.slice (some ⟨b, off, none⟩) 64 cap] w fun e w' => e = .returned (.tuple #[nv Wn.n0, .int .i64 5]) ∧ Below w.heap.size w w' := by
  have HV := Wc.hid (hv.alloc (.cells #[.int .i64 0, .int .i64 0, .int .i64 0, .int .i64 0, .int .i64 0, .int .i64 0, .int .i64 0, .int .i64 0, .int .i64 0] 133))
  clear hv
  go_enter Tryz.func108, Tryz.ntmps108
  go_wp2_with fail
  refine (good_any _ xs _ HV.out).mono ?_
  rintro e w1 ⟨rfl, rfl⟩
  rw [hg]
  go_wp2_with fail
  exact bodyPost_ret (ret_cell7 rfl rfl rfl (Nh.new w Wn.n0).nc) rfl ⟨rfl, (Below.refl w.heap.size w).alloc (Nat.le_refl _) _⟩

set_option maxRecDepth 100000 in
set_option maxHeartbeats 3200000 in
theorem parse7_nums (b off cap : Nat) (xs : List Int) (S : ByteArray) (w : World) (hv : Wc.Bs w (.slice (some ⟨b, off, none⟩) 64 cap) xs) (hc : 64 ≤ cap) (hc2 : cap ≤ 9223372036854775807)
   (hcv : (convert 48 9 (.slice (some ⟨b, off, none⟩) 4 cap)).run Tryz.prog (w.alloc (.cells #[.int .i64 0, .int .i64 0, .int .i64 0, .int .i64 0, .int .i64 0, .int .i64 0, .int .i64 0, .int .i64 0, .int .i64 0] 133)) = .ok (.string S) (w.alloc (.cells #[.int .i64 0, .int .i64 0, .int .i64 0, .int .i64 0, .int .i64 0, .int .i64 0, .int .i64 0, .int .i64 0, .int .i64 0] 133)))
   (hS : (S.toList == [78, 79, 68, 69]) = true) (hnm : xs.take 4 = Wn.name) (hg : Wc.goodB xs = true) :
    Calls Tryz.prog 108 #[.slice (some ⟨b, off, none⟩) 64 cap] w fun e w' => e = .returned (.tuple #[nv (Wn.par xs), .int .i64 (Wn.parE xs)]) ∧ Below w.heap.size w w' := by
  have HV0 := Wc.hid hv
  have HV := Wc.hid (hv.alloc (.cells #[.int .i64 0, .int .i64 0, .int .i64 0, .int .i64 0, .int .i64 0, .int .i64 0, .int .i64 0, .int .i64 0, .int .i64 0] 133))
  have hxl := Wc.bs_len hv
  have hxb := Wc.bs_bytes hv
  have GL : Hid ((Wc.getR xs 4 4).1 = Ws.num xs 4 4) := Wc.hid (get4_num xs 4 hxl (by omega) hxb)
  have GK : Hid (∀ k : Nat, k < 8 → (Wc.getR xs (8 + (k : Int) * 4) 4).1 = Ws.num xs (8 + 4 * k) 4) := Wc.hid fun k hk => by
    rw [← get4_num xs (8 + 4 * k) hxl (by omega) hxb]
    congr 2
    omega
  have HGD := Wc.hid hg
  have HNM := Wc.hid hnm
  clear hnm
  have HXL := Wc.hid hxl
  clear hv hxl hxb
  go_enter Tryz.func108, Tryz.ntmps108
  go_wp2_with fail
  refine (good_any _ xs _ HV.out).mono ?_
  rintro e w1 ⟨rfl, rfl⟩
  rw [HGD.out]
  clear hg hcv
  go_wp2_with fail
  refine (get7_any _ xs _ _ HV.out).mono ?_
  rintro e w' ⟨rfl, rfl⟩
  rw [GL.out]
  have A0 := Wc.hid ((Nh.new w Wn.n0).keep ((Below.refl _ _).alloc (Nat.le_refl _) (.cells #[.int .i64 (Ws.num xs 4 4), .int .i64 0, .int .i64 0, .int .i64 0, .int .i64 0, .int .i64 0, .int .i64 0, .int .i64 0, .int .i64 0] 133)))
  have A1 : Hid (Nh ((w.alloc (.cells #[.int .i64 0, .int .i64 0, .int .i64 0, .int .i64 0, .int .i64 0, .int .i64 0, .int .i64 0, .int .i64 0, .int .i64 0] 133)).alloc (.cells #[.int .i64 (Ws.num xs 4 4), .int .i64 0, .int .i64 0, .int .i64 0, .int .i64 0, .int .i64 0, .int .i64 0, .int .i64 0, .int .i64 0] 133)) (w.heap.size + 1) (Wn.fill xs 0)) := Wc.hid (by
    rw [Wn.fill_zero]
    have := Nh.new (w.alloc (.cells #[.int .i64 0, .int .i64 0, .int .i64 0, .int .i64 0, .int .i64 0, .int .i64 0, .int .i64 0, .int .i64 0, .int .i64 0] 133)) ⟨Ws.num xs 4 4, 0, 0, 0, 0, 0, 0, 0, 0⟩
    simpa using this)
  have HB0 := Wc.hid (((Below.refl w.heap.size w).alloc (Nat.le_refl _) (.cells #[.int .i64 0, .int .i64 0, .int .i64 0, .int .i64 0, .int .i64 0, .int .i64 0, .int .i64 0, .int .i64 0, .int .i64 0] 133)).alloc (by simp) (.cells #[.int .i64 (Ws.num xs 4 4), .int .i64 0, .int .i64 0, .int .i64 0, .int .i64 0, .int .i64 0, .int .i64 0, .int .i64 0, .int .i64 0] 133))
  go_wp2_with fail
  go_loopw [22] (fun i wr => ∃ k : Nat, i = .int .i64 k ∧ k ≤ 8 ∧ Hid (Nh wr w.heap.size Wn.n0) ∧ Hid (Nh wr (w.heap.size + 1) (Wn.fill xs k)) ∧ Hid (Below w.heap.size w wr)) (fun i _ => 8 - (intOf i).toNat)
  case atStart => exact ⟨0, rfl, by omega, A0, A1, HB0⟩
  case round =>
    obtain ⟨k, rfl, hk, A, D, HB⟩ := hrel
    by_cases hlt : k < 8
    · go_wp2_with fail
      refine (get7_any _ xs _ _ (HV0.out.keep HB.out)).mono ?_
      rintro e w' ⟨rfl, rfl⟩
      rw [GK.out k hlt]
      have hcell := D.out.pat hlt
      have hfz := D.out.frozen (1 + k)
      have A' := Wc.hid (A.out.other (B' := w.heap.size + 1) (by omega) (1 + k) (.int .i64 (Ws.num xs (8 + 4 * k) 4)))
      have D' := Wc.hid (D.out.set hlt (Ws.num xs (8 + 4 * k) 4))
      rw [Wn.fill_next xs hlt] at D'
      have HB' := Wc.hid (HB.out.setCell (p := ⟨w.heap.size + 1, 1 + k, none⟩) (by simp) (.int .i64 (Ws.num xs (8 + 4 * k) 4)))
      go_wp2_with fail
      go_roundw
      case rel => exact ⟨k + 1, by go_num, by omega, A', D', HB'⟩
      case measure => simp [intOf]; omega
    · obtain rfl : k = 8 := by omega
      rw [Wn.fill_all] at D
      obtain ⟨t, ht⟩ : ∃ t, Wn.parN xs = t := ⟨_, rfl⟩
      rw [ht] at D
      have HT := Wc.hid ht
      clear ht
      have ⟨d, d0, d1, d2, d3, d4, d5, d6, d7⟩ := D.out.nc
      go_wp2_with fail
      refine (check7_any t _).mono ?_
      rintro e w2 ⟨rfl, hb2⟩
      have A2 := Wc.hid (A.out.keep hb2)
      have D2 := Wc.hid (D.out.keep hb2)
      have HB2 := Wc.hid (Wc.step HB.out (Nat.le_refl _) hb2)
      have HV2 := Wc.hid (HV0.out.keep HB2.out)
      clear hb2 d d0 d1 d2 d3 d4 d5 d6 d7 A D HB
      have ⟨c, c0, c1, c2, c3, c4, c5, c6, c7⟩ := A2.out.nc
      have f := A2.out.frozen 0
      have f0 := A2.out.frozen 1
      have f1 := A2.out.frozen 2
      have f2 := A2.out.frozen 3
      have f3 := A2.out.frozen 4
      have f4 := A2.out.frozen 5
      have f5 := A2.out.frozen 6
      have f6 := A2.out.frozen 7
      have f7 := A2.out.frozen 8
      cases hnb : Wn.nodB t
      · rw [nodE_no hnb]
        have HP := Wc.hid (Wn.par_arg HXL.out HNM.out HGD.out (by rw [HT.out, hnb]; rfl))
        clear hnb
        go_wp2_with fail
        rw [HP.out.1, HP.out.2]
        exact bodyPost_ret (ret_cell7 rfl rfl rfl (A2.out.over Wn.n0).nc) rfl ⟨rfl, below9 HB2.out (Nat.le_refl _) Wn.n0⟩
      · rw [nodE_yes hnb]
        have HNB := Wc.hid hnb
        clear hnb
        have ⟨d, d0, d1, d2, d3, d4, d5, d6, d7⟩ := D2.out.nc
        go_wp2_with fail
        refine (zeros_any _ xs 40 60 _ HV2.out (by omega)).mono ?_
        rintro e w3 ⟨rfl, rfl⟩
        cases hz : Wc.zerosB xs 40 60
        · have HP := Wc.hid (Wn.par_arg HXL.out HNM.out HGD.out (by rw [hz, Bool.and_false]))
          clear hz
          go_wp2_with fail
          rw [HP.out.1, HP.out.2]
          exact bodyPost_ret (ret_cell7 rfl rfl rfl (A2.out.over Wn.n0).nc) rfl ⟨rfl, below9 HB2.out (Nat.le_refl _) Wn.n0⟩
        · have HP := Wc.hid (Wn.par_ok HXL.out HNM.out HGD.out (by rw [hz, HT.out, HNB.out]; rfl))
          clear hz
          go_wp2_with fail
          rw [HP.out.1, HP.out.2, HT.out]
          exact bodyPost_ret (ret_cell7 rfl rfl rfl (A2.out.over t).nc) rfl ⟨rfl, below9 HB2.out (Nat.le_refl _) t⟩

theorem parse7_any (v : Value) (xs : List Int) (w : World) (hv : Wc.Bs w v xs) :
    Calls Tryz.prog 108 #[v] w fun e w' => e = .returned (.tuple #[nv (Wn.par xs), .int .i64 (Wn.parE xs)]) ∧ Below w.heap.size w w' := by
  have hxb := Wc.bs_bytes hv
  by_cases hl : xs.length = 64
  · rcases hv.open with ⟨rfl, _⟩ | ⟨b, off, n, cap, rfl, h0, hn, hc, hc2, _⟩
    · simp at hl
    · obtain rfl : n = 64 := by omega
      have hcv := convert_txt (hv.alloc (.cells #[.int .i64 0, .int .i64 0, .int .i64 0, .int .i64 0, .int .i64 0, .int .i64 0, .int .i64 0, .int .i64 0, .int .i64 0] 133)) (by omega)
      by_cases hnm : xs.take 4 = Wn.name
      · have hS := (txt_node xs (by omega) hxb).2 hnm
        cases hg : Wc.goodB xs
        · have := Wn.par_sum hl hnm hg
          rw [this.1, this.2]
          exact parse7_sum b off cap xs _ w hv hc hc2 hcv hS hg
        · exact parse7_nums b off cap xs _ w hv hc hc2 hcv hS hnm hg
      · have := Wn.par_name hl hnm
        rw [this.1, this.2]
        exact parse7_name b off cap _ w hc hc2 hcv (txt_nodeNo xs (by omega) hxb hnm)
  · have := Wn.par_len hl
    rw [this.1, this.2]
    obtain ⟨a, n, cap, rfl, hn, -⟩ := hv
    exact parse7_len a n cap w (by omega)

end Go.Proofs.YtfflhiajbioheaaGreat
namespace Go.Proofs.YtfflhiajbioheaaGreat
open Go.RowKit

theorem pow8 {k : Nat} (h : k ≤ 2) : 1 ≤ (8 : Int) ^ k ∧ (8 : Int) ^ k ≤ 64 ∧ (k ≤ 1 → (8 : Int) ^ k ≤ 8) := by
  have : k = 0 ∨ k = 1 ∨ k = 2 := by omega
  rcases this with rfl | rfl | rfl <;> decide

end Go.Proofs.YtfflhiajbioheaaGreat
namespace Go.Proofs.YtfflhiajbioheaaGreat
open Go.RowKit

/-- Are two nodes one? -/
def nodEq (s t : Wn.Nod) : Bool := s.level == t.level && Wn.ptr s == Wn.ptr t

theorem nodEq_iff {s t : Wn.Nod} : nodEq s t = true ↔ s = t := by
  constructor
  · intro h
    simp only [nodEq, Bool.and_eq_true, beq_iff_eq] at h
    obtain ⟨h, hp⟩ := h
    simp only [Wn.ptr, List.cons.injEq, and_true] at hp
    exact Wn.nod_ext h hp.1 hp.2.1 hp.2.2.1 hp.2.2.2.1 hp.2.2.2.2.1 hp.2.2.2.2.2.1 hp.2.2.2.2.2.2.1 hp.2.2.2.2.2.2.2
  · rintro rfl; simp [nodEq]

theorem nodEq_no {s t : Wn.Nod} (h : ¬ s = t) : nodEq s t = false := by
  rw [Bool.eq_false_iff]
  exact fun e => h (nodEq_iff.1 e)

theorem equal_nod (s t : Wn.Nod) (w : World) : (Op.equalIn 10000 133 (.agg #[.int .i64 s.level, .int .i64 s.p0, .int .i64 s.p1, .int .i64 s.p2, .int .i64 s.p3, .int .i64 s.p4, .int .i64 s.p5, .int .i64 s.p6, .int .i64 s.p7]) (.agg #[.int .i64 t.level, .int .i64 t.p0, .int .i64 t.p1, .int .i64 t.p2, .int .i64 t.p3, .int .i64 t.p4, .int .i64 t.p5, .int .i64 t.p6, .int .i64 t.p7])).run Tryz.prog w = .ok (nodEq s t) w := by
  have hp := equal_ptr s t 9997 w
  unfold nodEq
  cases h : (s.level == t.level)
  · go_simp
  · go_simp
    by_cases hh : Wn.ptr s = Wn.ptr t <;> simp [hh]

theorem eql_nod (s t : Wn.Nod) (w : World) : (binOp .eql 133 (.agg #[.int .i64 s.level, .int .i64 s.p0, .int .i64 s.p1, .int .i64 s.p2, .int .i64 s.p3, .int .i64 s.p4, .int .i64 s.p5, .int .i64 s.p6, .int .i64 s.p7]) (.agg #[.int .i64 t.level, .int .i64 t.p0, .int .i64 t.p1, .int .i64 t.p2, .int .i64 t.p3, .int .i64 t.p4, .int .i64 t.p5, .int .i64 t.p6, .int .i64 t.p7])).run Tryz.prog w = .ok (.bool (nodEq s t)) w := by
  rw [run_eql_struct, equal_nod]
  rfl

theorem neq_nod (s t : Wn.Nod) (w : World) : (binOp .neq 133 (.agg #[.int .i64 s.level, .int .i64 s.p0, .int .i64 s.p1, .int .i64 s.p2, .int .i64 s.p3, .int .i64 s.p4, .int .i64 s.p5, .int .i64 s.p6, .int .i64 s.p7]) (.agg #[.int .i64 t.level, .int .i64 t.p0, .int .i64 t.p1, .int .i64 t.p2, .int .i64 t.p3, .int .i64 t.p4, .int .i64 t.p5, .int .i64 t.p6, .int .i64 t.p7])).run Tryz.prog w = .ok (.bool (!nodEq s t)) w := by
  rw [run_neq_struct, equal_nod]
  rfl

end Go.Proofs.YtfflhiajbioheaaGreat
namespace Go.Proofs.YtfflhiajbioheaaGreat
open Go Go.RowKit Go.ChangeShapes Go.WideShapes Go.Joins

theorem array9 {α : Type} {cs : Array α} (h : cs.size = 9) : ∃ c c0 c1 c2 c3 c4 c5 c6 c7, cs = #[c, c0, c1, c2, c3, c4, c5, c6, c7] := by
  obtain ⟨l⟩ := cs
  match l, h with
  | [c, c0, c1, c2, c3, c4, c5, c6, c7], _ => exact ⟨c, c0, c1, c2, c3, c4, c5, c6, c7, rfl⟩

theorem open_nod {P : Program} {W : World} {r : Reach} {b0 base : Nat} {t it at_ : TypeId} {f0 f1 : Field} {v : Value} {H : Type} {enc : TypeId × Value → H} {sp : Nat → Bool} {held : Bool} {d : DataW H} {ps : List MemPlace}
    (hu : P.underlying t = some (.struct #[f0, f1])) (ht : [f0, f1].map (fun f => (f.type, f.offset)) = [(it, 0), (at_, 1)]) (hi : P.underlying it = some (.int .i64)) (ha : P.underlying at_ = some (.array 8 it)) (hc1 : P.cellsOf it = 1) (hc8 : P.cellsOf at_ = 8) (hc : P.cellsOf t = 9)
    (hv : Value.okWide P W r b0 t v) (hd : DataW.Trod enc P W base sp held t v d ps) : ∃ s : Wn.Nod, v = nv s := by
  obtain ⟨cs, rfl, hsz⟩ := okWide_struct hu hv
  obtain ⟨c, c0, c1, c2, c3, c4, c5, c6, c7, rfl⟩ := array9 (hsz.trans hc)
  obtain ⟨fuel, hf⟩ := hd
  obtain ⟨xs, n, _, _, hl, hlen, hf⟩ := DataW.trod_struct hu hf
  simp only [List.map_cons, List.map_nil, List.cons.injEq, Prod.mk.injEq, and_true] at ht
  obtain ⟨⟨t0, o0⟩, t1, o1⟩ := ht
  match xs, hlen with
  | [y0, y1], _ =>
    have g0 := hf 0 f0 rfl
    have g1 := hf 1 f1 rfl
    rw [t0, o0, hc1] at g0
    rw [t1, o1, hc8] at g1
    obtain ⟨z, e, -⟩ := DataW.trod_int hi g0
    obtain ⟨zs, m, _, _, _, hzl, hz⟩ := DataW.trod_array ha g1
    rw [hc1] at hz
    match zs, hzl with
    | [q0, q1, q2, q3, q4, q5, q6, q7], _ =>
      obtain ⟨z0, e0, -⟩ := DataW.trod_int hi (hz 0 (by omega))
      obtain ⟨z1, e1, -⟩ := DataW.trod_int hi (hz 1 (by omega))
      obtain ⟨z2, e2, -⟩ := DataW.trod_int hi (hz 2 (by omega))
      obtain ⟨z3, e3, -⟩ := DataW.trod_int hi (hz 3 (by omega))
      obtain ⟨z4, e4, -⟩ := DataW.trod_int hi (hz 4 (by omega))
      obtain ⟨z5, e5, -⟩ := DataW.trod_int hi (hz 5 (by omega))
      obtain ⟨z6, e6, -⟩ := DataW.trod_int hi (hz 6 (by omega))
      obtain ⟨z7, e7, -⟩ := DataW.trod_int hi (hz 7 (by omega))
      simp [Value.cells] at e e0 e1 e2 e3 e4 e5 e6 e7
      subst e e0 e1 e2 e3 e4 e5 e6 e7
      exact ⟨⟨z, z0, z1, z2, z3, z4, z5, z6, z7⟩, rfl⟩

end Go.Proofs.YtfflhiajbioheaaGreat
namespace Go.Proofs.YtfflhiajbioheaaGreat
open Go.RowKit

/-- What the page's open tells. -/
def opN (xs : List Int) : Int := if xs.length = 64 then (if xs.take 4 = Wn.name then (if Wc.goodB xs = true then 0 else 5) else 4) else 2

theorem opN_zero {xs : List Int} (h : opN xs = 0) : xs.length = 64 ∧ xs.take 4 = Wn.name ∧ Wc.goodB xs = true := by
  unfold opN at h
  by_cases h1 : xs.length = 64
  · rw [if_pos h1] at h
    by_cases h2 : xs.take 4 = Wn.name
    · rw [if_pos h2] at h
      by_cases h3 : Wc.goodB xs = true
      · exact ⟨h1, h2, h3⟩
      · rw [if_neg h3] at h; omega
    · rw [if_neg h2] at h; omega
  · rw [if_neg h1] at h; omega

theorem opN_no {xs : List Int} (h : ¬ opN xs = 0) : Wn.parE xs = opN xs ∧ Wn.par xs = Wn.n0 := by
  by_cases h1 : xs.length = 64
  · by_cases h2 : xs.take 4 = Wn.name
    · cases h3 : Wc.goodB xs
      · have := Wn.par_sum h1 h2 h3
        exact ⟨by rw [this.1]; simp [opN, h1, h2, h3], this.2⟩
      · exact absurd (by simp [opN, h1, h2, h3]) h
    · have := Wn.par_name h1 h2
      exact ⟨by rw [this.1]; simp [opN, h1, h2], this.2⟩
  · have := Wn.par_len h1
    exact ⟨by rw [this.1]; simp [opN, h1], this.2⟩

end Go.Proofs.YtfflhiajbioheaaGreat
