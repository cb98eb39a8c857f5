/-
  What comparing two arrays of ints tells. It speaks of no program but of the types' shapes.
-/
import Derived.DeepKeys
namespace Wa
open Go

theorem eqItems_ints {P : Program} {e : TypeId} (he : P.underlying e = some (.int .i64)) (d : Nat) (a b : List Int) : ∀ (m k : Nat), k + m = a.length → k + m = b.length → ∀ w : World,
    (Op.eqItems (d + 1) e 1 (a.map (Value.int .i64)).toArray (b.map (Value.int .i64)).toArray (List.range' k m)).run P w = .ok (a.drop k == b.drop k) w
  | 0, k, ha, hb, w => by
    rw [List.drop_eq_nil_of_le (by omega), List.drop_eq_nil_of_le (by omega)]
    simp [Op.eqItems]
  | m + 1, k, ha, hb, w => by
    have hp : P.plainKey e = true := by simp [Program.plainKey, he]
    have hka : k < a.length := by omega
    have hkb : k < b.length := by omega
    have p1 := run_part_plain (P := P) w hp (xs := (a.map (Value.int .i64)).toArray) (off := k * 1) (v := .int .i64 a[k]) (by simp [hka])
    have p2 := run_part_plain (P := P) w hp (xs := (b.map (Value.int .i64)).toArray) (off := k * 1) (v := .int .i64 b[k]) (by simp [hkb])
    have ih := eqItems_ints he d a b m (k + 1) (by omega) (by omega) w
    rw [List.range'_succ, List.drop_eq_getElem_cons hka, List.drop_eq_getElem_cons hkb]
    simp only [Op.eqItems, Sem.run_bind, p1, p2, Result.andThen_ok, run_equalIn_int w d e .i64 .i64 _ _ he]
    by_cases h : a[k] = b[k]
    · have hb' : (a[k] == b[k]) = true := by simpa using h
      simp only [hb', Bool.not_true, Bool.false_eq_true, if_false, ih, List.cons_beq_cons, Bool.true_and]
    · have hb' : (a[k] == b[k]) = false := by simpa using h
      simp only [hb', Bool.not_false, if_true, Sem.run_pure, List.cons_beq_cons, Bool.false_and]

/-- Two arrays of ints are one just if their lists are. -/
theorem equal_ints {P : Program} {t e : TypeId} {n : Nat} {i : TypeInfo} (hu : P.underlying t = some (.array n e)) (hi : P.info? e = some i) (he : P.underlying e = some (.int .i64)) (hc : P.cellsOf e = 1) (d : Nat) (a b : List Int) (ha : a.length = n) (hb : b.length = n) (w : World) :
    (Op.equalIn (d + 2) t (.agg (a.map (Value.int .i64)).toArray) (.agg (b.map (Value.int .i64)).toArray)).run P w = .ok (a == b) w := by
  rw [run_equalIn_array w (d + 1) _ _ hu hi, hc, List.range_eq_range']
  exact eqItems_ints he d a b n 0 (by omega) (by omega) w

end Wa
