/-
  The walk of the law CrcLinear: for every three slices of bytes it returns true and turns nothing that was there.
-/
import Derived.Test.YtdfhickpgfjahaaRefGood
import Derived.Deep.RegionHeld3
namespace Go.Proofs.Ytdfhickpgfjahaa
open Go.RowKit

def minI (n1 n2 n3 : Nat) : Int := if (n3 : Int) < (if n2 < n1 then (n2 : Int) else (n1 : Int)) then (n3 : Int) else if n2 < n1 then (n2 : Int) else (n1 : Int)

theorem min_three (n1 n2 n3 : Nat) : ∃ n : Nat, minI n1 n2 n3 = (n : Int) ∧ n ≤ n1 ∧ n ≤ n2 ∧ n ≤ n3 ∧ (n = n1 ∨ n = n2 ∨ n = n3) := by
  refine ⟨min (min n1 n2) n3, ?_, by omega, by omega, by omega, by omega⟩
  unfold minI
  by_cases h : n2 < n1
  · rw [if_pos h]
    by_cases h2 : (n3 : Int) < (n2 : Int)
    · rw [if_pos h2]; omega
    · rw [if_neg h2]; omega
  · rw [if_neg h]
    by_cases h2 : (n3 : Int) < (n1 : Int)
    · rw [if_pos h2]; omega
    · rw [if_neg h2]; omega

set_option maxRecDepth 100000 in
set_option maxHeartbeats 400000 in
theorem crcLinear_long (a1 : Option Addr) (n1 c1 : Nat) (a2 : Option Addr) (n2 c2 : Nat) (a3 : Option Addr) (n3 c3 n : Nat) (w : World) (hmin' : minI n1 n2 n3 = (n : Int)) (hn : 600 < n) :
    Calls Try.prog 6 #[.slice a1 n1 c1, .slice a2 n2 c2, .slice a3 n3 c3] w fun e w' => e = .returned (.bool true) ∧ Below w.heap.size w w' := by
  have hmin := hmin'
  unfold minI at hmin
  clear hmin'
  go_enter Try.func6, Try.ntmps6
  go_wp2
  go_ret
  exact ⟨rfl, Below.refl _ _⟩

theorem i64_wrap_small (n : Int) (h0 : 0 ≤ n) (h1 : n < 9223372036854775808) : IntKind.i64.wrap n = n := by
  simp [IntKind.wrap, IntKind.bits, IntKind.signed]
  split <;> omega

theorem i64_xor_nat (a b : Nat) (ha : a < 9223372036854775808) (hb : b < 9223372036854775808) : bits BinOp.xor IntKind.i64 (a : Int) (b : Int) = ((a ^^^ b : Nat) : Int) := by
  have hx : a ^^^ b < 2 ^ 63 := Nat.xor_lt_two_pow (by omega) (by omega)
  show IntKind.i64.wrap ((BitVec.ofInt 64 (a : Int) ^^^ BitVec.ofInt 64 (b : Int)).toNat : Int) = _
  rw [BitVec.toNat_xor, ofInt_u64 a (by omega), ofInt_u64 b (by omega)]
  exact i64_wrap_small _ (by omega) (by omega)

theorem sums_xor (xs ys zs : List Int) (n : Nat) (h1 : n ≤ xs.length) (h2 : n ≤ ys.length) (h3 : n ≤ zs.length) (hx : ∀ x ∈ xs, 0 ≤ x ∧ x < 256) (hy : ∀ x ∈ ys, 0 ≤ x ∧ x < 256) (hz : ∀ x ∈ zs, 0 ≤ x ∧ x < 256) :
    ∃ p q : Int, bits BinOp.xor IntKind.i64 (Wc.more 0 (xs.take n)) (Wc.more 0 (ys.take n)) = p ∧ bits BinOp.xor IntKind.i64 p (Wc.more 0 (zs.take n)) = q ∧ Wc.more 0 (Wc.zipx (Wc.zipx (xs.take n) (ys.take n)) (zs.take n)) = q := by
  have e := Wc.more_three (xs.take n) (ys.take n) (zs.take n) (by simp; omega) (by simp; omega)
  have b : ∀ l : List Int, (∀ x ∈ l, 0 ≤ x ∧ x < 256) → 4294967295 ^^^ Wc.crun 4294967295 (l.take n) < 4294967296 := fun l hl => Wc.xor_lt32 (by omega) (Wc.crun_lt _ _ (by omega) (fun x h => hl x (List.mem_of_mem_take h)))
  have bx := b xs hx
  have by' := b ys hy
  have bz := b zs hz
  have bxy := Wc.xor_lt32 bx by'
  refine ⟨((4294967295 ^^^ Wc.crun 4294967295 (xs.take n) ^^^ (4294967295 ^^^ Wc.crun 4294967295 (ys.take n)) : Nat) : Int), ((4294967295 ^^^ Wc.crun 4294967295 (xs.take n) ^^^ (4294967295 ^^^ Wc.crun 4294967295 (ys.take n)) ^^^ (4294967295 ^^^ Wc.crun 4294967295 (zs.take n)) : Nat) : Int), ?_, ?_, ?_⟩
  · rw [Wc.more_zero, Wc.more_zero]; exact i64_xor_nat _ _ (by omega) (by omega)
  · rw [Wc.more_zero]; exact i64_xor_nat _ _ (by omega) (by omega)
  · rw [Wc.more_zero, e]

theorem show_drew {B : Nat} {a b : World} (h : Below B a b) : Below B a b.drew := h.drew

theorem zipx_getD (a b : List Int) (j : Nat) (h1 : j < a.length) (h2 : j < b.length) : (Wc.zipx a b).getD j 0 = (((a.getD j 0).toNat ^^^ (b.getD j 0).toNat : Nat) : Int) := by
  unfold Wc.zipx
  rw [List.getD_eq_getElem?_getD, List.getElem?_zipWith]
  simp [List.getD, h1, h2]

/-- All three, as far as the shortest goes. -/
def allOf (xs ys zs : List Int) (n : Nat) : List Int := Wc.zipx (Wc.zipx (xs.take n) (ys.take n)) (zs.take n)

theorem allOf_length (xs ys zs : List Int) (n : Nat) (h1 : n ≤ xs.length) (h2 : n ≤ ys.length) (h3 : n ≤ zs.length) : (allOf xs ys zs n).length = n := by
  simp [allOf, Wc.zipx]; omega

theorem getD_bd (xs : List Int) (k : Nat) (hk : k < xs.length) (hx : ∀ x ∈ xs, 0 ≤ x ∧ x < 256) : 0 ≤ xs.getD k 0 ∧ xs.getD k 0 < 256 :=
  hx _ (by rw [List.getD_eq_getElem?_getD, List.getElem?_eq_getElem hk]; simp)

theorem allOf_get (xs ys zs : List Int) (n k : Nat) (hk : k < n) (h1 : n ≤ xs.length) (h2 : n ≤ ys.length) (h3 : n ≤ zs.length) (hx : ∀ x ∈ xs, 0 ≤ x ∧ x < 256) (hy : ∀ x ∈ ys, 0 ≤ x ∧ x < 256) (hz : ∀ x ∈ zs, 0 ≤ x ∧ x < 256) :
    ∃ p q : Int, bits BinOp.xor IntKind.u8 (xs.getD k 0) (ys.getD k 0) = p ∧ bits BinOp.xor IntKind.u8 p (zs.getD k 0) = q ∧ q = (allOf xs ys zs n).getD k 0 := by
  have bx := getD_bd xs k (by omega) hx
  have by' := getD_bd ys k (by omega) hy
  have bz := getD_bd zs k (by omega) hz
  have e1 := u8_xor _ _ bx.1 bx.2 by'.1 by'.2
  have hlt : (xs.getD k 0).toNat ^^^ (ys.getD k 0).toNat < 256 := Nat.xor_lt_two_pow (n := 8) (by omega) (by omega)
  refine ⟨_, _, e1, u8_xor _ _ (by omega) (by omega) bz.1 bz.2, ?_⟩
  unfold allOf
  rw [zipx_getD _ _ _ (by simp [Wc.zipx]; omega) (by simp; omega), zipx_getD _ _ _ (by simp; omega) (by simp; omega)]
  rw [Int.toNat_natCast, Int.toNat_natCast]
  simp [hk]

theorem bs_row {w : World} {g e n : Nat} {xs : List Int} (hl : xs.length = n) (hn : n ≤ 140737488355328) (hx : ∀ x ∈ xs, 0 ≤ x ∧ x < 256) (h : w.rowIs g e n (fun j => .int .u8 (xs.getD j 0))) :
    Wc.Bs w (.slice (some ⟨g, 0, none⟩) n n) xs := by
  refine ⟨_, n, n, rfl, hl, Nat.le_refl _, by omega, hn, hx, fun _ => ⟨g, 0, rfl, h.lt, fun i hi => ?_⟩⟩
  rw [Nat.zero_add]; exact h.cell hi

theorem row_made (w : World) (n : Nat) (xs : List Int) : (w.alloc (.cells (madeCells #[.int .u8 0] n) 5)).rowIs w.heap.size 5 n (fun j => .int .u8 (if j < 0 then xs.getD j 0 else 0)) := by
  refine ⟨_, made_heap w (.int .u8 0) n 5, by simp, fun i hi => ?_⟩
  simp [hi]

theorem row_more {w : World} {g n k : Nat} {xs : List Int} {q : Int} (hq : q = xs.getD k 0) (h : w.rowIs g 5 n (fun j => .int .u8 (if j < k then xs.getD j 0 else 0))) :
    (w.setCell ⟨g, k, none⟩ (.int .u8 q)).rowIs g 5 n (fun j => .int .u8 (if j < k + 1 then xs.getD j 0 else 0)) := by
  refine (h.set k _).congr fun j _ => ?_
  by_cases h1 : j = k
  · subst h1; rw [if_pos rfl, if_pos (by omega), hq]
  · rw [if_neg h1]
    by_cases h2 : j < k
    · rw [if_pos h2, if_pos (by omega)]
    · rw [if_neg h2, if_neg (by omega)]

set_option maxRecDepth 100000 in
set_option maxHeartbeats 400000 in
theorem crcLinear_pos (b1 o1 n1 c1 b2 o2 n2 c2 b3 o3 n3 c3 n : Nat) (xs ys zs : List Int) (w : World) (hmin' : minI n1 n2 n3 = (n : Int)) (hn : n ≤ 600) (hn0 : 0 < n) (h1 : n ≤ n1) (h2 : n ≤ n2) (h3 : n ≤ n3)
    (hv1 : Wc.Bs w (.slice (some ⟨b1, o1, none⟩) n c1) xs) (hv2 : Wc.Bs w (.slice (some ⟨b2, o2, none⟩) n c2) ys) (hv3 : Wc.Bs w (.slice (some ⟨b3, o3, none⟩) n c3) zs) :
    Calls Try.prog 6 #[.slice (some ⟨b1, o1, none⟩) n1 c1, .slice (some ⟨b2, o2, none⟩) n2 c2, .slice (some ⟨b3, o3, none⟩) n3 c3] w fun e w' => e = .returned (.bool true) ∧ Below w.heap.size w w' := by
  have HV1 := Wc.hid hv1
  have HV2 := Wc.hid hv2
  have HV3 := Wc.hid hv3
  clear hv1 hv2 hv3
  have hmin := hmin'
  unfold minI at hmin
  clear hmin'
  have hmk := fun w => run_make_row' (P := Try.prog) 22 5 (.int .u8 0) 1 Try.underlying22 Try.infoU8 rfl .i64 .i64 n (by omega) (by omega) w
  obtain ⟨l1, k1⟩ := Wc.bs_cells HV1.out (by omega)
  obtain ⟨l2, k2⟩ := Wc.bs_cells HV2.out (by omega)
  obtain ⟨l3, k3⟩ := Wc.bs_cells HV3.out (by omega)
  have HA := fun k hk => allOf_get xs ys zs n k hk (by omega) (by omega) (by omega) (Wc.bs_bytes HV1.out) (Wc.bs_bytes HV2.out) (Wc.bs_bytes HV3.out)
  have HLL := Wc.hid (allOf_length xs ys zs n (by omega) (by omega) (by omega))
  have hB1 : b1 < w.heap.size := Wc.cell_lt (k1 0 (by omega))
  have hB2 : b2 < w.heap.size := Wc.cell_lt (k2 0 (by omega))
  have hB3 : b3 < w.heap.size := Wc.cell_lt (k3 0 (by omega))
  have L1 := Wc.hid l1
  have L2 := Wc.hid l2
  have L3 := Wc.hid l3
  clear l1 l2 l3
  go_enter Try.func6, Try.ntmps6
  go_wp2_with fail
  clear hmk hmin
  go_loopw [9] (fun i wr => ∃ k : Nat, k ≤ n ∧ i = .int .i64 k ∧ Hid (wr.rowIs w.heap.size 5 n (fun j => .int .u8 (if j < k then (allOf xs ys zs n).getD j 0 else 0))) ∧ Below w.heap.size w wr) (fun i _ => n - (intOf i).toNat)
  case atStart => exact ⟨0, by omega, rfl, Wc.hid (row_made w n _), (Below.refl _ _).alloc (Nat.le_refl _) _⟩
  case round =>
    obtain ⟨k, hk, rfl, HW, hbr⟩ := hrel
    by_cases hlt : k < n
    · obtain ⟨p, q, hp, hq, HQ⟩ := HA k hlt
      have HQ' := Wc.hid HQ
      clear HQ HA
      have c1' := (hbr.cell (p := ⟨b1, o1 + k, none⟩) hB1).trans (k1 k (by omega))
      have c2' := (hbr.cell (p := ⟨b2, o2 + k, none⟩) hB2).trans (k2 k (by omega))
      have c3' := (hbr.cell (p := ⟨b3, o3 + k, none⟩) hB3).trans (k3 k (by omega))
      have hcell := HW.out.cell (i := k) hlt
      have hfz := HW.out.frozen k
      rw [List.getD_eq_getElem?_getD] at c1' c2' c3' 
      rw [List.getD_eq_getElem?_getD, List.getD_eq_getElem?_getD] at hp
      rw [List.getD_eq_getElem?_getD] at hq
      go_wp2
      go_region
      go_wp2
      go_roundw
      case rel => exact ⟨k + 1, by omega, by go_num, Wc.hid (row_more HQ'.out HW.out), show_drew (hbr.setCell (Nat.le_refl _) _)⟩
      case measure => simp [intOf]; omega
    · obtain rfl : k = n := by omega
      have HD : Hid (Wc.Bs wr (.slice (some ⟨w.heap.size, 0, none⟩) k k) (allOf xs ys zs k)) := Wc.hid (bs_row HLL.out (by omega) (by
        unfold allOf
        exact Wc.zipx_bd _ _ (Wc.zipx_bd _ _ (fun x h => Wc.bs_bytes HV1.out x (List.mem_of_mem_take h)) (fun x h => Wc.bs_bytes HV2.out x (List.mem_of_mem_take h))) (fun x h => Wc.bs_bytes HV3.out x (List.mem_of_mem_take h)))
        (HW.out.congr fun j hj => by rw [if_pos hj]))
      have HT1 := Wc.hid (Wc.bs_take (HV1.out.keep hbr) k (Nat.le_refl _))
      have HT2 := Wc.hid (Wc.bs_take (HV2.out.keep hbr) k (Nat.le_refl _))
      have HT3 := Wc.hid (Wc.bs_take (HV3.out.keep hbr) k (Nat.le_refl _))
      obtain ⟨p, q, hp, hq, hs⟩ := sums_xor xs ys zs k (Nat.le_of_eq L1.out.symm) (Nat.le_of_eq L2.out.symm) (Nat.le_of_eq L3.out.symm) (Wc.bs_bytes HV1.out) (Wc.bs_bytes HV2.out) (Wc.bs_bytes HV3.out)
      have HS : Hid (Wc.more 0 (allOf xs ys zs k) = q) := Wc.hid hs
      have cp1 := Wc.bs_cap HV1.out
      have cp2 := Wc.bs_cap HV2.out
      have cp3 := Wc.bs_cap HV3.out
      have kc1 : k ≤ c1 := by omega
      have kc2 : k ≤ c2 := by omega
      have kc3 : k ≤ c3 := by omega
      clear k1 k2 k3 HA HW hs
      go_wp2_with fail
      go_region_held3 (fun _ => True) (trivial) (first
        | (go_at_call 8; refine (sum_any (.slice (some ⟨w.heap.size, 0, none⟩) k k) _ _ (by exact HD.out)).mono ?_; rintro e w4 ⟨rfl, rfl⟩; rw [HS.out])
        | (go_at_call 8; refine (sum_any (.slice (some ⟨b1, o1, none⟩) k c1) _ _ (by exact HT1.out)).mono ?_; rintro e w4 ⟨rfl, rfl⟩)
        | (go_at_call 8; refine (sum_any (.slice (some ⟨b2, o2, none⟩) k c2) _ _ (by exact HT2.out)).mono ?_; rintro e w4 ⟨rfl, rfl⟩)
        | (go_at_call 8; refine (sum_any (.slice (some ⟨b3, o3, none⟩) k c3) _ _ (by exact HT3.out)).mono ?_; rintro e w4 ⟨rfl, rfl⟩)
        | (go_at_call 15; refine (wakes_any _).mono ?_; rintro e w4 ⟨rfl, hb4⟩)
        | fail)
      go_wp2
      go_ret
      exact ⟨rfl, Wc.step (b := wr.drew) hbr.drew (Nat.le_refl _) hb4⟩

set_option maxRecDepth 100000 in
set_option maxHeartbeats 8000000 in
theorem crcLinear_nil (a1 : Option Addr) (n1 c1 : Nat) (a2 : Option Addr) (n2 c2 : Nat) (a3 : Option Addr) (n3 c3 : Nat) (w : World) (hmin' : minI n1 n2 n3 = ((0 : Nat) : Int)) 
    (cp1 : c1 ≤ 9223372036854775807) (cp2 : c2 ≤ 9223372036854775807) (cp3 : c3 ≤ 9223372036854775807) :
    Calls Try.prog 6 #[.slice a1 n1 c1, .slice a2 n2 c2, .slice a3 n3 c3] w fun e w' => e = .returned (.bool true) ∧ Below w.heap.size w w' := by
  have hmin := hmin'
  unfold minI at hmin
  clear hmin'
  have hmk : ∀ w : World, (Instr.makeSlice 22 (.int .i64 0) (.int .i64 0)).run Try.prog w = .ok (.slice (some ⟨w.heap.size, 0, none⟩) 0 0) (w.alloc (.cells (madeCells #[.int .u8 0] 0) 5)) := fun w => run_make_row' (P := Try.prog) 22 5 (.int .u8 0) 1 Try.underlying22 Try.infoU8 rfl .i64 .i64 0 (by omega) (by omega) w
  have hx0 : bits BinOp.xor IntKind.i64 0 0 = 0 := by decide
  have HE : ∀ (a : Option Addr) (c : Nat) (w : World), c ≤ 9223372036854775807 → Wc.Bs w (.slice a 0 c) [] := fun a c w hc => ⟨a, 0, c, rfl, rfl, by omega, hc, by omega, by simp, by omega⟩
  cases a1 <;> cases a2 <;> cases a3
  all_goals
    go_enter Try.func6, Try.ntmps6
    go_wp2_with fail
    clear hmk hmin
    go_loop [9] (fun i => i = .int .i64 0) (fun _ => 0)
    case atStart => rfl
    case round =>
      obtain rfl := hrel
      go_wp2_with fail
      go_region_held3 (fun _ => True) (trivial) (first
        | (go_at_call 8; refine (sum_any _ [] _ (by exact HE _ _ _ (by omega))).mono ?_; rintro e w4 ⟨rfl, rfl⟩; rw [wake_nil])
        | (go_at_call 15; refine (wakes_any _).mono ?_; rintro e w4 ⟨rfl, hb4⟩)
        | fail)
      go_wp2
      go_ret
      exact ⟨rfl, Wc.step (b := (w.alloc (.cells (madeCells #[.int .u8 0] 0) 5)).drew) ((Below.refl _ _).alloc (Nat.le_refl _) _).drew (Nat.le_refl _) hb4⟩

theorem crcLinear_any (a1 : Option Addr) (n1 c1 : Nat) (a2 : Option Addr) (n2 c2 : Nat) (a3 : Option Addr) (n3 c3 n : Nat) (xs ys zs : List Int) (w : World) (hm : minI n1 n2 n3 = (n : Int)) (h1 : n ≤ n1) (h2 : n ≤ n2) (h3 : n ≤ n3) (hn : n ≤ 600)
    (hv1 : Wc.Bs w (.slice a1 n c1) xs) (hv2 : Wc.Bs w (.slice a2 n c2) ys) (hv3 : Wc.Bs w (.slice a3 n c3) zs) :
    Calls Try.prog 6 #[.slice a1 n1 c1, .slice a2 n2 c2, .slice a3 n3 c3] w fun e w' => e = .returned (.bool true) ∧ Below w.heap.size w w' := by
  rcases Nat.eq_zero_or_pos n with h0 | h0
  · subst h0
    exact crcLinear_nil a1 n1 c1 a2 n2 c2 a3 n3 c3 w hm (Wc.bs_cap hv1).2 (Wc.bs_cap hv2).2 (Wc.bs_cap hv3).2
  · rcases hv1.open with ⟨_, a, cap, h, _⟩ | ⟨b1, o1, _, _, h, -⟩ <;> cases h
    · omega
    rcases hv2.open with ⟨_, a, cap, h, _⟩ | ⟨b2, o2, _, _, h, -⟩ <;> cases h
    · omega
    rcases hv3.open with ⟨_, a, cap, h, _⟩ | ⟨b3, o3, _, _, h, -⟩ <;> cases h
    · omega
    exact crcLinear_pos b1 o1 n1 c1 b2 o2 n2 c2 b3 o3 n3 c3 n xs ys zs w hm hn h0 h1 h2 h3 hv1 hv2 hv3
#print axioms crcLinear_any
end Go.Proofs.Ytdfhickpgfjahaa
