/-
  The statements' own wakes returns true.
-/
import Derived.Test.YtifoghbacifhnaaQh
import Derived.Test.YtifoghbacifhnaaJC
namespace Go.Proofs.Ytifoghbacifhnaa
open Go.RowKit

theorem new8 (w : World) : Calls Try.prog 13 #[.int .i64 8] w fun e w' => ∃ g X, e = .returned (.tuple #[.slice (some ⟨g, 0, none⟩) 512 512, .int .i64 0]) ∧ Wc.Bs w' (.slice (some ⟨g, 0, none⟩) 512 512) X ∧
    (opnE X = 0 ∧ opnS X = ⟨1, 8, 0, 0, 0⟩ ∧ opnT X = 0 ∧ opnL X = []) ∧ (Wi.recE X 0 = 0 ∧ Wi.recP X 0 = [] ∧ Wi.recL X 0 = []) ∧ Below w.heap.size w w' := by
  refine (new_yes 8 512 w (by decide) (by decide) rfl).mono ?_
  rintro e w1 ⟨g, rfl, hg, hO, hb⟩
  obtain ⟨h1, h2, h3, h4⟩ := new_open (m := 8) (by decide) (by decide)
  refine ⟨g, _, rfl, hO.bs, ⟨h1, h2, h3, by unfold opnL; rw [h4]; rfl⟩, ?_, hb⟩
  exact Wi.rec_some (by rw [Wi.newI_length (by decide)]; decide) (Wi.chn_zero _ _ _)
theorem made512z : ∃ (xs : List Int) (Z : Array Value), opnE xs = 8 ∧ (∀ w : World, (Instr.makeSlice 22 (.int .i64 512) (.int .i64 512)).run Try.prog w = .ok (.slice (some ⟨w.heap.size, 0, none⟩) 512 512) (w.alloc (.cells Z 5))) ∧
    ∀ (w : World) (g : Nat), g = w.heap.size → Wc.Bs (w.alloc (.cells Z 5)) (.slice (some ⟨g, 0, none⟩) 512 512) xs := by
  obtain ⟨xs, Z, h1, h2, h3⟩ := made 512 (by decide)
  exact ⟨xs, Z, by rw [h1]; exact zeros_open (n := 8) (by decide) (by decide) 512 rfl, h2, h3⟩

set_option maxRecDepth 100000 in
set_option maxHeartbeats 3200000 in
theorem wakes_any (w : World) : Calls Try.prog 19 #[] w fun e w' => e = .returned (.bool true) ∧ Below w.heap.size w w' := by
  obtain ⟨zs, Z, hz8, hmk, hzb⟩ := made512z
  have HZ8 := Wc.hid hz8
  have HZB := Wc.hid hzb
  clear hz8 hzb
  go_enter Try.func19, Try.ntmps19
  go_wp2_with fail
  refine (new8 _).mono ?_
  rintro e w1 ⟨g, X, rfl, hX, ⟨o1, o2, o3, o4⟩, ⟨r1, r2, r3⟩, hb1⟩
  have HX := Wc.hid hX
  have HB1 := Wc.hid hb1
  have R := Wc.hid (And.intro r1 (And.intro r2 r3))
  clear hX hb1 r1 r2 r3
  go_wp2_with fail
  refine (oopen_any _ X _ HX.out).mono ?_
  rintro e w2 ⟨a, n, c, rfl, hR, hb2⟩
  rw [o1, o2, o3]
  rw [o4] at hR
  obtain rfl : n = 0 := by have := Wi.rs_len hR; simpa using this.symm
  simp only [stv]
  have bA : Below w2.heap.size w2 (w2.alloc (.cells #[.int .i64 1, .int .i64 8, .int .i64 0, .int .i64 0, .int .i64 0, .int .i64 0, .slice a 0 c] 27)) := (Below.refl _ _).alloc (Nat.le_refl _) _
  have Z2 := Wc.hid (Zh.new w2 ⟨1, 8, 0, 0, 0⟩ 0 (.slice a 0 c))
  have HB2 := Wc.hid (Wc.step (Wc.step HB1.out (Nat.le_refl _) hb2) (Nat.le_refl _) bA)
  have HX2 := Wc.hid ((HX.out.keep hb2).keep bA)
  have HR2 := Wc.hid (hR.keep bA)
  clear hb2 bA hR o1 o2 o3 o4
  go_wp2_with fail
  refine (oopen_any (.slice (some ⟨w2.heap.size + 1, 0, none⟩) 512 512) zs _ (HZB.out _ _ (by simp))).mono ?_
  rintro e w3 ⟨a', n', c', rfl, hR3, hb3⟩
  rw [HZ8.out]
  have hS3 : opnS zs = Ws.s0 := by unfold opnS; rw [HZ8.out]; rfl
  have hT3 : opnT zs = 0 := by unfold opnT; rw [HZ8.out]; rfl
  rw [hS3, hT3]
  simp only [stv, Ws.s0]
  have bM : Below (w2.alloc (.cells #[.int .i64 1, .int .i64 8, .int .i64 0, .int .i64 0, .int .i64 0, .int .i64 0, .slice a 0 c] 27)).heap.size (w2.alloc (.cells #[.int .i64 1, .int .i64 8, .int .i64 0, .int .i64 0, .int .i64 0, .int .i64 0, .slice a 0 c] 27)) ((w2.alloc (.cells #[.int .i64 1, .int .i64 8, .int .i64 0, .int .i64 0, .int .i64 0, .int .i64 0, .slice a 0 c] 27)).alloc (.cells Z 5)) := (Below.refl _ _).alloc (Nat.le_refl _) _
  have bB : Below w3.heap.size w3 (w3.alloc (.cells #[.int .i64 0, .int .i64 0, .int .i64 0, .int .i64 0, .int .i64 0, .int .i64 0, .slice a' n' c'] 27)) := (Below.refl _ _).alloc (Nat.le_refl _) _
  have bT := Wc.step (Wc.step bM (Nat.le_refl _) hb3) (Nat.le_refl _) bB
  have Z4 := Wc.hid (Z2.out.keep bT)
  have HB4 := Wc.hid (Wc.step HB2.out (Nat.le_refl _) bT)
  have HX4 := Wc.hid (HX2.out.keep bT)
  have HR4 := Wc.hid (HR2.out.keep bT)
  clear hR3 hb3 hS3 hT3 bM bB bT
  go_wp2_with fail
  refine (records_any _ X 0 _ HX4.out).mono ?_
  rintro e w5 ⟨la, ln, lc, pa, pn, pc, rfl, hL5, hP5, hb5⟩
  rw [R.out.1]
  rw [R.out.2.2] at hL5
  rw [R.out.2.1] at hP5
  obtain rfl : ln = 0 := by have := Wi.rs_len hL5; simpa using this.symm
  obtain rfl : pn = 0 := by have := Wv.rv_len hP5; simpa using this.symm
  have Z5 := Wc.hid (Z4.out.keep hb5)
  have HB5 := Wc.hid (Wc.step HB4.out (Nat.le_refl _) hb5)
  have HR5 := Wc.hid (HR4.out.keep hb5)
  have ⟨z0, z1, z2, z3, z4, z5, z6⟩ := Z5.out.zc
  clear hL5 hP5 hb5
  simp only at z0 z1 z2 z3 z4 z5 z6
  go_wp2_with fail
  refine (ofind_any ⟨1, 8, 0, 0, 0⟩ 0 1 a 0 c [] _ HR5.out).mono ?_
  rintro e w6 ⟨rfl, hb6⟩
  have ⟨y0, y1, y2, y3, y4, y5, y6⟩ := (Z5.out.keep hb6).zc
  simp only at y0 y1 y2 y3 y4 y5 y6
  rw [show Wi.fndN [] 1 = 0 from rfl, show (Wi.fnd [] 1).isSome = false from rfl]
  have HB6 := Wc.hid (Wc.step HB5.out (Nat.le_refl _) hb6)
  clear hb6 z0 z1 z2 z3 z4 z5 z6
  go_wp2_with fail
  go_ret
  exact ⟨rfl, HB6.out⟩

end Go.Proofs.Ytifoghbacifhnaa
