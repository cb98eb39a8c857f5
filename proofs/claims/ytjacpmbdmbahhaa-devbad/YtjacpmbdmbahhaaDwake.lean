/-
  The statements' own wakes returns true.
-/
import Derived.Test.YtjacpmbdmbahhaaDca
import Derived.Test.YtjacpmbdmbahhaaDtwo
namespace Wd
open Go Go.RowKit

def imgW : List Int := List.replicate 256 0
def bW : List Int := 7 :: List.replicate 63 0
def lW : List Io := [⟨1, 3, bW⟩, ⟨2, 0, []⟩]
def xW : List Int := List.replicate 192 0 ++ bW

theorem wake1 : appR imgW lW = xW := by decide +kernel
theorem wake2 : stepsE imgW.length lW = 0 := by decide +kernel
theorem wake3 : crR imgW lW 1 [] = imgW := by decide +kernel
theorem wake4 : crE imgW.length lW 1 = 0 := by decide +kernel
theorem wake5 : rdR xW 3 = bW := by decide +kernel
theorem wake6 : rdE xW.length 3 = 0 := by decide +kernel
theorem wake7 : flN lW lW.length = [1] := by decide +kernel
theorem wake8 : chkN 256 = 4 ∧ chkE 256 = 0 := by decide +kernel
theorem wake9 : imgW.length = 256 ∧ bW.length = 64 ∧ xW.length = 256 := by decide +kernel
theorem wake10 : (imgW == imgW) = true ∧ (bW == bW) = true := by decide +kernel
theorem wake12 : ∀ i, i < 64 → bW.getD i 0 = if i = 0 then 7 else 0 := by decide +kernel
theorem wake11 : xW.getD 192 0 = 7 := by decide +kernel

end Wd
namespace Go.Proofs.Ytjacpmbdmbahhaa
open Go.RowKit

set_option maxRecDepth 100000 in
set_option maxHeartbeats 3200000 in
theorem wakes_any (w : World) :
    Calls Try.prog 22 #[] w fun e w' => e = .returned (.bool true) ∧ Below w.heap.size w w' := by
  have hm1 : ∀ w, (Instr.makeSlice 22 (.int .i64 256) (.int .i64 256)).run Try.prog w = .ok (.slice (some ⟨w.heap.size, 0, none⟩) 256 256) (w.alloc (.cells (madeCells #[.int .u8 0] 256) 5)) := fun w => run_make_row' (P := Try.prog) 22 5 (.int .u8 0) 1 Try.underlying22 Try.infoU8 rfl .i64 .i64 256 (by omega) (by omega) w
  have hm2 : ∀ w, (Instr.makeSlice 22 (.int .i64 64) (.int .i64 64)).run Try.prog w = .ok (.slice (some ⟨w.heap.size, 0, none⟩) 64 64) (w.alloc (.cells (madeCells #[.int .u8 0] 64) 5)) := fun w => run_make_row' (P := Try.prog) 22 5 (.int .u8 0) 1 Try.underlying22 Try.infoU8 rfl .i64 .i64 64 (by omega) (by omega) w
  have hA : Wc.Bs (w.alloc (.cells (madeCells #[.int .u8 0] 256) 5)) (.slice (some ⟨w.heap.size, 0, none⟩) 256 256) Wd.imgW := Wc.Bs.lit w _ 5 256 Wd.imgW Wd.wake9.1 (by omega) (Wc.made_zero 256) (by decide +kernel)
  have hB1 : Below w.heap.size w (w.alloc (.cells (madeCells #[.int .u8 0] 256) 5)) := (Below.refl _ _).alloc (Nat.le_refl _) _
  have hs1 : (w.alloc (.cells (madeCells #[.int .u8 0] 256) 5)).heap.size = w.heap.size + 1 := by simp
  obtain ⟨W1, hW1⟩ : ∃ W1, w.alloc (.cells (madeCells #[.int .u8 0] 256) 5) = W1 := ⟨_, rfl⟩
  have hrow := World.rowIs_made W1 (.int .u8 0) 64 5
  have hc0 := hrow.cell (i := 0) (by omega)
  have hf0 := hrow.frozen 0
  have hset := hrow.set 0 (.int .u8 7)
  rw [hW1] at hA hB1 hs1
  have hB2 := (hB1.alloc hB1.size (.cells (madeCells #[.int .u8 0] 64) 5)).setCell (p := ⟨W1.heap.size, 0, none⟩) hB1.size (.int .u8 7)
  have hA2 : Wc.Bs ((W1.alloc (.cells (madeCells #[.int .u8 0] 64) 5)).setCell ⟨W1.heap.size, 0, none⟩ (.int .u8 7)) (.slice (some ⟨w.heap.size, 0, none⟩) 256 256) Wd.imgW := hA.keep (((Below.refl _ _).alloc (Nat.le_refl _) _).setCell (p := ⟨W1.heap.size, 0, none⟩) (Nat.le_refl _) _)
  have hb : Wc.Bs ((W1.alloc (.cells (madeCells #[.int .u8 0] 64) 5)).setCell ⟨W1.heap.size, 0, none⟩ (.int .u8 7)) (.slice (some ⟨W1.heap.size, 0, none⟩) 64 64) Wd.bW := by
    refine Wc.Bs.row (e := 5) Wd.wake9.2.1 (by omega) (by decide +kernel) ?_
    obtain ⟨c, h1, h2, h3⟩ := hset
    refine ⟨c, h1, h2, fun i hi => ?_⟩
    rw [h3 i hi]
    show some (if i = 0 then Value.int .u8 7 else Value.int .u8 0) = some (Value.int .u8 (Wd.bW.getD i 0))
    rw [Wd.wake12 i hi]
    split <;> rfl
  clear hset hrow hA
  rw [hs1] at hc0 hf0 hB2 hA2 hb
  have hs2 : (((W1.alloc (.cells (madeCells #[.int .u8 0] 64) 5)).setCell ⟨w.heap.size + 1, 0, none⟩ (.int .u8 7))).heap.size = w.heap.size + 1 + 1 := by simp [hs1]
  obtain ⟨W3, hW3⟩ : ∃ W3, (W1.alloc (.cells (madeCells #[.int .u8 0] 64) 5)).setCell ⟨w.heap.size + 1, 0, none⟩ (.int .u8 7) = W3 := ⟨_, rfl⟩
  rw [hW3] at hB2 hA2 hb hs2
  have HA := Wc.hid hA2
  have HB := Wc.hid hb
  have HW := Wc.hid hB2
  clear hA2 hb hB2
  have hI : Wd.Is (W3.alloc (.cells #[.int .i64 1, .int .i64 3, .slice (some ⟨w.heap.size + 1, 0, none⟩) 64 64, .int .i64 2, .int .i64 0, .slice none 0 0] 38)) (.slice (some ⟨W3.heap.size, 0, none⟩) 2 2) Wd.lW := by
    refine Wd.Is.lit W3 _ 38 2 [(⟨1, 3, Wd.bW⟩, (some ⟨w.heap.size + 1, 0, none⟩, 64)), (⟨2, 0, []⟩, (none, 0))] rfl (by omega) rfl ?_
    intro q hq
    simp only [List.mem_cons, List.not_mem_nil, or_false] at hq
    rcases hq with rfl | rfl
    · refine ⟨?_, .inr ⟨_, _, _, rfl⟩⟩
      dsimp only
      rw [Wd.wake9.2.1]
      exact HB.out
    · exact ⟨Wc.Bs.nil _, .inl rfl⟩
  rw [hs2] at hI
  have hb4 := (Below.refl W3.heap.size W3).alloc (Nat.le_refl _) (.cells #[.int .i64 1, .int .i64 3, .slice (some ⟨w.heap.size + 1, 0, none⟩) 64 64, .int .i64 2, .int .i64 0, .slice none 0 0] 38)
  have HI := Wc.hid hI
  have HB4 := Wc.hid hb4
  clear hI hb4
  go_enter Try.func22, Try.ntmps22
  go_wp2_with fail
  clear hW3 hW1 hc0 hf0 hm1 hm2
  refine (apply_any _ _ _ _ _ _ Wd.imgW Wd.lW _ (HA.out.keep HB4.out) HI.out).mono ?_
  rintro e w5 ⟨ax, cx, rfl, hx, hb5⟩
  rw [Wd.wake1, Wd.wake9.2.2] at hx
  rw [Wd.wake1, Wd.wake2, Wd.wake9.2.2]
  have HX := Wc.hid hx
  have HB5 := Wc.hid hb5
  clear hx hb5
  go_wp2_with fail
  refine (crash_any _ _ _ _ _ _ 1 _ _ _ Wd.imgW Wd.lW [] _ ((HA.out.keep HB4.out).keep HB5.out) (HI.out.keep HB5.out) (Wv.Rv.nil _)).mono ?_
  rintro e w6 ⟨ay, cy, rfl, hy, hb6⟩
  rw [Wd.wake3, Wd.wake9.1] at hy
  rw [Wd.wake3, Wd.wake4, Wd.wake9.1]
  have HY := Wc.hid hy
  have HB6 := Wc.hid hb6
  clear hy hb6
  go_wp2_with fail
  refine (read_any _ _ _ 3 Wd.xW _ (HX.out.keep HB6.out)).mono ?_
  rintro e w7 ⟨az, cz, rfl, hz, hb7⟩
  rw [Wd.wake5, Wd.wake9.2.1] at hz
  rw [Wd.wake5, Wd.wake6, Wd.wake9.2.1]
  have HZ := Wc.hid hz
  have HB7 := Wc.hid hb7
  clear hz hb7
  go_wp2_with fail
  refine (check_any _ _ _ _ (by omega)).mono ?_
  rintro e w8 ⟨rfl, rfl⟩
  rw [Wd.wake8.1, Wd.wake8.2]
  have hx7 := (HX.out.keep HB6.out).keep HB7.out
  rcases hx7.open with ⟨h, _⟩ | ⟨b, off, n, cap, h, h0, hl, _, _, _, _, _, hc⟩
  · exact absurd (congrArg List.length h) (by rw [Wd.wake9.2.2]; decide)
  · cases h
    have c192 := hc 192 (by omega)
    rw [Wd.wake11] at c192
    clear hc hl h0 hx7
    have HIm := Wc.hid ((((HA.out.keep HB4.out).keep HB5.out).keep HB6.out).keep HB7.out)
    have HIo := Wc.hid ((((HI.out).keep HB5.out).keep HB6.out).keep HB7.out)
    have HBo := Wc.hid ((((HB.out.keep HB4.out).keep HB5.out).keep HB6.out).keep HB7.out)
    have HYo := Wc.hid (HY.out.keep HB7.out)
    have hall : Below w.heap.size w w7 := Wc.step (Wc.step (Wc.step (Wc.step HW.out (Nat.le_refl _) HB4.out) (Nat.le_refl _) HB5.out) (Nat.le_refl _) HB6.out) (Nat.le_refl _) HB7.out
    have HALL := Wc.hid hall
    clear hall HA HB HI HY HX HB4 HB5 HB6 HB7 HW
    have w10a := Wd.wake10.1
    have w10b := Wd.wake10.2
    go_wp2_with fail
    refine (bytes_any _ _ Wd.imgW Wd.imgW _ HYo.out HIm.out).mono ?_
    rintro e w9 ⟨rfl, hb9⟩
    rw [w10a]
    have HBo2 := Wc.hid (HBo.out.keep hb9)
    have HZ2 := Wc.hid (HZ.out.keep hb9)
    have HIo2 := Wc.hid (HIo.out.keep hb9)
    have HALL2 := Wc.hid (Wc.step HALL.out (Nat.le_refl _) hb9)
    clear hb9 HBo HZ HIo HALL c192
    go_wp2_with fail
    refine (bytes_any _ _ Wd.bW Wd.bW _ HZ2.out HBo2.out).mono ?_
    rintro e w10 ⟨rfl, hb10⟩
    rw [w10b]
    have HIo3 := Wc.hid (HIo2.out.keep hb10)
    have HALL3 := Wc.hid (Wc.step HALL2.out (Nat.le_refl _) hb10)
    clear hb10 HALL2 HIo2 HZ2 HBo2
    go_wp2_with fail
    refine (flushes_any _ _ _ Wd.lW _ HIo3.out).mono ?_
    rintro e w11 ⟨xf, rfl, hf, hb11⟩
    rw [Wd.wake7] at hf
    have HF := Wc.hid hf
    have HALL4 := Wc.hid (Wc.step HALL3.out (Nat.le_refl _) hb11)
    clear hb11 hf HALL3
    go_wp2_with fail
    refine (ints_any _ _ [1] [1] _ (HF.out.keep ((Below.refl _ _).alloc (Nat.le_refl _) _)) (Wv.Rv.lit _ _ 3 1 [(1 : Int)] rfl (by omega) rfl)).mono ?_
    rintro e w12 ⟨rfl, hb12⟩
    rw [show (([1] : List Int) == [1]) = true from rfl]
    have hb13 := HALL4.out
    go_wp2_with fail
    go_ret
    exact ⟨rfl, Wc.step (hb13.alloc hb13.size _) (Nat.le_refl _) hb12⟩

end Go.Proofs.Ytjacpmbdmbahhaa
