/-
  DevParts for every input.
-/
import Derived.Test.YtjacpmbdmbahhaaDrc
import Derived.Test.YtjacpmbdmbahhaaDhv
import Derived.Test.YtjacpmbdmbahhaaDwake
namespace Wd
open Go Go.RowKit

theorem app_parts (xs : List Int) (l : List Io) (cut : Nat) : app (app xs (l.take cut)) (l.drop cut) = app xs l := by
  rw [← app_append, List.take_append_drop]

theorem cr_all (xs : List Int) (l : List Io) (ks : List Bool) (s : Nat) : ∀ j, s + j ≤ l.length → (∀ i, i < j → ks.getD i false = true) → crA ks l s (app xs (l.take s)) j = app xs (l.take (s + j))
  | 0, _, _ => rfl
  | j + 1, hj, hk => by
    simp only [crA]
    rw [if_pos (hk j (by omega)), cr_all xs l ks s j (by omega) (fun i hi => hk i (by omega)), ← Nat.add_assoc, take_succ l (s + j) (by omega), app_snoc]

theorem cr_none (xs : List Int) (l : List Io) (s : Nat) : ∀ j, crA [] l s xs j = xs
  | 0 => rfl
  | j + 1 => by
    simp only [crA]
    rw [cr_none xs l s j]
    simp

theorem crash_all (xs : List Int) (l : List Io) (cut n : Nat) (hn : l.length = n) (hc : cut ≤ n) : crashL xs l cut (List.replicate n true) = app xs (l.take cut) := by
  have hs := safe_le l cut
  unfold crashL
  rw [cr_all xs l _ _ _ (by omega) (fun i hi => by
    have : i < n := by omega
    simp [this]), show safeN l cut + (cut - safeN l cut) = cut by omega]

theorem safe_flush' (l : List Io) : ∀ cut, safeN l cut = 0 ∨ ∃ j, safeN l cut = j + 1 ∧ (l.getD j d0).kind = 2
  | 0 => .inl rfl
  | cut + 1 => by
    simp only [safeN]
    by_cases h : (l.getD cut d0).kind = 2
    · rw [if_pos h]; exact .inr ⟨cut, rfl, h⟩
    · rw [if_neg h]; exact safe_flush' l cut

theorem crash_none {m : Int} (xs : List Int) (l : List Io) (cut : Nat) (h : l.all (okIo m) = true) (hc : cut ≤ l.length) : crashL xs l cut [] = app xs (l.take (safeN l cut - 1)) := by
  have hs := safe_le l cut
  unfold crashL
  rw [cr_none]
  rcases safe_flush' l cut with e | ⟨j, e, h2⟩
  · rw [e]
  · rw [e, take_succ l j (by omega), app_snoc, one_flush (all_at h j (by omega)) (by omega)]
    rfl

theorem all_drop {l : List Io} {f : Io → Bool} (h : l.all f = true) (t : Nat) : (l.drop t).all f = true := by
  rw [List.all_eq_true] at h ⊢
  exact fun x hx => h x (List.mem_of_mem_drop hx)

theorem steps_part {n : Nat} {l k : List Io} (hd : devB n = true) (hl : k.length ≤ l.length) (h1 : l.length ≤ 1048576) (h2 : k.all (okIo ((n / 64 : Nat) : Int)) = true) : stepsE n k = 0 := by
  refine stepsE_ok hd (by omega) ?_
  have : ((n : Int) / 64) = ((n / 64 : Nat) : Int) := by omega
  rw [this]; exact h2

end Wd
namespace Go.Proofs.Ytjacpmbdmbahhaa
open Go.RowKit

theorem Try.infoBool : (Try.prog.info? 4).map (fun i => (i.zero, i.size, i.bytes)) = some (some (.bool false), 1, 1) := by kernel_rfl

/-- The steps from q on. -/
theorem slice_rest (a : Option Addr) (n cap q : Nat) (h : q ≤ n) (w : World) :
    (Instr.slice 23 (.slice a n cap) (some (.int .i64 (q : Int))) none none).run Try.prog w = .ok (.slice (if cap = q then a else a.map (·.add (q * 3))) (n - q) (cap - q)) w := by
  have h0 := Try.size38
  cases hq : Try.prog.info? 38 with
  | none => rw [hq] at h0; cases h0
  | some i =>
    rw [hq] at h0
    have hi : i.size = 3 := by simpa using h0
    simp [Instr.slice, run_underlying Try.underlying23, Instr.sliceBounds, run_sliceBound, sizeOf, typeInfo, hq, hi, h]

theorem lowP (m i : Int) (h0 : 0 < m) (h : m ≤ 4294967296) : ∃ A : Nat, (A : Int) < m ∧ wrap64 ((IntKind.u64.wrap i).tmod m) = (A : Int) := by
  obtain ⟨A, hA, e⟩ := Wc.low m i h0 h
  exact ⟨A.toNat, by omega, by omega⟩

theorem rv_true {w : World} {g n : Nat} (h : w.rowIs g 4 n (fun j => .bool (decide (j < n)))) (hn : n ≤ 17592186044416) : Kp w (.slice (some ⟨g, 0, none⟩) n n) (List.replicate n true) := by
  refine ⟨_, n, n, rfl, by simp, Nat.le_refl _, by omega, hn, fun _ => ⟨g, 0, rfl, h.lt, fun i hi => ?_⟩⟩
  rw [Nat.zero_add, h.cell hi]
  simp [hi]

set_option maxRecDepth 100000 in
set_option maxHeartbeats 1600000 in
theorem devParts_ok (ai : Option Addr) (ni ci : Nat) (a : Option Addr) (n cap : Nat) (y : Int) (xs : List Int) (l : List Wd.Io) (w : World) (hB : Wc.Bs w (.slice ai ni ci) xs) (hR : Wd.Raw w a n cap l) (hh : Wd.heavyB ni l = false) (hz : Wd.stepsE ni l = 0) :
    Calls Try.prog 4 #[.slice ai ni ci, .slice a n cap, .int .i64 y] w fun e w' => e = .returned (.bool true) ∧ Below w.heap.size w w' := by
  have hI := hR.light hh
  have hni : ni ≤ 140737488355328 := by obtain ⟨_, _, _, h1, _, _, _, h5, _⟩ := hB; cases h1; exact h5
  have hxl := Wc.bs_len hB
  have hst := Wd.stepsE_zero hz
  have hd := Wd.devB_iff.1 hst.1
  have hll := Wd.is_len hI
  have hn4 : n ≤ 400 := by have h1 := (Wd.heavy_no hh).2.1; omega
  have hcap := (Wd.is_cap hI).1
  have hdv := hst.1
  have hok := hst.2.2
  have hm0 : 0 < ni / 64 := by omega
  have hxm : xs.length = ni / 64 * 64 := by omega
  obtain ⟨cut, hcut, hC1⟩ := lowP ((n : Int) + 1) y (by omega) (by omega)
  have hcn : cut ≤ n := by omega
  -- the parts
  obtain ⟨X, hX⟩ : ∃ X, Wd.app xs (l.take cut) = X := ⟨_, rfl⟩
  obtain ⟨Y, hY⟩ : ∃ Y, Wd.app xs l = Y := ⟨_, rfl⟩
  have hXl : X.length = ni := by rw [← hX, Wd.app_length hm0 _ _ hxm (Wd.all_take hok cut), hxl]
  have hYl : Y.length = ni := by rw [← hY, Wd.app_length hm0 _ _ hxm hok, hxl]
  have e1 : Wd.stepsE xs.length (l.take cut) = 0 := by rw [hxl]; exact Wd.steps_part hdv (by simp; omega) hst.2.1 (Wd.all_take hok cut)
  have e1' : Wd.appR xs (l.take cut) = X := by unfold Wd.appR; rw [if_pos e1, hX]
  have e2 : Wd.stepsE X.length (l.drop cut) = 0 := by rw [hXl]; exact Wd.steps_part hdv (by simp) hst.2.1 (Wd.all_drop hok cut)
  have e2' : Wd.appR X (l.drop cut) = Y := by unfold Wd.appR; rw [if_pos e2, ← hX, Wd.app_parts, hY]
  have e3 : Wd.stepsE xs.length l = 0 := by rw [hxl]; exact hz
  have e3' : Wd.appR xs l = Y := by unfold Wd.appR; rw [if_pos e3, hY]
  have e4 : Wd.crE xs.length l cut = 0 := by unfold Wd.crE; rw [if_pos e3, if_pos (by omega)]
  have e4' : Wd.crR xs l cut (List.replicate n true) = X := by unfold Wd.crR; rw [if_pos e4, ← hX]; exact Wd.crash_all xs l cut n hll hcn
  obtain ⟨s, hs⟩ : ∃ s, Wd.safeN l cut - 1 = s := ⟨_, rfl⟩
  have hsn : s ≤ n := by have := Wd.safe_le l cut; omega
  obtain ⟨Z, hZ⟩ : ∃ Z, Wd.app xs (l.take s) = Z := ⟨_, rfl⟩
  have hZl : Z.length = ni := by rw [← hZ, Wd.app_length hm0 _ _ hxm (Wd.all_take hok s), hxl]
  have e5' : Wd.crR xs l cut [] = Z := by unfold Wd.crR; rw [if_pos e4, ← hZ, ← hs]; exact Wd.crash_none xs l cut hok (by omega)
  have e6 : Wd.stepsE xs.length (l.take s) = 0 := by rw [hxl]; exact Wd.steps_part hdv (by simp; omega) hst.2.1 (Wd.all_take hok s)
  have e6' : Wd.appR xs (l.take s) = Z := by unfold Wd.appR; rw [if_pos e6, hZ]
  -- what they are handed
  have HR := Wc.hid hR
  have HB := Wc.hid hB
  have HI := Wc.hid hI
  have HI1 := Wc.hid (is_to hI cut hcn)
  have HI2 := Wc.hid (is_part hI cut n hcn (Nat.le_refl _))
  have HI3 := Wc.hid (is_to hI s hsn)
  have s1 := slice_to a n cap cut hcn hcap
  have s2 := slice_rest a n cap cut hcn
  have s3 := slice_to a n cap s hsn hcap
  have hd2 : (l.drop cut).take (n - cut) = l.drop cut := List.take_of_length_le (by simp; omega)
  rw [hd2] at HI2
  generalize (if cap = cut then a else Option.map (fun x => x.add (cut * 3)) a) = ap at s2 HI2
  have hmk := fun w => run_make_row' (P := Try.prog) 24 4 (.bool false) 1 Try.underlying24 Try.infoBool rfl .i64 .i64 n (by omega) (by omega) w
  obtain ⟨a', n', cap', h1, hl, -, -, -, hpos⟩ := hI
  cases h1
  have HP := Wc.hid hpos
  have HS := Wc.hid hs
  have E1 := Wc.hid (And.intro e1 e1')
  have E2 := Wc.hid (And.intro e2 e2')
  have E3 := Wc.hid (And.intro e3 e3')
  have E4 := Wc.hid (And.intro e4 e4')
  have E5 := Wc.hid e5'
  have E6 := Wc.hid (And.intro e6 e6')
  have L := Wc.hid (And.intro hXl (And.intro hYl hZl))
  clear hR hB hst hd hok hxm hX hY hZ hXl hYl hZl e1 e1' e2 e2' e3 e3' e4 e4' e5' e6 e6' hs hpos hl hll hd2 hcut hm0 hdv hxl
  go_enter Try.func4, Try.ntmps4
  go_wp2_with (first | (go_at_call 8; refine (heavy_raw _ _ _ _ _ _ l _ HR.out).mono ?_; rintro e w' ⟨rfl, rfl⟩; rw [hh]) | (go_at_call 17; refine (refSteps_any _ _ _ _ _ _ l _ hni HI.out).mono ?_; rintro e w' ⟨rfl, rfl⟩; rw [hz]))
  clear hh hz
  rw [hC1]
  clear hC1 s1
  refine (apply_any _ _ _ _ _ _ xs (l.take cut) _ HB.out HI1.out).mono ?_
  rintro e w1 ⟨ax, cx, rfl, hx, hb1⟩
  rw [E1.out.2, L.out.1] at hx
  rw [E1.out.2, E1.out.1, L.out.1]
  have HX := Wc.hid hx
  have HB1 := Wc.hid hb1
  clear hx hb1 E1 HI1
  go_wp2_with fail
  refine (apply_any _ _ _ _ _ _ X (l.drop cut) _ HX.out (HI2.out.keep HB1.out)).mono ?_
  rintro e w2 ⟨ay, cy, rfl, hy, hb2⟩
  rw [E2.out.2, L.out.2.1] at hy
  rw [E2.out.2, E2.out.1, L.out.2.1]
  have HY := Wc.hid hy
  have HX2 := Wc.hid (HX.out.keep hb2)
  have HB2 := Wc.hid (Wc.step HB1.out (Nat.le_refl _) hb2)
  clear hy hb2 E2 HI2 HX HB1 s2
  go_wp2_with fail
  refine (apply_any _ _ _ _ _ _ xs l _ (HB.out.keep HB2.out) (HI.out.keep HB2.out)).mono ?_
  rintro e w3 ⟨az, cz, rfl, hz, hb3⟩
  rw [E3.out.2, L.out.2.1] at hz
  rw [E3.out.2, E3.out.1, L.out.2.1]
  have HZ := Wc.hid hz
  have HY3 := Wc.hid (HY.out.keep hb3)
  have HX3 := Wc.hid (HX2.out.keep hb3)
  have HB3 := Wc.hid (Wc.step HB2.out (Nat.le_refl _) hb3)
  clear hz hb3 E3 HX2 HY HB2
  go_wp2_with fail
  refine (bytes_any _ _ _ _ _ HY3.out HZ.out).mono ?_
  rintro e w4 ⟨rfl, hb4⟩
  rw [beq_self_eq_true]
  have HX4 := Wc.hid (HX3.out.keep hb4)
  have HB4 := Wc.hid (Wc.step HB3.out (Nat.le_refl _) hb4)
  clear hb4 HX3 HB3 HY3 HZ
  go_wp2_with fail
  clear hmk
  have hrow := World.rowIs_made w4 (.bool false) n 4
  obtain ⟨G, hG⟩ : ∃ G, w4.heap.size = G := ⟨_, rfl⟩
  have HB5 := Wc.hid (HB4.out.alloc HB4.out.size (.cells (madeCells #[.bool false] n) 4))
  have HB5' := Wc.hid ((Below.refl w4.heap.size w4).alloc (Nat.le_refl _) (.cells (madeCells #[.bool false] n) 4))
  rw [hG] at hrow HB5' ⊢
  have HG := Wc.hid hG
  clear hG
  generalize w4.alloc (.cells (madeCells #[.bool false] n) 4) = w5 at hrow HB5 HB5' ⊢
  have HROW := Wc.hid hrow
  clear hrow
  go_loopw [14] (fun i wr => ∃ k : Nat, i = .int .i64 k ∧ k ≤ n ∧ Below w4.heap.size w4 wr ∧ Hid (wr.rowIs G 4 n (fun j => .bool (decide (j < k))))) (fun i _ => n - (intOf i).toNat)
  case atStart => exact ⟨0, rfl, by omega, by rw [HG.out]; exact HB5'.out, by simpa using HROW⟩
  case round =>
    obtain ⟨k, rfl, hk, hbr, HRW⟩ := hrel
    by_cases hlt : k < n
    · have hcell := HRW.out.cell (i := k) hlt
      have hfz := HRW.out.frozen k
      simp only [Nat.lt_irrefl, decide_false] at hcell
      go_wp2
      go_roundw
      case rel =>
        refine ⟨k + 1, by go_num, by omega, hbr.setCell (by rw [HG.out]; exact Nat.le_refl _) _, Wc.hid ?_⟩
        obtain ⟨c, h1, h2, h3⟩ := HRW.out.set k (.bool true)
        refine ⟨c, h1, h2, fun i hi => ?_⟩
        rw [h3 i hi]
        dsimp only
        by_cases hik : i = k
        · subst hik; simp
        · rw [if_neg hik]
          have : (i < k) ↔ (i < k + 1) := by omega
          simp [this]
      case measure => simp only [intOf]; omega
    · obtain rfl : k = n := by omega
      have HKP := Wc.hid (rv_true HRW.out (by omega))
      have HB6 := Wc.hid (Wc.step HB4.out (Nat.le_refl _) hbr)
      have HX6 := Wc.hid (HX4.out.keep hbr)
      clear hbr HRW HX4 HB4 HB5 HB5' HROW
      go_wp2_with fail
      refine (crash_any _ _ _ _ _ _ cut _ _ _ xs l (List.replicate k true) _ (HB.out.keep HB6.out) (HI.out.keep HB6.out) HKP.out).mono ?_
      rintro e w7 ⟨ap2, cp2, rfl, hx, hb7⟩
      rw [E4.out.2, L.out.1] at hx
      rw [E4.out.2, E4.out.1, L.out.1]
      have HC := Wc.hid hx
      have HX7 := Wc.hid (HX6.out.keep hb7)
      have HB7 := Wc.hid (Wc.step HB6.out (Nat.le_refl _) hb7)
      clear hx hb7 HKP HB6 HX6
      go_wp2_with fail
      refine (crash_any _ _ _ _ _ _ cut _ _ _ xs l [] _ (HB.out.keep HB7.out) (HI.out.keep HB7.out) (Wv.Rv.nil _)).mono ?_
      rintro e w8 ⟨aq, cq, rfl, hx, hb8⟩
      rw [E5.out, L.out.2.2] at hx
      rw [E5.out, E4.out.1, L.out.2.2]
      have HQ := Wc.hid hx
      have HX8 := Wc.hid (HX7.out.keep hb8)
      have HC8 := Wc.hid (HC.out.keep hb8)
      have HB8 := Wc.hid (Wc.step HB7.out (Nat.le_refl _) hb8)
      clear hx hb8 HC HX7 HB7 E4 E5
      go_wp2_with fail
      go_loopw [19, 20] (fun p i wr => ∃ j : Nat, i = .int .i64 j ∧ j ≤ cut ∧ w8 = wr ∧ p = .int .i64 ((Wd.safeN l j - 1 : Nat) : Int)) (fun _ i _ => cut - (intOf i).toNat)
      case atStart => exact ⟨0, rfl, by omega, rfl, by simp [Wd.safeN]⟩
      case round =>
        obtain ⟨j, rfl, hj, rfl, rfl⟩ := hrel
        by_cases hjc : j < cut
        · obtain ⟨b, off, rfl, hblt, hcs⟩ := HP.out (by omega)
          obtain ⟨a', c', hx⟩ := hcs j (by omega)
          have hsf : Wd.safeN l (j + 1) = if (l.getD j Wd.d0).kind = 2 then j + 1 else Wd.safeN l j := rfl
          obtain ⟨x, hxe⟩ : ∃ x, l.getD j Wd.d0 = x := ⟨_, rfl⟩
          rw [hxe] at hx hsf
          obtain ⟨c0, -, -, -, -⟩ := hx.keep HB8.out
          clear hcs hx hxe
          have hjn : j < k := by omega
          by_cases hk2 : x.kind = 2
          · rw [if_pos hk2] at hsf
            rw [hk2] at c0
            have HSF := Wc.hid hsf
            clear hsf hk2
            go_wp2
            go_roundw
            case rel => exact ⟨j + 1, by go_num, by omega, (by trivial), by rw [HSF.out]; simp⟩
            case measure => simp only [intOf]; omega
          · rw [if_neg hk2] at hsf
            have hkb : (x.kind == 2) = false := by simpa using hk2
            have HSF := Wc.hid hsf
            clear hsf hk2
            go_wp2
            go_roundw
            case rel => exact ⟨j + 1, by go_num, by omega, (by trivial), by rw [HSF.out]⟩
            case measure => simp only [intOf]; omega
        · obtain rfl : j = cut := by omega
          rw [HS.out]
          go_wp2_with fail
          refine (apply_any _ _ _ _ _ _ xs (l.take s) _ (HB.out.keep HB8.out) (HI3.out.keep HB8.out)).mono ?_
          rintro e w9 ⟨ar, cr, rfl, hx, hb9⟩
          rw [E6.out.2, L.out.2.2] at hx
          rw [E6.out.2, E6.out.1, L.out.2.2]
          have HR9 := Wc.hid hx
          have HX9 := Wc.hid (HX8.out.keep hb9)
          have HC9 := Wc.hid (HC8.out.keep hb9)
          have HQ9 := Wc.hid (HQ.out.keep hb9)
          have HB9 := Wc.hid (Wc.step HB8.out (Nat.le_refl _) hb9)
          clear hx hb9 HX8 HC8 HQ HB8 s3
          go_wp2_with fail
          refine (bytes_any _ _ _ _ _ HC9.out HX9.out).mono ?_
          rintro e w10 ⟨rfl, hb10⟩
          rw [beq_self_eq_true]
          have HQ10 := Wc.hid (HQ9.out.keep hb10)
          have HR10 := Wc.hid (HR9.out.keep hb10)
          have HB10 := Wc.hid (Wc.step HB9.out (Nat.le_refl _) hb10)
          clear hb10 HQ9 HR9 HB9
          go_wp2_with fail
          refine (bytes_any _ _ _ _ _ HQ10.out HR10.out).mono ?_
          rintro e w11 ⟨rfl, hb11⟩
          rw [beq_self_eq_true]
          have HB11 := Wc.hid (Wc.step HB10.out (Nat.le_refl _) hb11)
          clear hb11
          go_wp2_with fail
          refine (wakes_any _).mono ?_
          rintro e w12 ⟨rfl, hb12⟩
          go_wp2_with fail
          go_ret
          exact ⟨rfl, Wc.step HB11.out (Nat.le_refl _) hb12⟩

set_option maxRecDepth 100000 in
set_option maxHeartbeats 1600000 in
/-- DevParts is true of whatever comes in. -/
theorem devParts_any (ai : Option Addr) (ni ci : Nat) (a : Option Addr) (n cap : Nat) (y : Int) (xs : List Int) (l : List Wd.Io) (w : World) (hB : Wd.RawB w ai ni ci xs) (hR : Wd.Raw w a n cap l) :
    Calls Try.prog 4 #[.slice ai ni ci, .slice a n cap, .int .i64 y] w fun e w' => e = .returned (.bool true) ∧ Below w.heap.size w w' := by
  cases hh : Wd.heavyB ni l
  · have hni := (Wd.heavy_no hh).1
    by_cases hz : Wd.stepsE ni l = 0
    · exact devParts_ok ai ni ci a n cap y xs l w (hB.bs (by omega)) hR hh hz
    · obtain ⟨E, hE⟩ : ∃ E, Wd.stepsE ni l = E := ⟨_, rfl⟩
      have HI := Wc.hid (hR.light hh)
      have HR := Wc.hid hR
      rw [hE] at hz
      have hz' : (E != 0) = true := by simpa using hz
      clear hB hR hz
      go_enter Try.func4, Try.ntmps4
      go_wp2_with (first | (go_at_call 8; refine (heavy_raw _ _ _ _ _ _ l _ HR.out).mono ?_; rintro e w' ⟨rfl, rfl⟩; rw [hh]) | (go_at_call 17; refine (refSteps_any _ _ _ _ _ _ l _ (by omega) HI.out).mono ?_; rintro e w' ⟨rfl, rfl⟩; rw [hE]))
      go_ret
      exact ⟨rfl, Below.refl _ _⟩
  · have HR := Wc.hid hR
    clear hB hR
    go_enter Try.func4, Try.ntmps4
    go_wp2_with (first | (go_at_call 8; refine (heavy_raw _ _ _ _ _ _ l _ HR.out).mono ?_; rintro e w' ⟨rfl, rfl⟩; rw [hh]))
    go_ret
    exact ⟨rfl, Below.refl _ _⟩

end Go.Proofs.Ytjacpmbdmbahhaa
