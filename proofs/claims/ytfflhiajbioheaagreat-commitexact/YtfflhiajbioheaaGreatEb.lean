/-
  What the small functions of commit return, for every input.
-/
import Derived.Test.YtfflhiajbioheaaGreatEa
import Derived.Test.YtfflhiajbioheaaGreatJB
import Derived.Test.YtfflhiajbioheaaGreatPk
namespace Go.Proofs.YtfflhiajbioheaaGreat
open Go.RowKit

set_option maxHeartbeats 400000 in
theorem within15_any (n lo hi : Int) (w : World) :
    Calls Tryz.prog 44 #[.int .i64 n, .int .i64 lo, .int .i64 hi] w fun e w' => e = .returned (.bool (decide (lo ≤ n) && decide (n ≤ hi))) ∧ w = w' := by
  go_enter Tryz.func44, Tryz.ntmps44
  go_wp2
  all_goals go_ret
  · exact ⟨ret_bool (by simp [*]), rfl⟩
  · exact ⟨ret_bool (by symm; rw [Bool.eq_false_iff]; simp; omega), rfl⟩

set_option maxHeartbeats 400000 in
theorem isBlock15_any (n : Int) (w : World) :
    Calls Tryz.prog 48 #[.int .i64 n] w fun e w' => e = .returned (.bool (Wq.bkB n)) ∧ w = w' := by
  go_enter Tryz.func48, Tryz.ntmps48
  go_wp2_with (go_at_call 44; refine (within15_any _ _ _ _).mono ?_; rintro e w' ⟨rfl, rfl⟩)
  all_goals go_ret
  all_goals exact ⟨rfl, rfl⟩

/-- A step's cells as a result. -/
theorem ret_io {fn : Func} {tmps : Array Value} {w : World} {t B : Nat} {v0 v1 v2 : Value} (hr : fn.results = #[.cell t 50]) (hp : tmps.getD t undef = .pointer (some ⟨B, 0, none⟩)) (c0 : w.cell? ⟨B, 0, none⟩ = some v0) (c1 : w.cell? ⟨B, 1, none⟩ = some v1) (c2 : w.cell? ⟨B, 2, none⟩ = some v2) :
    (results fn tmps).run Tryz.prog w = .ok (.agg #[v0, v1, v2]) w := by
  have hp' : tmps[t]?.getD undef = .pointer (some ⟨B, 0, none⟩) := by simpa using hp
  simp only [results, hr]
  simp [hp', go_sem, c0, c1, c2]

theorem io_cells (w : World) (T : Nat) (v0 v1 v2 : Value) : (w.alloc (.cells #[v0, v1, v2] T)).cell? ⟨w.heap.size, 0, none⟩ = some v0 ∧ (w.alloc (.cells #[v0, v1, v2] T)).cell? ⟨w.heap.size, 1, none⟩ = some v1 ∧ (w.alloc (.cells #[v0, v1, v2] T)).cell? ⟨w.heap.size, 2, none⟩ = some v2 := by
  have h : (w.alloc (.cells #[v0, v1, v2] T)).heap[w.heap.size]? = some (.cells #[v0, v1, v2] T (0, 0)) := by show (w.heap.push _)[_]? = _; simp
  generalize w.alloc (.cells #[v0, v1, v2] T) = W at h ⊢
  refine ⟨?_, ?_, ?_⟩ <;> simp [World.cell?, h]

set_option maxHeartbeats 800000 in
theorem write15_any (p : Int) (a : Option Addr) (n c : Nat) (w : World) :
    Calls Tryz.prog 20 #[.int .i64 p, .slice a n c] w fun e w' => e = .returned (.agg #[.int .i64 1, .int .i64 p, .slice a n c]) ∧ Below w.heap.size w w' := by
  go_enter Tryz.func20, Tryz.ntmps20
  go_wp2
  have ⟨c0, c1, c2⟩ := io_cells w 50 (.int .i64 1) (.int .i64 p) (.slice a n c)
  exact bodyPost_ret (ret_io (t := 4) rfl rfl c0 c1 c2) rfl ⟨rfl, (Below.refl _ _).alloc (Nat.le_refl _) _⟩

set_option maxHeartbeats 800000 in
theorem flush15_any (w : World) :
    Calls Tryz.prog 22 #[] w fun e w' => e = .returned (.agg #[.int .i64 2, .int .i64 0, .slice none 0 0]) ∧ Below w.heap.size w w' := by
  go_enter Tryz.func22, Tryz.ntmps22
  go_wp2
  have ⟨c0, c1, c2⟩ := io_cells w 50 (.int .i64 2) (.int .i64 0) (.slice none 0 0)
  exact bodyPost_ret (ret_io (t := 0) rfl rfl c0 c1 c2) rfl ⟨rfl, (Below.refl _ _).alloc (Nat.le_refl _) _⟩

set_option maxHeartbeats 400000 in
theorem other15_any (t : Int) (w : World) (h0 : 0 ≤ t) (h1 : t ≤ 1) :
    Calls Tryz.prog 23 #[.int .i64 t] w fun e w' => e = .returned (.int .i64 (1 - t)) ∧ w = w' := by
  go_enter Tryz.func23, Tryz.ntmps23
  go_wp2
  go_ret
  exact ⟨rfl, rfl⟩

set_option maxHeartbeats 1600000 in
theorem copied15_any (a : Option Addr) (n cap : Nat) (xs : List Int) (w : World) (hv : Wc.Bs w (.slice a n cap) xs) :
    Calls Tryz.prog 21 #[.slice a n cap] w fun e w' => ∃ g, e = .returned (.slice (some ⟨g, 0, none⟩) n n) ∧ w.heap.size ≤ g ∧ Wc.Ob 5 w.heap.size w' (.slice (some ⟨g, 0, none⟩) n n) xs ∧ Below w.heap.size w w' := by
  have hn : n ≤ 140737488355328 := by obtain ⟨_, _, _, h1, _, _, _, h5, _⟩ := hv; cases h1; exact h5
  have hl := Wc.bs_len hv
  have hbd := Wc.bs_bytes hv
  have hmk := fun w => run_make_row' (P := Tryz.prog) 48 5 (.int .u8 0) 1 Tryz.underlying48 Tryz.infoU8 rfl .i64 .i64 n (by omega) (by omega) w
  have hO : Wc.Ob 5 w.heap.size (w.alloc (.cells (madeCells #[Value.int .u8 0] n) 5)) (.slice (some ⟨w.heap.size, 0, none⟩) n n) (List.replicate n 0) := by
    refine ⟨⟨by simp, .inr ⟨w.heap.size, n, madeCells #[Value.int .u8 0] n, by simp, Nat.le_refl _, (by show (w.heap.push _)[_]? = _; simp), by simp, by unfold maxLen; omega, ?_, ?_⟩⟩, by simpa using hn, by intro x hx; rw [List.mem_replicate] at hx; omega⟩
    · rw [← Array.length_toList, Wc.made_zero]; simp
    · rw [Wc.made_zero]; simp
  have hbA := (Below.refl w.heap.size w).alloc (Nat.le_refl _) (.cells (madeCells #[Value.int .u8 0] n) 5)
  obtain ⟨w2, hrun, hO2, hb2, -⟩ := Wd.copy_run (P := Tryz.prog) (ty := 3) (k := 0) Tryz.underlying48 Tryz.sizeU8 hO (hv.keep hbA) (by omega)
  have e : Wd.lay (List.replicate n 0) 0 xs = xs := by
    unfold Wd.lay
    rw [List.take_zero, List.nil_append, List.drop_eq_nil_of_le (by simp; omega), List.append_nil]
  rw [e] at hO2
  simp only [Nat.sub_zero] at hrun
  rw [hl] at hrun
  have HO := Wc.hid hO2
  have HB := Wc.hid (hbA.trans hb2)
  clear hO2 hb2 hO hbA hv e hl hbd
  go_enter Tryz.func21, Tryz.ntmps21
  go_wp2
  go_ret
  exact ⟨_, rfl, Nat.le_refl _, HO.out, HB.out⟩

set_option maxHeartbeats 1600000 in
theorem ready15_any (s : Ws.Sup) (t : Int) (v : Value) (w : World) :
    Calls Tryz.prog 17 #[stv s t v] w fun e w' => e = .returned (.bool (Wq.rdyB s t)) ∧ Below w.heap.size w w' := by
  have hS : ∀ b, Ws.supB s = b → Hid (Ws.supE s = if b = true then 0 else 1) := fun b h => Wc.hid (by unfold Ws.supE; rw [h])
  have bA := Wc.hid ((Below.refl w.heap.size w).alloc (Nat.le_refl _) (.cells #[.int .i64 s.gen, .int .i64 s.blocks, .int .i64 s.root, .int .i64 s.size, .int .i64 s.first, .int .i64 t, v] 26))
  have Z := Wc.hid (Zh.new w s t v)
  obtain ⟨W, hW⟩ : ∃ W, w.alloc (.cells #[.int .i64 s.gen, .int .i64 s.blocks, .int .i64 s.root, .int .i64 s.size, .int .i64 s.first, .int .i64 t, v] 26) = W := ⟨_, rfl⟩
  have HW := Wc.hid hW
  rw [hW] at bA Z
  clear hW
  cases hb : Ws.supB s
  · have HE := hS _ hb
    unfold stv
    go_enter Tryz.func17, Tryz.ntmps17
    go_wp2_with fail
    rw [HW.out]
    have ⟨z0, z1, z2, z3, z4, z5, z6⟩ := Z.out.zc
    go_wp2_with (go_at_call 41; refine (check6_any s _).mono ?_; rintro e w1 ⟨rfl, hb1⟩; rw [HE.out]; have HB1 := Wc.hid hb1; clear hb1)
    all_goals go_ret
    all_goals exact ⟨by unfold Wq.rdyB; rw [hb]; rfl, Wc.step bA.out (Nat.le_refl _) HB1.out⟩
  · have HE := hS _ hb
    unfold stv
    go_enter Tryz.func17, Tryz.ntmps17
    go_wp2_with fail
    rw [HW.out]
    have ⟨z0, z1, z2, z3, z4, z5, z6⟩ := Z.out.zc
    go_wp2_with (go_at_call 41; refine (check6_any s _).mono ?_; rintro e w1 ⟨rfl, hb1⟩; rw [HE.out]; have HB1 := Wc.hid hb1; have ⟨y0, y1, y2, y3, y4, y5, y6⟩ := (Z.out.keep hb1).zc; clear hb1)
    all_goals go_ret
    all_goals (refine ⟨ret_bool ?_, Wc.step bA.out (Nat.le_refl _) HB1.out⟩; rw [Bool.eq_iff_iff]; simp [Wq.rdyB, hb]; try omega)

set_option maxHeartbeats 1600000 in
theorem isWrite15_any (k p : Int) (a : Option Addr) (n c : Nat) (m : Int) (w : World) (hm : -9223372036854775807 ≤ m ∧ m ≤ 9223372036854775807) :
    Calls Tryz.prog 19 #[.agg #[.int .i64 k, .int .i64 p, .slice a n c], .int .i64 m] w fun e w' => e = .returned (.bool (decide (k = 1) && (decide (2 ≤ p) && (decide (p ≤ m - 1) && decide (n = 64))))) ∧ Below w.heap.size w w' := by
  go_enter Tryz.func19, Tryz.ntmps19
  go_wp2_with (go_at_call 44; refine (within15_any _ _ _ _).mono ?_; rintro e w' ⟨rfl, rfl⟩)
  all_goals go_ret
  all_goals (refine ⟨ret_bool ?_, (Below.refl _ _).alloc (Nat.le_refl _) _⟩; rw [Bool.eq_iff_iff]; simp [*] <;> (try simp_all) <;> (try omega))

set_option maxHeartbeats 1600000 in
theorem rightFirst15_any (r : Wr.Rec) (w : World) :
    Calls Tryz.prog 28 #[rv r] w fun e w' => e = .returned (.bool (Wr.recB (Wq.bare r))) ∧ Below w.heap.size w w' := by
  have hE : Hid (Wr.recE (Wq.bare r) = if Wr.recB (Wq.bare r) = true then 0 else 1) := Wc.hid rfl
  have hR := Rh.new w r
  have B1 := Wc.hid ((Below.refl w.heap.size w).alloc (Nat.le_refl _) (.cells #[.int .i64 0, .int .i64 r.id, .int .i64 r.parent, .int .i64 r.root, .int .i64 r.size, .int .i64 r.kind, .int .i64 r.frames, .int .i64 r.digest] 39))
  have HR := Wc.hid hR
  have HR1 := Wc.hid (Rh.new w (Wq.bare r))
  clear hR
  unfold rv
  go_enter Tryz.func28, Tryz.ntmps28
  have ⟨c0, c1, c2, c3, c4, c5, c6, c7⟩ := HR.out.rc
  have hf := HR.out.frozen 0
  go_wp2_with (go_at_call 47; have ⟨d0, d1, d2, d3, d4, d5, d6, d7⟩ := HR1.out.rc; refine (check8_any (Wq.bare r) _).mono ?_; rintro e w1 ⟨rfl, hb1⟩; rw [hE.out]; have HB1 := Wc.hid hb1; clear hb1)
  all_goals go_ret
  all_goals (refine ⟨ret_bool ?_, Wc.step B1.out (Nat.le_refl _) HB1.out⟩; cases hb : Wr.recB (Wq.bare r) <;> simp)

set_option maxHeartbeats 1600000 in
theorem rightFree15_any (a : Option Addr) (n cap : Nat) (F : List Int) (w : World) (hv : Wd.In w (.slice a n cap) F) :
    Calls Tryz.prog 29 #[.slice a n cap] w fun e w' => e = .returned (.bool (Wq.frB F)) ∧ w = w' := by
  obtain ⟨a', n', cap', he, hl, hnc, hcap, hn, hc⟩ := hv
  cases he
  have HC := Wc.hid hc
  have HL := Wc.hid hl
  clear hc hl
  go_enter Tryz.func29, Tryz.ntmps29
  go_wp2_with fail
  go_loopw [3, 8] (fun z u wr => ∃ k : Nat, u = .int .i64 k ∧ z = .int .i64 (Wq.prv F k) ∧ k ≤ n ∧ Hid (∀ j, j < k → Wq.okF F j = true) ∧ w = wr) (fun _ u _ => n - (intOf u).toNat)
  case atStart => exact ⟨0, rfl, rfl, Nat.zero_le _, fun j h => by omega, rfl⟩
  case round =>
    obtain ⟨k, rfl, rfl, hk, HZ, rfl⟩ := hrel
    by_cases hlt : k < n
    · obtain ⟨b, off, rfl, hb, hcc⟩ := HC.out (by omega)
      have h1 := hcc k hlt
      clear hcc
      have hj : Wq.okF F k = (decide (Wq.prv F k < F.getD k 0) && Wq.bkB (F.getD k 0)) := rfl
      have hp : Wq.prv F (k + 1) = F.getD k 0 := by unfold Wq.prv; rw [if_neg (by omega), Nat.add_sub_cancel]
      obtain ⟨x, hx⟩ : ∃ x, F.getD k 0 = x := ⟨_, rfl⟩
      obtain ⟨z, hz⟩ : ∃ z, Wq.prv F k = z := ⟨_, rfl⟩
      rw [hx, hz] at hj
      rw [hx] at h1 hp
      rw [hz]
      have HP := Wc.hid hp
      have HJ := Wc.hid hj
      clear hx hz hp hj
      by_cases c1 : x ≤ z
      · have hno := Wc.hid (Wq.frB_bad (by rw [HL.out]; exact hlt) (HJ.out.trans (by rw [decide_eq_false (by omega)]; rfl)))
        go_wp2_with (go_at_call 48; refine (isBlock15_any _ _).mono ?_; rintro e w' ⟨rfl, rfl⟩)
        go_ret
        exact ⟨by rw [hno.out]; rfl, rfl⟩
      · cases hB : Wq.bkB x
        · have hno := Wc.hid (Wq.frB_bad (by rw [HL.out]; exact hlt) (HJ.out.trans (by rw [hB, Bool.and_false])))
          go_wp2_with (go_at_call 48; refine (isBlock15_any _ _).mono ?_; rintro e w' ⟨rfl, rfl⟩; rw [hB])
          go_ret
          exact ⟨by rw [hno.out]; rfl, rfl⟩
        · have hyes : Hid (Wq.okF F k = true) := Wc.hid (HJ.out.trans (by rw [hB, decide_eq_true (by omega)]; rfl))
          go_wp2_with (go_at_call 48; refine (isBlock15_any _ _).mono ?_; rintro e w' ⟨rfl, rfl⟩; rw [hB])
          go_roundw
          case rel =>
            refine ⟨k + 1, by go_num, by rw [HP.out], by omega, fun j hj => ?_, by first | rfl | trivial⟩
            by_cases hjk : j = k
            · subst hjk; exact hyes.out
            · exact HZ.out j (by omega)
          case measure => simp [intOf]; omega
    · obtain rfl : k = n := by omega
      have hR := Wc.hid (Wq.frB_iff.2 (fun j hj => HZ.out j (by rw [HL.out] at hj; exact hj)))
      go_wp2_with fail
      go_ret
      exact ⟨by rw [hR.out]; rfl, rfl⟩

set_option maxHeartbeats 400000 in
theorem stays15_any (a : Option Addr) (n cap : Nat) (k : Nat) (l : List Int) (w : World) (hv : Wd.In w (.slice a n cap) l) (hk : k ≤ n) :
    Calls Tryz.prog 32 #[.slice a n cap, .int .i64 (k : Int)] w fun e w' => e = .returned (.int .i64 (Wq.stay l k)) ∧ w = w' := by
  obtain ⟨a', n', cap', he, hl, hnc, hcap, hn, hc⟩ := hv
  cases he
  by_cases hlt : k < n
  · obtain ⟨b, off, rfl, hb, hcc⟩ := hc (by omega)
    have h1 := hcc k hlt
    have hne : ¬ (k : Int) = (n : Int) := by omega
    clear hcc hc
    unfold Wq.stay
    obtain ⟨x, hx⟩ : ∃ x, l.getD k 0 = x := ⟨_, rfl⟩
    rw [hx] at h1 ⊢
    clear hx
    go_enter Tryz.func32, Tryz.ntmps32
    go_wp2
    go_ret
    exact ⟨rfl, rfl⟩
  · obtain rfl : k = n := by omega
    have hz : Wq.stay l k = 0 := by unfold Wq.stay; rw [List.getD_eq_getElem?_getD, List.getElem?_eq_none (by omega)]; rfl
    rw [hz]
    clear hc
    go_enter Tryz.func32, Tryz.ntmps32
    go_wp2
    go_ret
    exact ⟨rfl, rfl⟩

set_option maxHeartbeats 800000 in
theorem bytesOf15_any (r : Wr.Rec) (w : World) (hr : Wr.recB r = true) :
    Calls Tryz.prog 33 #[rv r] w fun e w' => ∃ g, e = .returned (.slice (some ⟨g, 0, none⟩) 64 64) ∧ w.heap.size ≤ g ∧ Rb w' g (Wr.blk r) ∧ Below w.heap.size w w' := by
  have bA := Wc.hid ((Below.refl w.heap.size w).alloc (Nat.le_refl _) (.cells #[.int .i64 r.next, .int .i64 r.id, .int .i64 r.parent, .int .i64 r.root, .int .i64 r.size, .int .i64 r.kind, .int .i64 r.frames, .int .i64 r.digest] 39))
  have ⟨c0, c1, c2, c3, c4, c5, c6, c7⟩ := (Rh.new w r).rc
  have HR := Wc.hid hr
  clear hr
  unfold rv
  go_enter Tryz.func33, Tryz.ntmps33
  go_wp2_with fail
  refine (bytes8_ok r _ HR.out).mono ?_
  rintro e w1 ⟨g, rfl, hg, hb, hb1⟩
  have HB := Wc.hid hb
  have HB1 := Wc.hid hb1
  have HG := Wc.hid hg
  clear hb hb1 hg
  go_wp2_with fail
  go_ret
  exact ⟨g, rfl, by have := HG.out; have := bA.out.size; omega, HB.out, Wc.step bA.out (Nat.le_refl _) HB1.out⟩
end Go.Proofs.YtfflhiajbioheaaGreat
