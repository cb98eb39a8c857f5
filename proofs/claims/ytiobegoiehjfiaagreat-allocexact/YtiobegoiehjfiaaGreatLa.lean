/-
  What alloc's own functions return, for every input: which counts are right, which places are free, a copy of one's own, one more and one less at a place, the parts of a list.
-/
import Derived.Test.YtiobegoiehjfiaaGreatKw
namespace Wl
/-- A count that may be. -/
def cB (x : Int) : Bool := decide (0 ≤ x) && decide (x ≤ 2147483647)
theorem cB_iff {x : Int} : cB x = true ↔ 0 ≤ x ∧ x ≤ 2147483647 := by simp [cB]
theorem cB_no {x : Int} (h : x < 0 ∨ 2147483647 < x) : cB x = false := by
  rw [Bool.eq_false_iff]; intro e; have := cB_iff.1 e; omega
/-- Counts that may be a device's. -/
def okC (xs : List Int) : Bool := decide (xs.length ≤ 4096) && xs.all cB
theorem okC_iff {xs : List Int} : okC xs = true ↔ xs.length ≤ 4096 ∧ ∀ x ∈ xs, 0 ≤ x ∧ x ≤ 2147483647 := by
  simp [okC, cB_iff, List.all_eq_true]
theorem okC_at {xs : List Int} (h : okC xs = true) {k : Nat} (hk : k < xs.length) : 0 ≤ xs.getD k 0 ∧ xs.getD k 0 ≤ 2147483647 := by
  refine (okC_iff.1 h).2 _ ?_
  rw [List.getD_eq_getElem?_getD, List.getElem?_eq_getElem hk]
  exact List.getElem_mem hk
theorem okC_long {xs : List Int} (h : 4096 < xs.length) : okC xs = false := by
  rw [Bool.eq_false_iff]; intro e; have := (okC_iff.1 e).1; omega
theorem okC_bad {xs : List Int} {k : Nat} (hk : k < xs.length) (h : xs.getD k 0 < 0 ∨ 2147483647 < xs.getD k 0) : okC xs = false := by
  rw [Bool.eq_false_iff]; intro e; have := okC_at e hk; omega
theorem okC_all {xs : List Int} (hl : xs.length ≤ 4096) (h : ∀ j, j < xs.length → cB (xs.getD j 0) = true) : okC xs = true := by
  refine okC_iff.2 ⟨hl, fun x hx => ?_⟩
  obtain ⟨j, hj, rfl⟩ := List.mem_iff_getElem.1 hx
  have := cB_iff.1 (h j hj)
  rwa [List.getD_eq_getElem?_getD, List.getElem?_eq_getElem hj] at this

/-- The places from 2 up to k whose count is 0. -/
def fre (xs : List Int) : Nat → List Int
  | 0 => []
  | k + 1 => fre xs k ++ (if 2 ≤ k ∧ xs.getD k 0 = 0 then [(k : Int)] else [])
theorem fre_len (xs : List Int) : ∀ k, (fre xs k).length ≤ k
  | 0 => Nat.le_refl _
  | k + 1 => by
    have := fre_len xs k
    show (fre xs k ++ _).length ≤ _
    rw [List.length_append]
    split <;> simp <;> omega
theorem fre_no {xs : List Int} {k : Nat} (h : ¬ (2 ≤ k ∧ xs.getD k 0 = 0)) : fre xs (k + 1) = fre xs k := by
  show fre xs k ++ _ = _
  rw [if_neg h, List.append_nil]
theorem fre_yes {xs : List Int} {k : Nat} (h : 2 ≤ k ∧ xs.getD k 0 = 0) : fre xs (k + 1) = fre xs k ++ [(k : Int)] := by
  show fre xs k ++ _ = _
  rw [if_pos h]
theorem fre_low (xs : List Int) : ∀ k, k ≤ 2 → fre xs k = []
  | 0, _ => rfl
  | k + 1, h => by rw [fre_no (by omega), fre_low xs k (by omega)]

/-- Why one more (last the greatest, step 1) or one less (last 0, step -1) is refused at a place. -/
def movE (xs : List Int) (p last : Int) : Int :=
  if okC xs = false then 1 else if p < 0 ∨ (xs.length : Int) ≤ p then 3 else if xs.getD p.toNat 0 = last then 1 else 0
/-- Why a list cannot be parted. -/
def tkE (xs : List Int) (n : Int) : Int := if n < 0 then 1 else if (xs.length : Int) < n then 9 else 0
end Wl
namespace Go.Proofs.YtiobegoiehjfiaaGreat
open Go.RowKit

set_option maxHeartbeats 1600000 in
theorem right13_any (a : Option Addr) (n cap : Nat) (xs : List Int) (w : World) (hv : Wd.In w (.slice a n cap) xs) :
    Calls Tryz.prog 17 #[.slice a n cap] w fun e w' => e = .returned (.bool (Wl.okC xs)) ∧ w = w' := by
  obtain ⟨a', n', cap', he, hl, hnc, hcap, hn, hc⟩ := hv
  cases he
  have HC := Wc.hid hc
  have HL := Wc.hid hl
  clear hc hl
  by_cases hlong : 4096 < n
  · have hR := Wc.hid (Wl.okC_long (xs := xs) (by rw [HL.out]; exact hlong))
    go_enter Tryz.func17, Tryz.ntmps17
    go_wp2_with fail
    go_ret
    exact ⟨by rw [hR.out]; rfl, rfl⟩
  go_enter Tryz.func17, Tryz.ntmps17
  go_wp2_with fail
  go_loop [10] (fun i => ∃ k : Nat, i = .int .i64 k ∧ k ≤ n ∧ Hid (∀ j, j < k → Wl.cB (xs.getD j 0) = true)) (fun i => n - (intOf i).toNat)
  case atStart => exact ⟨0, rfl, by omega, fun j h => by omega⟩
  case round =>
    obtain ⟨k, rfl, hk, HZ⟩ := hrel
    by_cases hlt : k < n
    · obtain ⟨b, off, rfl, hb, hcc⟩ := HC.out (by omega)
      have h1 := hcc k hlt
      clear hcc
      obtain ⟨x, hx⟩ : ∃ x, xs.getD k 0 = x := ⟨_, rfl⟩
      rw [hx] at h1
      have HX := Wc.hid hx
      clear hx
      by_cases hlo : x < 0
      · have hR := Wc.hid (Wl.okC_bad (xs := xs) (k := k) (by rw [HL.out]; exact hlt) (.inl (by rw [HX.out]; exact hlo)))
        go_wp2_with fail
        go_ret
        exact ⟨by rw [hR.out]; rfl, rfl⟩
      by_cases hhi : 2147483647 < x
      · have hR := Wc.hid (Wl.okC_bad (xs := xs) (k := k) (by rw [HL.out]; exact hlt) (.inr (by rw [HX.out]; exact hhi)))
        go_wp2_with fail
        go_ret
        exact ⟨by rw [hR.out]; rfl, rfl⟩
      have HP := Wc.hid (Wl.cB_iff.2 ⟨by omega, by omega⟩ : Wl.cB x = true)
      go_wp2_with fail
      go_round
      case rel =>
        refine ⟨k + 1, by go_num, by omega, fun j hj => ?_⟩
        by_cases hjk : j = k
        · subst hjk; rw [HX.out]; exact HP.out
        · exact HZ.out j (by omega)
      case measure => simp [intOf]; omega
    · obtain rfl : k = n := by omega
      have hR := Wc.hid (Wl.okC_all (xs := xs) (by rw [HL.out]; omega) (fun j hj => HZ.out j (by rw [HL.out] at hj; exact hj)))
      go_wp2_with fail
      go_ret
      exact ⟨by rw [hR.out]; rfl, rfl⟩

theorem made_ints (n : Nat) : (madeCells #[Value.int .i64 0] n).toList = List.replicate n (Value.int .i64 0) := by
  refine List.ext_getElem? fun i => ?_
  rw [Array.getElem?_toList]
  by_cases h : i < n
  · simp [madeCells, h, Nat.mod_one]
  · simp [madeCells, h]

set_option maxHeartbeats 1600000 in
/-- What a copy of one's own is. -/
theorem copied13_any (a : Option Addr) (n cap : Nat) (xs : List Int) (w : World) (hv : Wd.In w (.slice a n cap) xs) :
    Calls Tryz.prog 18 #[.slice a n cap] w fun e w' => ∃ g, e = .returned (.slice (some ⟨g, 0, none⟩) n n) ∧ w.heap.size ≤ g ∧ Wv.Ov (Value.int .i64) 3 w.heap.size w' (.slice (some ⟨g, 0, none⟩) n n) xs ∧ Below w.heap.size w w' := by
  have hn : n ≤ 17592186044416 := by obtain ⟨_, _, _, h1, _, _, _, h5, _⟩ := hv; cases h1; exact h5
  have hl := Wv.rv_len hv
  obtain ⟨i, hi, hzz⟩ := Option.map_eq_some_iff.1 Tryz.infoI
  have hmk := fun w => run_make_row' (P := Tryz.prog) 22 3 (.int .i64 0) 8 Tryz.underlying22 Tryz.infoI rfl .i64 .i64 n (by omega) (by omega) w
  have hbA := (Below.refl w.heap.size w).alloc (Nat.le_refl _) (.cells (madeCells #[Value.int .i64 0] n) 3)
  have hvA := hv.keep hbA
  have hg : (w.alloc (.cells (madeCells #[Value.int .i64 0] n) 3)).heap[w.heap.size]? = some (.cells (madeCells #[Value.int .i64 0] n) 3 (0, 0)) := by show (w.heap.push _)[_]? = _; simp
  have hz : (madeCells #[Value.int .i64 0] n).toList = List.replicate n (.int .i64 0) := made_ints n
  have hfin : ∃ w2, Sem.run Tryz.prog (Builtin.copy_ #[22, 22] 3 #[.slice (some ⟨w.heap.size, 0, none⟩) n n, .slice a n cap]) (w.alloc (.cells (madeCells #[Value.int .i64 0] n) 3)) = .ok (goInt n) w2 ∧ Wv.Ov (Value.int .i64) 3 w.heap.size w2 (.slice (some ⟨w.heap.size, 0, none⟩) n n) xs ∧ Below w.heap.size w w2 := by
    have hsz : (Tryz.prog.info? 3).map (·.size) = some 1 := by rw [hi]; rw [Option.map_some, (Prod.mk.inj (Prod.mk.inj hzz).2).1]
    by_cases hy : n = 0
    · subst hy
      obtain rfl := List.eq_nil_of_length_eq_zero hl
      have hrun := run_copy_none (P := Tryz.prog) (w.alloc (.cells (madeCells #[Value.int .i64 0] 0) 3)) 22 22 3 3 (some ⟨w.heap.size, 0, none⟩) a 0 0 0 cap Tryz.underlying22 hsz (Nat.zero_min _)
      refine ⟨_, hrun, ⟨⟨rfl, .inr ⟨w.heap.size, 0, _, rfl, Nat.le_refl _, hg, by simp, by unfold maxLen; omega, ?_, ?_⟩⟩, by simp⟩, hbA⟩
      · rw [← Array.length_toList, hz]; simp
      · rfl
    · obtain ⟨a', n', c', he, -, h3, h4, h5, h6⟩ := hvA
      cases he
      obtain ⟨b, off, rfl, hlt, hc⟩ := h6 (by omega)
      have hrun := run_copy_row (P := Tryz.prog) (w.alloc (.cells (madeCells #[Value.int .i64 0] n) 3)) 22 22 3 3 w.heap.size 0 n n ⟨b, off, none⟩ n cap (madeCells #[Value.int .i64 0] n) 3 (xs.map (Value.int .i64)) Tryz.underlying22 hsz hg (by
          rw [List.length_map, hl]; exact (Nat.min_self n).symm) (by
          intro j v hj
          have hjn : j < n := by have := (List.getElem?_eq_some_iff.1 hj).1; simpa [hl] using this
          rw [Wc.add_none, hc j hjn]; simpa [hl, hjn] using hj) (by rw [List.length_map, ← Array.length_toList, hz]; simp [hl]) (by
          intro v hv; obtain ⟨x, _, rfl⟩ := List.mem_map.1 hv; rfl)
      rw [List.length_map, hl] at hrun
      refine ⟨_, hrun, ⟨⟨by simp, .inr ⟨w.heap.size, n, _, by rw [hl], Nat.le_refl _, setRow_heap _ _ _ _ 3 _ hg, by rw [hl]; exact Nat.le_refl _, by unfold maxLen; omega, ?_, ?_⟩⟩, by rw [hl]; exact hn⟩, below_setRow hbA (Nat.le_refl _) _⟩
      · rw [hz]; simp [hl]
      · rw [hz]; simp [hl, List.take_of_length_le]
  obtain ⟨w2, hrun, hO, hB⟩ := hfin
  have HO := Wc.hid hO
  have HB := Wc.hid hB
  clear hO hB hbA hvA hv hg hz hi hzz
  go_enter Tryz.func18, Tryz.ntmps18
  go_wp2
  go_ret
  exact ⟨_, rfl, Nat.le_refl _, HO.out, HB.out⟩

theorem ov_set {base g n k : Nat} (i : Nat) {w : World} {xs : List Int} (h : Wv.Ov (Value.int .i64) 3 base w (.slice (some ⟨g, 0, none⟩) n k) xs) (z : Int) : Wv.Ov (Value.int .i64) 3 base (w.setCell ⟨g, i, none⟩ (.int .i64 z)) (.slice (some ⟨g, 0, none⟩) n k) (xs.set i z) := by
  obtain ⟨⟨h1, h2⟩, h3⟩ := h
  rcases h2 with ⟨hn, _⟩ | ⟨g', cap, cur, hv, hbg, hg, c1, c2, c3, c4⟩
  · cases hn
  · injection hv with e1 e2 e3
    injection e1 with e1
    injection e1 with e1
    subst e1 e2 e3
    refine ⟨⟨by simp, .inr ⟨g, k, cur.setIfInBounds i (.int .i64 z), by simp, hbg, heap_setCell_same w g i cur 3 _ hg, by simpa using c1, c2, by simpa using c3, ?_⟩⟩, by simpa using h3⟩
    rw [List.length_set, Array.toList_setIfInBounds, List.take_set, c4, List.map_set]

theorem ov_frozen {base g n k : Nat} (i : Nat) {w : World} {xs : List Int} (h : Wv.Ov (Value.int .i64) 3 base w (.slice (some ⟨g, 0, none⟩) n k) xs) : w.frozen? ⟨g, i, none⟩ = false := by
  rcases h.1.2 with ⟨hn, _⟩ | ⟨g', cap, cur, hv, hbg, hg, _⟩
  · cases hn
  · injection hv with e1
    injection e1 with e1
    injection e1 with e1
    subst e1
    simp [World.frozen?, hg]

set_option maxHeartbeats 3200000 in
/-- What Free returns. -/
theorem free13_any (a : Option Addr) (n cap : Nat) (xs : List Int) (w : World) (hv : Wd.In w (.slice a n cap) xs) :
    Calls Tryz.prog 6 #[.slice a n cap] w fun e w' => Below w.heap.size w w' ∧ (Wl.okC xs = true → ∃ a' n' c', e = .returned (.tuple #[.slice a' n' c', .int .i64 0]) ∧ Wv.Ov (Value.int .i64) 3 w.heap.size w' (.slice a' n' c') (Wl.fre xs n)) ∧
      (Wl.okC xs = false → e = .returned (.tuple #[.slice none 0 0, .int .i64 1])) := by
  have HV := Wc.hid hv
  by_cases hok : Wl.okC xs = true
  · have HOK := Wc.hid hok
    have HL := Wc.hid (Wv.rv_len hv)
    have hn : n ≤ 4096 := by rw [← HL.out]; exact (Wl.okC_iff.1 hok).1
    clear hok hv
    go_enter Tryz.func6, Tryz.ntmps6
    go_wp2_with fail
    refine (right13_any _ _ _ xs _ HV.out).mono ?_
    rintro e w1 ⟨rfl, rfl⟩
    rw [HOK.out]
    go_wp2_with fail
    go_loopw [4, 5] (fun u i wr => ∃ (k : Nat) (a' : Option Addr) (n' c' : Nat), u = .slice a' n' c' ∧ i = .int .i64 k ∧ 2 ≤ k ∧ (k ≤ n ∨ k = 2) ∧ Hid (Wv.Ov (Value.int .i64) 3 w.heap.size wr (.slice a' n' c') (Wl.fre xs k)) ∧ Hid (Below w.heap.size w wr)) (fun _ i _ => n - (intOf i).toNat)
    case atStart => exact ⟨2, none, 0, 0, rfl, rfl, by omega, by omega, Wc.hid (by rw [Wl.fre_low _ _ (Nat.le_refl _)]; exact Wv.Ov.nil _ _ _), Wc.hid (Below.refl _ _)⟩
    case round =>
      obtain ⟨k, a', n', c', rfl, rfl, hk2, hk, OK, BK⟩ := hrel
      by_cases hlt : k < n
      · obtain ⟨x, hx⟩ : ∃ x, xs.getD k 0 = x := ⟨_, rfl⟩
        have h1 : ∃ b off, a = some ⟨b, off, none⟩ ∧ wr.cell? ⟨b, off + k, none⟩ = some (.int .i64 x) := by
          obtain ⟨_, _, _, he, -, -, -, -, hc⟩ := HV.out.keep BK.out
          cases he
          obtain ⟨b, off, rfl, -, hcc⟩ := hc (by omega)
          exact ⟨b, off, rfl, by rw [hcc k hlt, hx]⟩
        obtain ⟨b, off, rfl, h1⟩ := h1
        by_cases h0 : x = 0
        · subst h0
          have HE := Wc.hid (Wl.fre_yes (xs := xs) (k := k) ⟨hk2, hx⟩)
          have hl : (Wl.fre xs k).length ≤ 100000 := by have := Wl.fre_len xs k; omega
          obtain ⟨a2, n2, c2, w2, hrun, hO, hb2, -⟩ := push_wide wr wr.heap.size w.heap.size rfl (.slice a' n' c') (Wl.fre xs k) (k : Int) OK.out hl BK.out.size
          have HRUN := Wc.hid hrun
          have HO := Wc.hid hO
          have HB2 := Wc.hid ((BK.out.alloc BK.out.size (.cells #[.int .i64 (k : Int)] 3)).trans hb2)
          clear hrun hO hb2 hl hx
          go_wp2_with (at_builtin; refine Wv.wp_append HRUN.out rfl rfl rfl rfl ?_)
          go_roundw
          case rel => exact ⟨k + 1, a2, n2, c2, rfl, by go_num, by omega, by omega, Wc.hid (by rw [HE.out]; exact HO.out), HB2⟩
          case measure => simp [intOf]; omega
        · have HE := Wc.hid (Wl.fre_no (xs := xs) (k := k) (by rw [hx]; omega))
          have hz : (x == 0) = false := by simpa using h0
          clear hx
          go_wp2_with fail
          go_roundw
          case rel => exact ⟨k + 1, a', n', c', rfl, by go_num, by omega, by omega, Wc.hid (by rw [HE.out]; exact OK.out), BK⟩
          case measure => simp [intOf]; omega
      · have HE : Hid (Wl.fre xs k = Wl.fre xs n) := Wc.hid (by
          rcases hk with hk | rfl
          · rw [show k = n by omega]
          · rw [Wl.fre_low xs 2 (Nat.le_refl _), Wl.fre_low xs n (by omega)])
        go_wp2_with fail
        go_ret2
        exact ⟨BK.out, fun _ => ⟨a', n', c', rfl, by rw [← HE.out]; exact OK.out⟩, fun h => by rw [HOK.out] at h; cases h⟩
  · rw [Bool.not_eq_true] at hok
    have HOK := Wc.hid hok
    clear hok hv
    go_enter Tryz.func6, Tryz.ntmps6
    go_wp2_with fail
    refine (right13_any _ _ _ xs _ HV.out).mono ?_
    rintro e w1 ⟨rfl, rfl⟩
    rw [HOK.out]
    go_wp2_with fail
    go_ret2
    exact ⟨Below.refl _ _, fun h => (by rw [HOK.out] at h; cases h), fun _ => rfl⟩

set_option maxHeartbeats 3200000 in
/-- What moved returns: one more, one less. -/
theorem moved13_any (a : Option Addr) (n cap : Nat) (xs : List Int) (p last step : Int) (w : World) (hv : Wd.In w (.slice a n cap) xs) (hs : -1 ≤ step ∧ step ≤ 1) :
    Calls Tryz.prog 19 #[.slice a n cap, .int .i64 p, .int .i64 last, .int .i64 step] w fun e w' => Below w.heap.size w w' ∧ (Wl.movE xs p last = 0 → ∃ g, e = .returned (.tuple #[.slice (some ⟨g, 0, none⟩) n n, .int .i64 0]) ∧ w.heap.size ≤ g ∧ Wv.Ov (Value.int .i64) 3 w.heap.size w' (.slice (some ⟨g, 0, none⟩) n n) (xs.set p.toNat (xs.getD p.toNat 0 + step))) ∧
      (¬ Wl.movE xs p last = 0 → e = .returned (.tuple #[.slice none 0 0, .int .i64 (Wl.movE xs p last)])) := by
  have HV := Wc.hid hv
  have HL := Wc.hid (Wv.rv_len hv)
  obtain ⟨E, hE⟩ : ∃ E, Wl.movE xs p last = E := ⟨_, rfl⟩
  rw [hE]
  have HE := Wc.hid hE
  clear hE
  by_cases hok : Wl.okC xs = true
  · have HOK := Wc.hid hok
    have hn : n ≤ 4096 := by rw [← HL.out]; exact (Wl.okC_iff.1 hok).1
    by_cases hr : p < 0 ∨ (n : Int) ≤ p
    · obtain rfl : (3 : Int) = E := by
        have := HE.out
        unfold Wl.movE at this
        rwa [if_neg (by rw [hok]; simp), if_pos (by rw [HL.out]; exact hr)] at this
      clear hok hv
      rcases hr with hr | hr
      · go_enter Tryz.func19, Tryz.ntmps19
        go_wp2_with fail
        refine (right13_any _ _ _ xs _ HV.out).mono ?_
        rintro e w1 ⟨rfl, rfl⟩
        rw [HOK.out]
        go_wp2_with fail
        go_ret2
        exact ⟨Below.refl _ _, fun h => (by cases h), fun _ => rfl⟩
      · have hp0 : ¬ p < 0 := by omega
        go_enter Tryz.func19, Tryz.ntmps19
        go_wp2_with fail
        refine (right13_any _ _ _ xs _ HV.out).mono ?_
        rintro e w1 ⟨rfl, rfl⟩
        rw [HOK.out]
        go_wp2_with fail
        go_ret2
        exact ⟨Below.refl _ _, fun h => (by cases h), fun _ => rfl⟩
    · obtain ⟨P, rfl⟩ : ∃ P : Nat, p = P := ⟨p.toNat, by omega⟩
      have hP : P < n := by omega
      obtain ⟨x, hx⟩ : ∃ x, xs.getD P 0 = x := ⟨_, rfl⟩
      have hxb : 0 ≤ x ∧ x ≤ 2147483647 := by have := Wl.okC_at hok (k := P) (by rw [HL.out]; exact hP); rwa [hx] at this
      have hcell : ∃ b off, a = some ⟨b, off, none⟩ ∧ w.cell? ⟨b, off + P, none⟩ = some (.int .i64 x) := by
        obtain ⟨_, _, _, he, -, -, -, -, hc⟩ := hv
        cases he
        obtain ⟨b, off, rfl, -, hcc⟩ := hc (by omega)
        exact ⟨b, off, rfl, by rw [hcc P hP, hx]⟩
      obtain ⟨b, off, rfl, h1⟩ := hcell
      have hEv : (if x = last then (1 : Int) else 0) = E := by
        have := HE.out
        unfold Wl.movE at this
        rwa [if_neg (by rw [hok]; simp), if_neg (by rw [HL.out]; exact hr), Int.toNat_natCast, hx] at this
      clear hr hok hv
      by_cases hlast : x = last
      · rw [if_pos hlast] at hEv
        subst hlast hEv
        have hq : (x == x) = true := by simp
        clear hx
        go_enter Tryz.func19, Tryz.ntmps19
        go_wp2_with fail
        refine (right13_any _ _ _ xs _ HV.out).mono ?_
        rintro e w1 ⟨rfl, rfl⟩
        rw [HOK.out]
        go_wp2_with fail
        go_ret2
        exact ⟨Below.refl _ _, fun h => (by cases h), fun _ => rfl⟩
      · rw [if_neg hlast] at hEv
        subst hEv
        have hq : (x == last) = false := by simpa using hlast
        have HX := Wc.hid hx
        have HQ := Wc.hid hlast
        clear hx hlast
        go_enter Tryz.func19, Tryz.ntmps19
        go_wp2_with fail
        refine (right13_any _ _ _ xs _ HV.out).mono ?_
        rintro e w1 ⟨rfl, rfl⟩
        rw [HOK.out]
        go_wp2_with fail
        refine (copied13_any _ _ _ xs _ HV.out).mono ?_
        rintro e w2 ⟨g, rfl, hg, hO, hb⟩
        have h2 : w2.cell? ⟨g, P, none⟩ = some (.int .i64 x) := by
          have := (Wv.rv_cells (val := Value.int .i64) (d := (0 : Int)) hO.rv (by omega)).2 P hP
          rwa [Nat.zero_add, HX.out] at this
        have h3 := ov_frozen P hO
        have HO := Wc.hid (ov_set P hO (x + step))
        have HB := Wc.hid hb
        have HG := Wc.hid hg
        clear hO hb hg h1
        go_wp2_with fail
        go_ret2
        exact ⟨HB.out.setCell (p := ⟨g, P, none⟩) HG.out _, fun _ => ⟨g, rfl, HG.out, by rw [Int.toNat_natCast, HX.out]; exact HO.out⟩, fun h => absurd trivial h⟩
  · rw [Bool.not_eq_true] at hok
    obtain rfl : (1 : Int) = E := by
      have := HE.out
      unfold Wl.movE at this
      rwa [if_pos hok] at this
    have HOK := Wc.hid hok
    clear hok hv
    go_enter Tryz.func19, Tryz.ntmps19
    go_wp2_with fail
    refine (right13_any _ _ _ xs _ HV.out).mono ?_
    rintro e w1 ⟨rfl, rfl⟩
    rw [HOK.out]
    go_wp2_with fail
    go_ret2
    exact ⟨Below.refl _ _, fun h => (by cases h), fun _ => rfl⟩
end Go.Proofs.YtiobegoiehjfiaaGreat
