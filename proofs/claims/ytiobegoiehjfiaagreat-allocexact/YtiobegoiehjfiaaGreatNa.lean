/-
  What alloc's functions return, told alike whether they answer or refuse; the page's Free and Right.
-/
import Derived.Test.YtiobegoiehjfiaaGreatLw
import Derived.Test.YtiobegoiehjfiaaGreatYa
import Derived.Test.YtiobegoiehjfiaaGreatXa
namespace Wl
/-- Why counts are refused. -/
def frE (xs : List Int) : Int := if okC xs = true then 0 else 1
/-- What of counts is free, none where they are refused. -/
def frL (xs : List Int) : List Int := if okC xs = true then fre xs xs.length else []
/-- What is moved, none where it is refused. -/
def movL (xs : List Int) (p last step : Int) : List Int := if movE xs p last = 0 then xs.set p.toNat (xs.getD p.toNat 0 + step) else []
/-- What is taken, and the others. -/
def tkA (xs : List Int) (z : Int) : List Int := if tkE xs z = 0 then xs.take z.toNat else []
def tkB (xs : List Int) (z : Int) : List Int := if tkE xs z = 0 then xs.drop z.toNat else []
theorem tkE_zero {xs : List Int} {z : Int} (h0 : ¬ z < 0) (h1 : ¬ (xs.length : Int) < z) : tkE xs z = 0 := by
  unfold tkE; rw [if_neg h0, if_neg h1]
theorem tkE_low {xs : List Int} {z : Int} (h0 : z < 0) : tkE xs z = 1 := by
  unfold tkE; rw [if_pos h0]
theorem tkE_far {xs : List Int} {z : Int} (h0 : ¬ z < 0) (h1 : (xs.length : Int) < z) : tkE xs z = 9 := by
  unfold tkE; rw [if_neg h0, if_pos h1]
theorem movE_bad {xs : List Int} {p last : Int} (h : okC xs = false) : movE xs p last = 1 := by unfold movE; rw [if_pos h]
theorem movE_far {xs : List Int} {p last : Int} (h : okC xs = true) (hp : p < 0 ∨ (xs.length : Int) ≤ p) : movE xs p last = 3 := by
  unfold movE; rw [if_neg (by rw [h]; simp), if_pos hp]
theorem movE_at {xs : List Int} {p last : Int} (h : okC xs = true) (hp : ¬ (p < 0 ∨ (xs.length : Int) ≤ p)) : movE xs p last = if xs.getD p.toNat 0 = last then 1 else 0 := by
  unfold movE; rw [if_neg (by rw [h]; simp), if_neg hp]
theorem movL_no {xs : List Int} {p last step : Int} (h : ¬ movE xs p last = 0) : movL xs p last step = [] := by unfold movL; rw [if_neg h]
theorem movL_yes {xs : List Int} {p last step : Int} (h : movE xs p last = 0) : movL xs p last step = xs.set p.toNat (xs.getD p.toNat 0 + step) := by unfold movL; rw [if_pos h]
end Wl
namespace Go.Proofs.YtiobegoiehjfiaaGreat
open Go.RowKit

theorem free13_all (a : Option Addr) (n cap : Nat) (xs : List Int) (w : World) (hv : Wd.In w (.slice a n cap) xs) :
    Calls Tryz.prog 6 #[.slice a n cap] w fun e w' => ∃ a' n' c', e = .returned (.tuple #[.slice a' n' c', .int .i64 (Wl.frE xs)]) ∧ Wd.In w' (.slice a' n' c') (Wl.frL xs) ∧ Below w.heap.size w w' := by
  have hl := Wv.rv_len hv
  refine (free13_any a n cap xs w hv).mono ?_
  rintro e w1 ⟨hb, hy, hn⟩
  by_cases h : Wl.okC xs = true
  · obtain ⟨a', n', c', rfl, hO⟩ := hy h
    exact ⟨a', n', c', by unfold Wl.frE; rw [if_pos h], by unfold Wl.frL; rw [if_pos h, hl]; exact hO.rv, hb⟩
  · obtain rfl := hn (by simpa using h)
    exact ⟨none, 0, 0, by unfold Wl.frE; rw [if_neg h], by unfold Wl.frL; rw [if_neg h]; exact Wv.Rv.nil _, hb⟩

theorem more13_all (a : Option Addr) (n cap : Nat) (xs : List Int) (p : Int) (w : World) (hv : Wd.In w (.slice a n cap) xs) :
    Calls Tryz.prog 8 #[.slice a n cap, .int .i64 p] w fun e w' => ∃ a' n' c', e = .returned (.tuple #[.slice a' n' c', .int .i64 (Wl.movE xs p 2147483647)]) ∧ Wd.In w' (.slice a' n' c') (Wl.movL xs p 2147483647 1) ∧ Below w.heap.size w w' := by
  refine (more13_any a n cap xs p w hv).mono ?_
  rintro e w1 ⟨hb, hy, hn⟩
  by_cases h : Wl.movE xs p 2147483647 = 0
  · obtain ⟨g, rfl, -, hO⟩ := hy h
    exact ⟨_, _, _, by rw [h], by rw [Wl.movL_yes h]; exact hO.rv, hb⟩
  · obtain rfl := hn h
    exact ⟨none, 0, 0, rfl, by rw [Wl.movL_no h]; exact Wv.Rv.nil _, hb⟩

theorem less13_all (a : Option Addr) (n cap : Nat) (xs : List Int) (p : Int) (w : World) (hv : Wd.In w (.slice a n cap) xs) :
    Calls Tryz.prog 9 #[.slice a n cap, .int .i64 p] w fun e w' => ∃ a' n' c', e = .returned (.tuple #[.slice a' n' c', .int .i64 (Wl.movE xs p 0)]) ∧ Wd.In w' (.slice a' n' c') (Wl.movL xs p 0 (-1)) ∧ Below w.heap.size w w' := by
  refine (less13_any a n cap xs p w hv).mono ?_
  rintro e w1 ⟨hb, hy, hn⟩
  by_cases h : Wl.movE xs p 0 = 0
  · obtain ⟨g, rfl, -, hO⟩ := hy h
    exact ⟨_, _, _, by rw [h], by rw [Wl.movL_yes h]; exact hO.rv, hb⟩
  · obtain rfl := hn h
    exact ⟨none, 0, 0, rfl, by rw [Wl.movL_no h]; exact Wv.Rv.nil _, hb⟩

theorem take13_all (a : Option Addr) (n cap : Nat) (xs : List Int) (z : Int) (w : World) (hv : Wd.In w (.slice a n cap) xs) :
    Calls Tryz.prog 7 #[.slice a n cap, .int .i64 z] w fun e w' => ∃ a1 n1 c1 a2 n2 c2, e = .returned (.tuple #[.slice a1 n1 c1, .slice a2 n2 c2, .int .i64 (Wl.tkE xs z)]) ∧ Wd.In w' (.slice a1 n1 c1) (Wl.tkA xs z) ∧ Wd.In w' (.slice a2 n2 c2) (Wl.tkB xs z) ∧ Below w.heap.size w w' := by
  have hl := Wv.rv_len hv
  by_cases h0 : z < 0
  · refine (take_low a n cap z w h0).mono ?_
    rintro e w1 ⟨rfl, rfl⟩
    have hE := Wl.tkE_low (xs := xs) h0
    exact ⟨none, 0, 0, none, 0, 0, by rw [hE], by unfold Wl.tkA; rw [if_neg (by rw [hE]; decide)]; exact Wv.Rv.nil _, by unfold Wl.tkB; rw [if_neg (by rw [hE]; decide)]; exact Wv.Rv.nil _, Below.refl _ _⟩
  by_cases h1 : (n : Int) < z
  · refine (take_far a n cap z w h1).mono ?_
    rintro e w1 ⟨rfl, rfl⟩
    have hE := Wl.tkE_far (xs := xs) h0 (by rw [hl]; exact h1)
    exact ⟨none, 0, 0, none, 0, 0, by rw [hE], by unfold Wl.tkA; rw [if_neg (by rw [hE]; decide)]; exact Wv.Rv.nil _, by unfold Wl.tkB; rw [if_neg (by rw [hE]; decide)]; exact Wv.Rv.nil _, Below.refl _ _⟩
  · have hE := Wl.tkE_zero (xs := xs) h0 (by rw [hl]; exact h1)
    obtain ⟨k, rfl⟩ : ∃ k : Nat, z = k := ⟨z.toNat, by omega⟩
    refine (take_yes a n cap k xs w hv (by omega)).mono ?_
    rintro e w1 ⟨hb, g, h, rfl, hO, hO'⟩
    exact ⟨_, _, _, _, _, _, by rw [hE], by unfold Wl.tkA; rw [if_pos hE]; exact hO.rv, by unfold Wl.tkB; rw [if_pos hE]; exact hO'.rv, hb⟩

set_option maxHeartbeats 3200000 in
/-- What the page's Free returns. -/
theorem refFree_any (a : Option Addr) (n cap : Nat) (xs : List Int) (w : World) (hv : Wd.In w (.slice a n cap) xs) (hn : n ≤ 100000) :
    Calls Tryz.prog 12 #[.slice a n cap] w fun e w' => ∃ a' n' c', e = .returned (.slice a' n' c') ∧ Wd.In w' (.slice a' n' c') (Wl.fre xs n) ∧ Below w.heap.size w w' := by
  have HV := Wc.hid hv
  clear hv
  go_enter Tryz.func12, Tryz.ntmps12
  go_wp2_with fail
  go_loopw [3, 4] (fun u i wr => ∃ (k : Nat) (a' : Option Addr) (n' c' : Nat), u = .slice a' n' c' ∧ i = .int .i64 k ∧ 2 ≤ k ∧ (k ≤ n ∨ k = 2) ∧ Hid (Wv.Ov (Value.int .i64) 3 w.heap.size wr (.slice a' n' c') (Wl.fre xs k)) ∧ Hid (Below w.heap.size w wr)) (fun _ i _ => n - (intOf i).toNat)
  case atStart => exact ⟨2, none, 0, 0, rfl, rfl, by omega, by omega, Wc.hid (by rw [Wl.fre_low _ _ (Nat.le_refl _)]; exact Wv.Ov.nil _ _ _), Wc.hid (Below.refl _ _)⟩
  case round =>
    obtain ⟨k, a', n', c', rfl, rfl, hk2, hk, OK, BK⟩ := hrel
    by_cases hlt : k < n
    · obtain ⟨x, hx⟩ : ∃ x, xs.getD k 0 = x := ⟨_, rfl⟩
      have h1 : ∃ b off, a = some ⟨b, off, none⟩ ∧ wr.cell? ⟨b, off + k, none⟩ = some (.int .i64 x) := by
        obtain ⟨_, _, _, he, -, -, -, -, hc⟩ := HV.out.keep BK.out
        cases he
        obtain ⟨b, off, rfl, -, hcc⟩ := hc (by omega)
        exact ⟨b, off, rfl, by rw [hcc k hlt, hx]⟩
      obtain ⟨b, off, rfl, h1⟩ := h1
      by_cases h0 : x = 0
      · subst h0
        have HE := Wc.hid (Wl.fre_yes (xs := xs) (k := k) ⟨hk2, hx⟩)
        have hl : (Wl.fre xs k).length ≤ 100000 := by have := Wl.fre_len xs k; omega
        obtain ⟨a2, n2, c2, w2, hrun, hO, hb2, -⟩ := push_wide wr wr.heap.size w.heap.size rfl (.slice a' n' c') (Wl.fre xs k) (k : Int) OK.out hl BK.out.size
        have HRUN := Wc.hid hrun
        have HO := Wc.hid hO
        have HB2 := Wc.hid ((BK.out.alloc BK.out.size (.cells #[.int .i64 (k : Int)] 3)).trans hb2)
        clear hrun hO hb2 hl hx
        go_wp2_with (at_builtin; refine Wv.wp_append HRUN.out rfl rfl rfl rfl ?_)
        go_roundw
        case rel => exact ⟨k + 1, a2, n2, c2, rfl, by go_num, by omega, by omega, Wc.hid (by rw [HE.out]; exact HO.out), HB2⟩
        case measure => simp [intOf]; omega
      · have HE := Wc.hid (Wl.fre_no (xs := xs) (k := k) (by rw [hx]; omega))
        have hz : (x == 0) = false := by simpa using h0
        clear hx
        go_wp2_with fail
        go_roundw
        case rel => exact ⟨k + 1, a', n', c', rfl, by go_num, by omega, by omega, Wc.hid (by rw [HE.out]; exact OK.out), BK⟩
        case measure => simp [intOf]; omega
    · have HE : Hid (Wl.fre xs k = Wl.fre xs n) := Wc.hid (by
        rcases hk with hk | rfl
        · rw [show k = n by omega]
        · rw [Wl.fre_low xs 2 (Nat.le_refl _), Wl.fre_low xs n (by omega)])
      go_wp2_with fail
      go_ret
      exact ⟨a', n', c', rfl, by rw [← HE.out]; exact OK.out.rv, BK.out⟩

set_option maxHeartbeats 1600000 in
/-- What the page's Right returns. -/
theorem refRight_any (a : Option Addr) (n cap : Nat) (xs : List Int) (w : World) (hv : Wd.In w (.slice a n cap) xs) :
    Calls Tryz.prog 15 #[.slice a n cap] w fun e w' => e = .returned (.bool (Wl.okC xs)) ∧ w = w' := by
  obtain ⟨a', n', cap', he, hl, hnc, hcap, hn, hc⟩ := hv
  cases he
  have HC := Wc.hid hc
  have HL := Wc.hid hl
  clear hc hl
  by_cases hlong : 4096 < n
  · have hR := Wc.hid (Wl.okC_long (xs := xs) (by rw [HL.out]; exact hlong))
    go_enter Tryz.func15, Tryz.ntmps15
    go_wp2_with fail
    go_ret
    exact ⟨by rw [hR.out]; rfl, rfl⟩
  go_enter Tryz.func15, Tryz.ntmps15
  go_wp2_with fail
  go_loop [3] (fun i => ∃ k : Nat, i = .int .i64 k ∧ k ≤ n ∧ Hid (∀ j, j < k → Wl.cB (xs.getD j 0) = true)) (fun i => n - (intOf i).toNat)
  case atStart => exact ⟨0, rfl, by omega, fun j h => by omega⟩
  case round =>
    obtain ⟨k, rfl, hk, HZ⟩ := hrel
    by_cases hlt : k < n
    · obtain ⟨b, off, rfl, hb, hcc⟩ := HC.out (by omega)
      have h1 := hcc k hlt
      clear hcc
      obtain ⟨x, hx⟩ : ∃ x, xs.getD k 0 = x := ⟨_, rfl⟩
      rw [hx] at h1
      have HX := Wc.hid hx
      clear hx
      go_wp2_with fail
      refine (in39_any _ _ _ _).mono ?_
      rintro e w1 ⟨rfl, rfl⟩
      rw [show (decide ((0 : Int) ≤ x) && decide (x ≤ 2147483647)) = Wl.cB x from rfl]
      cases hx : Wl.cB x
      · have hR := Wc.hid (Wl.okC_bad (xs := xs) (k := k) (by rw [HL.out]; exact hlt) (by
          rw [HX.out]
          by_cases h : x < 0
          · exact .inl h
          · refine .inr ?_
            by_cases h2 : x ≤ 2147483647
            · rw [Wl.cB_iff.2 ⟨by omega, h2⟩] at hx; cases hx
            · omega))
        clear hx
        go_wp2_with fail
        go_ret
        exact ⟨by rw [hR.out]; rfl, rfl⟩
      · have HP := Wc.hid hx
        clear hx
        go_wp2_with fail
        go_round
        case rel =>
          refine ⟨k + 1, by go_num, by omega, fun j hj => ?_⟩
          by_cases hjk : j = k
          · subst hjk; rw [HX.out]; exact HP.out
          · exact HZ.out j (by omega)
        case measure => simp [intOf]; omega
    · obtain rfl : k = n := by omega
      have hR := Wc.hid (Wl.okC_all (xs := xs) (by rw [HL.out]; omega) (fun j hj => HZ.out j (by rw [HL.out] at hj; exact hj)))
      go_wp2_with fail
      go_ret
      exact ⟨by rw [hR.out]; rfl, rfl⟩
end Go.Proofs.YtiobegoiehjfiaaGreat
