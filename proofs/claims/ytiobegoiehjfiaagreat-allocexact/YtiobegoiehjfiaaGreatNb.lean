/-
  AllocExact: what the statement's function returns.
-/
import Derived.Test.YtiobegoiehjfiaaGreatNa
import Derived.Test.YtiobegoiehjfiaaGreatKu
import Derived.Test.YtiobegoiehjfiaaGreatQd
namespace Go.Proofs.YtiobegoiehjfiaaGreat
open Go.RowKit

theorem hvyX (n : Nat) : Wd.heavyB n [] = !decide (n ≤ 19200) := by simp [Wd.heavyB]
theorem rwX (w : World) : Wd.Raw w none 0 0 [] := ⟨rfl, Nat.le_refl _, by omega, fun h => by omega⟩
theorem cn_page {xs : List Int} (H : Img xs) {w : World} {g m : Nat} (h : Wj.Cn w g m (rAll xs)) : Wj.Cn w g m (cnt xs) :=
  World.rowIs.congr h fun q _ => by rw [rAll_count H]

/-- A cell of a list of ints. -/
theorem in_cell {w : World} {a : Option Addr} {n cap k : Nat} {xs : List Int} (h : Wd.In w (.slice a n cap) xs) (hk : k < n) : ∃ b off, a = some ⟨b, off, none⟩ ∧ w.cell? ⟨b, off + k, none⟩ = some (.int .i64 (xs.getD k 0)) := by
  obtain ⟨_, _, _, he, -, -, -, -, hc⟩ := h
  cases he
  obtain ⟨b, off, rfl, -, hcc⟩ := hc (by omega)
  exact ⟨b, off, rfl, hcc k hk⟩
theorem ov_form {base e : Nat} {w : World} {v : Value} {xs : List Int} (h : Wv.Ov (Value.int .i64) e base w v xs) (h0 : 0 < xs.length) : ∃ g c, v = .slice (some ⟨g, 0, none⟩) xs.length c ∧ base ≤ g := by
  rcases h.1.2 with ⟨_, h1⟩ | ⟨g, cap, cur, rfl, hg, _⟩
  · omega
  · exact ⟨g, cap, rfl, hg⟩
theorem wrapS (z : Int) (h : -9223372036854775808 ≤ z ∧ z ≤ 9223372036854775807) : IntKind.i64.wrap z = z := by rw [IntKind.wrap_i64]; omega
theorem ov_other {base e g n c g2 Q : Nat} {z : Value} {w : World} {xs : List Int} (h : Wv.Ov (Value.int .i64) e base w (.slice (some ⟨g, 0, none⟩) n c) xs) (hne : g ≠ g2) : Wv.Ov (Value.int .i64) e base (w.setCell ⟨g2, Q, none⟩ z) (.slice (some ⟨g, 0, none⟩) n c) xs := by
  refine ⟨⟨h.1.1, ?_⟩, h.2⟩
  rcases h.1.2 with hn | ⟨g', cap, cur, hv, hbg, hg, rest⟩
  · exact .inl hn
  · have hv' := hv
    injection hv with e1
    injection e1 with e1
    injection e1 with e1
    subst e1
    exact .inr ⟨_, cap, cur, hv', hbg, by rw [Below.heap_setCell w ⟨g2, Q, none⟩ z g hne]; exact hg, rest⟩
theorem ov_lt {base e g n c : Nat} {w : World} {xs : List Int} (h : Wv.Ov (Value.int .i64) e base w (.slice (some ⟨g, 0, none⟩) n c) xs) : g < w.heap.size := by
  rcases h.1.2 with ⟨h1, _⟩ | ⟨g', cap, cur, hv, hg, hh, _⟩
  · cases h1
  · injection hv with e1
    injection e1 with e1
    injection e1 with e1
    subst e1
    exact (Array.getElem?_eq_some_iff.1 hh).1

set_option maxHeartbeats 400000 in
/-- What TwinInts returns is memory of the call's own. -/
theorem twinInts_own (v : Value) (xs : List Int) (w : World) (hv : Wd.In w v xs) (hs : Wv.Shaped v) :
    Calls Tryz.prog 5 #[v] w fun e w' => ∃ a n c, e = .returned (.slice a n c) ∧ Wv.Ov (Value.int .i64) 3 w.heap.size w' (.slice a n c) xs ∧ Below w.heap.size w w' := by
  obtain ⟨i0, hi, hz0, hz1, hz2⟩ := info_parts infoI
  have hlen : xs.length ≤ 17592186044416 := by obtain ⟨_, n, _, _, h, _, _, h5, _⟩ := hv; omega
  obtain ⟨v', w', hrun, hO, hb⟩ := Wv.append_run (P := Tryz.prog) (ty := 22) (val := Value.int .i64) (d := 0) Tryz.underlying22 hi hz0 hz1 hz2 rfl (by omega) (fun _ => rfl) (Wv.Ov.nil 3 w.heap.size w) hv hs (by simpa using hlen) (Nat.le_refl _)
  have hO : Wv.Ov (Value.int .i64) 3 w.heap.size w' v' xs := hO
  have HO := Wc.hid hO
  have HB := Wc.hid hb
  clear hO hb hv
  go_enter Tryz.func5, Tryz.ntmps5
  go_wp2_with (at_builtin; refine Wv.wp_append hrun rfl rfl rfl rfl ?_)
  go_ret
  have hsh : ∃ a n c, v' = .slice a n c := by
    rcases HO.out.shaped with rfl | ⟨_, _, _, rfl⟩
    · exact ⟨_, _, _, rfl⟩
    · exact ⟨_, _, _, rfl⟩
  obtain ⟨a, n, c, rfl⟩ := hsh
  exact ⟨a, n, c, rfl, HO.out, HB.out⟩

set_option maxRecDepth 100000 in
set_option maxHeartbeats 3200000 in
theorem allocExact_far (a : Option Addr) (n cap : Nat) (p q : Int) (ai : Option Addr) (ni ci : Nat) (w : World) (hn : 400 < n ∧ n ≤ 4096 ∨ 4106 < n) :
    Calls Tryz.prog 3 #[.slice a n cap, .int .i64 p, .int .i64 q, .slice ai ni ci] w fun e w' => e = .returned (.bool true) ∧ Below w.heap.size w w' := by
  rcases hn with ⟨h1, h2⟩ | h1
  · go_enter Tryz.func3, Tryz.ntmps3
    go_wp2_with fail
    go_ret
    exact ⟨rfl, Below.refl _ _⟩
  · have h2 : 400 < n := by omega
    have h3 : ¬ n ≤ 4096 := by omega
    go_enter Tryz.func3, Tryz.ntmps3
    go_wp2_with fail
    go_ret
    exact ⟨rfl, Below.refl _ _⟩

set_option maxRecDepth 100000 in
set_option maxHeartbeats 3200000 in
theorem allocExact_heavy (a : Option Addr) (n cap : Nat) (p q : Int) (ai : Option Addr) (ni ci : Nat) (w : World) (hn : n ≤ 400 ∨ 4096 < n ∧ n ≤ 4106) (hh : 19200 < ni) :
    Calls Tryz.prog 3 #[.slice a n cap, .int .i64 p, .int .i64 q, .slice ai ni ci] w fun e w' => e = .returned (.bool true) ∧ Below w.heap.size w w' := by
  have hv : Wd.heavyB ni [] = true := by rw [hvyX]; simp; omega
  rcases hn with h1 | ⟨h1, h2⟩
  · have h2 : ¬ 400 < n := by omega
    have h3 : ¬ 4106 < n := by omega
    go_enter Tryz.func3, Tryz.ntmps3
    go_wp2_with fail
    refine (heavy_raw _ _ _ _ _ _ [] _ (rwX _)).mono ?_
    rintro e w1 ⟨rfl, rfl⟩
    rw [hv]
    go_wp2_with fail
    go_ret
    exact ⟨rfl, Below.refl _ _⟩
  · have h3 : 400 < n := by omega
    have h4 : ¬ n ≤ 4096 := by omega
    have h5 : ¬ 4106 < n := by omega
    go_enter Tryz.func3, Tryz.ntmps3
    go_wp2_with fail
    refine (heavy_raw _ _ _ _ _ _ [] _ (rwX _)).mono ?_
    rintro e w1 ⟨rfl, rfl⟩
    rw [hv]
    go_wp2_with fail
    go_ret
    exact ⟨rfl, Below.refl _ _⟩
end Go.Proofs.YtiobegoiehjfiaaGreat
