/-
  What alloc's More, Less and Take return, for every input.
-/
import Derived.Test.YtiobegoiehjfiaaGreatLa
import Derived.Test.YtiobegoiehjfiaaGreatQd
import Derived.Deep.RegionHeld3
namespace Wv
theorem Ov.base {α : Type} {val : α → Go.Value} {e b1 b0 : Nat} {w : Go.World} {v : Go.Value} {xs : List α} (h : Ov val e b1 w v xs) (hb : b0 ≤ b1) : Ov val e b0 w v xs := by
  refine ⟨⟨h.1.1, ?_⟩, h.2⟩
  rcases h.1.2 with hn | ⟨g, cap, cur, hv, hbg, rest⟩
  · exact .inl hn
  · exact .inr ⟨g, cap, cur, hv, Nat.le_trans hb hbg, rest⟩
end Wv
namespace Go.Proofs.YtiobegoiehjfiaaGreat
open Go.RowKit

/-- What More (last the greatest, step 1) and Less (last 0, step -1) return. -/
def MovPost (n : Nat) (xs : List Int) (p last step : Int) (w : World) : Ending → World → Prop := fun e w' =>
  Below w.heap.size w w' ∧ (Wl.movE xs p last = 0 → ∃ g, e = .returned (.tuple #[.slice (some ⟨g, 0, none⟩) n n, .int .i64 0]) ∧ w.heap.size ≤ g ∧ Wv.Ov (Value.int .i64) 3 w.heap.size w' (.slice (some ⟨g, 0, none⟩) n n) (xs.set p.toNat (xs.getD p.toNat 0 + step))) ∧
    (¬ Wl.movE xs p last = 0 → e = .returned (.tuple #[.slice none 0 0, .int .i64 (Wl.movE xs p last)]))

set_option maxHeartbeats 1600000 in
theorem more13_any (a : Option Addr) (n cap : Nat) (xs : List Int) (p : Int) (w : World) (hv : Wd.In w (.slice a n cap) xs) :
    Calls Tryz.prog 8 #[.slice a n cap, .int .i64 p] w (MovPost n xs p 2147483647 1 w) := by
  unfold MovPost
  obtain ⟨E, hE⟩ : ∃ E, Wl.movE xs p 2147483647 = E := ⟨_, rfl⟩
  have hm := moved13_any a n cap xs p 2147483647 1 w hv (by omega)
  rw [hE] at hm ⊢
  clear hE
  by_cases hz : E = 0
  · subst hz
    go_enter Tryz.func8, Tryz.ntmps8
    go_wp2_with fail
    refine hm.mono ?_
    rintro e w1 ⟨hb, hy, -⟩
    obtain ⟨g, rfl, hg, hO⟩ := hy trivial
    have HO := Wc.hid hO
    have HB := Wc.hid hb
    have HG := Wc.hid hg
    clear hO hb hg hy hv
    go_wp2_with fail
    go_ret2
    exact ⟨HB.out, fun _ => ⟨g, rfl, HG.out, HO.out⟩, fun h => absurd trivial h⟩
  · have HZ := Wc.hid hz
    go_enter Tryz.func8, Tryz.ntmps8
    go_wp2_with fail
    refine hm.mono ?_
    rintro e w1 ⟨hb, -, hy⟩
    obtain rfl := hy HZ.out
    have HB := Wc.hid hb
    clear hb hy hv hz
    go_wp2_with fail
    go_ret2
    exact ⟨HB.out, fun h => absurd h HZ.out, fun _ => rfl⟩

set_option maxHeartbeats 1600000 in
theorem less13_any (a : Option Addr) (n cap : Nat) (xs : List Int) (p : Int) (w : World) (hv : Wd.In w (.slice a n cap) xs) :
    Calls Tryz.prog 9 #[.slice a n cap, .int .i64 p] w (MovPost n xs p 0 (-1) w) := by
  unfold MovPost
  obtain ⟨E, hE⟩ : ∃ E, Wl.movE xs p 0 = E := ⟨_, rfl⟩
  have hm := moved13_any a n cap xs p 0 (-1) w hv (by omega)
  rw [hE] at hm ⊢
  clear hE
  by_cases hz : E = 0
  · subst hz
    go_enter Tryz.func9, Tryz.ntmps9
    go_wp2_with fail
    refine hm.mono ?_
    rintro e w1 ⟨hb, hy, -⟩
    obtain ⟨g, rfl, hg, hO⟩ := hy trivial
    have HO := Wc.hid hO
    have HB := Wc.hid hb
    have HG := Wc.hid hg
    clear hO hb hg hy hv
    go_wp2_with fail
    go_ret2
    exact ⟨HB.out, fun _ => ⟨g, rfl, HG.out, HO.out⟩, fun h => absurd trivial h⟩
  · have HZ := Wc.hid hz
    go_enter Tryz.func9, Tryz.ntmps9
    go_wp2_with fail
    refine hm.mono ?_
    rintro e w1 ⟨hb, -, hy⟩
    obtain rfl := hy HZ.out
    have HB := Wc.hid hb
    clear hb hy hv hz
    go_wp2_with fail
    go_ret2
    exact ⟨HB.out, fun h => absurd h HZ.out, fun _ => rfl⟩

set_option maxHeartbeats 1600000 in
/-- What Take returns where it takes. -/
theorem take_yes (a : Option Addr) (n cap k : Nat) (xs : List Int) (w : World) (hv : Wd.In w (.slice a n cap) xs) (hk : k ≤ n) :
    Calls Tryz.prog 7 #[.slice a n cap, .int .i64 (k : Int)] w fun e w' => Below w.heap.size w w' ∧ ∃ g h, e = .returned (.tuple #[.slice (some ⟨g, 0, none⟩) k k, .slice (some ⟨h, 0, none⟩) (n - k) (n - k), .int .i64 0]) ∧
      Wv.Ov (Value.int .i64) 3 w.heap.size w' (.slice (some ⟨g, 0, none⟩) k k) (xs.take k) ∧ Wv.Ov (Value.int .i64) 3 w.heap.size w' (.slice (some ⟨h, 0, none⟩) (n - k) (n - k)) (xs.drop k) := by
  have hcap : n ≤ cap := by obtain ⟨_, _, _, he, _, h3, _⟩ := hv; cases he; exact h3
  have hs1 := fun w => slice_intsTo a n cap k hk hcap w
  have hs2 := fun w => slice_ints a n cap k hk w
  have HD := Wc.hid (in_drop hv k hk)
  have HT := Wc.hid (in_take hv k hk)
  obtain ⟨A, hA⟩ : ∃ A, (if cap = k then a else a.map (·.add k)) = A := ⟨_, rfl⟩
  rw [hA] at HD
  simp only [hA] at hs2
  have HV := Wc.hid hv
  clear hv hA hcap
  go_enter Tryz.func7, Tryz.ntmps7
  go_wp2_with fail
  go_region_held3 (fun w' => True) (go_keep) (first | (go_at_call_of 18 (Value.slice a k cap); refine (copied13_any _ _ _ (xs.take k) _ (by exact HT.out.keep (show_drew (Below.refl _ _)))).mono ?_; rintro e w1 ⟨g, rfl, hg1, hO1, hb1⟩) | (go_at_call 18; refine (copied13_any _ _ _ (xs.drop k) _ (by exact (HD.out.keep (show_drew (Below.refl _ _))).keep hb1)).mono ?_; rintro e w2 ⟨g2, rfl, hg2, hO2, hb2⟩) | fail)
  have B1 : Below w.heap.size w w1 := (show_drew (Below.refl w.heap.size w)).trans hb1
  have O1 := Wc.hid (hO1.keep hb2)
  have O2 := Wc.hid hO2
  have B2 := Wc.hid (Wc.step B1 (Nat.le_refl _) hb2)
  have G2 := Wc.hid B1.size
  clear hO1 hO2 hb1 hb2 hg1 hg2 B1
  go_wp2_with fail
  go_ret3
  exact ⟨B2.out, g, g2, rfl, O1.out, O2.out.base G2.out⟩

set_option maxHeartbeats 1600000 in
theorem take_low (a : Option Addr) (n cap : Nat) (z : Int) (w : World) (hz : z < 0) :
    Calls Tryz.prog 7 #[.slice a n cap, .int .i64 z] w fun e w' => e = .returned (.tuple #[.slice none 0 0, .slice none 0 0, .int .i64 1]) ∧ w = w' := by
  go_enter Tryz.func7, Tryz.ntmps7
  go_wp2_with fail
  go_ret3
  exact ⟨rfl, rfl⟩

set_option maxHeartbeats 1600000 in
theorem take_far (a : Option Addr) (n cap : Nat) (z : Int) (w : World) (hz : (n : Int) < z) :
    Calls Tryz.prog 7 #[.slice a n cap, .int .i64 z] w fun e w' => e = .returned (.tuple #[.slice none 0 0, .slice none 0 0, .int .i64 9]) ∧ w = w' := by
  have h0 : ¬ z < 0 := by omega
  go_enter Tryz.func7, Tryz.ntmps7
  go_wp2_with fail
  go_ret3
  exact ⟨rfl, rfl⟩
end Go.Proofs.YtiobegoiehjfiaaGreat
