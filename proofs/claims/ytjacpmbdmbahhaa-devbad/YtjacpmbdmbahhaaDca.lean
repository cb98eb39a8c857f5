/-
  What dev.Crash returns, for every input, errors and all.
-/
import Derived.Test.YtjacpmbdmbahhaaDcrash
namespace Go.Proofs.Ytjacpmbdmbahhaa
open Go.RowKit

set_option maxHeartbeats 1600000 in
theorem crash_any (ai : Option Addr) (ni ci : Nat) (a : Option Addr) (n cap : Nat) (cut : Int) (ka : Option Addr) (kn kc : Nat) (xs : List Int) (l : List Wd.Io) (ks : List Bool) (w : World) (hv : Wc.Bs w (.slice ai ni ci) xs) (hI : Wd.Is w (.slice a n cap) l) (hK : Kp w (.slice ka kn kc) ks) :
    Calls Try.prog 14 #[.slice ai ni ci, .slice a n cap, .int .i64 cut, .slice ka kn kc] w fun e w' => ∃ ax cx, e = .returned (.tuple #[.slice ax (Wd.crR xs l cut ks).length cx, .int .i64 (Wd.crE xs.length l cut)]) ∧ Wc.Bs w' (.slice ax (Wd.crR xs l cut ks).length cx) (Wd.crR xs l cut ks) ∧ Below w.heap.size w w' := by
  have hxl := Wc.bs_len hv
  have hll := Wd.is_len hI
  by_cases hz : Wd.stepsE ni l = 0
  · by_cases hc : 0 ≤ cut ∧ cut ≤ (n : Int)
    · obtain ⟨c, rfl⟩ : ∃ c : Nat, cut = c := ⟨cut.toNat, by omega⟩
      have e0 : Wd.crE xs.length l c = 0 := by unfold Wd.crE; rw [hxl, if_pos hz, hll, if_pos hc]
      have e1 : Wd.crR xs l c ks = Wd.crashL xs l c ks := by unfold Wd.crR; rw [if_pos e0]; rfl
      rw [e0, e1]
      refine (crash_ok ai ni ci a n cap c ka kn kc xs l ks w hv hI hK hz (by omega)).mono ?_
      rintro e w' ⟨g, rfl, hB, hb⟩
      have := Wc.bs_len hB
      rw [this]
      exact ⟨_, _, rfl, hB, hb⟩
    · have e0 : Wd.crE xs.length l cut = 1 := by unfold Wd.crE; rw [hxl, if_pos hz, hll, if_neg hc]
      have e1 : Wd.crR xs l cut ks = [] := by unfold Wd.crR; rw [if_neg (by rw [e0]; decide)]
      have hni : ni ≤ 140737488355328 := by obtain ⟨_, _, _, h1, _, _, _, h5, _⟩ := hv; cases h1; exact h5
      have hnn := (Wd.is_cap hI).2.2
      rw [e0, e1]
      have HI := Wc.hid hI
      clear hv hK hI hxl hll e0 e1
      by_cases h0 : cut < 0
      · have g0 : decide (cut < 0) = true := by simpa using h0
        clear hc h0
        go_enter Try.func14, Try.ntmps14
        go_wp2_with fail
        refine (steps_any _ _ _ _ _ _ l _ hni HI.out).mono ?_
        rintro e w1 ⟨rfl, hb1⟩
        rw [hz]
        go_wp2_with fail
        go_ret2
        exact ⟨_, _, rfl, Wc.Bs.nil _, hb1⟩
      · have g0 : decide (cut < 0) = false := by simpa using h0
        have g1 : decide ((n : Int) < cut) = true := by simp; omega
        clear hc h0
        go_enter Try.func14, Try.ntmps14
        go_wp2_with fail
        refine (steps_any _ _ _ _ _ _ l _ hni HI.out).mono ?_
        rintro e w1 ⟨rfl, hb1⟩
        rw [hz]
        go_wp2_with fail
        go_ret2
        exact ⟨_, _, rfl, Wc.Bs.nil _, hb1⟩
  · have e0 : Wd.crE xs.length l cut = Wd.stepsE ni l := by unfold Wd.crE; rw [hxl, if_neg hz]
    have e1 : Wd.crR xs l cut ks = [] := by unfold Wd.crR; rw [if_neg (by rw [e0]; exact hz)]
    have hni : ni ≤ 140737488355328 := by obtain ⟨_, _, _, h1, _, _, _, h5, _⟩ := hv; cases h1; exact h5
    rw [e0, e1]
    obtain ⟨E, hE⟩ : ∃ E, Wd.stepsE ni l = E := ⟨_, rfl⟩
    rw [hE] at hz ⊢
    have HE := Wc.hid hE
    have HI := Wc.hid hI
    have hz' : (E != 0) = true := by simpa using hz
    clear hv hK hI hxl hll hE hz e0 e1
    go_enter Try.func14, Try.ntmps14
    go_wp2_with fail
    refine (steps_any _ _ _ _ _ _ l _ hni HI.out).mono ?_
    rintro e w1 ⟨rfl, hb1⟩
    rw [HE.out]
    go_wp2_with fail
    go_ret2
    exact ⟨_, _, rfl, Wc.Bs.nil _, hb1⟩

end Go.Proofs.Ytjacpmbdmbahhaa
