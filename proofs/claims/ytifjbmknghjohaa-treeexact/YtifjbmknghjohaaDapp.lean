/-
  What dev.Apply, dev.Read, the page's Block return, for every input.
-/
import Derived.Test.YtifjbmknghjohaaDall
namespace Wd
open Go Go.RowKit

/-- What Apply tells. -/
def appR (xs : List Int) (l : List Io) : List Int := if stepsE xs.length l = 0 then app xs l else []
/-- What Read tells. -/
def rdE (n : Nat) (p : Int) : Int := if devB n then (if 0 ≤ p ∧ p < (n : Int) / 64 then 0 else 3) else 2
def rdR (xs : List Int) (p : Int) : List Int := if rdE xs.length p = 0 then (xs.drop (p.toNat * 64)).take 64 else []

theorem stepsE_zero {n : Nat} {l : List Io} (h : stepsE n l = 0) : devB n = true ∧ l.length ≤ 1048576 ∧ l.all (okIo ((n / 64 : Nat) : Int)) = true := by
  unfold stepsE at h
  by_cases h1 : devB n = true
  · rw [if_pos h1] at h
    by_cases h2 : l.length ≤ 1048576
    · rw [if_pos h2] at h
      have : chkN n = ((n / 64 : Nat) : Int) := by simp [chkN, h1]
      rw [this] at h
      by_cases h3 : l.all (okIo ((n / 64 : Nat) : Int)) = true
      · exact ⟨h1, h2, h3⟩
      · rw [if_neg h3] at h; exact absurd h (by decide)
    · rw [if_neg h2] at h; exact absurd h (by decide)
  · rw [if_neg h1] at h; exact absurd h (by decide)

theorem one_length {m : Nat} {xs : List Int} {x : Io} (hm : 0 < m) (hx : xs.length = m * 64) (h : okIo m x = true) : (one xs x).length = xs.length := by
  obtain ⟨p, hp, h1, -⟩ := ok_fits h hm
  rw [one_pos hp]
  exact lay_length _ _ _ (by omega)

theorem app_length {m : Nat} (hm : 0 < m) : ∀ (l : List Io) (xs : List Int), xs.length = m * 64 → l.all (okIo m) = true → (app xs l).length = xs.length
  | [], _, _, _ => rfl
  | x :: l, xs, hx, h => by
    have h1 : okIo m x = true ∧ l.all (okIo m) = true := by simpa using h
    have e := one_length hm hx h1.1
    show (app (one xs x) l).length = _
    rw [app_length hm l (one xs x) (by omega) h1.2, e]

end Wd
namespace Go.Proofs.Ytifjbmknghjohaa
open Go.RowKit

theorem tuple2 {a : Option Addr} {n c : Nat} {i j : Int} (h : i = j) : Ending.returned (.tuple #[.slice a n c, .int .i64 i]) = .returned (.tuple #[.slice a n c, .int .i64 j]) := by rw [h]

set_option maxHeartbeats 1600000 in
theorem apply_any (ai : Option Addr) (ni ci : Nat) (a : Option Addr) (n cap : Nat) (xs : List Int) (l : List Wd.Io) (w : World) (hv : Wc.Bs w (.slice ai ni ci) xs) (hI : Wd.Is w (.slice a n cap) l) :
    Calls Try.prog 22 #[.slice ai ni ci, .slice a n cap] w fun e w' => ∃ ax cx, e = .returned (.tuple #[.slice ax (Wd.appR xs l).length cx, .int .i64 (Wd.stepsE xs.length l)]) ∧ Wc.Bs w' (.slice ax (Wd.appR xs l).length cx) (Wd.appR xs l) ∧ Below w.heap.size w w' := by
  have hni : ni ≤ 140737488355328 := by obtain ⟨_, _, _, h1, _, _, _, h5, _⟩ := hv; cases h1; exact h5
  have hl := Wc.bs_len hv
  have HV := Wc.hid hv
  have HI := Wc.hid hI
  clear hv hI
  by_cases hz : Wd.stepsE xs.length l = 0
  · have HZ := Wc.hid hz
    have HL := Wc.hid hl
    rw [hl] at hz
    clear hl
    go_enter Try.func22, Try.ntmps22
    go_wp2_with fail
    refine (steps_any _ _ _ _ _ _ l _ hni HI.out).mono ?_
    rintro e w1 ⟨rfl, hb1⟩
    rw [hz]
    go_wp2_with fail
    refine (copied_any _ _ _ xs _ (HV.out.keep hb1)).mono ?_
    rintro e w2 ⟨g, rfl, hg, hO, hb2⟩
    have HO := Wc.hid hO
    have hst := Wd.stepsE_zero HZ.out
    have hd := Wd.devB_iff.1 hst.1
    rw [HL.out] at hd hst
    have HB2 := Wc.hid (Wc.step hb1 (Nat.le_refl _) hb2)
    have HI1 := Wc.hid (HI.out.keep hb1)
    have HST := Wc.hid hst.2.2
    have HD := Wc.hid hd
    have HB1 := Wc.hid hb1
    have HBB := Wc.hid hb2
    clear hO hst hd hb2 hb1 HZ
    go_wp2_with fail
    refine (writeAll_any w1 w2 g ni ni (ni / 64) a n cap xs l (by have := HD.out; omega) (by have := HD.out; omega) HBB.out HO.out HI1.out HST.out).mono ?_
    rintro e w3 ⟨rfl, hO3, hb3⟩
    go_wp2_with fail
    go_ret2
    have e1 : Wd.appR xs l = Wd.app xs l := by unfold Wd.appR; rw [HL.out, if_pos hz]
    have e2 : (Wd.app xs l).length = ni := Wc.bs_len hO3.bs
    rw [e1, e2, HL.out]
    exact ⟨_, _, tuple2 hz.symm, hO3.bs, Wc.step HB1.out (Nat.le_refl _) hb3⟩
  · have HZ := Wc.hid hz
    have HL := Wc.hid hl
    rw [hl] at hz
    obtain ⟨E, hE⟩ : ∃ E, Wd.stepsE ni l = E := ⟨_, rfl⟩
    rw [hE] at hz
    have HE := Wc.hid hE
    clear hl hE
    go_enter Try.func22, Try.ntmps22
    go_wp2_with fail
    refine (steps_any _ _ _ _ _ _ l _ hni HI.out).mono ?_
    rintro e w1 ⟨rfl, hb1⟩
    rw [HE.out]
    have hz' : (E != 0) = true := by simpa using hz
    go_wp2_with fail
    go_ret2
    have e1 : Wd.appR xs l = [] := by unfold Wd.appR; rw [if_neg HZ.out]
    rw [e1, HL.out, HE.out]
    exact ⟨_, _, rfl, Wc.Bs.nil _, hb1⟩

theorem slice_bytes (a : Option Addr) (n cap q t : Nat) (i j : Int) (hi : i = q) (hj : j = t) (h : q ≤ t) (ht : t ≤ cap) (w : World) :
    (Instr.slice 22 (.slice a n cap) (some (.int .i64 i)) (some (.int .i64 j)) none).run Try.prog w = .ok (.slice (if cap = q then a else a.map (·.add q)) (t - q) (cap - q)) w := by
  subst hi hj
  have h0 := Try.sizeU8
  cases hq : Try.prog.info? 5 with
  | none => rw [hq] at h0; cases h0
  | some i =>
    rw [hq] at h0
    have hi : i.size = 1 := by simpa using h0
    have hqc : q ≤ cap := by omega
    simp [Instr.slice, run_underlying Try.underlying22, Instr.sliceBounds, run_sliceBound, sizeOf, typeInfo, hq, hi, ht, h]

theorem bs_part {w : World} {a : Option Addr} {n cap : Nat} {xs : List Int} (h : Wc.Bs w (.slice a n cap) xs) (q t : Nat) (hq : q ≤ t) (ht : t ≤ n) :
    Wc.Bs w (.slice (if cap = q then a else a.map (·.add q)) (t - q) (cap - q)) ((xs.drop q).take (t - q)) := by
  have hb := Wc.bs_bytes h
  obtain ⟨a', n', cap', h1, h2, h3, h4, h5, h6, h7⟩ := h
  cases h1
  refine ⟨_, t - q, cap - q, rfl, by simp; omega, by omega, by omega, by omega, fun x hx => hb x (List.mem_of_mem_drop (List.mem_of_mem_take hx)), fun h0 => ?_⟩
  obtain ⟨b, off, rfl, hb', hc⟩ := h7 (by omega)
  rw [if_neg (by omega)]
  refine ⟨b, off + q, by simp [Wc.add_none], hb', fun i hi => ?_⟩
  rw [Nat.add_assoc, hc (q + i) (by omega)]
  simp [hi]

set_option maxHeartbeats 1600000 in
theorem read_any (ai : Option Addr) (ni ci : Nat) (p : Int) (xs : List Int) (w : World) (hv : Wc.Bs w (.slice ai ni ci) xs) :
    Calls Try.prog 65 #[.slice ai ni ci, .int .i64 p] w fun e w' => ∃ ax cx, e = .returned (.tuple #[.slice ax (Wd.rdR xs p).length cx, .int .i64 (Wd.rdE xs.length p)]) ∧ Wc.Bs w' (.slice ax (Wd.rdR xs p).length cx) (Wd.rdR xs p) ∧ Below w.heap.size w w' := by
  have hni : ni ≤ 140737488355328 := by obtain ⟨_, _, _, h1, _, _, _, h5, _⟩ := hv; cases h1; exact h5
  have hl := Wc.bs_len hv
  have hcap := (Wc.bs_cap hv).1
  have HV := Wc.hid hv
  have HL := Wc.hid hl
  rw [hl]
  clear hv hl
  by_cases hd : Wd.devB ni = true
  · have hN := (Wd.chk_yes (Wd.devB_iff.1 hd)).1.symm
    have hE := (Wd.chk_yes (Wd.devB_iff.1 hd)).2.symm
    have hdd := Wd.devB_iff.1 hd
    obtain ⟨m, hm⟩ : ∃ m : Nat, ni / 64 = m := ⟨_, rfl⟩
    have hmi : (ni : Int) / 64 = (m : Int) := by omega
    rw [hmi] at hN
    by_cases hp : 0 ≤ p ∧ p < (m : Int)
    · obtain ⟨q, rfl⟩ : ∃ q : Nat, p = q := ⟨p.toNat, by omega⟩
      have e0 : Wd.rdE ni q = 0 := by unfold Wd.rdE; rw [if_pos hd, hmi, if_pos hp]
      have e1 : Wd.rdR xs q = (xs.drop (q * 64)).take 64 := by unfold Wd.rdR; rw [HL.out, if_pos e0]; rfl
      have e2 : ((xs.drop (q * 64)).take 64).length = 64 := by have := HL.out; simp; omega
      have ham : (decide ((0 : Int) ≤ (q : Int)) && decide ((q : Int) < (m : Int))) = true := by simp; omega
      have hs := slice_bytes ai ni ci (q * 64) (q * 64 + 64) ((q : Int) * 64) (((q : Int) + 1) * 64) (by omega) (by omega) (by omega) (by omega)
      have HP := Wc.hid (bs_part HV.out (q * 64) (q * 64 + 64) (by omega) (by omega))
      rw [show q * 64 + 64 - q * 64 = 64 by omega] at hs HP
      have hq : (q : Int) < 4096 := by omega
      rw [e1, e2, e0]
      clear e0 e1 e2 HV HL hp hmi hm hdd hd
      generalize (if ci = q * 64 then ai else Option.map (fun x => x.add (q * 64)) ai) = ap at hs HP
      go_enter Try.func65, Try.ntmps65
      go_wp2_with (first | (go_at_call 41; refine (check_any _ _ _ _ hni).mono ?_; rintro e w' ⟨rfl, rfl⟩; rw [hN, hE]) | (go_at_call 64; refine (among_any _ _ _).mono ?_; rintro e w' ⟨rfl, rfl⟩; rw [ham]) | (go_at_call 34; refine (copied_any _ _ _ _ _ HP.out).mono ?_; rintro e w2 ⟨g, rfl, hg, hO, hb2⟩))
      go_ret2
      exact ⟨_, _, rfl, hO.bs, hb2⟩
    · have e0 : Wd.rdE ni p = 3 := by unfold Wd.rdE; rw [if_pos hd, hmi, if_neg hp]
      have e1 : Wd.rdR xs p = [] := by unfold Wd.rdR; rw [HL.out, if_neg (by rw [e0]; decide)]
      have ham : (decide ((0 : Int) ≤ p) && decide (p < (m : Int))) = false := by rw [Bool.eq_false_iff]; simp; omega
      rw [e1, e0]
      clear e0 e1 HV HL hp hmi hm hdd hd
      go_enter Try.func65, Try.ntmps65
      go_wp2_with (first | (go_at_call 41; refine (check_any _ _ _ _ hni).mono ?_; rintro e w' ⟨rfl, rfl⟩; rw [hN, hE]) | (go_at_call 64; refine (among_any _ _ _).mono ?_; rintro e w' ⟨rfl, rfl⟩; rw [ham]))
      go_ret2
      exact ⟨_, _, rfl, Wc.Bs.nil _, Below.refl _ _⟩
  · have hE := (Wd.chk_no (fun h => hd (Wd.devB_iff.2 h))).2.symm
    have e0 : Wd.rdE ni p = 2 := by unfold Wd.rdE; rw [if_neg hd]
    have e1 : Wd.rdR xs p = [] := by unfold Wd.rdR; rw [HL.out, if_neg (by rw [e0]; decide)]
    rw [e1, e0]
    clear e0 e1 HV HL hd
    go_enter Try.func65, Try.ntmps65
    go_wp2_with (go_at_call 41; refine (check_any _ _ _ _ hni).mono ?_; rintro e w' ⟨rfl, rfl⟩; rw [hE])
    go_ret2
    exact ⟨_, _, rfl, Wc.Bs.nil _, Below.refl _ _⟩

set_option maxHeartbeats 1600000 in
theorem block_any (ai : Option Addr) (ni ci q : Nat) (xs : List Int) (w : World) (hv : Wc.Bs w (.slice ai ni ci) xs) (hq : q * 64 + 64 ≤ ni) :
    Calls Try.prog 24 #[.slice ai ni ci, .int .i64 q] w fun e w' => ∃ ax cx, e = .returned (.slice ax 64 cx) ∧ Wc.Bs w (.slice ax 64 cx) ((xs.drop (q * 64)).take 64) ∧ w = w' := by
  have hni : ni ≤ 140737488355328 := by obtain ⟨_, _, _, h1, _, _, _, h5, _⟩ := hv; cases h1; exact h5
  have hcap := (Wc.bs_cap hv).1
  have hs := slice_bytes ai ni ci (q * 64) (q * 64 + 64) ((q : Int) * 64) ((q : Int) * 64 + 64) (by omega) (by omega) (by omega) (by omega)
  have HP := Wc.hid (bs_part hv (q * 64) (q * 64 + 64) (by omega) (by omega))
  rw [show q * 64 + 64 - q * 64 = 64 by omega] at hs HP
  clear hv
  generalize (if ci = q * 64 then ai else Option.map (fun x => x.add (q * 64)) ai) = ap at hs HP
  go_enter Try.func24, Try.ntmps24
  go_wp2
  go_ret
  exact ⟨_, _, rfl, HP.out, rfl⟩

end Go.Proofs.Ytifjbmknghjohaa
