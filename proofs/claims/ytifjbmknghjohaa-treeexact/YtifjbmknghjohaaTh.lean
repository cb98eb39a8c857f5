/-
  What tree.Map, tree.Nodes, tree.Sector, tree.Check return, for every input.
-/
import Derived.Test.YtifjbmknghjohaaTg
namespace Wt
open Go Go.RowKit

theorem tre_len {xs : List Int} {root : Int} {t : St} (h : tre xs root = some t) : t.sec.length = 512 := by
  unfold tre at h
  by_cases hr : root = 0
  · rw [if_pos hr] at h
    cases h
    exact List.length_replicate
  · rw [if_neg hr] at h
    by_cases hb : bsB root ((xs.length / 64 : Nat) : Int) = true
    · rw [if_pos hb] at h
      cases ht : met xs 3 root 0 s0 with
      | none => rw [ht] at h; cases h
      | some u =>
        rw [ht] at h
        have hl := met_secLen xs 3 root 0 s0 u ht
        by_cases ha : apB u.nodes u.sec (xs.length / 64) = true
        · have h' : (if apB u.nodes u.sec (xs.length / 64) = true then some u else none) = some t := h
          rw [if_pos ha] at h'
          cases h'
          rw [hl]; exact List.length_replicate
        · have h' : (if apB u.nodes u.sec (xs.length / 64) = true then some u else none) = some t := h
          rw [if_neg ha] at h'
          cases h'
    · rw [if_neg hb] at h; cases h

theorem treS_len {xs : List Int} {root : Int} (h : treE xs root = 0) : (treS xs root).length = 512 := by
  cases hd : Wd.devB xs.length
  · rw [(tre_dev hd).1] at h; cases h
  · cases ht : tre xs root with
    | none => rw [(tre_none hd ht).1] at h; cases h
    | some t => rw [(tre_some hd ht).2.2]; exact tre_len ht

/-- What Sector tells. -/
def secE (xs : List Int) (root sector : Int) : Int := if treE xs root = 0 then (if 0 ≤ sector ∧ sector < 512 then 0 else 3) else treE xs root
def secR (xs : List Int) (root sector : Int) : Int := if treE xs root = 0 ∧ 0 ≤ sector ∧ sector < 512 then (treS xs root).getD sector.toNat 0 else 0

/-- May it be a place of a map? -/
def plB (n x : Int) : Bool := x == 0 || bsB x n
def mapE (m : List Int) (n : Int) : Int := if m.length = 512 then (if m.all (plB n) = true then 0 else 1) else 2

end Wt
namespace Go.Proofs.Ytifjbmknghjohaa
open Go.RowKit

set_option maxHeartbeats 1600000 in
theorem map_any (v : Value) (xs : List Int) (root : Int) (w : World) (hv : Wc.Bs w v xs) :
    Calls Try.prog 10 #[v, .int .i64 root] w fun e w' => ∃ a n c, e = .returned (.tuple #[.slice a n c, .int .i64 (Wt.treE xs root)]) ∧ Wd.In w' (.slice a n c) (Wt.treS xs root) ∧ Below w.heap.size w w' := by
  have HV := Wc.hid hv
  clear hv
  go_enter Try.func10, Try.ntmps10
  go_wp2_with fail
  refine (find_any v xs root _ HV.out).mono ?_
  rintro e w1 ⟨a, n, c, a', n', c', rfl, h1, h2, hb⟩
  have HB := Wc.hid (hb.alloc hb.size (.cells #[.slice a n c, .slice a' n' c'] 62))
  have H2 := Wc.hid (h2.keep ((Below.refl _ _).alloc (Nat.le_refl _) (.cells #[.slice a n c, .slice a' n' c'] 62)))
  clear h1 h2 hb
  go_wp2_with fail
  go_ret2
  exact ⟨_, _, _, rfl, H2.out, HB.out⟩

set_option maxHeartbeats 1600000 in
theorem nodes_any (v : Value) (xs : List Int) (root : Int) (w : World) (hv : Wc.Bs w v xs) :
    Calls Try.prog 11 #[v, .int .i64 root] w fun e w' => ∃ a n c, e = .returned (.tuple #[.slice a n c, .int .i64 (Wt.treE xs root)]) ∧ Wd.In w' (.slice a n c) (Wt.treN xs root) ∧ Below w.heap.size w w' := by
  have HV := Wc.hid hv
  clear hv
  go_enter Try.func11, Try.ntmps11
  go_wp2_with fail
  refine (find_any v xs root _ HV.out).mono ?_
  rintro e w1 ⟨a, n, c, a', n', c', rfl, h1, h2, hb⟩
  have HB := Wc.hid (hb.alloc hb.size (.cells #[.slice a n c, .slice a' n' c'] 62))
  have H2 := Wc.hid (h1.keep ((Below.refl _ _).alloc (Nat.le_refl _) (.cells #[.slice a n c, .slice a' n' c'] 62)))
  clear h1 h2 hb
  go_wp2_with fail
  go_ret2
  exact ⟨_, _, _, rfl, H2.out, HB.out⟩

theorem tuple_ii {i i' j j' : Int} (h : i = i') (k : j = j') : Ending.returned (.tuple #[.int .i64 i, .int .i64 j]) = .returned (.tuple #[.int .i64 i', .int .i64 j']) := by rw [h, k]

set_option maxHeartbeats 1600000 in
theorem sector_any (v : Value) (xs : List Int) (root sector : Int) (w : World) (hv : Wc.Bs w v xs) :
    Calls Try.prog 12 #[v, .int .i64 root, .int .i64 sector] w fun e w' => e = .returned (.tuple #[.int .i64 (Wt.secR xs root sector), .int .i64 (Wt.secE xs root sector)]) ∧ Below w.heap.size w w' := by
  have HV := Wc.hid hv
  clear hv
  by_cases hz : Wt.treE xs root = 0
  · have HZ := Wc.hid hz
    clear hz
    by_cases hs : 0 ≤ sector ∧ sector < 512
    · obtain ⟨k, rfl⟩ : ∃ k : Nat, sector = k := ⟨sector.toNat, by omega⟩
      have hk : k < 512 := by omega
      have HL := Wc.hid (Wt.treS_len HZ.out)
      go_enter Try.func12, Try.ntmps12
      go_wp2_with fail
      refine (map_any v xs root _ HV.out).mono ?_
      rintro e w1 ⟨a, n, c, rfl, h1, hb⟩
      have hn : n = 512 := by rw [← Wv.rv_len h1]; exact HL.out
      subst hn
      rw [HZ.out]
      rcases h1.open with ⟨hnil, -⟩ | ⟨b, off, n', cap, hsl, -, -, -, -, -, -, hc⟩
      · have := HL.out; rw [hnil] at this; simp at this
      cases hsl
      have hck := hc k hk
      obtain ⟨y, hy⟩ : ∃ y, (Wt.treS xs root).getD k 0 = y := ⟨_, rfl⟩
      rw [hy] at hck
      have HY := Wc.hid hy
      have HB := Wc.hid hb
      clear hc h1 hy hb
      go_wp2_with fail
      go_ret2
      refine ⟨tuple_ii ?_ ?_, HB.out⟩
      · unfold Wt.secR
        rw [if_pos ⟨HZ.out, hs⟩, ← HY.out]; rfl
      · unfold Wt.secE
        rw [if_pos HZ.out, if_pos hs]
    · have hs' : sector < 0 ∨ 512 ≤ sector := by omega
      rcases hs' with hs' | hs'
      all_goals
        go_enter Try.func12, Try.ntmps12
        go_wp2_with fail
        refine (map_any v xs root _ HV.out).mono ?_
        rintro e w1 ⟨a, n, c, rfl, h1, hb⟩
        rw [HZ.out]
        have HB := Wc.hid hb
        clear h1 hb
        go_wp2_with fail
        go_ret2
        refine ⟨tuple_ii ?_ ?_, HB.out⟩
        · unfold Wt.secR
          rw [if_neg (fun h => hs h.2)]
        · unfold Wt.secE
          rw [if_pos HZ.out, if_neg hs]
  · obtain ⟨E, hE⟩ : ∃ E, Wt.treE xs root = E := ⟨_, rfl⟩
    have HZ := Wc.hid hz
    rw [hE] at hz
    have hz' : (E != 0) = true := by simpa using hz
    have HE := Wc.hid hE
    clear hE hz
    go_enter Try.func12, Try.ntmps12
    go_wp2_with fail
    refine (map_any v xs root _ HV.out).mono ?_
    rintro e w1 ⟨a, n, c, rfl, h1, hb⟩
    rw [HE.out]
    have HB := Wc.hid hb
    clear h1 hb
    go_wp2_with fail
    go_ret2
    refine ⟨tuple_ii ?_ ?_, HB.out⟩
    · unfold Wt.secR
      rw [if_neg (fun h => HZ.out h.1)]
    · unfold Wt.secE
      rw [if_neg HZ.out, HE.out]

theorem all_upto {P : Int → Bool} {m : List Int} (h : ∀ j, j < m.length → P (m.getD j 0) = true) : m.all P = true := by
  rw [List.all_eq_true]
  intro x hx
  obtain ⟨j, hj, rfl⟩ := List.getElem_of_mem hx
  have := h j hj
  rwa [getD_at hj] at this

theorem all_not {P : Int → Bool} {m : List Int} {k : Nat} (hk : k < m.length) (h : P (m.getD k 0) = false) : m.all P = false := by
  rw [List.all_eq_false]
  exact ⟨_, mem_getD hk, by rw [h]; decide⟩

set_option maxHeartbeats 1600000 in
theorem tcheck_any (v : Value) (m : List Int) (n : Int) (w : World) (hv : Wd.In w v m) :
    Calls Try.prog 13 #[v, .int .i64 n] w fun e w' => e = .returned (.int .i64 (Wt.mapE m n)) ∧ w = w' := by
  by_cases hl : m.length = 512
  · rcases hv.open with ⟨hnil, -⟩ | ⟨b, off, N, cap, rfl, -, hlen, -, -, hNN, -, hc⟩
    · rw [hnil] at hl; simp at hl
    have hN5 : ((N : Int) != 512) = false := by simp; omega
    have HLN := Wc.hid hlen
    have HC := Wc.hid hc
    have HL := Wc.hid hl
    clear hc hlen hl hv
    go_enter Try.func13, Try.ntmps13
    go_wp2_with fail
    go_loop [12] (fun i => ∃ k : Nat, i = .int .i64 k ∧ k ≤ N ∧ Hid (∀ j, j < k → Wt.plB n (m.getD j 0) = true)) (fun i => N - (intOf i).toNat)
    case atStart => exact ⟨0, rfl, by omega, fun j h => by omega⟩
    case round =>
      obtain ⟨k, rfl, hk, HZ⟩ := hrel
      by_cases hlt : k < N
      · have h1 := HC.out k hlt
        obtain ⟨x, hx⟩ : ∃ x, m.getD k 0 = x := ⟨_, rfl⟩
        rw [hx] at h1
        have HX := Wc.hid hx
        clear hx
        cases hz : (x != 0)
        · have hx0 : x = 0 := by simpa using hz
          have HP : Hid (Wt.plB n x = true) := Wc.hid (by rw [hx0]; rfl)
          clear hx0
          go_wp2_with fail
          go_round
          case rel =>
            refine ⟨k + 1, by go_num, by omega, fun j hj => ?_⟩
            by_cases hjk : j = k
            · subst hjk; rw [HX.out]; exact HP.out
            · exact HZ.out j (by omega)
          case measure => simp [intOf]; omega
        · have hx0 : (x == 0) = false := by simpa using hz
          cases hb : Wt.bsB x n
          · have HP : Hid (Wt.plB n x = false) := Wc.hid (by unfold Wt.plB; rw [hx0, hb]; rfl)
            have HBB := Wc.hid hb
            clear hx0 hb
            go_wp2_with fail
            refine (behind_any x n _).mono ?_
            rintro e w1 ⟨rfl, rfl⟩
            rw [HBB.out]
            go_wp2_with fail
            go_ret
            refine ⟨ret_int ?_, rfl⟩
            unfold Wt.mapE
            rw [if_pos HL.out, all_not (k := k) (by rw [HLN.out]; exact hlt) (by rw [HX.out]; exact HP.out)]
            rfl
          · have HP : Hid (Wt.plB n x = true) := Wc.hid (by unfold Wt.plB; rw [hx0, hb]; rfl)
            have HBB := Wc.hid hb
            clear hx0 hb
            go_wp2_with fail
            refine (behind_any x n _).mono ?_
            rintro e w1 ⟨rfl, rfl⟩
            rw [HBB.out]
            go_wp2_with fail
            go_round
            case rel =>
              refine ⟨k + 1, by go_num, by omega, fun j hj => ?_⟩
              by_cases hjk : j = k
              · subst hjk; rw [HX.out]; exact HP.out
              · exact HZ.out j (by omega)
            case measure => simp [intOf]; omega
      · go_wp2_with fail
        go_ret
        refine ⟨ret_int ?_, rfl⟩
        unfold Wt.mapE
        rw [if_pos HL.out, if_pos (all_upto fun j hj => HZ.out j (by rw [HLN.out] at hj; omega))]
  · obtain ⟨a, k, cap, rfl, hlen, -⟩ := hv
    have hk : ((k : Int) != 512) = true := by simp; omega
    have HL := Wc.hid hl
    clear hl hlen
    go_enter Try.func13, Try.ntmps13
    go_wp2_with fail
    go_ret
    refine ⟨ret_int ?_, rfl⟩
    unfold Wt.mapE
    rw [if_neg HL.out]

end Go.Proofs.Ytifjbmknghjohaa
