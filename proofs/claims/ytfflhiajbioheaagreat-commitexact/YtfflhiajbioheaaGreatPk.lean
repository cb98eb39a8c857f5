/-
  Memory of the call's own that holds ints: a number put behind it, a copy of a list, a part of a list, a cell of it changed; what alloc.Take returns.
-/
import Derived.Test.YtfflhiajbioheaaGreatJL
import Derived.Test.YtfflhiajbioheaaGreatJB
import Derived.Test.YtfflhiajbioheaaGreatJG
import Derived.Deep.RegionHeld3
namespace Wl
/-- Why a list cannot be parted. -/
def tkE (xs : List Int) (n : Int) : Int := if n < 0 then 1 else if (xs.length : Int) < n then 9 else 0
end Wl
namespace Wv
theorem Ov.base {α : Type} {val : α → Go.Value} {e b1 b0 : Nat} {w : Go.World} {v : Go.Value} {xs : List α} (h : Ov val e b1 w v xs) (hb : b0 ≤ b1) : Ov val e b0 w v xs := by
  refine ⟨⟨h.1.1, ?_⟩, h.2⟩
  rcases h.1.2 with hn | ⟨g, cap, cur, hv, hbg, rest⟩
  · exact .inl hn
  · exact .inr ⟨g, cap, cur, hv, Nat.le_trans hb hbg, rest⟩
end Wv
namespace Go.Proofs.YtfflhiajbioheaaGreat
open Go.RowKit

/-- One number is put behind memory of the call's own; blocks of other things stay. -/
theorem push_wide (w : World) (gb base : Nat) (hgb : gb = w.heap.size) (v : Value) (l : List Int) (p : Int) (hO : Wv.Ov (Value.int .i64) 3 base w v l) (hl : l.length ≤ 100000) (hb : base ≤ w.heap.size) :
    ∃ a n c w', Sem.run Tryz.prog (Builtin.append_ #[28, 28] 28 #[v, .slice (some ⟨gb, 0, none⟩) 1 1]) (w.alloc (.cells #[.int .i64 p] 3)) = .ok (.slice a n c) w' ∧ Wv.Ov (Value.int .i64) 3 base w' (.slice a n c) (l ++ [p]) ∧ Below base (w.alloc (.cells #[.int .i64 p] 3)) w' ∧
      ∀ (b : Nat) (cs : Array Value) (T : TypeId) (fr : Nat × Nat), (w.alloc (.cells #[.int .i64 p] 3)).heap[b]? = some (.cells cs T fr) → T ≠ 3 → w'.heap[b]? = some (.cells cs T fr) := by
  subst hgb
  obtain ⟨i, hi, hzz⟩ := Option.map_eq_some_iff.1 Tryz.infoI
  simp only [Prod.mk.injEq] at hzz
  obtain ⟨hz, hs, hby⟩ := hzz
  have hO1 : Wv.Ov (Value.int .i64) 3 base (w.alloc (.cells #[.int .i64 p] 3)) v l := hO.keep ((Below.refl _ _).alloc (Nat.le_refl _) _)
  have hR : Wv.Rv (Value.int .i64) 0 (w.alloc (.cells #[.int .i64 p] 3)) (.slice (some ⟨w.heap.size, 0, none⟩) 1 1) [p] := Wv.Rv.lit w _ 3 1 [p] rfl (by omega) rfl
  obtain ⟨v', w', k1, k2, k3, k4⟩ := run_append_own (P := Tryz.prog) (w.alloc (.cells #[.int .i64 p] 3)) base 28 28 3 i (.int .i64 0) 1 8 Tryz.underlying28 hi hz hs hby rfl (by decide) v _ _ hO1.1 ⟨w.heap.size, 0, none⟩ 1 1 [.int .i64 p] rfl (by
      intro j c hj
      have hj0 : j = 0 := by have := (List.getElem?_eq_some_iff.1 hj).1; simpa using this
      subst hj0
      have := (Wv.rv_cells hR (by omega)).2 0 (by omega)
      rw [Wv.add_none]
      rw [this]
      simpa using hj) (by intro c hc; simp at hc; subst hc; rfl) (by unfold maxLen; omega) (by omega) (by simp; omega)
  have hO2 : Wv.Ov (Value.int .i64) 3 base w' v' (l ++ [p]) := ⟨by simpa using k2, by simp; omega⟩
  have hbl : Below base (w.alloc (.cells #[.int .i64 p] 3)) w' := (Below.refl _ _).grown k3 (by simp; omega) (fun g hg => (hO1.1.lt g hg).1)
  have hoth : ∀ (b : Nat) (cs : Array Value) (T : TypeId) (fr : Nat × Nat), (w.alloc (.cells #[.int .i64 p] 3)).heap[b]? = some (.cells cs T fr) → T ≠ 3 → w'.heap[b]? = some (.cells cs T fr) := by
    intro b cs T fr hh hT
    refine (k3.block b (Array.getElem?_eq_some_iff.1 hh).1 (fun ee => ?_)).trans hh
    rcases hO1.1.2 with ⟨rfl, _⟩ | ⟨g2, c2, cur2, rfl, _, hg2, _⟩
    · cases ee
    · have : b = g2 := by simpa [Value.ownBlock] using ee
      subst this
      rw [hh] at hg2
      cases hg2
      exact hT rfl
  rcases hO2.shaped with rfl | ⟨ad, n, c, rfl⟩
  · exact ⟨_, _, _, _, k1, hO2, hbl, hoth⟩
  · exact ⟨_, _, _, _, k1, hO2, hbl, hoth⟩

theorem made_ints (n : Nat) : (madeCells #[Value.int .i64 0] n).toList = List.replicate n (Value.int .i64 0) := by
  refine List.ext_getElem? fun i => ?_
  rw [Array.getElem?_toList]
  by_cases h : i < n
  · simp [madeCells, h, Nat.mod_one]
  · simp [madeCells, h]

set_option maxHeartbeats 1600000 in
/-- What a copy of one's own is. -/
theorem copied13_any (a : Option Addr) (n cap : Nat) (xs : List Int) (w : World) (hv : Wd.In w (.slice a n cap) xs) :
    Calls Tryz.prog 50 #[.slice a n cap] w fun e w' => ∃ g, e = .returned (.slice (some ⟨g, 0, none⟩) n n) ∧ w.heap.size ≤ g ∧ Wv.Ov (Value.int .i64) 3 w.heap.size w' (.slice (some ⟨g, 0, none⟩) n n) xs ∧ Below w.heap.size w w' := by
  have hn : n ≤ 17592186044416 := by obtain ⟨_, _, _, h1, _, _, _, h5, _⟩ := hv; cases h1; exact h5
  have hl := Wv.rv_len hv
  obtain ⟨i, hi, hzz⟩ := Option.map_eq_some_iff.1 Tryz.infoI
  have hmk := fun w => run_make_row' (P := Tryz.prog) 28 3 (.int .i64 0) 8 Tryz.underlying28 Tryz.infoI rfl .i64 .i64 n (by omega) (by omega) w
  have hbA := (Below.refl w.heap.size w).alloc (Nat.le_refl _) (.cells (madeCells #[Value.int .i64 0] n) 3)
  have hvA := hv.keep hbA
  have hg : (w.alloc (.cells (madeCells #[Value.int .i64 0] n) 3)).heap[w.heap.size]? = some (.cells (madeCells #[Value.int .i64 0] n) 3 (0, 0)) := by show (w.heap.push _)[_]? = _; simp
  have hz : (madeCells #[Value.int .i64 0] n).toList = List.replicate n (.int .i64 0) := made_ints n
  have hfin : ∃ w2, Sem.run Tryz.prog (Builtin.copy_ #[28, 28] 3 #[.slice (some ⟨w.heap.size, 0, none⟩) n n, .slice a n cap]) (w.alloc (.cells (madeCells #[Value.int .i64 0] n) 3)) = .ok (goInt n) w2 ∧ Wv.Ov (Value.int .i64) 3 w.heap.size w2 (.slice (some ⟨w.heap.size, 0, none⟩) n n) xs ∧ Below w.heap.size w w2 := by
    have hsz : (Tryz.prog.info? 3).map (·.size) = some 1 := by rw [hi]; rw [Option.map_some, (Prod.mk.inj (Prod.mk.inj hzz).2).1]
    by_cases hy : n = 0
    · subst hy
      obtain rfl := List.eq_nil_of_length_eq_zero hl
      have hrun := run_copy_none (P := Tryz.prog) (w.alloc (.cells (madeCells #[Value.int .i64 0] 0) 3)) 28 28 3 3 (some ⟨w.heap.size, 0, none⟩) a 0 0 0 cap Tryz.underlying28 hsz (Nat.zero_min _)
      refine ⟨_, hrun, ⟨⟨rfl, .inr ⟨w.heap.size, 0, _, rfl, Nat.le_refl _, hg, by simp, by unfold maxLen; omega, ?_, ?_⟩⟩, by simp⟩, hbA⟩
      · rw [← Array.length_toList, hz]; simp
      · rfl
    · obtain ⟨a', n', c', he, -, h3, h4, h5, h6⟩ := hvA
      cases he
      obtain ⟨b, off, rfl, hlt, hc⟩ := h6 (by omega)
      have hrun := run_copy_row (P := Tryz.prog) (w.alloc (.cells (madeCells #[Value.int .i64 0] n) 3)) 28 28 3 3 w.heap.size 0 n n ⟨b, off, none⟩ n cap (madeCells #[Value.int .i64 0] n) 3 (xs.map (Value.int .i64)) Tryz.underlying28 hsz hg (by
          rw [List.length_map, hl]; exact (Nat.min_self n).symm) (by
          intro j v hj
          have hjn : j < n := by have := (List.getElem?_eq_some_iff.1 hj).1; simpa [hl] using this
          rw [Wc.add_none, hc j hjn]; simpa [hl, hjn] using hj) (by rw [List.length_map, ← Array.length_toList, hz]; simp [hl]) (by
          intro v hv; obtain ⟨x, _, rfl⟩ := List.mem_map.1 hv; rfl)
      rw [List.length_map, hl] at hrun
      refine ⟨_, hrun, ⟨⟨by simp, .inr ⟨w.heap.size, n, _, by rw [hl], Nat.le_refl _, setRow_heap _ _ _ _ 3 _ hg, by rw [hl]; exact Nat.le_refl _, by unfold maxLen; omega, ?_, ?_⟩⟩, by rw [hl]; exact hn⟩, below_setRow hbA (Nat.le_refl _) _⟩
      · rw [hz]; simp [hl]
      · rw [hz]; simp [hl, List.take_of_length_le]
  obtain ⟨w2, hrun, hO, hB⟩ := hfin
  have HO := Wc.hid hO
  have HB := Wc.hid hB
  clear hO hB hbA hvA hv hg hz hi hzz
  go_enter Tryz.func50, Tryz.ntmps50
  go_wp2
  go_ret
  exact ⟨_, rfl, Nat.le_refl _, HO.out, HB.out⟩

theorem ov_set {base g n k : Nat} (i : Nat) {w : World} {xs : List Int} (h : Wv.Ov (Value.int .i64) 3 base w (.slice (some ⟨g, 0, none⟩) n k) xs) (z : Int) : Wv.Ov (Value.int .i64) 3 base (w.setCell ⟨g, i, none⟩ (.int .i64 z)) (.slice (some ⟨g, 0, none⟩) n k) (xs.set i z) := by
  obtain ⟨⟨h1, h2⟩, h3⟩ := h
  rcases h2 with ⟨hn, _⟩ | ⟨g', cap, cur, hv, hbg, hg, c1, c2, c3, c4⟩
  · cases hn
  · injection hv with e1 e2 e3
    injection e1 with e1
    injection e1 with e1
    subst e1 e2 e3
    refine ⟨⟨by simp, .inr ⟨g, k, cur.setIfInBounds i (.int .i64 z), by simp, hbg, heap_setCell_same w g i cur 3 _ hg, by simpa using c1, c2, by simpa using c3, ?_⟩⟩, by simpa using h3⟩
    rw [List.length_set, Array.toList_setIfInBounds, List.take_set, c4, List.map_set]

theorem ov_frozen {base g n k : Nat} (i : Nat) {w : World} {xs : List Int} (h : Wv.Ov (Value.int .i64) 3 base w (.slice (some ⟨g, 0, none⟩) n k) xs) : w.frozen? ⟨g, i, none⟩ = false := by
  rcases h.1.2 with ⟨hn, _⟩ | ⟨g', cap, cur, hv, hbg, hg, _⟩
  · cases hn
  · injection hv with e1
    injection e1 with e1
    injection e1 with e1
    subst e1
    simp [World.frozen?, hg]

set_option maxHeartbeats 1600000 in
/-- What Take returns where it takes. -/
theorem take_yes (a : Option Addr) (n cap k : Nat) (xs : List Int) (w : World) (hv : Wd.In w (.slice a n cap) xs) (hk : k ≤ n) :
    Calls Tryz.prog 31 #[.slice a n cap, .int .i64 (k : Int)] w fun e w' => Below w.heap.size w w' ∧ ∃ g h, e = .returned (.tuple #[.slice (some ⟨g, 0, none⟩) k k, .slice (some ⟨h, 0, none⟩) (n - k) (n - k), .int .i64 0]) ∧
      Wv.Ov (Value.int .i64) 3 w.heap.size w' (.slice (some ⟨g, 0, none⟩) k k) (xs.take k) ∧ Wv.Ov (Value.int .i64) 3 w.heap.size w' (.slice (some ⟨h, 0, none⟩) (n - k) (n - k)) (xs.drop k) := by
  have hcap : n ≤ cap := by obtain ⟨_, _, _, he, _, h3, _⟩ := hv; cases he; exact h3
  have hs1 := fun w => slice_intsTo a n cap k hk hcap w
  have hs2 := fun w => slice_ints a n cap k hk w
  have HD := Wc.hid (in_drop hv k hk)
  have HT := Wc.hid (in_take hv k hk)
  obtain ⟨A, hA⟩ : ∃ A, (if cap = k then a else a.map (·.add k)) = A := ⟨_, rfl⟩
  rw [hA] at HD
  simp only [hA] at hs2
  have HV := Wc.hid hv
  clear hv hA hcap
  go_enter Tryz.func31, Tryz.ntmps31
  go_wp2_with fail
  go_region_held3 (fun w' => True) (go_keep) (first | (go_at_call_of 50 (Value.slice a k cap); refine (copied13_any _ _ _ (xs.take k) _ (by exact HT.out.keep (show_drew (Below.refl _ _)))).mono ?_; rintro e w1 ⟨g, rfl, hg1, hO1, hb1⟩) | (go_at_call 50; refine (copied13_any _ _ _ (xs.drop k) _ (by exact (HD.out.keep (show_drew (Below.refl _ _))).keep hb1)).mono ?_; rintro e w2 ⟨g2, rfl, hg2, hO2, hb2⟩) | fail)
  have B1 : Below w.heap.size w w1 := (show_drew (Below.refl w.heap.size w)).trans hb1
  have O1 := Wc.hid (hO1.keep hb2)
  have O2 := Wc.hid hO2
  have B2 := Wc.hid (Wc.step B1 (Nat.le_refl _) hb2)
  have G2 := Wc.hid B1.size
  clear hO1 hO2 hb1 hb2 hg1 hg2 B1
  go_wp2_with fail
  go_ret3
  exact ⟨B2.out, g, g2, rfl, O1.out, O2.out.base G2.out⟩

set_option maxHeartbeats 1600000 in
theorem take_low (a : Option Addr) (n cap : Nat) (z : Int) (w : World) (hz : z < 0) :
    Calls Tryz.prog 31 #[.slice a n cap, .int .i64 z] w fun e w' => e = .returned (.tuple #[.slice none 0 0, .slice none 0 0, .int .i64 1]) ∧ w = w' := by
  go_enter Tryz.func31, Tryz.ntmps31
  go_wp2_with fail
  go_ret3
  exact ⟨rfl, rfl⟩

set_option maxHeartbeats 1600000 in
theorem take_far (a : Option Addr) (n cap : Nat) (z : Int) (w : World) (hz : (n : Int) < z) :
    Calls Tryz.prog 31 #[.slice a n cap, .int .i64 z] w fun e w' => e = .returned (.tuple #[.slice none 0 0, .slice none 0 0, .int .i64 9]) ∧ w = w' := by
  have h0 : ¬ z < 0 := by omega
  go_enter Tryz.func31, Tryz.ntmps31
  go_wp2_with fail
  go_ret3
  exact ⟨rfl, rfl⟩

theorem lowN (i : Int) (m : Nat) (h0 : 0 < m) (h : (m : Int) ≤ 9223372036854775807) : ∃ A : Nat, A < m ∧ wrap64 ((IntKind.u64.wrap i).tmod (m : Int)) = (A : Int) := by
  rw [IntKind.wrap_u64, Int.tmod_eq_emod_of_nonneg (by omega)]
  have h1 := Int.emod_nonneg (i % 18446744073709551616) (b := (m : Int)) (by omega)
  have h2 := Int.emod_lt_of_pos (i % 18446744073709551616) (b := (m : Int)) (by omega)
  exact ⟨((i % 18446744073709551616) % (m : Int)).toNat, by omega, by unfold wrap64; omega⟩

/-- A cell of a list of ints. -/
theorem in_cell {w : World} {a : Option Addr} {n cap k : Nat} {xs : List Int} (h : Wd.In w (.slice a n cap) xs) (hk : k < n) : ∃ b off, a = some ⟨b, off, none⟩ ∧ w.cell? ⟨b, off + k, none⟩ = some (.int .i64 (xs.getD k 0)) := by
  obtain ⟨_, _, _, he, -, -, -, -, hc⟩ := h
  cases he
  obtain ⟨b, off, rfl, -, hcc⟩ := hc (by omega)
  exact ⟨b, off, rfl, hcc k hk⟩

theorem ov_form {base e : Nat} {w : World} {v : Value} {xs : List Int} (h : Wv.Ov (Value.int .i64) e base w v xs) (h0 : 0 < xs.length) : ∃ g c, v = .slice (some ⟨g, 0, none⟩) xs.length c ∧ base ≤ g := by
  rcases h.1.2 with ⟨_, h1⟩ | ⟨g, cap, cur, rfl, hg, _⟩
  · omega
  · exact ⟨g, cap, rfl, hg⟩

theorem wrapS (z : Int) (h : -9223372036854775808 ≤ z ∧ z ≤ 9223372036854775807) : IntKind.i64.wrap z = z := by rw [IntKind.wrap_i64]; omega

theorem ov_other {base e g n c g2 Q : Nat} {z : Value} {w : World} {xs : List Int} (h : Wv.Ov (Value.int .i64) e base w (.slice (some ⟨g, 0, none⟩) n c) xs) (hne : g ≠ g2) : Wv.Ov (Value.int .i64) e base (w.setCell ⟨g2, Q, none⟩ z) (.slice (some ⟨g, 0, none⟩) n c) xs := by
  refine ⟨⟨h.1.1, ?_⟩, h.2⟩
  rcases h.1.2 with hn | ⟨g', cap, cur, hv, hbg, hg, rest⟩
  · exact .inl hn
  · have hv' := hv
    injection hv with e1
    injection e1 with e1
    injection e1 with e1
    subst e1
    exact .inr ⟨_, cap, cur, hv', hbg, by rw [Below.heap_setCell w ⟨g2, Q, none⟩ z g hne]; exact hg, rest⟩

theorem ov_lt {base e g n c : Nat} {w : World} {xs : List Int} (h : Wv.Ov (Value.int .i64) e base w (.slice (some ⟨g, 0, none⟩) n c) xs) : g < w.heap.size := by
  rcases h.1.2 with ⟨h1, _⟩ | ⟨g', cap, cur, hv, hg, hh, _⟩
  · cases h1
  · injection hv with e1
    injection e1 with e1
    injection e1 with e1
    subst e1
    exact (Array.getElem?_eq_some_iff.1 hh).1

set_option maxHeartbeats 400000 in
/-- What TwinInts returns is memory of the call's own. -/
theorem twinInts_own (v : Value) (xs : List Int) (w : World) (hv : Wd.In w v xs) (hs : Wv.Shaped v) :
    Calls Tryz.prog 6 #[v] w fun e w' => ∃ a n c, e = .returned (.slice a n c) ∧ Wv.Ov (Value.int .i64) 3 w.heap.size w' (.slice a n c) xs ∧ Below w.heap.size w w' := by
  obtain ⟨i0, hi, hz0, hz1, hz2⟩ := info_parts Tryz.infoI
  have hlen : xs.length ≤ 17592186044416 := by obtain ⟨_, n, _, _, h, _, _, h5, _⟩ := hv; omega
  obtain ⟨v', w', hrun, hO, hb⟩ := Wv.append_run (P := Tryz.prog) (ty := 28) (val := Value.int .i64) (d := 0) Tryz.underlying28 hi hz0 hz1 hz2 rfl (by omega) (fun _ => rfl) (Wv.Ov.nil 3 w.heap.size w) hv hs (by simpa using hlen) (Nat.le_refl _)
  have hO : Wv.Ov (Value.int .i64) 3 w.heap.size w' v' xs := hO
  have HO := Wc.hid hO
  have HB := Wc.hid hb
  clear hO hb hv
  go_enter Tryz.func6, Tryz.ntmps6
  go_wp2_with (at_builtin; refine Wv.wp_append hrun rfl rfl rfl rfl ?_)
  go_ret
  have hsh : ∃ a n c, v' = .slice a n c := by
    rcases HO.out.shaped with rfl | ⟨_, _, _, rfl⟩
    · exact ⟨_, _, _, rfl⟩
    · exact ⟨_, _, _, rfl⟩
  obtain ⟨a, n, c, rfl⟩ := hsh
  exact ⟨a, n, c, rfl, HO.out, HB.out⟩

end Go.Proofs.YtfflhiajbioheaaGreat
