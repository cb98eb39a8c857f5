/-
  What open.Find, keep.Records and keep.State return, for every input; the statements' own wakes returns true.
-/
import Derived.Test.YtfdgeobopegeeaaQg
namespace Wi
theorem fnd_none {l : List Wr.Rec} {id : Int} (h : ∀ j, j < l.length → ((l.getD j Wr.r0).id == id && (l.getD j Wr.r0).kind == 0) = false) : fnd l id = none := by
  unfold fnd
  rw [List.findIdx?_eq_none_iff]
  intro x hx
  obtain ⟨j, hj, rfl⟩ := List.getElem_of_mem hx
  have := h j hj
  rwa [show l.getD j Wr.r0 = l[j] by simp [hj]] at this
theorem fnd_some {l : List Wr.Rec} {id : Int} {k : Nat} (hk : k < l.length) (h : ∀ j, j < k → ((l.getD j Wr.r0).id == id && (l.getD j Wr.r0).kind == 0) = false) (h1 : ((l.getD k Wr.r0).id == id && (l.getD k Wr.r0).kind == 0) = true) : fnd l id = some k := by
  unfold fnd
  rw [List.findIdx?_eq_some_iff_getElem]
  refine ⟨hk, by rwa [show l.getD k Wr.r0 = l[k] by simp [hk]] at h1, fun j hj => ?_⟩
  have := h j hj
  rw [show l.getD j Wr.r0 = l[j] by simp [show j < l.length by omega]] at this
  simpa using this
/-- Are two lists of records one? -/
def recsB (l m : List Wr.Rec) : Bool := l.length == m.length && (List.range l.length).all fun i => Go.Proofs.Ytfdgeobopegeeaa.recEq (l.getD i Wr.r0) (m.getD i Wr.r0)
theorem recsB_iff {l m : List Wr.Rec} : recsB l m = true ↔ l = m := by
  unfold recsB
  rw [Bool.and_eq_true, beq_iff_eq, List.all_eq_true]
  constructor
  · rintro ⟨h1, h2⟩
    apply List.ext_getElem h1
    intro i hi hi'
    have := h2 i (List.mem_range.2 hi)
    rw [Go.Proofs.Ytfdgeobopegeeaa.recEq_iff] at this
    simpa [hi, hi'] using this
  · rintro rfl
    exact ⟨rfl, fun i _ => Go.Proofs.Ytfdgeobopegeeaa.recEq_iff.2 rfl⟩
end Wi
namespace Go.Proofs.Ytfdgeobopegeeaa
open Go.RowKit

set_option maxRecDepth 100000 in
set_option maxHeartbeats 3200000 in
theorem krecs_pos (b off n c b' off' c' : Nat) (l m : List Wr.Rec) (w : World) (hn : n ≤ 1099511627776) (hl : l.length = n) (hm : m.length = n)
   (hc : ∀ i, i < n → Wi.Ra w b (off + i * 8) (l.getD i Wr.r0)) (hc' : ∀ i, i < n → Wi.Ra w b' (off' + i * 8) (m.getD i Wr.r0)) :
    Calls Try.prog 37 #[.slice (some ⟨b, off, none⟩) n c, .slice (some ⟨b', off', none⟩) n c'] w fun e w' => e = .returned (.bool (Wi.recsB l m)) ∧ Below w.heap.size w w' := by
  have HL := Wc.hid hl
  have HM := Wc.hid hm
  have HC := Wc.hid hc
  have HC' := Wc.hid hc'
  clear hl hm hc hc'
  go_enter Try.func37, Try.ntmps37
  go_wp2_with fail
  go_loopw [5] (fun i wr => ∃ k : Nat, i = .int .i64 k ∧ k ≤ n ∧ Hid (Below w.heap.size w wr) ∧ Hid (∀ j, j < k → l.getD j Wr.r0 = m.getD j Wr.r0)) (fun i _ => n - (intOf i).toNat)
  case atStart => exact ⟨0, rfl, by omega, Wc.hid (Below.refl _ _), Wc.hid (fun j h => by omega)⟩
  case round =>
    obtain ⟨k, rfl, hk, RB, RZ⟩ := hrel
    by_cases hlt : k < n
    · have hx := (HC.out k hlt).keep RB.out
      have hy := (HC'.out k hlt).keep RB.out
      obtain ⟨x, hxe⟩ : ∃ x, l.getD k Wr.r0 = x := ⟨_, rfl⟩
      obtain ⟨y, hye⟩ : ∃ y, m.getD k Wr.r0 = y := ⟨_, rfl⟩
      rw [hxe] at hx
      rw [hye] at hy
      have HX := Wc.hid hxe
      have HY := Wc.hid hye
      have ⟨d0, d1, d2, d3, d4, d5, d6, d7⟩ := hx
      have ⟨f0, f1, f2, f3, f4, f5, f6, f7⟩ := hy
      have hq := neq_rec x y
      obtain ⟨q, hqe⟩ : ∃ q, recEq x y = q := ⟨_, rfl⟩
      have HQ := Wc.hid hqe
      rw [hqe] at hq
      clear hx hy hxe hye hqe
      cases q
      · go_wp2_with fail
        go_quiet (fail)
        go_wp2_with fail
        go_ret
        refine ⟨ret_bool ?_, below_drewN RB.out _⟩
        cases e : Wi.recsB l m
        · rfl
        · have := Wi.recsB_iff.1 e
          have h3 := HQ.out
          rw [← HX.out, ← HY.out, this, recEq_iff.2 rfl] at h3
          cases h3
      · go_wp2_with fail
        go_quiet (fail)
        go_wp2_with fail
        go_roundw
        case rel =>
          refine ⟨k + 1, by go_num, by omega, Wc.hid (below_drewN RB.out _), Wc.hid (fun j hj => ?_)⟩
          by_cases e : j = k
          · subst e; rw [HX.out, HY.out]; exact recEq_iff.1 HQ.out
          · exact RZ.out j (by omega)
        case measure => simp [intOf]; omega
    · go_wp2_with fail
      go_ret
      refine ⟨ret_bool ?_, RB.out⟩
      symm
      rw [Wi.recsB_iff]
      have h1 := HL.out
      have h2 := HM.out
      apply List.ext_getElem (by rw [h1, h2])
      intro i hi hi'
      have := RZ.out i (by omega)
      simpa [hi, hi'] using this

set_option maxHeartbeats 400000 in
theorem krecs_nil (a a' : Option Addr) (cap cap' : Nat) (w : World) :
    Calls Try.prog 37 #[.slice a 0 cap, .slice a' 0 cap'] w fun e w' => e = .returned (.bool true) ∧ Below w.heap.size w w' := by
  go_enter Try.func37, Try.ntmps37
  go_wp2_with fail
  go_loopw [5] (fun i wr => i = .int .i64 0 ∧ Below w.heap.size w wr) (fun _ _ => 0)
  case atStart => exact ⟨rfl, Below.refl _ _⟩
  case round =>
    obtain ⟨rfl, hb⟩ := hrel
    go_wp2_with fail
    go_ret
    exact ⟨rfl, hb⟩

set_option maxHeartbeats 400000 in
theorem krecs_len (a a' : Option Addr) (n n' cap cap' : Nat) (w : World) (h : ((n : Int) != (n' : Int)) = true) :
    Calls Try.prog 37 #[.slice a n cap, .slice a' n' cap'] w fun e w' => e = .returned (.bool false) ∧ Below w.heap.size w w' := by
  go_enter Try.func37, Try.ntmps37
  go_wp2_with fail
  go_ret
  exact ⟨rfl, Below.refl _ _⟩

theorem krecs_any (v v' : Value) (l m : List Wr.Rec) (w : World) (hv : Wi.Rs w v l) (hv' : Wi.Rs w v' m) :
    Calls Try.prog 37 #[v, v'] w fun e w' => e = .returned (.bool (Wi.recsB l m)) ∧ Below w.heap.size w w' := by
  by_cases hlen : l.length = m.length
  · rcases hv.open with ⟨rfl, a, cap, rfl, _⟩ | ⟨b, off, n, cap, rfl, h0, hl, _, _, hn, _, hc⟩
    · obtain rfl : m = [] := List.eq_nil_of_length_eq_zero hlen.symm
      rcases hv'.open with ⟨_, a', cap', rfl, _⟩ | ⟨b, off, n, cap, rfl, h0, hl, _⟩
      · rw [show Wi.recsB [] [] = true from rfl]; exact krecs_nil a a' cap cap' w
      · simp at hl; omega
    · rcases hv'.open with ⟨rfl, a', cap', rfl, _⟩ | ⟨b', off', n', cap', rfl, h0', hl', _, _, _, _, hc'⟩
      · simp at hlen; subst hlen; simp at hl; omega
      · obtain rfl : n = n' := by omega
        exact krecs_pos b off n cap b' off' cap' l m w hn hl hl' hc hc'
  · have : Wi.recsB l m = false := by
      cases e : Wi.recsB l m
      · rfl
      · exact absurd (by rw [Wi.recsB_iff.1 e]) hlen
    rw [this]
    obtain ⟨a, n, cap, rfl, hl, -⟩ := hv
    obtain ⟨a', n', cap', rfl, hl', -⟩ := hv'
    exact krecs_len a a' n n' cap cap' w (by rw [bne_iff_ne]; omega)

/-- Are two states one? -/
def stEq (s s' : Ws.Sup) (t t' : Int) (l l' : List Wr.Rec) : Bool := supEq s s' && (t == t' && Wi.recsB l l')
theorem stEq_iff {s s' : Ws.Sup} {t t' : Int} {l l' : List Wr.Rec} : stEq s s' t t' l l' = true ↔ s = s' ∧ t = t' ∧ l = l' := by
  unfold stEq
  rw [Bool.and_eq_true, Bool.and_eq_true, supEq_iff, beq_iff_eq, Wi.recsB_iff]

set_option maxRecDepth 100000 in
set_option maxHeartbeats 3200000 in
theorem kstate_any (s s' : Ws.Sup) (t t' : Int) (a a' : Option Addr) (n c n' c' : Nat) (l l' : List Wr.Rec) (w : World) (hv : Wi.Rs w (.slice a n c) l) (hv' : Wi.Rs w (.slice a' n' c') l') :
    Calls Try.prog 18 #[stv s t (.slice a n c), stv s' t' (.slice a' n' c')] w fun e w' => e = .returned (.bool (stEq s s' t t' l l')) ∧ Below w.heap.size w w' := by
  have b1 : Below w.heap.size w (w.alloc (.cells #[.int .i64 s.gen, .int .i64 s.blocks, .int .i64 s.root, .int .i64 s.size, .int .i64 s.first, .int .i64 t, .slice a n c] 36)) := (Below.refl _ _).alloc (Nat.le_refl _) _
  have b2 : Below (w.alloc (.cells #[.int .i64 s.gen, .int .i64 s.blocks, .int .i64 s.root, .int .i64 s.size, .int .i64 s.first, .int .i64 t, .slice a n c] 36)).heap.size (w.alloc (.cells #[.int .i64 s.gen, .int .i64 s.blocks, .int .i64 s.root, .int .i64 s.size, .int .i64 s.first, .int .i64 t, .slice a n c] 36)) ((w.alloc (.cells #[.int .i64 s.gen, .int .i64 s.blocks, .int .i64 s.root, .int .i64 s.size, .int .i64 s.first, .int .i64 t, .slice a n c] 36)).alloc (.cells #[.int .i64 s'.gen, .int .i64 s'.blocks, .int .i64 s'.root, .int .i64 s'.size, .int .i64 s'.first, .int .i64 t', .slice a' n' c'] 36)) := (Below.refl _ _).alloc (Nat.le_refl _) _
  have ⟨z0, z1, z2, z3, z4, z5, z6⟩ := ((Zh.new w s t (.slice a n c)).keep b2).zc
  have Z2 := Zh.new (w.alloc (.cells #[.int .i64 s.gen, .int .i64 s.blocks, .int .i64 s.root, .int .i64 s.size, .int .i64 s.first, .int .i64 t, .slice a n c] 36)) s' t' (.slice a' n' c')
  rw [show (w.alloc (.cells #[.int .i64 s.gen, .int .i64 s.blocks, .int .i64 s.root, .int .i64 s.size, .int .i64 s.first, .int .i64 t, .slice a n c] 36)).heap.size = w.heap.size + 1 by simp] at Z2
  have ⟨y0, y1, y2, y3, y4, y5, y6⟩ := Z2.zc
  have B2 := Wc.hid (Wc.step b1 (Nat.le_refl _) b2)
  have V := Wc.hid ((hv.keep b1).keep b2)
  have V' := Wc.hid ((hv'.keep b1).keep b2)
  clear b1 b2 hv hv' Z2
  have hq := eql_sup s s'
  obtain ⟨q, hqe⟩ : ∃ q, supEq s s' = q := ⟨_, rfl⟩
  rw [hqe] at hq
  have HQ := Wc.hid hqe
  clear hqe
  unfold stv
  cases q
  · go_enter Try.func18, Try.ntmps18
    go_wp2_with fail
    go_ret
    exact ⟨ret_bool (by unfold stEq; rw [HQ.out]; rfl), B2.out⟩
  · cases ht : (t == t')
    · have HT := Wc.hid ht
      go_enter Try.func18, Try.ntmps18
      go_wp2_with fail
      go_ret
      exact ⟨ret_bool (by unfold stEq; rw [HQ.out, HT.out]; rfl), B2.out⟩
    · have HT := Wc.hid ht
      go_enter Try.func18, Try.ntmps18
      go_wp2_with fail
      refine (krecs_any _ _ l l' _ V.out V'.out).mono ?_
      rintro e w1 ⟨rfl, hb1⟩
      have HB := Wc.hid (Wc.step B2.out (Nat.le_refl _) hb1)
      obtain ⟨r, hr⟩ : ∃ r, Wi.recsB l l' = r := ⟨_, rfl⟩
      rw [hr]
      have HR := Wc.hid hr
      clear hr hb1
      go_wp2_with fail
      go_ret
      exact ⟨ret_bool (by unfold stEq; rw [HQ.out, HT.out, HR.out]; rfl), HB.out⟩

end Go.Proofs.Ytfdgeobopegeeaa
