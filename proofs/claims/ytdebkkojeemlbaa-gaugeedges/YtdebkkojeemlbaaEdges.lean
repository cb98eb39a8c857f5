/-
  The walk of the law GaugeEdges: for every int and every word of float64 it returns true and turns nothing that was there.
-/
import Derived.Test.YtdebkkojeemlbaaGdet
import Derived.Test.YtdebkkojeemlbaaGwake
import Derived.Deep.QuietTactic
import Derived.BigQuiet
namespace Wf

def edA (r x : Nat) : List Nat := [r, x, 13830554455654793216, 9218868437227405312, x, 9223372036854775808, 9218868437227405312, 18442240474082181120, 0, x]
def edB (r : Nat) : List Nat := [4607182418800017408, r, 4617315517961601024, 9218868437227405312, 9218868437227405312, 4607182418800017408, 4617315517961601024, 4617315517961601024, 0, 9223372036854775808]
def edC (r : Nat) : List Nat := [r, r, r, 4607182418800017408, 0, 0, 4607182418800017408, r, r, r]

theorem bad_nan {a b r : Nat} (hr : nan r = true) (h : bad a b = true) : sameB (shareG a b) r = true := by
  rw [shareG, if_pos h]; exact sameB_nan (by decide) hr

theorem inf_share {x : Nat} (hx : x < M64) (hn : nan x = false) (h0 : 0 ≤ key x) (h1 : key x ≤ 9094988921128908188) : shareG x 9218868437227405312 = 0 := by
  have ki : key 9218868437227405312 = 9218868437227405312 := by decide
  have ni : nan 9218868437227405312 = false := by decide
  have hb : bad x 9218868437227405312 = false := by
    unfold bad
    rw [hn, ni, ki, decide_eq_false (by omega), decide_eq_false (by omega)]; rfl
  rw [shareG, hb, if_neg (by decide), ki, if_neg (by omega)]
  by_cases h : key x = 0
  · rw [if_pos h]
  · rw [if_neg h]
    obtain ⟨a, b, c⟩ := pos_small hx hn (by omega)
    have hi := INF_eq
    have : Ieee.double.div x INF = some 0 := div_inf (by omega)
    rw [show (9218868437227405312 : Nat) = INF from rfl, this]; rfl

theorem edges {r x k : Nat} (hk : k < 10) (hr : nan r = true) (hx : x < M64) (hn : nan x = false) (h0 : 0 ≤ key x) (h1 : key x ≤ 9094988921128908188) : sameB (shareG ((edA r x).getD k 0) ((edB r).getD k 0)) ((edC r).getD k 0) = true := by
  have h : k = 0 ∨ k = 1 ∨ k = 2 ∨ k = 3 ∨ k = 4 ∨ k = 5 ∨ k = 6 ∨ k = 7 ∨ k = 8 ∨ k = 9 := by omega
  rcases h with rfl | rfl | rfl | rfl | rfl | rfl | rfl | rfl | rfl | rfl
  · exact bad_nan hr (by unfold bad; show (nan r || _ || _ || _) = true; rw [hr]; simp)
  · exact bad_nan hr (by unfold bad; show (nan x || nan r || _ || _) = true; rw [hr]; simp)
  · exact bad_nan hr (by show bad 13830554455654793216 4617315517961601024 = true; decide)
  · show sameB (shareG 9218868437227405312 9218868437227405312) 4607182418800017408 = true; decide
  · show sameB (shareG x 9218868437227405312) 0 = true
    rw [inf_share hx hn h0 h1]; decide
  · show sameB (shareG 9223372036854775808 4607182418800017408) 0 = true; decide
  · show sameB (shareG 9218868437227405312 4617315517961601024) 4607182418800017408 = true; decide
  · exact bad_nan hr (by show bad 18442240474082181120 4617315517961601024 = true; decide)
  · exact bad_nan hr (by show bad 0 0 = true; decide)
  · exact bad_nan hr (by unfold bad; show (nan x || nan 9223372036854775808 || decide (key x < 0) || decide (key 9223372036854775808 ≤ 0)) = true; rw [show key 9223372036854775808 = 0 by decide]; simp)

theorem edges_lt {r x k : Nat} (hr : r < M64) (hx : x < M64) : (edA r x).getD k 0 < M64 ∧ (edB r).getD k 0 < M64 := by
  have h64 : M64 = 18446744073709551616 := rfl
  constructor
  · by_cases h : k < (edA r x).length
    · have hm : (edA r x).getD k 0 ∈ edA r x := by rw [List.getD_eq_getElem?_getD, List.getElem?_eq_getElem h]; simp
      revert hm
      generalize (edA r x).getD k 0 = z
      intro hm
      simp only [edA, List.mem_cons, List.not_mem_nil, or_false] at hm
      omega
    · rw [List.getD_eq_getElem?_getD, List.getElem?_eq_none (by omega)]; decide
  · by_cases h : k < (edB r).length
    · have hm : (edB r).getD k 0 ∈ edB r := by rw [List.getD_eq_getElem?_getD, List.getElem?_eq_getElem h]; simp
      revert hm
      generalize (edB r).getD k 0 = z
      intro hm
      simp only [edB, List.mem_cons, List.not_mem_nil, or_false] at hm
      omega
    · rw [List.getD_eq_getElem?_getD, List.getElem?_eq_none (by omega)]; decide

end Wf
namespace Go.Proofs.Ytdebkkojeemlbaa
open Go.RowKit

theorem low10 (m i : Int) (h0 : 0 < m) (h : m ≤ 4294967296) : ∃ A : Nat, ((A : Int) < m) ∧ wrap64 ((IntKind.u64.wrap i).tmod m) = A := by
  rw [IntKind.wrap_u64, Int.tmod_eq_emod_of_nonneg (by omega)]
  have h1 := Int.emod_nonneg (i % 18446744073709551616) (b := m) (by omega)
  have h2 := Int.emod_lt_of_pos (i % 18446744073709551616) (b := m) h0
  obtain ⟨A, hA⟩ := Int.eq_ofNat_of_zero_le h1
  refine ⟨A, by omega, ?_⟩
  rw [hA] at h2 ⊢
  unfold wrap64; omega

theorem lit_at (w : World) (cs : Array Value) (g n : Nat) (hg : g = w.heap.size) (xs : List Nat) (hn : xs.length = n) (hm : n ≤ 17592186044416) (hc : cs.toList = xs.map Wv.fl) : Wv.Rv Wv.fl 0 (w.alloc (.cells cs 22)) (.slice (some ⟨g, 0, none⟩) n n) xs := by
  subst hg; exact Wv.Rv.lit w cs 22 n xs hn hm hc

theorem rv_alloc {w : World} {v : Value} {xs : List Nat} (h : Wv.Rv Wv.fl 0 w v xs) (o : Obj) : Wv.Rv Wv.fl 0 (w.alloc o) v xs := h.keep ((Below.refl _ _).alloc (Nat.le_refl _) o)
theorem rv_drew {w : World} {v : Value} {xs : List Nat} (h : Wv.Rv Wv.fl 0 w v xs) : Wv.Rv Wv.fl 0 w.drew v xs := h.keep ((Below.refl _ _).drew)

theorem edges_world (w : World) (r x : Nat) : ∃ W, (((w.alloc (.cells #[.float .f64 r, .float .f64 x, .float .f64 13830554455654793216, .float .f64 9218868437227405312, .float .f64 x, .float .f64 9223372036854775808, .float .f64 9218868437227405312, .float .f64 18442240474082181120, .float .f64 0, .float .f64 x] 22)).alloc (.cells #[.float .f64 4607182418800017408, .float .f64 r, .float .f64 4617315517961601024, .float .f64 9218868437227405312, .float .f64 9218868437227405312, .float .f64 4607182418800017408, .float .f64 4617315517961601024, .float .f64 4617315517961601024, .float .f64 0, .float .f64 9223372036854775808] 22)).alloc (.cells #[.float .f64 r, .float .f64 r, .float .f64 r, .float .f64 4607182418800017408, .float .f64 0, .float .f64 0, .float .f64 4607182418800017408, .float .f64 r, .float .f64 r, .float .f64 r] 22)).drew = W ∧ Wv.Rv Wv.fl 0 W (.slice (some ⟨w.heap.size, 0, none⟩) 10 10) (Wf.edA r x) ∧
    Wv.Rv Wv.fl 0 W (.slice (some ⟨w.heap.size + 1, 0, none⟩) 10 10) (Wf.edB r) ∧ Wv.Rv Wv.fl 0 W (.slice (some ⟨w.heap.size + 1 + 1, 0, none⟩) 10 10) (Wf.edC r) ∧ Below w.heap.size w W := by
  refine ⟨_, rfl, ?_, ?_, ?_, ?_⟩
  · exact rv_drew (rv_alloc (rv_alloc (lit_at w _ w.heap.size 10 rfl (Wf.edA r x) rfl (by omega) rfl) _) _)
  · exact rv_drew (rv_alloc (lit_at _ _ (w.heap.size + 1) 10 (by simp) (Wf.edB r) rfl (by omega) rfl) _)
  · exact rv_drew (lit_at _ _ (w.heap.size + 1 + 1) 10 (by simp) (Wf.edC r) rfl (by omega) rfl)
  · exact ((((Below.refl w.heap.size w).alloc (Nat.le_refl _) _).alloc (by simp) _).alloc (by simp; omega) _).drew

theorem cell_at {w : World} {g n c k : Nat} {xs : List Nat} (h : Wv.Rv Wv.fl 0 w (.slice (some ⟨g, 0, none⟩) n c) xs) (hk : k < n) : w.cell? ⟨g, k, none⟩ = some (.float .f64 (xs.getD k 0)) := by
  have := (Wv.rv_cells h (by omega)).2 k hk
  rwa [Nat.zero_add] at this

theorem quiet_same2 {P : Program} {f : FuncId} {args : Array Value} {w : World} {n : Nat} {v : Value}
    (h : Calls P f args (w.drewN n) fun e w' => e = .returned v ∧ w.drewN n = w') : Calls P f args (w.drewN n) fun e w'' => e = .returned v ∧ ∃ m, w'' = w.drewN m :=
  h.mono fun _ _ ⟨he, hm⟩ => ⟨he, n, hm.symm⟩

theorem pq1 : Wf.pct 9223372036854775808 = 0 := by decide +kernel
theorem pq2 : Wf.pct 9218868437227405312 = -1 := by decide +kernel
theorem pq3 : Wf.pct 4607182418800017408 = 100 := by decide +kernel
theorem sm1 : Wf.sameB 0 9223372036854775808 = false := by decide

theorem pct_none {r : Nat} (h : Wf.nan r = true) : Wf.pct r = -1 := by unfold Wf.pct Wf.pctB; rw [h]; rfl

theorem least_edge {r s : Nat} (hr : Wf.nan r = true) (h : Wf.IsLeast [0, r, 9223372036854775808] s) : Wf.sameB s 9223372036854775808 = true := by
  obtain ⟨hs, h⟩ := h
  rcases h with ⟨_, h⟩ | ⟨h0, h1, h2⟩
  · exact absurd (h 0 (by simp)) (by decide)
  · have h3 := h2 9223372036854775808 (by simp) (by decide)
    simp only [List.mem_cons, List.not_mem_nil, or_false] at h1
    rcases h1 with h1 | h1 | h1
    · subst h1; exact absurd h3 (by decide)
    · subst h1; rw [hr] at h0; cases h0
    · subst h1; decide

set_option maxRecDepth 100000 in
set_option maxHeartbeats 1600000 in
theorem gaugeEdges_fit (how : Int) (x : Nat) (w : World) (hx : x < Wf.M64) (hn : Wf.nan x = false) (h0 : 0 ≤ Wf.key x) (h1 : Wf.key x ≤ 9094988921128908188) :
    Calls Try.prog 6 #[.int .i64 how, .float .f64 x] w fun e w' => e = .returned (.bool true) ∧ Below w.heap.size w w' := by
  obtain ⟨k, hk, ek⟩ := low10 10 how (by omega) (by omega)
  obtain ⟨r, hr, hrn, hrl⟩ := quo_none (a := 0) (b := 0) (by decide +kernel) 22 w
  have hq1 : ∀ w, (binOp .quo 22 (.float .f64 4607182418800017408) (.float .f64 0)).run Try.prog w = .ok (.float .f64 9218868437227405312) w := quo_run (by decide +kernel) 22
  have hq2 : ∀ w, (binOp .quo 22 (.float .f64 13830554455654793216) (.float .f64 9218868437227405312)).run Try.prog w = .ok (.float .f64 9223372036854775808) w := quo_run (by decide +kernel) 22
  have hng : ∀ w, (Op.unary .neg (.float .f64 9218868437227405312)).run Try.prog w = .ok (.float .f64 18442240474082181120) w := fun _ => rfl
  have e1 := ne_self x
  rw [hn] at e1
  have e2 := nlt_of (a := x) (b := 0) (.inr (.inr (by rw [key0]; exact h0)))
  have e3 := ngt_of (a := x) (b := 9094988921128908188) (.inr (.inr (by rw [show Wf.key 9094988921128908188 = 9094988921128908188 by decide]; exact h1)))
  go_enter Try.func6, Try.ntmps6
  go_wp2_with (first | simp only [hr] | simp only [hq1] | simp only [hq2] | fail)
  rw [ek]
  obtain ⟨W, hW, hA, hB, hC, hBel⟩ := edges_world w r x
  rw [hW]
  have kn : k < 10 := by omega
  have HE := Wv.hid (Wf.edges kn hrn hx hn h0 h1)
  have HT := Wv.hid (Wf.edges_lt (k := k) hrl hx)
  have cA := cell_at hA kn
  have cB := cell_at hB kn
  have cC := cell_at hC kn
  have HBel := Wv.hid hBel
  have hrl' : r < Wf.M64 := hrl
  have hrn' := hrn
  clear hW hA hB hC hBel hr hx hn h0 h1 e1 e2 e3 hq1 hq2 hng
  generalize (Wf.edA r x).getD k 0 = a at *
  generalize (Wf.edB r).getD k 0 = b at *
  generalize (Wf.edC r).getD k 0 = c at *
  go_quiet (first | (go_at_call 9; refine quiet_same2 (share_det a b HT.out.1 HT.out.2 _)) | fail)
  generalize Wf.shareG a b = s at *
  go_wp2_with fail
  refine (same_any s c _).mono ?_
  rintro e w' ⟨rfl, rfl⟩
  rw [HE.out]
  have HB2 := Wv.hid (below_drewN HBel.out nq)
  clear HE HT HBel cA cB cC
  generalize W.drewN nq = W2 at *
  go_wp2_with fail
  refine (same_any r r _).mono ?_
  rintro e w' ⟨rfl, rfl⟩
  rw [Wf.sameB_refl]
  go_wp2_with fail
  refine (same_any _ _ _).mono ?_
  rintro e w' ⟨rfl, rfl⟩
  rw [sm1]
  go_wp2_with fail
  refine (least_any _ [0, r, 9223372036854775808] _ (lit_at W2 _ W2.heap.size 3 rfl _ rfl (by omega) rfl) (by
    intro z hz
    simp only [List.mem_cons, List.not_mem_nil, or_false] at hz
    have h64 : Wf.M64 = 18446744073709551616 := rfl
    omega)).mono ?_
  rintro e w' ⟨q, rfl, hq, rfl⟩
  go_wp2_with fail
  refine (same_any _ _ _).mono ?_
  rintro e w' ⟨rfl, rfl⟩
  rw [least_edge hrn hq]
  clear hq
  go_wp2_with fail
  refine (percent_any r hrl _).mono ?_
  rintro e w' ⟨rfl, rfl⟩
  rw [pct_none hrn]
  go_wp2_with fail
  refine (percent_any _ (by decide) _).mono ?_
  rintro e w' ⟨rfl, rfl⟩
  rw [pq1]
  go_wp2_with fail
  refine (percent_any _ (by decide) _).mono ?_
  rintro e w' ⟨rfl, rfl⟩
  rw [pq2]
  go_wp2_with fail
  refine (percent_any _ (by decide) _).mono ?_
  rintro e w' ⟨rfl, rfl⟩
  rw [pq3]
  go_wp2_with fail
  refine (wakes_any _).mono ?_
  rintro e w' ⟨rfl, hbel⟩
  go_wp2
  all_goals go_ret
  exact ⟨rfl, Wv.step (HB2.out.alloc HB2.out.size _) (Nat.le_refl _) hbel⟩

set_option maxRecDepth 100000 in
set_option maxHeartbeats 1600000 in
theorem gaugeEdges_nan (how : Int) (x : Nat) (w : World) (e1 : (FloatKind.f64.format.order x x != some .eq) = true) :
    Calls Try.prog 6 #[.int .i64 how, .float .f64 x] w fun e w' => e = .returned (.bool true) ∧ Below w.heap.size w w' := by
  obtain ⟨k, hk, ek⟩ := low10 10 how (by omega) (by omega)
  obtain ⟨r, hr, hrn, hrl⟩ := quo_none (a := 0) (b := 0) (by decide +kernel) 22 w
  have hq1 : ∀ w, (binOp .quo 22 (.float .f64 4607182418800017408) (.float .f64 0)).run Try.prog w = .ok (.float .f64 9218868437227405312) w := quo_run (by decide +kernel) 22
  have hq2 : ∀ w, (binOp .quo 22 (.float .f64 13830554455654793216) (.float .f64 9218868437227405312)).run Try.prog w = .ok (.float .f64 9223372036854775808) w := quo_run (by decide +kernel) 22
  have hng : ∀ w, (Op.unary .neg (.float .f64 9218868437227405312)).run Try.prog w = .ok (.float .f64 18442240474082181120) w := fun _ => rfl
  go_enter Try.func6, Try.ntmps6
  go_wp2_with (first | simp only [hr] | simp only [hq1] | simp only [hq2] | fail)
  rw [ek]
  obtain ⟨W, hW, hA, hB, hC, hBel⟩ := edges_world w r 4617315517961601024
  rw [hW]
  have kn : k < 10 := by omega
  have HE := Wv.hid (Wf.edges (x := 4617315517961601024) kn hrn (by decide) (by decide) (by decide) (by decide))
  have HT := Wv.hid (Wf.edges_lt (k := k) (x := 4617315517961601024) hrl (by decide))
  have cA := cell_at hA kn
  have cB := cell_at hB kn
  have cC := cell_at hC kn
  have HBel := Wv.hid hBel
  have hrl' : r < Wf.M64 := hrl
  have hrn' := hrn
  clear hW hA hB hC hBel hr hq1 hq2 hng
  generalize (Wf.edA r 4617315517961601024).getD k 0 = a at *
  generalize (Wf.edB r).getD k 0 = b at *
  generalize (Wf.edC r).getD k 0 = c at *
  go_quiet (first | (go_at_call 9; refine quiet_same2 (share_det a b HT.out.1 HT.out.2 _)) | fail)
  generalize Wf.shareG a b = s at *
  go_wp2_with fail
  refine (same_any s c _).mono ?_
  rintro e w' ⟨rfl, rfl⟩
  rw [HE.out]
  have HB2 := Wv.hid (below_drewN HBel.out nq)
  clear HE HT HBel cA cB cC
  generalize W.drewN nq = W2 at *
  go_wp2_with fail
  refine (same_any r r _).mono ?_
  rintro e w' ⟨rfl, rfl⟩
  rw [Wf.sameB_refl]
  go_wp2_with fail
  refine (same_any _ _ _).mono ?_
  rintro e w' ⟨rfl, rfl⟩
  rw [sm1]
  go_wp2_with fail
  refine (least_any _ [0, r, 9223372036854775808] _ (lit_at W2 _ W2.heap.size 3 rfl _ rfl (by omega) rfl) (by
    intro z hz
    simp only [List.mem_cons, List.not_mem_nil, or_false] at hz
    have h64 : Wf.M64 = 18446744073709551616 := rfl
    omega)).mono ?_
  rintro e w' ⟨q, rfl, hq, rfl⟩
  go_wp2_with fail
  refine (same_any _ _ _).mono ?_
  rintro e w' ⟨rfl, rfl⟩
  rw [least_edge hrn hq]
  clear hq
  go_wp2_with fail
  refine (percent_any r hrl _).mono ?_
  rintro e w' ⟨rfl, rfl⟩
  rw [pct_none hrn]
  go_wp2_with fail
  refine (percent_any _ (by decide) _).mono ?_
  rintro e w' ⟨rfl, rfl⟩
  rw [pq1]
  go_wp2_with fail
  refine (percent_any _ (by decide) _).mono ?_
  rintro e w' ⟨rfl, rfl⟩
  rw [pq2]
  go_wp2_with fail
  refine (percent_any _ (by decide) _).mono ?_
  rintro e w' ⟨rfl, rfl⟩
  rw [pq3]
  go_wp2_with fail
  refine (wakes_any _).mono ?_
  rintro e w' ⟨rfl, hbel⟩
  go_wp2
  all_goals go_ret
  exact ⟨rfl, Wv.step (HB2.out.alloc HB2.out.size _) (Nat.le_refl _) hbel⟩

set_option maxRecDepth 100000 in
set_option maxHeartbeats 1600000 in
theorem gaugeEdges_neg (how : Int) (x : Nat) (w : World) (e1 : (FloatKind.f64.format.order x x != some .eq) = false) (e2 : (FloatKind.f64.format.order x 0 == some .lt) = true) :
    Calls Try.prog 6 #[.int .i64 how, .float .f64 x] w fun e w' => e = .returned (.bool true) ∧ Below w.heap.size w w' := by
  obtain ⟨k, hk, ek⟩ := low10 10 how (by omega) (by omega)
  obtain ⟨r, hr, hrn, hrl⟩ := quo_none (a := 0) (b := 0) (by decide +kernel) 22 w
  have hq1 : ∀ w, (binOp .quo 22 (.float .f64 4607182418800017408) (.float .f64 0)).run Try.prog w = .ok (.float .f64 9218868437227405312) w := quo_run (by decide +kernel) 22
  have hq2 : ∀ w, (binOp .quo 22 (.float .f64 13830554455654793216) (.float .f64 9218868437227405312)).run Try.prog w = .ok (.float .f64 9223372036854775808) w := quo_run (by decide +kernel) 22
  have hng : ∀ w, (Op.unary .neg (.float .f64 9218868437227405312)).run Try.prog w = .ok (.float .f64 18442240474082181120) w := fun _ => rfl
  go_enter Try.func6, Try.ntmps6
  go_wp2_with (first | simp only [hr] | simp only [hq1] | simp only [hq2] | fail)
  rw [ek]
  obtain ⟨W, hW, hA, hB, hC, hBel⟩ := edges_world w r 4617315517961601024
  rw [hW]
  have kn : k < 10 := by omega
  have HE := Wv.hid (Wf.edges (x := 4617315517961601024) kn hrn (by decide) (by decide) (by decide) (by decide))
  have HT := Wv.hid (Wf.edges_lt (k := k) (x := 4617315517961601024) hrl (by decide))
  have cA := cell_at hA kn
  have cB := cell_at hB kn
  have cC := cell_at hC kn
  have HBel := Wv.hid hBel
  have hrl' : r < Wf.M64 := hrl
  have hrn' := hrn
  clear hW hA hB hC hBel hr hq1 hq2 hng
  generalize (Wf.edA r 4617315517961601024).getD k 0 = a at *
  generalize (Wf.edB r).getD k 0 = b at *
  generalize (Wf.edC r).getD k 0 = c at *
  go_quiet (first | (go_at_call 9; refine quiet_same2 (share_det a b HT.out.1 HT.out.2 _)) | fail)
  generalize Wf.shareG a b = s at *
  go_wp2_with fail
  refine (same_any s c _).mono ?_
  rintro e w' ⟨rfl, rfl⟩
  rw [HE.out]
  have HB2 := Wv.hid (below_drewN HBel.out nq)
  clear HE HT HBel cA cB cC
  generalize W.drewN nq = W2 at *
  go_wp2_with fail
  refine (same_any r r _).mono ?_
  rintro e w' ⟨rfl, rfl⟩
  rw [Wf.sameB_refl]
  go_wp2_with fail
  refine (same_any _ _ _).mono ?_
  rintro e w' ⟨rfl, rfl⟩
  rw [sm1]
  go_wp2_with fail
  refine (least_any _ [0, r, 9223372036854775808] _ (lit_at W2 _ W2.heap.size 3 rfl _ rfl (by omega) rfl) (by
    intro z hz
    simp only [List.mem_cons, List.not_mem_nil, or_false] at hz
    have h64 : Wf.M64 = 18446744073709551616 := rfl
    omega)).mono ?_
  rintro e w' ⟨q, rfl, hq, rfl⟩
  go_wp2_with fail
  refine (same_any _ _ _).mono ?_
  rintro e w' ⟨rfl, rfl⟩
  rw [least_edge hrn hq]
  clear hq
  go_wp2_with fail
  refine (percent_any r hrl _).mono ?_
  rintro e w' ⟨rfl, rfl⟩
  rw [pct_none hrn]
  go_wp2_with fail
  refine (percent_any _ (by decide) _).mono ?_
  rintro e w' ⟨rfl, rfl⟩
  rw [pq1]
  go_wp2_with fail
  refine (percent_any _ (by decide) _).mono ?_
  rintro e w' ⟨rfl, rfl⟩
  rw [pq2]
  go_wp2_with fail
  refine (percent_any _ (by decide) _).mono ?_
  rintro e w' ⟨rfl, rfl⟩
  rw [pq3]
  go_wp2_with fail
  refine (wakes_any _).mono ?_
  rintro e w' ⟨rfl, hbel⟩
  go_wp2
  all_goals go_ret
  exact ⟨rfl, Wv.step (HB2.out.alloc HB2.out.size _) (Nat.le_refl _) hbel⟩

set_option maxRecDepth 100000 in
set_option maxHeartbeats 1600000 in
theorem gaugeEdges_big (how : Int) (x : Nat) (w : World) (e1 : (FloatKind.f64.format.order x x != some .eq) = false) (e2 : (FloatKind.f64.format.order x 0 == some .lt) = false) (e3 : (FloatKind.f64.format.order x 9094988921128908188 == some .gt) = true) :
    Calls Try.prog 6 #[.int .i64 how, .float .f64 x] w fun e w' => e = .returned (.bool true) ∧ Below w.heap.size w w' := by
  obtain ⟨k, hk, ek⟩ := low10 10 how (by omega) (by omega)
  obtain ⟨r, hr, hrn, hrl⟩ := quo_none (a := 0) (b := 0) (by decide +kernel) 22 w
  have hq1 : ∀ w, (binOp .quo 22 (.float .f64 4607182418800017408) (.float .f64 0)).run Try.prog w = .ok (.float .f64 9218868437227405312) w := quo_run (by decide +kernel) 22
  have hq2 : ∀ w, (binOp .quo 22 (.float .f64 13830554455654793216) (.float .f64 9218868437227405312)).run Try.prog w = .ok (.float .f64 9223372036854775808) w := quo_run (by decide +kernel) 22
  have hng : ∀ w, (Op.unary .neg (.float .f64 9218868437227405312)).run Try.prog w = .ok (.float .f64 18442240474082181120) w := fun _ => rfl
  go_enter Try.func6, Try.ntmps6
  go_wp2_with (first | simp only [hr] | simp only [hq1] | simp only [hq2] | fail)
  rw [ek]
  obtain ⟨W, hW, hA, hB, hC, hBel⟩ := edges_world w r 4617315517961601024
  rw [hW]
  have kn : k < 10 := by omega
  have HE := Wv.hid (Wf.edges (x := 4617315517961601024) kn hrn (by decide) (by decide) (by decide) (by decide))
  have HT := Wv.hid (Wf.edges_lt (k := k) (x := 4617315517961601024) hrl (by decide))
  have cA := cell_at hA kn
  have cB := cell_at hB kn
  have cC := cell_at hC kn
  have HBel := Wv.hid hBel
  have hrl' : r < Wf.M64 := hrl
  have hrn' := hrn
  clear hW hA hB hC hBel hr hq1 hq2 hng
  generalize (Wf.edA r 4617315517961601024).getD k 0 = a at *
  generalize (Wf.edB r).getD k 0 = b at *
  generalize (Wf.edC r).getD k 0 = c at *
  go_quiet (first | (go_at_call 9; refine quiet_same2 (share_det a b HT.out.1 HT.out.2 _)) | fail)
  generalize Wf.shareG a b = s at *
  go_wp2_with fail
  refine (same_any s c _).mono ?_
  rintro e w' ⟨rfl, rfl⟩
  rw [HE.out]
  have HB2 := Wv.hid (below_drewN HBel.out nq)
  clear HE HT HBel cA cB cC
  generalize W.drewN nq = W2 at *
  go_wp2_with fail
  refine (same_any r r _).mono ?_
  rintro e w' ⟨rfl, rfl⟩
  rw [Wf.sameB_refl]
  go_wp2_with fail
  refine (same_any _ _ _).mono ?_
  rintro e w' ⟨rfl, rfl⟩
  rw [sm1]
  go_wp2_with fail
  refine (least_any _ [0, r, 9223372036854775808] _ (lit_at W2 _ W2.heap.size 3 rfl _ rfl (by omega) rfl) (by
    intro z hz
    simp only [List.mem_cons, List.not_mem_nil, or_false] at hz
    have h64 : Wf.M64 = 18446744073709551616 := rfl
    omega)).mono ?_
  rintro e w' ⟨q, rfl, hq, rfl⟩
  go_wp2_with fail
  refine (same_any _ _ _).mono ?_
  rintro e w' ⟨rfl, rfl⟩
  rw [least_edge hrn hq]
  clear hq
  go_wp2_with fail
  refine (percent_any r hrl _).mono ?_
  rintro e w' ⟨rfl, rfl⟩
  rw [pct_none hrn]
  go_wp2_with fail
  refine (percent_any _ (by decide) _).mono ?_
  rintro e w' ⟨rfl, rfl⟩
  rw [pq1]
  go_wp2_with fail
  refine (percent_any _ (by decide) _).mono ?_
  rintro e w' ⟨rfl, rfl⟩
  rw [pq2]
  go_wp2_with fail
  refine (percent_any _ (by decide) _).mono ?_
  rintro e w' ⟨rfl, rfl⟩
  rw [pq3]
  go_wp2_with fail
  refine (wakes_any _).mono ?_
  rintro e w' ⟨rfl, hbel⟩
  go_wp2
  all_goals go_ret
  exact ⟨rfl, Wv.step (HB2.out.alloc HB2.out.size _) (Nat.le_refl _) hbel⟩

theorem gaugeEdges_any (how : Int) (x : Nat) (w : World) (hx : x < Wf.M64) :
    Calls Try.prog 6 #[.int .i64 how, .float .f64 x] w fun e w' => e = .returned (.bool true) ∧ Below w.heap.size w w' := by
  have k300 : Wf.key 9094988921128908188 = 9094988921128908188 := by decide
  have n300 : Wf.nan 9094988921128908188 = false := by decide
  cases hn : Wf.nan x with
  | true => exact gaugeEdges_nan how x w (by rw [ne_self, hn])
  | false =>
    by_cases h0 : Wf.key x < 0
    · exact gaugeEdges_neg how x w (by rw [ne_self, hn]) (lt_of hn nan0 (by rw [key0]; exact h0))
    · by_cases h1 : 9094988921128908188 < Wf.key x
      · exact gaugeEdges_big how x w (by rw [ne_self, hn]) (nlt_of (.inr (.inr (by rw [key0]; omega)))) (gt_of hn n300 (by rw [k300]; exact h1))
      · exact gaugeEdges_fit how x w hx hn (by omega) (by omega)

end Go.Proofs.Ytdebkkojeemlbaa
