/-
  What build.layOut returns: the old tree row by row, from the root down.
-/
import Derived.Test.YtafpjnofccfmlaaCb
namespace Wb
open Wt Wn
/-- The rows of a tree, from the root down. -/
def rw (xs : List Int) (r : Int) : Nat → List Int
  | 0 => [r]
  | j + 1 => (rw xs r j).flatMap (kids xs)
theorem rw_length (xs : List Int) (r : Int) : ∀ j, (rw xs r j).length = 8 ^ j
  | 0 => rfl
  | j + 1 => by
    show ((rw xs r j).flatMap (kids xs)).length = _
    rw [flat_len (kids_length xs), rw_length xs r j, Nat.pow_succ, Nat.mul_comm]
theorem rw_one (xs : List Int) (r : Int) : rw xs r 1 = od1 xs r := by
  show [r].flatMap (kids xs) = _
  rw [List.flatMap_cons, List.flatMap_nil, List.append_nil]; rfl
theorem rw_two (xs : List Int) (r : Int) : rw xs r 2 = od0 xs r := by
  show (rw xs r 1).flatMap (kids xs) = _
  rw [rw_one]; rfl
theorem flat_take {g : Int → List Int} (l : List Int) {k : Nat} (h : k < l.length) : (l.take (k + 1)).flatMap g = (l.take k).flatMap g ++ g (l.getD k 0) := by
  rw [List.take_succ_eq_append_getElem h, List.flatMap_append, List.flatMap_cons, List.flatMap_nil, List.append_nil, List.getD_eq_getElem?_getD, List.getElem?_eq_getElem h]; rfl
theorem flat_take_len {g : Int → List Int} (hg : ∀ p, (g p).length = 8) (l : List Int) {k : Nat} (h : k ≤ l.length) : ((l.take k).flatMap g).length = 8 * k := by
  rw [flat_len hg, List.length_take, Nat.min_eq_left h]
end Wb
namespace Go.Proofs.Ytafpjnofccfmlaa
open Go.RowKit

/-- A block that is four slices. -/
def Tb (w : World) (B : Nat) (f : Nat → Value) : Prop := w.heap[B]? = some (.cells #[f 0, f 1, f 2, f 3] 63 (0, 0))
theorem Tb.lt {w : World} {B : Nat} {f : Nat → Value} (h : Tb w B f) : B < w.heap.size := (Array.getElem?_eq_some_iff.1 h).1
theorem Tb.keep {w w' : World} {B : Nat} {f : Nat → Value} (h : Tb w B f) {base : Nat} (hb : Below base w w') (hlt : B < base) : Tb w' B f := (hb.block B hlt).trans h
theorem Tb.cell {w : World} {B : Nat} {f : Nat → Value} (h : Tb w B f) {k : Nat} (hk : k < 4) : w.cell? ⟨B, k, none⟩ = some (f k) := by
  have h : w.heap[B]? = _ := h
  rcases (by omega : k = 0 ∨ k = 1 ∨ k = 2 ∨ k = 3) with rfl | rfl | rfl | rfl <;> simp [World.cell?, h]
theorem Tb.frozen {w : World} {B : Nat} {f : Nat → Value} (h : Tb w B f) (i : Nat) : w.frozen? ⟨B, i, none⟩ = false := by simp [World.frozen?, show w.heap[B]? = _ from h]
theorem Tb.set {w : World} {B : Nat} {f : Nat → Value} (h : Tb w B f) {k : Nat} (hk : k < 4) (v : Value) : Tb (w.setCell ⟨B, k, none⟩ v) B (fun i => if i = k then v else f i) := by
  have h0 := heap_setCell_same w B k _ 63 v h
  unfold Tb
  rw [h0]
  rcases (by omega : k = 0 ∨ k = 1 ∨ k = 2 ∨ k = 3) with rfl | rfl | rfl | rfl <;> simp
/-- A slice of ints, its memory not below a block. -/
def Rn (base : Nat) (w : World) (v : Value) (xs : List Int) : Prop := Wd.In w v xs ∧ ∀ g o t n c, v = .slice (some ⟨g, o, t⟩) n c → base ≤ g
theorem Rn.of {base : Nat} {w : World} {v : Value} {xs : List Int} (h : Wv.Ov (Value.int .i64) 3 base w v xs) : Rn base w v xs := by
  refine ⟨h.rv, fun g o t n c e => ?_⟩
  rcases h.1.2 with ⟨hn, _⟩ | ⟨g', cap, cur, hv, hbg, _⟩
  · rw [hn] at e; cases e
  · rw [hv] at e; cases e; exact hbg
theorem Rn.base {base b0 : Nat} {w : World} {v : Value} {xs : List Int} (h : Rn base w v xs) (hb : b0 ≤ base) : Rn b0 w v xs := ⟨h.1, fun g o t n c e => Nat.le_trans hb (h.2 g o t n c e)⟩
/-- It stays where all blocks from the base on do. -/
theorem Rn.stay {base : Nat} {w w' : World} {v : Value} {xs : List Int} (h : Rn base w v xs) (hs : w.heap.size ≤ w'.heap.size) (hb : ∀ b, base ≤ b → b < w.heap.size → w'.heap[b]? = w.heap[b]?) : Rn base w' v xs := by
  obtain ⟨⟨a, n, cap, rfl, h1, h2, h3, h4, h5⟩, h6⟩ := h
  refine ⟨⟨a, n, cap, rfl, h1, h2, h3, h4, fun h0 => ?_⟩, h6⟩
  obtain ⟨b, off, rfl, k1, k2⟩ := h5 h0
  refine ⟨b, off, rfl, Nat.lt_of_lt_of_le k1 hs, fun i hi => ?_⟩
  rw [← k2 i hi]
  unfold World.cell?
  rw [hb b (h6 _ _ _ _ _ rfl) k1]
theorem Rn.setCell {base B k : Nat} {w : World} {v z : Value} {xs : List Int} (h : Rn base w v xs) (hB : B < base) : Rn base (w.setCell ⟨B, k, none⟩ z) v xs :=
  h.stay (by simp) fun b hb _ => Below.heap_setCell w ⟨B, k, none⟩ z b (show b ≠ B by omega)
theorem Rn.keep {base : Nat} {w w' : World} {v : Value} {xs : List Int} (h : Rn base w v xs) (hb : Below w.heap.size w w') : Rn base w' v xs := h.stay hb.size fun b _ hlt => hb.block b hlt

/-- Rows from the c-th on are laid out; those ahead are nil. -/
def St (w : World) (base B c : Nat) (xs : List Int) (r : Int) (f : Nat → Value) : Prop := Tb w B f ∧ (∀ i, c ≤ i → i < 4 → Rn base w (f i) (Wb.rw xs r (3 - i))) ∧ ∀ i, i < c → f i = .slice none 0 0

theorem ret_rows {fn : Func} {tmps : Array Value} {w : World} {B : Nat} {f : Nat → Value} (hr : fn.results = #[.cell 4 63]) (hp : tmps.getD 4 undef = .pointer (some ⟨B, 0, none⟩)) (h : Tb w B f) :
    (results fn tmps).run Try.prog w = .ok (.agg #[f 0, f 1, f 2, f 3]) w := by
  have c0 := h.cell (k := 0) (by omega)
  have c1 := h.cell (k := 1) (by omega)
  have c2 := h.cell (k := 2) (by omega)
  have c3 := h.cell (k := 3) (by omega)
  have hp' : tmps[4]?.getD undef = .pointer (some ⟨B, 0, none⟩) := by simpa using hp
  simp only [results, hr]
  simp [hp', go_sem, c0, c1, c2, c3]

set_option maxRecDepth 100000 in
set_option maxHeartbeats 6400000 in
theorem layOut_any (v : Value) (r : Int) (xs : List Int) (w : World) (hv : Wc.Bs w v xs) :
    Calls Try.prog 47 #[v, .int .i64 r] w fun e w' => ∃ f : Nat → Value, e = .returned (.agg #[f 0, f 1, f 2, f 3]) ∧ (∀ i, i < 4 → Rn w.heap.size w' (f i) (Wb.rw xs r (3 - i))) ∧ Below w.heap.size w w' := by
  obtain ⟨i0, hi, hz0, hz1, hz2⟩ := info_parts Try.infoI
  have HV := Wc.hid hv
  clear hv
  obtain ⟨hs, hhs⟩ : ∃ hs, w.heap.size = hs := ⟨_, rfl⟩
  have A1 := (Below.refl w.heap.size w).alloc (Nat.le_refl _) (.cells #[.slice none 0 0, .slice none 0 0, .slice none 0 0, .slice none 0 0] 63)
  have T1 : Tb (w.alloc (.cells #[.slice none 0 0, .slice none 0 0, .slice none 0 0, .slice none 0 0] 63)) w.heap.size (fun _ => .slice none 0 0) := by show (w.heap.push _)[_]? = _; simp
  obtain ⟨wA, hwA⟩ : ∃ wA, w.alloc (.cells #[.slice none 0 0, .slice none 0 0, .slice none 0 0, .slice none 0 0] 63) = wA := ⟨_, rfl⟩
  have sA : wA.heap.size = w.heap.size + 1 := by rw [← hwA]; simp
  rw [hwA] at A1 T1
  have A2 := (Below.refl wA.heap.size wA).alloc (Nat.le_refl _) (.cells #[.slice none 0 0, .slice none 0 0, .slice none 0 0, .slice (some ⟨w.heap.size + 1 + 1, 0, none⟩) 1 1] 63)
  have T2 : Tb (wA.alloc (.cells #[.slice none 0 0, .slice none 0 0, .slice none 0 0, .slice (some ⟨w.heap.size + 1 + 1, 0, none⟩) 1 1] 63)) (w.heap.size + 1) (fun i => if i = 3 then .slice (some ⟨w.heap.size + 1 + 1, 0, none⟩) 1 1 else .slice none 0 0) := by
    rw [← sA]
    show (wA.heap.push _)[_]? = _
    rw [Array.getElem?_push_size]; rfl
  obtain ⟨wB, hwB⟩ : ∃ wB, wA.alloc (.cells #[.slice none 0 0, .slice none 0 0, .slice none 0 0, .slice (some ⟨w.heap.size + 1 + 1, 0, none⟩) 1 1] 63) = wB := ⟨_, rfl⟩
  have sB : wB.heap.size = w.heap.size + 2 := by rw [← hwB]; simp [sA]
  rw [hwB] at A2 T2
  have A3 := (Below.refl wB.heap.size wB).alloc (Nat.le_refl _) (.cells #[.int .i64 r] 3)
  have hR0 : Wd.In (wB.alloc (.cells #[.int .i64 r] 3)) (.slice (some ⟨w.heap.size + 1 + 1, 0, none⟩) 1 1) [r] := by
    rw [show w.heap.size + 1 + 1 = wB.heap.size by rw [sB]]
    exact Wv.Rv.lit wB _ 3 1 _ rfl (by decide) rfl
  have S0 : Hid (St (wB.alloc (.cells #[.int .i64 r] 3)) (w.heap.size + 2) (w.heap.size + 1) 3 xs r (fun i => if i = 3 then .slice (some ⟨w.heap.size + 1 + 1, 0, none⟩) 1 1 else .slice none 0 0)) := Wc.hid ⟨T2.keep A3 (by omega), fun i h1 h2 => by
      obtain rfl : i = 3 := by omega
      refine ⟨hR0, fun g o t n c e => ?_⟩
      have e : Value.slice (some ⟨w.heap.size + 1 + 1, 0, none⟩) 1 1 = .slice (some ⟨g, o, t⟩) n c := e
      cases e
      exact Nat.le_refl _, fun i hi => if_neg (by omega)⟩
  have Z0 : Hid (Tb (wB.alloc (.cells #[.int .i64 r] 3)) w.heap.size (fun _ => .slice none 0 0)) := Wc.hid ((T1.keep A2 (by omega)).keep A3 (by omega))
  have B0 : Hid (Below w.heap.size w (wB.alloc (.cells #[.int .i64 r] 3))) := Wc.hid (Wc.step (Wc.step A1 (Nat.le_refl _) A2) (Nat.le_refl _) A3)
  subst hwB hwA
  clear A1 A2 A3 T1 T2 hR0 sA sB
  have HI := Wc.hid hi
  have HZ0 := Wc.hid hz0
  have HZ1 := Wc.hid hz1
  have HZ2 := Wc.hid hz2
  clear hi hz0 hz1 hz2 hhs hs
  go_enter Try.func47, Try.ntmps47
  go_wp2_with fail
  go_loopw [6] (fun u wr => ∃ (z : Int) (c : Nat) (f : Nat → Value), u = .int .i64 z ∧ Hid (z + 1 = (c : Int)) ∧ Hid (c ≤ 3) ∧ Hid (St wr (w.heap.size + 2) (w.heap.size + 1) c xs r f) ∧ Hid (Tb wr w.heap.size (fun _ => .slice none 0 0)) ∧ Hid (Below w.heap.size w wr)) (fun u _ => (intOf u + 1).toNat)
  case atStart => exact ⟨2, 3, _, rfl, Wc.hid rfl, Wc.hid (Nat.le_refl _), S0, Z0, B0⟩
  case round =>
    obtain ⟨z, c, f, rfl, HC, HC3, HS, HZ, HB⟩ := hrel
    by_cases hc0 : c = 0
    · subst hc0
      obtain rfl : z = -1 := by have := HC.out; omega
      have t0 := HS.out.1.cell (k := 0) (by omega)
      have t1 := HS.out.1.cell (k := 1) (by omega)
      have t2 := HS.out.1.cell (k := 2) (by omega)
      have t3 := HS.out.1.cell (k := 3) (by omega)
      have r0 := HZ.out.cell (k := 0) (by omega)
      have r1 := HZ.out.cell (k := 1) (by omega)
      have r2 := HZ.out.cell (k := 2) (by omega)
      have r3 := HZ.out.cell (k := 3) (by omega)
      have hf := HZ.out.frozen
      have hsh : ∀ i, i < 4 → ∃ a n c, f i = .slice a n c := fun i hi => by
        obtain ⟨a, n, c, e, -⟩ := (HS.out.2.1 i (Nat.zero_le _) hi).1
        exact ⟨a, n, c, e⟩
      obtain ⟨a0, n0, c0, e0⟩ := hsh 0 (by omega)
      obtain ⟨a1, n1, c1, e1⟩ := hsh 1 (by omega)
      obtain ⟨a2, n2, c2, e2⟩ := hsh 2 (by omega)
      obtain ⟨a3, n3, c3, e3⟩ := hsh 3 (by omega)
      rw [e0] at t0
      rw [e1] at t1
      rw [e2] at t2
      rw [e3] at t3
      have HE := Wc.hid (And.intro e0 (And.intro e1 (And.intro e2 e3)))
      clear hsh e0 e1 e2 e3
      go_wp2_with fail
      have k1 := ((((HZ.out.set (k := 0) (by omega) (f 0)).set (k := 1) (by omega) (f 1)).set (k := 2) (by omega) (f 2)).set (k := 3) (by omega) (f 3))
      obtain ⟨e0, e1, e2, e3⟩ := HE.out
      rw [e0, e1, e2, e3] at k1
      refine bodyPost_ret (ret_rows rfl rfl k1) rfl ⟨f, ?_, fun i hi => ?_, (((HB.out.setCell (p := ⟨w.heap.size, 0, none⟩) (Nat.le_refl _) _).setCell (p := ⟨w.heap.size, 1, none⟩) (Nat.le_refl _) _).setCell (p := ⟨w.heap.size, 2, none⟩) (Nat.le_refl _) _).setCell (p := ⟨w.heap.size, 3, none⟩) (Nat.le_refl _) _⟩
      · rw [e0, e1, e2, e3]; rfl
      · exact ((((((HS.out.2.1 i (Nat.zero_le _) hi).setCell (by omega)).setCell (by omega)).setCell (by omega)).setCell (by omega))).base (by omega)
    · obtain ⟨L, rfl⟩ : ∃ L, c = L + 1 := ⟨c - 1, by omega⟩
      obtain rfl : z = (L : Int) := by have := HC.out; omega
      have hL : L ≤ 2 := by have := HC3.out; omega
      clear HC HC3 hc0
      obtain ⟨lst, hlst⟩ : ∃ lst, Wb.rw xs r (3 - (L + 1)) = lst := ⟨_, rfl⟩
      have hlen : lst.length ≤ 64 ∧ 0 < lst.length := by
        rw [← hlst, Wb.rw_length]
        rcases (by omega : L = 0 ∨ L = 1 ∨ L = 2) with rfl | rfl | rfl <;> decide
      have hnext : Wb.rw xs r (3 - L) = lst.flatMap (Wb.kids xs) := by
        rw [← hlst, show 3 - L = 3 - (L + 1) + 1 by omega]; rfl
      have hRn := HS.out.2.1 (L + 1) (Nat.le_refl _) (by omega)
      rw [hlst] at hRn
      have hnil := HS.out.2.2 L (by omega)
      have hcl := HS.out.1.cell (k := L + 1) (by omega)
      obtain ⟨b, off, n, cap, hfe, hn, hbb, hbl, hcells⟩ : ∃ b off n cap, f (L + 1) = .slice (some ⟨b, off, none⟩) n cap ∧ lst.length = n ∧ w.heap.size + 2 ≤ b ∧ b < wr.heap.size ∧ ∀ i, i < n → wr.cell? ⟨b, off + i, none⟩ = some (.int .i64 (lst.getD i 0)) := by
        rcases hRn.1.open with ⟨h0, -⟩ | ⟨b, off, n, cap, h1, -, h3, -, -, -, h7, h8⟩
        · rw [h0] at hlen; exact absurd hlen.2 (by decide)
        · exact ⟨b, off, n, cap, h1, h3, hRn.2 _ _ _ _ _ h1, h7, h8⟩
      rw [hfe] at hcl
      have HCE := Wc.hid hcells
      have HN := Wc.hid hn
      have HLE := Wc.hid hlen
      have HNX := Wc.hid hnext
      have HNIL := Wc.hid hnil
      have HBB := Wc.hid hbb
      have HBL := Wc.hid hbl
      have hn64 : n ≤ 64 := by rw [← hn]; exact hlen.1
      clear hlst hRn hfe hcells hn hlen hnext hnil hbb hbl
      obtain ⟨wo, rfl⟩ : ∃ wo, wo = wr := ⟨wr, rfl⟩
      obtain ⟨bl, hbl2⟩ : ∃ bl, wo.heap.size = bl := ⟨_, rfl⟩
      have HBS := Wc.hid hbl2
      have HW2 := Wc.hid (show w.heap.size + 2 ≤ bl by rw [← hbl2]; have := HBB.out; have := HBL.out; omega)
      clear hbl2
      go_wp2_with fail
      go_loopw [22] (fun i wr => ∃ (k : Nat) (a' : Option Addr) (n' c' : Nat), i = .int .i64 k ∧ k ≤ n ∧ Hid (Tb wr (w.heap.size + 1) (fun i => if i = L then .slice a' n' c' else f i)) ∧ Hid (Wv.Ov (Value.int .i64) 3 bl wr (.slice a' n' c') ((lst.take k).flatMap (Wb.kids xs))) ∧ Hid (Tb wr w.heap.size (fun _ => .slice none 0 0)) ∧ Hid (bl ≤ wr.heap.size ∧ ∀ b, w.heap.size + 2 ≤ b → b < bl → wr.heap[b]? = wo.heap[b]?) ∧ Hid (Below w.heap.size w wr)) (fun i _ => n - (intOf i).toNat)
      case atStart =>
        refine ⟨0, none, 0, 0, rfl, Nat.zero_le _, Wc.hid ?_, Wc.hid (Wv.Ov.nil _ _ _), HZ, Wc.hid ⟨Nat.le_of_eq HBS.out.symm, fun _ _ _ => rfl⟩, HB⟩
        have e : (fun i => if i = L then Value.slice none 0 0 else f i) = f := by
          funext i
          by_cases hi : i = L
          · subst hi; rw [if_pos rfl]; exact HNIL.out.symm
          · rw [if_neg hi]
        rw [e]; exact HS.out.1
      case round =>
        obtain ⟨k, a', n', c', rfl, hk, RT, RO, RZ, RS, RB⟩ := hrel
        by_cases hlt : k < n
        · obtain ⟨p, hp⟩ : ∃ p, lst.getD k 0 = p := ⟨_, rfl⟩
          have hcell : wr.cell? ⟨b, off + k, none⟩ = some (.int .i64 p) := by
            have e : wr.cell? ⟨b, off + k, none⟩ = wo.cell? ⟨b, off + k, none⟩ := by
              unfold World.cell?
              rw [RS.out.2 b HBB.out (by rw [← HBS.out]; exact HBL.out)]
            rw [e, HCE.out k hlt, hp]
          have hft : (lst.take (k + 1)).flatMap (Wb.kids xs) = (lst.take k).flatMap (Wb.kids xs) ++ Wb.kids xs p := by
            rw [Wb.flat_take lst (by rw [HN.out]; exact hlt), hp]
          have hfl : ((lst.take k).flatMap (Wb.kids xs)).length = 8 * k := Wb.flat_take_len (Wb.kids_length xs) lst (by rw [HN.out]; omega)
          have HFT := Wc.hid hft
          have HFL := Wc.hid hfl
          clear hft hfl hp
          go_wp2_with fail
          refine (pointers_any _ p xs _ (HV.out.keep RB.out)).mono ?_
          rintro e w3 ⟨rfl, hb3⟩
          have hks := Wb.ptr_pn xs p
          obtain ⟨N, hN⟩ : ∃ N, Wb.pn xs p = N := ⟨_, rfl⟩
          rw [hN] at hks ⊢
          have HKS := Wc.hid hks
          clear hN hks
          unfold av
          have hA := (Below.refl w3.heap.size w3).alloc (Nat.le_refl _) (.cells #[.int .i64 N.p0, .int .i64 N.p1, .int .i64 N.p2, .int .i64 N.p3, .int .i64 N.p4, .int .i64 N.p5, .int .i64 N.p6, .int .i64 N.p7] 81)
          have hu : Wd.In (w3.alloc (.cells #[.int .i64 N.p0, .int .i64 N.p1, .int .i64 N.p2, .int .i64 N.p3, .int .i64 N.p4, .int .i64 N.p5, .int .i64 N.p6, .int .i64 N.p7] 81)).drew (.slice (some ⟨w3.heap.size, 0, none⟩) 8 8) (Wb.kids xs p) := by
            rw [← HKS.out]
            exact (Wv.Rv.lit w3 _ 81 8 (Wn.ptr N) rfl (by decide) rfl).keep (show_drew (Below.refl _ _))
          have h23 := hb3.size
          have hO3 := ((RO.out.keep hb3).keep hA).keep (show_drew (Below.refl _ _))
          obtain ⟨v4, w4, hrun, hO4, hb4⟩ := Wv.append_run (P := Try.prog) (t := 23) (ty := 23) (val := Value.int .i64) (d := 0) Try.underlying23 HI.out HZ0.out HZ1.out HZ2.out rfl (by decide) (fun _ => rfl) hO3 hu (.inr ⟨_, _, _, rfl⟩) (by rw [HFL.out, Wb.kids_length]; omega) (by have := RS.out.1; simp; omega)
          have hsh : ∃ a n c, v4 = .slice a n c := by
            rcases hO4.shaped with rfl | ⟨_, _, _, rfl⟩
            · exact ⟨_, _, _, rfl⟩
            · exact ⟨_, _, _, rfl⟩
          obtain ⟨a4, n4, c4, rfl⟩ := hsh
          rw [← HFT.out] at hO4
          have h1 := RS.out.1
          have hB4 : Below bl wr w4 := (show_drew ((hb3.mono h1).trans (hA.mono (Nat.le_trans h1 h23)))).trans hb4
          have hG4 : Below w.heap.size w w4 := RB.out.trans (hB4.mono (by have := HW2.out; omega))
          have HRUN := Wc.hid hrun
          have RT4 := Wc.hid (RT.out.keep hB4 (by have := HW2.out; omega))
          have RZ4 := Wc.hid (RZ.out.keep hB4 (by have := HW2.out; omega))
          have RO4 := Wc.hid hO4
          have RB4 := Wc.hid hG4
          have RS4 : Hid (bl ≤ w4.heap.size ∧ ∀ b, w.heap.size + 2 ≤ b → b < bl → w4.heap[b]? = wo.heap[b]?) := Wc.hid ⟨Nat.le_trans h1 hB4.size, fun b h2 h3 => (hB4.block b h3).trans (RS.out.2 b h2 h3)⟩
          have hcA := (RT.out.keep ((hb3.mono h1).trans (hA.mono (Nat.le_trans h1 h23))) (by have := HW2.out; omega)).cell (k := L) (by omega)
          have hf4 := RT4.out.frozen
          have hc4 := RT4.out.cell (k := L) (by omega)
          rw [if_pos rfl] at hcA hc4
          have hL4 : (L : Int) < 4 := by omega
          clear hrun hO4 hG4 hB4 h1 h23 hA hu hO3 hb4 hb3 hcell
          go_wp2_with fail
          go_region_law (refine step_append_run rfl rfl rfl rfl (by exact HRUN.out) ?_)
          go_wp2_with fail
          go_roundw
          case rel =>
            refine ⟨k + 1, a4, n4, c4, by go_num, by omega, Wc.hid ?_, Wc.hid ?_, Wc.hid ?_, Wc.hid ⟨by simpa using RS4.out.1, fun b h2 h3 => ?_⟩, Wc.hid (RB4.out.setCell (p := ⟨w.heap.size + 1, L, none⟩) (Nat.le_succ _) _)⟩
            · have := RT4.out.set (k := L) (by omega) (.slice a4 n4 c4)
              have e : (fun i => if i = L then Value.slice a4 n4 c4 else (fun i => if i = L then Value.slice a' n' c' else f i) i) = (fun i => if i = L then Value.slice a4 n4 c4 else f i) := by
                funext i
                by_cases hi : i = L
                · rw [if_pos hi, if_pos hi]
                · rw [if_neg hi, if_neg hi]; exact if_neg hi
              rw [e] at this
              exact this
            · exact ⟨ownsRow_setCell_below RO4.out.1 (show w.heap.size + 1 < bl by have := HW2.out; omega) _, RO4.out.2⟩
            · unfold Tb
              rw [heap_setCell_other _ _ _ _ (show w.heap.size ≠ w.heap.size + 1 by omega)]
              exact RZ4.out
            · rw [heap_setCell_other _ _ _ _ (show b ≠ w.heap.size + 1 by omega)]
              exact RS4.out.2 b h2 h3
          case measure => simp [intOf]; omega
        · obtain rfl : k = n := by omega
          have hall : lst.take k = lst := List.take_of_length_le (by rw [HN.out]; exact Nat.le_refl _)
          rw [hall] at RO
          clear hall
          go_wp2_with fail
          go_roundw
          case rel =>
            refine ⟨(L : Int) - 1, L, _, by go_num, Wc.hid (by omega), Wc.hid (by omega), Wc.hid ⟨RT.out, fun i h1 h2 => ?_, fun i h1 => ?_⟩, RZ, RB⟩
            · by_cases hi : i = L
              · subst hi
                rw [if_pos rfl, HNX.out]
                exact (Rn.of RO.out).base HW2.out
              · rw [if_neg hi]
                exact (HS.out.2.1 i (by omega) h2).stay (by rw [HBS.out]; exact RS.out.1) fun b h3 h4 => RS.out.2 b h3 (by rw [← HBS.out]; exact h4)
            · rw [if_neg (by omega)]
              exact HS.out.2.2 i (by omega)
          case measure => simp [intOf]
end Go.Proofs.Ytafpjnofccfmlaa
