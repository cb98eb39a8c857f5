/-
  Memory of the call's own that holds steps, and append to it; what woodcutlaw11.Records returns.
-/
import Derived.Test.YtfdgeobopegeeaaQu
import Derived.Test.YtfdgeobopegeeaaJI
namespace Wd
open Go Go.RowKit

/-- A step and where its bytes lie. -/
abbrev Pl : Type := Io × (Option Addr × Nat)
def cells3 (q : Pl) : List Value := [.int .i64 q.1.kind, .int .i64 q.1.pos, .slice q.2.1 q.1.data.length q.2.2]
def Held (w : World) (q : Pl) : Prop := Wc.Bs w (.slice q.2.1 q.1.data.length q.2.2) q.1.data ∧ Wc.Shaped (.slice q.2.1 q.1.data.length q.2.2)

theorem Held.keep {w w' : World} {q : Pl} (h : Held w q) (hb : Below w.heap.size w w') : Held w' q := ⟨h.1.keep hb, h.2⟩

theorem flat_length : ∀ P : List Pl, (P.flatMap cells3).length = P.length * 3
  | [] => rfl
  | q :: P => by simp [List.flatMap_cons, flat_length P, cells3]; omega

theorem flat_get : ∀ (P : List Pl) (i j : Nat) (hi : i < P.length), j < 3 → (P.flatMap cells3)[i * 3 + j]? = (cells3 P[i])[j]?
  | [], i, _, hi, _ => by simp at hi
  | q :: P, 0, j, _, hj => by
    rw [List.flatMap_cons, List.getElem?_append_left (by simp [cells3]; omega)]
    simp
  | q :: P, i + 1, j, hi, hj => by
    rw [List.flatMap_cons, List.getElem?_append_right (by simp [cells3]; omega)]
    have := flat_get P i j (by simpa using hi) hj
    have e : (i + 1) * 3 + j - (cells3 q).length = i * 3 + j := by simp [cells3]; omega
    rw [e, this]
    simp

theorem getD_map (P : List Pl) (i : Nat) (hi : i < P.length) : (P.map Prod.fst).getD i d0 = P[i].1 := by simp [hi]

/-- Cells that lie one behind the other are steps. -/
theorem at_of_cells {w : World} {b o : Nat} {q : Pl} (h : ∀ j u, (cells3 q)[j]? = some u → w.cell? ⟨b, o + j, none⟩ = some u) (hq : Held w q) : At w b o q.1 q.2.1 q.2.2 := by
  have h0 := h 0 _ rfl
  have h1 := h 1 _ rfl
  have h2 := h 2 _ rfl
  exact ⟨by simpa using h0, h1, h2, hq.1, hq.2⟩

/-- Memory of the call's own, from the block base on, that holds steps, their bytes in blocks of their own: e, u are the numbers of the types. -/
def Oi (e u base : Nat) (w : World) (v : Value) (l : List Io) : Prop :=
  ∃ P : List Pl, P.map Prod.fst = l ∧ w.ownsRow base e 3 v P.length (P.flatMap cells3) ∧ P.length ≤ 1048576 ∧ ∀ q ∈ P, Wc.Ob u base w (.slice q.2.1 q.1.data.length q.2.2) q.1.data

theorem Oi.nil (e u base : Nat) (w : World) : Oi e u base w (.slice none 0 0) [] := ⟨[], rfl, World.ownsRow_nil _ _ _ _, by simp, by simp⟩

theorem Oi.keep {e u base : Nat} {w w' : World} {v : Value} {l : List Io} (h : Oi e u base w v l) (hb : Below w.heap.size w w') : Oi e u base w' v l := by
  obtain ⟨P, h1, h2, h3, h4⟩ := h
  refine ⟨P, h1, ⟨h2.1, ?_⟩, h3, fun q hq => (h4 q hq).keep hb⟩
  rcases h2.2 with hn | ⟨g, cap, cur, hv, hbg, hg, rest⟩
  · exact .inl hn
  · refine .inr ⟨g, cap, cur, hv, hbg, ?_, rest⟩
    rw [hb.block g (Array.getElem?_eq_some_iff.1 hg).1]
    exact hg

theorem Oi.is {e u base : Nat} {w : World} {v : Value} {l : List Io} (h : Oi e u base w v l) : Is w v l := by
  obtain ⟨P, rfl, h2, h3, h4⟩ := h
  rcases h2.2 with ⟨rfl, h0⟩ | ⟨g, cap, cur, rfl, hg, hh, k1, k2, k3, k4⟩
  · obtain rfl := List.eq_nil_of_length_eq_zero h0
    exact Is.nil w
  · refine ⟨_, P.length, cap, rfl, by simp, k1, by unfold maxLen at k2; omega, by omega, fun h0 => ⟨g, 0, rfl, (Array.getElem?_eq_some_iff.1 hh).1, fun i hi => ?_⟩⟩
    rw [getD_map P i hi]
    refine ⟨P[i].2.1, P[i].2.2, at_of_cells (fun j u hu => ?_) ⟨(h4 _ (List.getElem_mem hi)).bs, (h4 _ (List.getElem_mem hi)).shaped⟩⟩
    have hj : j < 3 := by have := (List.getElem?_eq_some_iff.1 hu).1; simpa [cells3] using this
    have := h2.cells (g := g) rfl (i * 3 + j) u (by rw [flat_get P i j hi hj]; exact hu)
    rw [Wc.add_none] at this
    rw [Nat.zero_add] at this ⊢
    exact this

theorem Oi.slice {e u base : Nat} {w : World} {v : Value} {l : List Io} (h : Oi e u base w v l) : ∃ a c, v = .slice a l.length c := by
  obtain ⟨P, rfl, h2, h3, h4⟩ := h
  rcases h2.2 with ⟨rfl, h0⟩ | ⟨g, cap, cur, rfl, hg, hh, k1, k2, k3, k4⟩
  · exact ⟨none, 0, by simp [h0]⟩
  · refine ⟨some ⟨g, 0, none⟩, cap, by simp⟩

theorem ob_grown {e u base : Nat} {w w' : World} {v s : Value} {n : Nat} {cs : List Value} {xs : List Int} (hne : e ≠ u) (hv : w.ownsRow base e 3 v n cs) (hg : w.grownBy w' v.ownBlock) (h : Wc.Ob u base w s xs) : Wc.Ob u base w' s xs := by
  refine ⟨⟨h.1.1, ?_⟩, h.2⟩
  rcases h.1.2 with hn | ⟨g, cap, cur, hs, hbg, hgh, rest⟩
  · exact .inl hn
  · refine .inr ⟨g, cap, cur, hs, hbg, ?_, rest⟩
    refine (hg.block g (Array.getElem?_eq_some_iff.1 hgh).1 (fun ee => ?_)).trans hgh
    rcases hv.2 with ⟨rfl, _⟩ | ⟨g2, c2, cur2, rfl, _, hg2, _⟩
    · cases ee
    · have : g = g2 := by simpa [Value.ownBlock] using ee
      subst this
      rw [hgh] at hg2
      cases hg2
      exact hne rfl

/-- A step is put behind memory of the call's own. -/
theorem append_io {P : Program} {e u t ty base bytes : Nat} {i : TypeInfo} {z : Value} {w : World} {v : Value} {ad : Addr} {c : Nat} {l : List Io} {q : Pl} (ht : P.underlying t = some (.slice e)) (hi : P.info? e = some i) (hz : i.zero = some z) (hsz : i.size = 3) (hby : i.bytes = bytes)
    (hzs : z.cells.size = 3) (h8 : bytes ≤ 64) (hne : e ≠ u) (hv : Oi e u base w v l) (hu : ∀ j x, (cells3 q)[j]? = some x → w.cell? (ad.add j) = some x) (hq : Wc.Ob u base w (.slice q.2.1 q.1.data.length q.2.2) q.1.data) (hl : l.length + 1 ≤ 1048576) (hbase : base ≤ w.heap.size) :
    ∃ v' w', Sem.run P (Builtin.append_ #[t, t] ty #[v, .slice (some ad) 1 c]) w = .ok v' w' ∧ Oi e u base w' v' (l ++ [q.1]) ∧ Below base w w' := by
  obtain ⟨Q, rfl, h2, h3, h4⟩ := hv
  have hlq : Q.length + 1 ≤ 1048576 := by simpa using hl
  obtain ⟨v', w', k1, k2, k3, -⟩ := run_append_own (P := P) w base t ty e i z 3 bytes ht hi hz hsz hby hzs (by decide) v _ _ h2 ad 1 c (cells3 q) rfl hu (by
      intro x hx; simp only [cells3, List.mem_cons, List.not_mem_nil, or_false] at hx; rcases hx with rfl | rfl | rfl <;> rfl) (by unfold maxLen; omega) (by
        have := Nat.mul_le_mul_left (Q.length + 1) h8
        omega) hbase
  refine ⟨v', w', k1, ⟨Q ++ [q], by simp, ?_, by simpa using hlq, fun x hx => ?_⟩, (Below.refl _ _).grown k3 hbase (fun g hg => (h2.lt g hg).1)⟩
  · have : (Q ++ [q]).flatMap cells3 = Q.flatMap cells3 ++ cells3 q := by simp
    rw [this]; simpa using k2
  · rcases List.mem_append.1 hx with hx | hx
    · exact ob_grown hne h2 k3 (h4 x hx)
    · simp at hx; subst hx; exact ob_grown hne h2 k3 hq


/-- An empty row. -/
theorem Oi.empty (e u base : Nat) (w : World) (g : Nat) (hg : g = w.heap.size) (hb : base ≤ g) : Oi e u base (w.alloc (.cells #[] e)) (.slice (some ⟨g, 0, none⟩) 0 0) [] := by
  subst hg
  refine ⟨[], rfl, ⟨rfl, .inr ⟨w.heap.size, 0, #[], rfl, hb, (by show (w.heap.push _)[_]? = _; simp), Nat.le_refl _, by decide, rfl, rfl⟩⟩, by simp, by simp⟩
/-- A row of bytes is memory of the call's own. -/
theorem row_ob {e base g n : Nat} {w : World} {xs : List Int} (h : w.rowIs g e n (fun j => .int .u8 (xs.getD j 0))) (hl : xs.length = n) (hn : n ≤ 140737488355328) (hx : ∀ x ∈ xs, 0 ≤ x ∧ x < 256) (hb : base ≤ g) : Wc.Ob e base w (.slice (some ⟨g, 0, none⟩) n n) xs := by
  obtain ⟨c, h1, h2, h3⟩ := h
  subst hl
  refine ⟨⟨by simp, .inr ⟨g, xs.length, c, rfl, hb, h1, Nat.le_refl _, by unfold maxLen; omega, by omega, ?_⟩⟩, hn, hx⟩
  apply List.ext_getElem (by simp; omega)
  intro i hi hj
  have hi' : i < xs.length := by simpa using hj
  have := h3 i hi'
  rw [Array.getElem?_eq_getElem (by omega)] at this
  simp only [List.getElem_take, Array.getElem_toList, List.getElem_map]
  rw [Option.some.inj this]
  simp [hi']
end Wd
namespace Wi
open Wr
/-- The steps that lay the records. -/
def stp (a : Nat) (f : Nat → Rec) (k : Nat) : List Wd.Io := (List.range k).map fun i => ⟨1, ((a + i : Nat) : Int), Wr.blk (f i)⟩
theorem stp_succ (a : Nat) (f : Nat → Rec) (k : Nat) : stp a f (k + 1) = stp a f k ++ [⟨1, ((a + k : Nat) : Int), Wr.blk (f k)⟩] := by unfold stp; rw [List.range_succ, List.map_append]; rfl
theorem stp_length (a : Nat) (f : Nat → Rec) (k : Nat) : (stp a f k).length = k := by simp [stp]
/-- The device. -/
def rcX (b a n : Nat) (f : Nat → Rec) : List Int := Wd.app (List.replicate (b * 64) 0) (stp a f n ++ [⟨1, 0, Ws.blk (rcS b a n)⟩])
theorem stp_bdv {b a : Nat} (f : Nat → Rec) (_ha : 2 ≤ a) : ∀ k, a + k ≤ b → Bdv (Wd.app (List.replicate (b * 64) 0) (stp a f k)) b (fun q => if a ≤ q ∧ q < a + k then Wr.blk (f (q - a)) else List.replicate 64 0)
  | 0, _ => by
    have := Bdv.zeros b
    refine ⟨this.1, fun q hq => (this.2 q hq).trans ?_⟩
    simp only [if_neg (show ¬ (a ≤ q ∧ q < a + 0) by omega)]
  | k + 1, h => by
    have h1 := (stp_bdv (b := b) f _ha k (by omega)).lay (p := a + k) (X := Wr.blk (f k)) (by omega) (Wr.blk_length _)
    rw [stp_succ, Wd.app_snoc, Wd.one_pos (p := a + k) rfl]
    refine ⟨h1.1, fun q hq => (h1.2 q hq).trans ?_⟩
    show (if a + k = q then Wr.blk (f k) else if a ≤ q ∧ q < a + k then Wr.blk (f (q - a)) else List.replicate 64 0) = if a ≤ q ∧ q < a + (k + 1) then Wr.blk (f (q - a)) else List.replicate 64 0
    by_cases e : a + k = q
    · subst e
      rw [if_pos rfl, if_pos (show a ≤ a + k ∧ a + k < a + (k + 1) by omega), show a + k - a = k by omega]
    · rw [if_neg e]
      by_cases h3 : a ≤ q ∧ q < a + k
      · rw [if_pos h3, if_pos ⟨h3.1, by omega⟩]
      · rw [if_neg h3, if_neg (by omega)]
theorem rcX_rdv {b a n : Nat} {f : Nat → Rec} (h4 : 4 ≤ b) (hb : b ≤ 4096) (ha : 2 ≤ a) (h : a + n ≤ b) (hf : ∀ i, i < n → recB (f i) = true) : Rdv (rcX b a n f) b a n f := by
  refine ⟨?_, h4, hb, ha, h, hf⟩
  have h1 := (stp_bdv f ha n h).lay (p := 0) (X := Ws.blk (rcS b a n)) (by omega) (Ws.blk_length _)
  unfold rcX
  rw [Wd.app_snoc, Wd.one_pos (p := 0) rfl]
  refine ⟨h1.1, fun q hq => (h1.2 q hq).trans ?_⟩
  unfold rcB
  by_cases e : 0 = q
  · subst e
    simp only [if_true]
    rw [if_neg (by omega)]
  · simp only [if_neg e, if_neg (show ¬ q = 0 by omega)]
theorem stp_ok {b a n : Nat} {f : Nat → Rec} (h4 : 4 ≤ b) (hb : b ≤ 4096) (h : a + n ≤ b) (hn : n ≤ 1000) : Wd.stepsE (b * 64) (stp a f n ++ [⟨1, 0, Ws.blk (rcS b a n)⟩]) = 0 := by
  refine Wd.stepsE_ok (Wt.devB_b h4 hb) (by simp [stp_length]; omega) ?_
  rw [List.all_append, Bool.and_eq_true, List.all_eq_true, List.all_cons, List.all_nil, Bool.and_true]
  refine ⟨fun x hx => ?_, Wd.rightB_iff.2 (.inl ⟨rfl, Int.le_refl 0, ?_, Ws.blk_length _⟩)⟩
  · unfold stp at hx
    obtain ⟨i, hi, rfl⟩ := List.mem_map.1 hx
    have := List.mem_range.1 hi
    exact Wd.rightB_iff.2 (.inl ⟨rfl, (show (0 : Int) ≤ ((a + i : Nat) : Int) by omega), (show ((a + i : Nat) : Int) < ((b * 64 : Nat) : Int) / 64 by omega), Wr.blk_length _⟩)
  · show (0 : Int) < ((b * 64 : Nat) : Int) / 64
    omega
/-- Plain records, each leading to the next one. -/
def fr (n a : Nat) (id : Int) (i : Nat) : Rec := ⟨if i + 1 < n then ((a + i + 1 : Nat) : Int) else 0, id + i, 0, 0, 0, 0, 0, 0⟩
theorem fr_ok {n a : Nat} {id : Int} (ha : 2 ≤ a) (h : a + n ≤ 4096) (h1 : 1 ≤ id) (h2 : id ≤ 1000000) {i : Nat} (hi : i < n) : recB (fr n a id i) = true := by
  rw [recB_iff]
  refine ⟨?_, .inl rfl, ⟨?_, ?_⟩, .inl rfl, ⟨?_, ?_⟩, .inl ⟨rfl, rfl, rfl⟩⟩
  · show (if i + 1 < n then ((a + i + 1 : Nat) : Int) else 0) = 0 ∨ 2 ≤ (if i + 1 < n then ((a + i + 1 : Nat) : Int) else 0) ∧ (if i + 1 < n then ((a + i + 1 : Nat) : Int) else 0) < 4096
    by_cases e : i + 1 < n
    · rw [if_pos e]; right; omega
    · rw [if_neg e]; exact .inl rfl
  · show 1 ≤ id + i; omega
  · show id + (i : Int) ≤ 4611686018427387903; omega
  · show (0 : Int) ≤ 0; decide
  · show (0 : Int) ≤ 512; decide
end Wi
namespace Go.Proofs.Ytfdgeobopegeeaa
open Go.RowKit

theorem lit_cells (w : World) (q : Wd.Pl) (e : Nat) : ∀ j u, (Wd.cells3 q)[j]? = some u → (w.alloc (.cells (Wd.cells3 q).toArray e)).cell? ((⟨w.heap.size, 0, none⟩ : Addr).add j) = some u := by
  intro j u hu
  have hr := World.rowIs_alloc w (Wd.cells3 q).toArray e (fun i => (Wd.cells3 q).getD i .nilFunc) (fun i hi => by
    have : i < (Wd.cells3 q).length := by simpa using hi
    simp [this])
  have hj : j < 3 := by have := (List.getElem?_eq_some_iff.1 hu).1; simpa [Wd.cells3] using this
  rw [Wc.add_none, Nat.zero_add, hr.cell (by simpa [Wd.cells3] using hj), List.getD_eq_getElem?_getD, hu]; rfl

theorem Try.info64 : (Try.prog.info? 59).map (fun i => (i.zero, i.size, i.bytes)) = some (some (.agg #[.int .i64 0, .int .i64 0, .slice none 0 0]), 3, 40) := by kernel_rfl

/-- A step is put behind memory of the call's own. -/
theorem pushio_run (w : World) (gb base : Nat) (hgb : gb = w.heap.size) (v : Value) (l : List Wd.Io) (kd p : Int) (g N : Nat) (X : List Int) (hX : X.length = N) (hO : Wd.Oi 59 5 base w v l) (hD : Wc.Ob 5 base w (.slice (some ⟨g, 0, none⟩) N N) X) (hl : l.length ≤ 1000) (hb : base ≤ w.heap.size) :
    ∃ a n c w', Sem.run Try.prog (Builtin.append_ #[60, 60] 60 #[v, .slice (some ⟨gb, 0, none⟩) 1 1]) (w.alloc (.cells #[.int .i64 kd, .int .i64 p, .slice (some ⟨g, 0, none⟩) N N] 59)) = .ok (.slice a n c) w' ∧
      Wd.Oi 59 5 base w' (.slice a n c) (l ++ [⟨kd, p, X⟩]) ∧ Below base (w.alloc (.cells #[.int .i64 kd, .int .i64 p, .slice (some ⟨g, 0, none⟩) N N] 59)) w' := by
  subst hX hgb
  obtain ⟨i, hi, hzz⟩ := Option.map_eq_some_iff.1 Try.info64
  simp only [Prod.mk.injEq] at hzz
  obtain ⟨hz, hs, hby⟩ := hzz
  have b1 := (Below.refl w.heap.size w).alloc (Nat.le_refl _) (.cells #[.int .i64 kd, .int .i64 p, .slice (some ⟨g, 0, none⟩) X.length X.length] 59)
  obtain ⟨v', w', k1, k2, k3⟩ := Wd.append_io (P := Try.prog) (ty := 60) (c := 1) (q := (⟨kd, p, X⟩, (some ⟨g, 0, none⟩, X.length))) Try.underlying60 hi hz hs hby rfl (by omega) (by decide) (hO.keep b1) (lit_cells w (⟨kd, p, X⟩, (some ⟨g, 0, none⟩, X.length)) 59) (hD.keep b1) (by omega) (by simp; omega)
  obtain ⟨a, c, rfl⟩ := k2.slice
  exact ⟨a, _, c, w', k1, k2, k3⟩

end Go.Proofs.Ytfdgeobopegeeaa
