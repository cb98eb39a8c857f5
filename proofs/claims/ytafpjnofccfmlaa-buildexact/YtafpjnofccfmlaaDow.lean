/-
  Memory of the call's own that holds steps, and append to it.
-/
import Derived.Test.YtafpjnofccfmlaaJB
namespace Wd
open Go Go.RowKit

/-- A step and where its bytes lie. -/
abbrev Pl : Type := Io × (Option Addr × Nat)
def cells3 (q : Pl) : List Value := [.int .i64 q.1.kind, .int .i64 q.1.pos, .slice q.2.1 q.1.data.length q.2.2]
def Held (w : World) (q : Pl) : Prop := Wc.Bs w (.slice q.2.1 q.1.data.length q.2.2) q.1.data ∧ Wc.Shaped (.slice q.2.1 q.1.data.length q.2.2)

theorem Held.keep {w w' : World} {q : Pl} (h : Held w q) (hb : Below w.heap.size w w') : Held w' q := ⟨h.1.keep hb, h.2⟩

theorem flat_length : ∀ P : List Pl, (P.flatMap cells3).length = P.length * 3
  | [] => rfl
  | q :: P => by simp [List.flatMap_cons, flat_length P, cells3]; omega

theorem flat_get : ∀ (P : List Pl) (i j : Nat) (hi : i < P.length), j < 3 → (P.flatMap cells3)[i * 3 + j]? = (cells3 P[i])[j]?
  | [], i, _, hi, _ => by simp at hi
  | q :: P, 0, j, _, hj => by
    rw [List.flatMap_cons, List.getElem?_append_left (by simp [cells3]; omega)]
    simp
  | q :: P, i + 1, j, hi, hj => by
    rw [List.flatMap_cons, List.getElem?_append_right (by simp [cells3]; omega)]
    have := flat_get P i j (by simpa using hi) hj
    have e : (i + 1) * 3 + j - (cells3 q).length = i * 3 + j := by simp [cells3]; omega
    rw [e, this]
    simp

theorem getD_map (P : List Pl) (i : Nat) (hi : i < P.length) : (P.map Prod.fst).getD i d0 = P[i].1 := by simp [hi]

/-- Cells that lie one behind the other are steps. -/
theorem at_of_cells {w : World} {b o : Nat} {q : Pl} (h : ∀ j u, (cells3 q)[j]? = some u → w.cell? ⟨b, o + j, none⟩ = some u) (hq : Held w q) : At w b o q.1 q.2.1 q.2.2 := by
  have h0 := h 0 _ rfl
  have h1 := h 1 _ rfl
  have h2 := h 2 _ rfl
  exact ⟨by simpa using h0, h1, h2, hq.1, hq.2⟩

/-- Memory of the call's own, from the block base on, that holds steps, their bytes in blocks of their own: e, u are the numbers of the types. -/
def Oi (e u base : Nat) (w : World) (v : Value) (l : List Io) : Prop :=
  ∃ P : List Pl, P.map Prod.fst = l ∧ w.ownsRow base e 3 v P.length (P.flatMap cells3) ∧ P.length ≤ 1048576 ∧ ∀ q ∈ P, Wc.Ob u base w (.slice q.2.1 q.1.data.length q.2.2) q.1.data

theorem Oi.nil (e u base : Nat) (w : World) : Oi e u base w (.slice none 0 0) [] := ⟨[], rfl, World.ownsRow_nil _ _ _ _, by simp, by simp⟩

theorem Oi.keep {e u base : Nat} {w w' : World} {v : Value} {l : List Io} (h : Oi e u base w v l) (hb : Below w.heap.size w w') : Oi e u base w' v l := by
  obtain ⟨P, h1, h2, h3, h4⟩ := h
  refine ⟨P, h1, ⟨h2.1, ?_⟩, h3, fun q hq => (h4 q hq).keep hb⟩
  rcases h2.2 with hn | ⟨g, cap, cur, hv, hbg, hg, rest⟩
  · exact .inl hn
  · refine .inr ⟨g, cap, cur, hv, hbg, ?_, rest⟩
    rw [hb.block g (Array.getElem?_eq_some_iff.1 hg).1]
    exact hg

theorem Oi.is {e u base : Nat} {w : World} {v : Value} {l : List Io} (h : Oi e u base w v l) : Is w v l := by
  obtain ⟨P, rfl, h2, h3, h4⟩ := h
  rcases h2.2 with ⟨rfl, h0⟩ | ⟨g, cap, cur, rfl, hg, hh, k1, k2, k3, k4⟩
  · obtain rfl := List.eq_nil_of_length_eq_zero h0
    exact Is.nil w
  · refine ⟨_, P.length, cap, rfl, by simp, k1, by unfold maxLen at k2; omega, by omega, fun h0 => ⟨g, 0, rfl, (Array.getElem?_eq_some_iff.1 hh).1, fun i hi => ?_⟩⟩
    rw [getD_map P i hi]
    refine ⟨P[i].2.1, P[i].2.2, at_of_cells (fun j u hu => ?_) ⟨(h4 _ (List.getElem_mem hi)).bs, (h4 _ (List.getElem_mem hi)).shaped⟩⟩
    have hj : j < 3 := by have := (List.getElem?_eq_some_iff.1 hu).1; simpa [cells3] using this
    have := h2.cells (g := g) rfl (i * 3 + j) u (by rw [flat_get P i j hi hj]; exact hu)
    rw [Wc.add_none] at this
    rw [Nat.zero_add] at this ⊢
    exact this

theorem Oi.slice {e u base : Nat} {w : World} {v : Value} {l : List Io} (h : Oi e u base w v l) : ∃ a c, v = .slice a l.length c := by
  obtain ⟨P, rfl, h2, h3, h4⟩ := h
  rcases h2.2 with ⟨rfl, h0⟩ | ⟨g, cap, cur, rfl, hg, hh, k1, k2, k3, k4⟩
  · exact ⟨none, 0, by simp [h0]⟩
  · refine ⟨some ⟨g, 0, none⟩, cap, by simp⟩

/-- New cells hold steps. -/
theorem Is.lit (w : World) (cs : Array Value) (e n : Nat) (P : List Pl) (hn : P.length = n) (hm : n ≤ 1099511627776) (hc : cs.toList = P.flatMap cells3) (hq : ∀ q ∈ P, Held w q) :
    Is (w.alloc (.cells cs e)) (.slice (some ⟨w.heap.size, 0, none⟩) n n) (P.map Prod.fst) := by
  refine ⟨_, n, n, rfl, by simpa using hn, Nat.le_refl _, by omega, hm, fun _ => ⟨w.heap.size, 0, rfl, by simp, fun i hi => ?_⟩⟩
  rw [getD_map P i (by omega)]
  refine ⟨P[i].2.1, P[i].2.2, at_of_cells (fun j u hu => ?_) ((hq _ (List.getElem_mem (by omega))).keep ((Below.refl _ _).alloc (Nat.le_refl _) _))⟩
  have hj : j < 3 := by have := (List.getElem?_eq_some_iff.1 hu).1; simpa [cells3] using this
  have hsz : cs.size = n * 3 := by rw [← Array.length_toList, hc, flat_length]; omega
  have hr := World.rowIs_alloc w cs e (fun i => cs.toList.getD i .nilFunc) (fun i hi => by
    rw [← Array.getElem?_toList]; simp [hi])
  have hce := hr.cell (i := i * 3 + j) (by omega)
  rw [Nat.zero_add, hce, hc]
  rw [List.getD_eq_getElem?_getD, flat_get P i j (by omega) hj, hu]; rfl

theorem ob_grown {e u base : Nat} {w w' : World} {v s : Value} {n : Nat} {cs : List Value} {xs : List Int} (hne : e ≠ u) (hv : w.ownsRow base e 3 v n cs) (hg : w.grownBy w' v.ownBlock) (h : Wc.Ob u base w s xs) : Wc.Ob u base w' s xs := by
  refine ⟨⟨h.1.1, ?_⟩, h.2⟩
  rcases h.1.2 with hn | ⟨g, cap, cur, hs, hbg, hgh, rest⟩
  · exact .inl hn
  · refine .inr ⟨g, cap, cur, hs, hbg, ?_, rest⟩
    refine (hg.block g (Array.getElem?_eq_some_iff.1 hgh).1 (fun ee => ?_)).trans hgh
    rcases hv.2 with ⟨rfl, _⟩ | ⟨g2, c2, cur2, rfl, _, hg2, _⟩
    · cases ee
    · have : g = g2 := by simpa [Value.ownBlock] using ee
      subst this
      rw [hgh] at hg2
      cases hg2
      exact hne rfl

/-- A step is put behind memory of the call's own. -/
theorem append_io {P : Program} {e u t ty base bytes : Nat} {i : TypeInfo} {z : Value} {w : World} {v : Value} {ad : Addr} {c : Nat} {l : List Io} {q : Pl} (ht : P.underlying t = some (.slice e)) (hi : P.info? e = some i) (hz : i.zero = some z) (hsz : i.size = 3) (hby : i.bytes = bytes)
    (hzs : z.cells.size = 3) (h8 : bytes ≤ 64) (hne : e ≠ u) (hv : Oi e u base w v l) (hu : ∀ j x, (cells3 q)[j]? = some x → w.cell? (ad.add j) = some x) (hq : Wc.Ob u base w (.slice q.2.1 q.1.data.length q.2.2) q.1.data) (hl : l.length + 1 ≤ 1048576) (hbase : base ≤ w.heap.size) :
    ∃ v' w', Sem.run P (Builtin.append_ #[t, t] ty #[v, .slice (some ad) 1 c]) w = .ok v' w' ∧ Oi e u base w' v' (l ++ [q.1]) ∧ Below base w w' := by
  obtain ⟨Q, rfl, h2, h3, h4⟩ := hv
  have hlq : Q.length + 1 ≤ 1048576 := by simpa using hl
  obtain ⟨v', w', k1, k2, k3, -⟩ := run_append_own (P := P) w base t ty e i z 3 bytes ht hi hz hsz hby hzs (by decide) v _ _ h2 ad 1 c (cells3 q) rfl hu (by
      intro x hx; simp only [cells3, List.mem_cons, List.not_mem_nil, or_false] at hx; rcases hx with rfl | rfl | rfl <;> rfl) (by unfold maxLen; omega) (by
        have := Nat.mul_le_mul_left (Q.length + 1) h8
        omega) hbase
  refine ⟨v', w', k1, ⟨Q ++ [q], by simp, ?_, by simpa using hlq, fun x hx => ?_⟩, (Below.refl _ _).grown k3 hbase (fun g hg => (h2.lt g hg).1)⟩
  · have : (Q ++ [q]).flatMap cells3 = Q.flatMap cells3 ++ cells3 q := by simp
    rw [this]; simpa using k2
  · rcases List.mem_append.1 hx with hx | hx
    · exact ob_grown hne h2 k3 (h4 x hx)
    · simp at hx; subst hx; exact ob_grown hne h2 k3 hq

end Wd
namespace Go.Proofs.Ytafpjnofccfmlaa
open Go.RowKit

theorem lit_cells (w : World) (q : Wd.Pl) (e : Nat) : ∀ j u, (Wd.cells3 q)[j]? = some u → (w.alloc (.cells (Wd.cells3 q).toArray e)).cell? ((⟨w.heap.size, 0, none⟩ : Addr).add j) = some u := by
  intro j u hu
  have hr := World.rowIs_alloc w (Wd.cells3 q).toArray e (fun i => (Wd.cells3 q).getD i .nilFunc) (fun i hi => by
    have : i < (Wd.cells3 q).length := by simpa using hi
    simp [this])
  have hj : j < 3 := by have := (List.getElem?_eq_some_iff.1 hu).1; simpa [Wd.cells3] using this
  rw [Wc.add_none, Nat.zero_add, hr.cell (by simpa [Wd.cells3] using hj), List.getD_eq_getElem?_getD, hu]; rfl

theorem Try.info38 : (Try.prog.info? 54).map (fun i => (i.zero, i.size, i.bytes)) = some (some (.agg #[.int .i64 0, .int .i64 0, .slice none 0 0]), 3, 40) := by kernel_rfl

/-- An append of one step in a region that draws. -/
theorem step_append_io {ops : Array Oper} {o : Oper} {a : Act} {w : World} {K : Act → World → Prop} {Q : Exit → Act → World → Prop} {E : Prop} {s x : Operand} {v u : Value} {ad : Addr} {c : Nat} {l : List Wd.Io} (q : Wd.Pl) (base : Nat)
    (hgd : o.guard = none) (ho : o.op = .call { callee := .builtin .append, args := #[s, x], argTypes := #[30, 30] }) (hs : a.eval s = v) (hx : a.eval x = u) (hue : u = .slice (some ad) 1 c)
    (hv : Wd.Oi 54 5 base w v l) (hu : ∀ j x, (Wd.cells3 q)[j]? = some x → w.cell? (ad.add j) = some x) (hq : Wc.Ob 5 base w (.slice q.2.1 q.1.data.length q.2.2) q.1.data) (hl : l.length + 1 ≤ 1048576) (hbase : base ≤ w.heap.size)
    (h : ∀ v' w', Wd.Oi 54 5 base w' v' (l ++ [q.1]) → Below base w w' → K (a.put o.dst v') w') :
    if Region.wanted o (yielded ops a.tmps) = true then Oper.wp Try.prog o a w K Q else E := by
  obtain ⟨i0, hi, hz0, hz1, hz2⟩ := info_parts Try.info38
  obtain ⟨v', w1, hrun, hO, hb1⟩ := Wd.append_io (P := Try.prog) (ty := o.type) Try.underlying30 hi hz0 hz1 hz2 rfl (by omega) (by decide) hv hu hq hl hbase (c := c)
  rw [← hue] at hrun
  clear hue
  have hw : Region.wanted o (yielded ops a.tmps) = true := by simp [Region.wanted, hgd]
  rw [if_pos hw]
  unfold Oper.wp
  simp [execOp, ho, resolve, invoke, builtin, hs, hx, hrun, Result.andThen]
  exact h v' w1 hO hb1

end Go.Proofs.Ytafpjnofccfmlaa
