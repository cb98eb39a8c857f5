/-
  What the page's Commit returns: the steps, whose bytes are the given ones' own.
-/
import Derived.Test.YtfflhiajbioheaaGreatFa
import Derived.Test.YtfflhiajbioheaaGreatEj
import Derived.Deep.RegionHeld3
namespace Wq
open Go Go.RowKit
/-- Memory of the call's own that holds steps whose bytes lie in elder memory. -/
def Oj (e base : Nat) (w0 w : World) (v : Value) (l : List Wd.Io) : Prop :=
  ∃ P : List Wd.Pl, P.map Prod.fst = l ∧ w.ownsRow base e 3 v P.length (P.flatMap Wd.cells3) ∧ P.length ≤ 1048576 ∧ ∀ q ∈ P, Wd.Held w0 q
theorem Oj.keep {e base : Nat} {w0 w w' : World} {v : Value} {l : List Wd.Io} (h : Oj e base w0 w v l) (hb : Below w.heap.size w w') : Oj e base w0 w' v l := by
  obtain ⟨P, h1, h2, h3, h4⟩ := h
  refine ⟨P, h1, ⟨h2.1, ?_⟩, h3, h4⟩
  rcases h2.2 with hn | ⟨g, cap, cur, hv, hbg, hg, rest⟩
  · exact .inl hn
  · refine .inr ⟨g, cap, cur, hv, hbg, ?_, rest⟩
    rw [hb.block g (Array.getElem?_eq_some_iff.1 hg).1]
    exact hg
theorem is_own {e base : Nat} {w : World} {v : Value} {P : List Wd.Pl} (h2 : w.ownsRow base e 3 v P.length (P.flatMap Wd.cells3)) (h3 : P.length ≤ 1048576) (h4 : ∀ q ∈ P, Wd.Held w q) : Wd.Is w v (P.map Prod.fst) := by
  rcases h2.2 with ⟨rfl, h0⟩ | ⟨g, cap, cur, rfl, hg, hh, k1, k2, k3, k4⟩
  · obtain rfl := List.eq_nil_of_length_eq_zero h0
    exact Wd.Is.nil w
  · refine ⟨_, P.length, cap, rfl, by simp, k1, by unfold maxLen at k2; omega, by omega, fun h0 => ⟨g, 0, rfl, (Array.getElem?_eq_some_iff.1 hh).1, fun i hi => ?_⟩⟩
    rw [Wd.getD_map P i hi]
    refine ⟨P[i].2.1, P[i].2.2, Wd.at_of_cells (fun j u hu => ?_) (h4 _ (List.getElem_mem hi))⟩
    have hj : j < 3 := by have := (List.getElem?_eq_some_iff.1 hu).1; simpa [Wd.cells3] using this
    have := h2.cells (g := g) rfl (i * 3 + j) u (by rw [Wd.flat_get P i j hi hj]; exact hu)
    rw [Wc.add_none] at this
    rw [Nat.zero_add] at this ⊢
    exact this
theorem _root_.Wd.Is.slice15 {w : World} {v : Value} {l : List Wd.Io} (h : Wd.Is w v l) : ∃ a c, v = .slice a l.length c := by
  obtain ⟨a, n, c, rfl, rfl, -⟩ := h
  exact ⟨a, c, rfl⟩
theorem Oj.slice {e base : Nat} {w0 w : World} {v : Value} {l : List Wd.Io} (h : Oj e base w0 w v l) : ∃ a c, v = .slice a l.length c := by
  obtain ⟨P, rfl, h2, h3, h4⟩ := h
  rcases h2.2 with ⟨rfl, h0⟩ | ⟨g, cap, cur, rfl, hg, hh, k1, k2, k3, k4⟩
  · exact ⟨none, 0, by simp [h0]⟩
  · refine ⟨some ⟨g, 0, none⟩, cap, by simp⟩
/-- The steps as they lie. -/
theorem is_pls {w : World} {a : Option Addr} {n cap : Nat} {l : List Wd.Io} (h : Wd.Is w (.slice a n cap) l) : ∃ P : List Wd.Pl, P.map Prod.fst = l ∧ P.length = n ∧ (∀ q ∈ P, Wd.Held w q) ∧
    (0 < n → ∃ b off, a = some ⟨b, off, none⟩ ∧ ∀ j u, (P.flatMap Wd.cells3)[j]? = some u → w.cell? ⟨b, off + j, none⟩ = some u) := by
  have hl := Wd.is_len h
  rcases Nat.eq_zero_or_pos n with h0 | h0
  · subst h0
    obtain rfl := List.eq_nil_of_length_eq_zero hl
    exact ⟨[], rfl, rfl, by simp, by omega⟩
  · obtain ⟨b, off, rfl, hb, hc⟩ : ∃ b off, a = some ⟨b, off, none⟩ ∧ b < w.heap.size ∧ ∀ i, i < n → ∃ a' c', Wd.At w b (off + i * 3) (l.getD i Wd.d0) a' c' := by
      obtain ⟨_, _, _, h1, _, _, _, _, h6⟩ := h; cases h1; exact h6 h0
    have hex : ∀ i, ∃ p : Option Addr × Nat, i < n → Wd.At w b (off + i * 3) (l.getD i Wd.d0) p.1 p.2 := fun i => by
      by_cases hi : i < n
      · obtain ⟨a', c', h⟩ := hc i hi; exact ⟨(a', c'), fun _ => h⟩
      · exact ⟨(none, 0), fun h => absurd h hi⟩
    obtain ⟨f, hf⟩ := Classical.axiomOfChoice hex
    have hlen : ((List.range n).map fun i => ((l.getD i Wd.d0, f i) : Wd.Pl)).length = n := by simp
    refine ⟨(List.range n).map fun i => (l.getD i Wd.d0, f i), ?_, hlen, fun q hq => ?_, fun _ => ⟨b, off, rfl, fun j u hu => ?_⟩⟩
    · refine List.ext_getElem (by simp [hl]) (fun i h1 h2 => ?_)
      simp [List.getElem?_eq_getElem h2]
    · obtain ⟨i, hi, rfl⟩ := List.mem_map.1 hq
      have := hf i (List.mem_range.1 hi)
      exact ⟨this.2.2.2.1, this.2.2.2.2⟩
    · have hj : j < n * 3 := by have := (List.getElem?_eq_some_iff.1 hu).1; rw [Wd.flat_length, hlen] at this; exact this
      have hi : j / 3 < n := by omega
      have hr : j % 3 < 3 := by omega
      have ej : j = j / 3 * 3 + j % 3 := by omega
      rw [ej, Wd.flat_get _ (j / 3) (j % 3) (by rw [hlen]; exact hi) hr] at hu
      obtain ⟨c0, c1, c2, -, -⟩ := hf (j / 3) hi
      rw [List.getElem_map, List.getElem_range] at hu
      rw [ej, ← Nat.add_assoc]
      obtain ⟨t, ht⟩ : ∃ t, j % 3 = t := ⟨_, rfl⟩
      rw [ht] at hu hr ⊢
      rcases t with _ | _ | _ | t
      · cases hu; exact c0
      · cases hu; exact c1
      · cases hu; exact c2
      · omega
/-- Steps put behind nothing share their bytes. -/
theorem append_shared {P : Program} {e t ty bytes n cap : Nat} {i : TypeInfo} {z : Value} {w : World} {a : Option Addr} {l : List Wd.Io} (ht : P.underlying t = some (.slice e)) (hi : P.info? e = some i) (hz : i.zero = some z) (hsz : i.size = 3) (hby : i.bytes = bytes)
    (hzs : z.cells.size = 3) (h8 : bytes ≤ 64) (h : Wd.Is w (.slice a n cap) l) (hn : n ≤ 1000000) :
    ∃ v' w', Sem.run P (Builtin.append_ #[t, t] ty #[.slice none 0 0, .slice a n cap]) w = .ok v' w' ∧ Oj e w.heap.size w w' v' l ∧ Below w.heap.size w w' := by
  obtain ⟨Ps, hP, hPl, hq, hc⟩ := is_pls h
  by_cases h0 : n = 0
  · subst h0
    obtain rfl := List.eq_nil_of_length_eq_zero hPl
    refine ⟨.slice none 0 0, w, ?_, ⟨[], hP, World.ownsRow_nil _ _ _ _, by simp, by simp⟩, Below.refl _ _⟩
    simp [Builtin.append_, run_underlying ht, Go.sizeOf, typeInfo, hi, Builtin.lenOf, Builtin.firstCells]
    cases a <;> simp [loadCells, loadCellsFrom]
  · obtain ⟨b, off, rfl, hcc⟩ := hc (by omega)
    obtain ⟨v', w', k1, k2, k3, -⟩ := run_append_own (P := P) w w.heap.size t ty e i z 3 bytes ht hi hz hsz hby hzs (by decide) (.slice none 0 0) 0 [] (World.ownsRow_nil _ _ _ _) ⟨b, off, none⟩ n cap (Ps.flatMap Wd.cells3) (by rw [Wd.flat_length, hPl]) (fun j u hu => by rw [Wc.add_none]; exact hcc j u hu) (by
        intro x hx
        obtain ⟨q, -, hx⟩ := List.mem_flatMap.1 hx
        simp only [Wd.cells3, List.mem_cons, List.not_mem_nil, or_false] at hx; rcases hx with rfl | rfl | rfl <;> rfl) (by unfold maxLen; omega) (by
          have := Nat.mul_le_mul_left (0 + n) h8
          omega) (Nat.le_refl _)
    exact ⟨v', w', k1, ⟨Ps, hP, by simpa [hPl] using k2, by omega, hq⟩, (Below.refl _ _).grown k3 (Nat.le_refl _) (fun g hg => by simp [Value.ownBlock] at hg)⟩
/-- Steps put behind such memory. -/
theorem append_held {P : Program} {e u t ty base bytes c : Nat} {i : TypeInfo} {z : Value} {w0 wb w : World} {v : Value} {ad : Addr} {l : List Wd.Io} (Ps : List Wd.Pl) (ht : P.underlying t = some (.slice e)) (hi : P.info? e = some i) (hz : i.zero = some z) (hsz : i.size = 3) (hby : i.bytes = bytes)
    (hzs : z.cells.size = 3) (h8 : bytes ≤ 64) (hne : e ≠ u) (hv0 : Oj e base w0 wb v l) (hk : Below wb.heap.size wb w) (hu : ∀ j x, (Ps.flatMap Wd.cells3)[j]? = some x → w.cell? (ad.add j) = some x) (hq : ∀ q ∈ Ps, Wc.Ob u base w (.slice q.2.1 q.1.data.length q.2.2) q.1.data) (hl : l.length + Ps.length ≤ 1048576) (h0 : Below w0.heap.size w0 w) (hbase : w0.heap.size ≤ base) (hbw : base ≤ w.heap.size) :
    ∃ v' w', Sem.run P (Builtin.append_ #[t, t] ty #[v, .slice (some ad) Ps.length c]) w = .ok v' w' ∧ Wd.Is w' v' (l ++ Ps.map Prod.fst) ∧ Below base w w' ∧
      ∀ (b : Nat) (o : Obj), wb.heap.size ≤ b → w.heap[b]? = some o → w'.heap[b]? = some o := by
  have hv := hv0.keep hk
  obtain ⟨Q0, -, h20, -, -⟩ := hv0
  obtain ⟨Q, hQ, h2, h3, h4⟩ := hv
  have hlq : Q.length + Ps.length ≤ 1048576 := by have := congrArg List.length hQ; simp at this; omega
  obtain ⟨v', w', k1, k2, k3, -⟩ := run_append_own (P := P) w base t ty e i z 3 bytes ht hi hz hsz hby hzs (by decide) v _ _ h2 ad Ps.length c (Ps.flatMap Wd.cells3) (Wd.flat_length Ps) hu (by
      intro x hx
      obtain ⟨q, -, hx⟩ := List.mem_flatMap.1 hx
      simp only [Wd.cells3, List.mem_cons, List.not_mem_nil, or_false] at hx; rcases hx with rfl | rfl | rfl <;> rfl) (by unfold maxLen; omega) (by
        have := Nat.mul_le_mul_left (Q.length + Ps.length) h8
        omega) hbw
  have hB : Below base w w' := (Below.refl _ _).grown k3 hbw (fun g hg => (h2.lt g hg).1)
  refine ⟨v', w', k1, ?_, hB, fun b o hb ho => (k3.block b (Array.getElem?_eq_some_iff.1 ho).1 (fun ee => by have := (h20.lt b (by rw [ee])).2; omega)).trans ho⟩
  rw [← hQ, ← List.map_append]
  refine is_own (e := e) (base := base) ?_ (by simpa using hlq) (fun x hx => ?_)
  · rw [List.flatMap_append, List.length_append]; exact k2
  · rcases List.mem_append.1 hx with hx | hx
    · exact (h4 x hx).keep (h0.trans (hB.mono hbase))
    · have := Wd.ob_grown hne h2 k3 (hq x hx)
      exact ⟨this.bs, this.shaped⟩
end Wq
namespace Go.Proofs.YtfflhiajbioheaaGreat
open Go.RowKit

/-- An append of steps to memory that shares, in a region that draws. -/
theorem step_append_held {ops : Array Oper} {o : Oper} {a : Act} {w0 wb w : World} {K : Act → World → Prop} {Q : Exit → Act → World → Prop} {E : Prop} {s x : Operand} {v u : Value} {ad : Addr} {c m : Nat} {l : List Wd.Io} (Ps : List Wd.Pl) (base : Nat)
    (hgd : o.guard = none) (ho : o.op = .call { callee := .builtin .append, args := #[s, x], argTypes := #[27, 27] }) (hs : a.eval s = v) (hx : a.eval x = u) (hue : u = .slice (some ad) m c) (hm : Ps.length = m)
    (hv : Wq.Oj 50 base w0 wb v l) (hk : Below wb.heap.size wb w) (hu : ∀ j x, (Ps.flatMap Wd.cells3)[j]? = some x → w.cell? (ad.add j) = some x) (hq : ∀ q ∈ Ps, Wc.Ob 5 base w (.slice q.2.1 q.1.data.length q.2.2) q.1.data) (hl : l.length + Ps.length ≤ 1048576) (h0 : Below w0.heap.size w0 w) (hbase : w0.heap.size ≤ base) (hbw : base ≤ w.heap.size)
    (h : ∀ v' w', Wd.Is w' v' (l ++ Ps.map Prod.fst) → Below base w w' → (∀ (b : Nat) (o : Obj), wb.heap.size ≤ b → w.heap[b]? = some o → w'.heap[b]? = some o) → K (a.put o.dst v') w') :
    if Region.wanted o (yielded ops a.tmps) = true then Oper.wp Tryz.prog o a w K Q else E := by
  obtain ⟨i0, hi, hz0, hz1, hz2⟩ := info_parts Tryz.info38
  subst hm
  obtain ⟨v', w1, hrun, hO, hb1, hst⟩ := Wq.append_held (P := Tryz.prog) (ty := o.type) (c := c) Ps Tryz.underlying27 hi hz0 hz1 hz2 rfl (by omega) (by decide) hv hk hu hq hl h0 hbase hbw
  rw [← hue] at hrun
  clear hue
  have hw : Region.wanted o (yielded ops a.tmps) = true := by simp [Region.wanted, hgd]
  rw [if_pos hw]
  unfold Oper.wp
  simp [execOp, ho, resolve, invoke, builtin, hs, hx, hrun, Result.andThen]
  exact h v' w1 hO hb1 hst

theorem refSuperBytes15 (s : Ws.Sup) (w : World) (hs : Ws.supB s = true) :
    Calls Tryz.prog 26 #[sv s] w fun e w' => ∃ g c, e = .returned (.slice (some ⟨g, 0, none⟩) 64 c) ∧ Wc.Ob 5 w.heap.size w' (.slice (some ⟨g, 0, none⟩) 64 c) (Ws.blk s) ∧ Below w.heap.size w w' := by
  refine (refSuperBytes_ob s w hs).mono ?_
  rintro e w' ⟨v, rfl, hO, hb⟩
  obtain ⟨g, c, rfl⟩ := Wc.ob_form hO (by rw [Ws.blk_length]; decide)
  rw [Ws.blk_length] at hO ⊢
  exact ⟨g, c, rfl, hO, hb⟩
theorem tail_heldc {base g c : Nat} {W : World} {s : Ws.Sup} {p root size first : Int} (h : Wc.Ob 5 base W (.slice (some ⟨g, 0, none⟩) 64 c) (Ws.blk (Wq.nxt s root size first))) :
    ∀ q ∈ ([(⟨2, 0, []⟩, (none, 0)), (⟨1, p, Ws.blk (Wq.nxt s root size first)⟩, (some ⟨g, 0, none⟩, c)), (⟨2, 0, []⟩, (none, 0))] : List Wd.Pl), Wc.Ob 5 base W (.slice q.2.1 q.1.data.length q.2.2) q.1.data := by
  have h0 : Wc.Ob 5 base W (.slice none 0 0) [] := Wc.Ob.nil 5 base W
  have h1 : Wc.Ob 5 base W (.slice (some ⟨g, 0, none⟩) (Ws.blk (Wq.nxt s root size first)).length c) (Ws.blk (Wq.nxt s root size first)) := by rw [Ws.blk_length]; exact h
  intro q hq
  rcases List.mem_cons.1 hq with rfl | hq
  · exact h0
  rcases List.mem_cons.1 hq with rfl | hq
  · exact h1
  obtain rfl := List.mem_singleton.1 hq
  exact h0
theorem lit_held (w : World) (Ps : List Wd.Pl) (e : Nat) (cs : Array Value) (hcs : cs.toList = Ps.flatMap Wd.cells3) : ∀ j u, (Ps.flatMap Wd.cells3)[j]? = some u → (w.alloc (.cells cs e)).cell? ((⟨w.heap.size, 0, none⟩ : Addr).add j) = some u := Wq.lit_ios w Ps e cs hcs
theorem tail_litc (w : World) (s : Ws.Sup) (p root size first : Int) (g c e : Nat) : ∀ j u, (([(⟨2, 0, []⟩, (none, 0)), (⟨1, p, Ws.blk (Wq.nxt s root size first)⟩, (some ⟨g, 0, none⟩, c)), (⟨2, 0, []⟩, (none, 0))] : List Wd.Pl).flatMap Wd.cells3)[j]? = some u →
    (w.alloc (.cells #[.int .i64 2, .int .i64 0, .slice none 0 0, .int .i64 1, .int .i64 p, .slice (some ⟨g, 0, none⟩) 64 c, .int .i64 2, .int .i64 0, .slice none 0 0] e)).cell? ((⟨w.heap.size, 0, none⟩ : Addr).add j) = some u :=
  lit_held w _ e _ (by simp [Wd.cells3, Ws.blk_length])

set_option maxRecDepth 100000 in
set_option maxHeartbeats 12800000 in
theorem refCommit_any (s : Ws.Sup) (t : Int) (v : Value) (a : Option Addr) (n cap : Nat) (l : List Wd.Io) (root size first : Int) (w : World) (hI : Wd.Is w (.slice a n cap) l) (hn : n ≤ 1000000) (hs : Ws.supB (Wq.nxt s root size first) = true) (ht0 : 0 ≤ t) (ht1 : t ≤ 1) :
    Calls Tryz.prog 10 #[stv s t v, .slice a n cap, .int .i64 root, .int .i64 size, .int .i64 first] w fun e w' => ∃ al cl, e = .returned (.slice al (l.length + 3) cl) ∧ Wd.Is w' (.slice al (l.length + 3) cl) (Wq.sts s t l root size first) ∧ Below w.heap.size w w' := by
  obtain ⟨i0, hi, hz0, hz1, hz2⟩ := info_parts Tryz.info38
  have hgn := (Ws.supB_iff.1 hs).1
  have HGN : Hid (1 ≤ s.gen + 1 ∧ s.gen + 1 ≤ 1099511627776) := Wc.hid hgn
  have bA := (Below.refl w.heap.size w).alloc (Nat.le_refl _) (.cells #[.int .i64 s.gen, .int .i64 s.blocks, .int .i64 s.root, .int .i64 s.size, .int .i64 s.first, .int .i64 t, v] 26)
  have Z := Zh.new w s t v
  have HL := Wc.hid (Wd.is_len hI)
  have hIA := hI.keep bA
  obtain ⟨W1, hW1⟩ : ∃ W1, w.alloc (.cells #[.int .i64 s.gen, .int .i64 s.blocks, .int .i64 s.root, .int .i64 s.size, .int .i64 s.first, .int .i64 t, v] 26) = W1 := ⟨_, rfl⟩
  have HS : Hid (W1.heap.size = w.heap.size + 1) := Wc.hid (by rw [← hW1]; simp)
  rw [hW1] at bA Z hIA
  obtain ⟨v2, w2, hrun, hO2, hb2⟩ := Wq.append_shared (P := Tryz.prog) (ty := 27) Tryz.underlying27 hi hz0 hz1 hz2 rfl (by omega) hIA hn
  obtain ⟨ya, yc, rfl⟩ := hO2.slice
  have HW1 := Wc.hid hW1
  have BA := Wc.hid bA
  have HZ := Wc.hid Z
  have Z2 := Wc.hid (Z.keep hb2)
  have O2 := Wc.hid hO2
  have B2 := Wc.hid hb2
  obtain ⟨Bx, hBx⟩ : ∃ Bx, w.heap.size = Bx := ⟨_, rfl⟩
  have HBX := Wc.hid hBx
  clear hW1 bA Z hI hIA hgn hO2 hb2 hBx
  unfold stv
  go_enter Tryz.func10, Tryz.ntmps10
  rw [← HW1.out] at hrun
  have ⟨z0, z1, z2, z3, z4, z5, z6⟩ := Z2.out.zc
  have hg1 := HGN.out
  go_wp2_with (first | (at_builtin; refine Wv.wp_append hrun rfl rfl rfl rfl ?_) | fail)
  have bS := (Below.refl w2.heap.size w2).alloc (Nat.le_refl _) (.cells #[.int .i64 (s.gen + 1), .int .i64 s.blocks, .int .i64 root, .int .i64 size, .int .i64 first] 23)
  have Z3 := Wc.hid (Z2.out.keep bS)
  have O3 := Wc.hid (O2.out.keep bS)
  have S3 := Wc.hid (Sh.new w2 (Wq.nxt s root size first))
  have B3 := Wc.hid (Wc.step B2.out (Nat.le_refl _) bS)
  have B23 := Wc.hid bS
  obtain ⟨W3, hW3⟩ : ∃ W3, w2.alloc (.cells #[.int .i64 (s.gen + 1), .int .i64 s.blocks, .int .i64 root, .int .i64 size, .int .i64 first] 23) = W3 := ⟨_, rfl⟩
  have S3' : Hid (Sh W3 w2.heap.size (Wq.nxt s root size first)) := Wc.hid (by rw [← hW3]; exact S3.out)
  rw [hW3] at Z3 O3 B3 B23 ⊢
  clear S3 hW3 bS z0 z1 z2 z3 z4 z5 z6 hrun
  obtain ⟨Sx, hSx⟩ : ∃ Sx, w2.heap.size = Sx := ⟨_, rfl⟩
  have HSX := Wc.hid hSx
  rw [hSx] at S3' ⊢
  have ⟨c0, c1, c2, c3, c4⟩ := S3'.out.sc
  have HBW : Hid (Bx < W1.heap.size) := Wc.hid (by have h1 := HBX.out; have h2 := HS.out; omega)
  rw [HBX.out] at Z3 ⊢
  have ⟨z0, z1, z2, z3, z4, z5, z6⟩ := Z3.out.zc
  have HLN : Hid (l.length + 3 ≤ 1048576) := Wc.hid (by rw [HL.out]; omega)
  have HB12 : Hid (W1.heap.size ≤ W3.heap.size) := Wc.hid B3.out.size
  clear hSx z0 z1 z2 z3 z4 z6 hg1 hn
  go_region_held3 (fun w' => w'.cell? ⟨Bx, 5, none⟩ = some (.int .i64 t) ∧ w'.cell? ⟨Sx, 0, none⟩ = some (.int .i64 (Wq.nxt s root size first).gen) ∧ w'.cell? ⟨Sx, 1, none⟩ = some (.int .i64 (Wq.nxt s root size first).blocks) ∧ w'.cell? ⟨Sx, 2, none⟩ = some (.int .i64 (Wq.nxt s root size first).root) ∧ w'.cell? ⟨Sx, 3, none⟩ = some (.int .i64 (Wq.nxt s root size first).size) ∧ w'.cell? ⟨Sx, 4, none⟩ = some (.int .i64 (Wq.nxt s root size first).first)) (go_keep) (first | (refine step_append_held (w0 := W1) (wb := w2) [(⟨2, 0, []⟩, (none, 0)), (⟨1, IntKind.i64.wrap (1 - t), Ws.blk (Wq.nxt s root size first)⟩, (some ⟨gS, 0, none⟩, cS)), (⟨2, 0, []⟩, (none, 0))] W1.heap.size rfl rfl rfl rfl (by rfl) (by rfl) (by exact O2.out) (by exact (Wc.step B23.out (Nat.le_refl _) hbS').alloc (by have h1 := hbS'.size; have h2 := B23.out.size; omega) _) (by exact tail_litc wS s (IntKind.i64.wrap (1 - t)) root size first gS cS 50) (by exact tail_heldc ((hOS.base (by have := HB12.out; simpa using this)).keep ((Below.refl _ _).alloc (Nat.le_refl _) _))) (by exact HLN.out) (by exact (Wc.step B3.out (Nat.le_refl _) hbS').alloc (by have h1 := hbS'.size; have h2 := HB12.out; omega) _) (Nat.le_refl _) (by have h1 := hbS'.size; have h2 := HB12.out; simp; omega) ?_; intro v15 w15 hO15 hb15 hst15; have hS15 : Sh w15 Sx (Wq.nxt s root size first) := hst15 Sx _ (by have := HSX.out; omega) ((S3'.out.keep hbS').keep ((Below.refl _ _).alloc (Nat.le_refl _) _)); have ⟨f0, f1, f2, f3, f4⟩ := hS15.sc; have k5 := (hb15.cell (p := ⟨Bx, 5, none⟩) HBW.out).trans ((Z3.out.keep hbS').keep ((Below.refl _ _).alloc (Nat.le_refl _) _)).zc.2.2.2.2.2.1) | (go_at_call 26; refine (refSuperBytes15 (Wq.nxt s root size first) _ hs).mono ?_; rintro e wS ⟨gS, cS, rfl, hOS, hbS⟩; have hbS' := ((Below.refl W3.heap.size W3).drew).trans hbS; have k5 := (Z3.out.keep hbS').zc.2.2.2.2.2.1; have ⟨f0, f1, f2, f3, f4⟩ := (S3'.out.keep hbS').sc) | fail)
  obtain ⟨za, zc, hza⟩ := hO15.slice15
  rw [show (l ++ List.map Prod.fst ([(⟨2, 0, []⟩, (none, 0)), (⟨1, IntKind.i64.wrap (1 - t), Ws.blk (Wq.nxt s root size first)⟩, (some ⟨gS, 0, none⟩, cS)), (⟨2, 0, []⟩, (none, 0))] : List Wd.Pl)).length = l.length + 3 by simp] at hza
  subst hza
  have hwr : IntKind.i64.wrap (1 - t) = 1 - t := by rcases (show t = 0 ∨ t = 1 by omega) with rfl | rfl <;> rfl
  rw [hwr] at hO15
  have O16 : Hid (Wd.Is w15 (.slice za (l.length + 3) zc) (Wq.sts s t l root size first)) := Wc.hid hO15
  have B16 := Wc.hid (((Wc.step B3.out (Nat.le_refl _) hbS').alloc (by have h1 := hbS'.size; have h2 := HB12.out; omega) (.cells #[.int .i64 2, .int .i64 0, .slice none 0 0, .int .i64 1, .int .i64 (IntKind.i64.wrap (1 - t)), .slice (some ⟨gS, 0, none⟩) 64 cS, .int .i64 2, .int .i64 0, .slice none 0 0] 50)).trans hb15)
  clear hO15 hb15 hst15 hS15 f0 f1 f2 f3 f4 k5 z5 c0 c1 c2 c3 c4 hbS hbS' hOS hwr
  go_wp2_with fail
  go_ret
  exact ⟨za, zc, rfl, O16.out, BA.out.trans (B16.out.mono BA.out.size)⟩
end Go.Proofs.YtfflhiajbioheaaGreat
