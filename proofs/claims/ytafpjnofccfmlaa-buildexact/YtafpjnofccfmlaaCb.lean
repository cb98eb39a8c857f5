/-
  What build.nodeOf returns: the node of a place, and whether it leads to anything.
-/
import Derived.Test.YtafpjnofccfmlaaCa
import Derived.Test.YtafpjnofccfmlaaPk
namespace Go.Proofs.Ytafpjnofccfmlaa
open Go.RowKit

theorem step_copy_run {ops : Array Oper} {o : Oper} {a : Act} {w w' : World} {K : Act → World → Prop} {Q : Exit → Act → World → Prop} {E : Prop} {d s : Operand} {t : TypeId} {v u r : Value}
    (hgd : o.guard = none) (ho : o.op = .call { callee := .builtin .copy, args := #[d, s], argTypes := #[t, t] }) (hd : a.eval d = v) (hs : a.eval s = u)
    (hrun : Sem.run Try.prog (Builtin.copy_ #[t, t] o.type #[v, u]) w = .ok r w') (h : K (a.put o.dst r) w') :
    if Region.wanted o (yielded ops a.tmps) = true then Oper.wp Try.prog o a w K Q else E := by
  have hw : Region.wanted o (yielded ops a.tmps) = true := by simp [Region.wanted, hgd]
  rw [if_pos hw]
  unfold Oper.wp
  simp [execOp, ho, resolve, invoke, builtin, hd, hs, hrun, Result.andThen]
  exact h
theorem step_append_run {ops : Array Oper} {o : Oper} {a : Act} {w w' : World} {K : Act → World → Prop} {Q : Exit → Act → World → Prop} {E : Prop} {d s : Operand} {t : TypeId} {v u r : Value}
    (hgd : o.guard = none) (ho : o.op = .call { callee := .builtin .append, args := #[d, s], argTypes := #[t, t] }) (hd : a.eval d = v) (hs : a.eval s = u)
    (hrun : Sem.run Try.prog (Builtin.append_ #[t, t] o.type #[v, u]) w = .ok r w') (h : K (a.put o.dst r) w') :
    if Region.wanted o (yielded ops a.tmps) = true then Oper.wp Try.prog o a w K Q else E := by
  have hw : Region.wanted o (yielded ops a.tmps) = true := by simp [Region.wanted, hgd]
  rw [if_pos hw]
  unfold Oper.wp
  simp [execOp, ho, resolve, invoke, builtin, hd, hs, hrun, Result.andThen]
  exact h

/-- Eight numbers of a row are laid into the pointers of a node. -/
theorem copy8 (w : World) (B b off n cap : Nat) (xs : List Int) (k l : Nat) (hN : Nh w B ⟨(l : Int), 0, 0, 0, 0, 0, 0, 0, 0⟩) (h8 : 8 * k + 8 ≤ n) (hc : ∀ i, i < n → w.cell? ⟨b, off + i, none⟩ = some (.int .i64 (xs.getD i 0))) :
    ∃ w2, Sem.run Try.prog (Builtin.copy_ #[23, 23] 3 #[.slice (some ⟨B, 1, none⟩) 8 8, .slice (some ⟨b, off + 8 * k, none⟩) (n - 8 * k) cap]) w = .ok (.int .i64 8) w2 ∧ Nh w2 B (Wb.mk l xs k) ∧ ∀ base w0, base ≤ B → Below base w0 w → Below base w0 w2 := by
  have hrun := run_copy_row (P := Try.prog) w 23 23 3 3 B 1 8 8 ⟨b, off + 8 * k, none⟩ (n - 8 * k) cap _ 83 ((List.range 8).map fun i => Value.int .i64 (xs.getD (8 * k + i) 0)) Try.underlying23 Try.size3 hN (by
      rw [List.length_map, List.length_range]; show 8 = min (n - 8 * k) 8; omega) (by
      intro j v hj
      have hj8 : j < 8 := by have := (List.getElem?_eq_some_iff.1 hj).1; simpa using this
      rw [Wc.add_none, show off + 8 * k + j = off + (8 * k + j) by omega, hc _ (by omega)]
      rw [List.getElem?_map, List.getElem?_range hj8] at hj
      exact hj) (by simp) (by intro v hv; obtain ⟨x, _, rfl⟩ := List.mem_map.1 hv; rfl)
  refine ⟨_, hrun, ?_, fun base w0 h1 h2 => below_setRow h2 h1 _⟩
  exact setRow_heap _ _ _ _ 83 _ hN

theorem neq_none (n : Wn.Nod) (w : World) : (binOp .neq 81 (.agg #[.int .i64 n.p0, .int .i64 n.p1, .int .i64 n.p2, .int .i64 n.p3, .int .i64 n.p4, .int .i64 n.p5, .int .i64 n.p6, .int .i64 n.p7]) (.agg #[.int .i64 0, .int .i64 0, .int .i64 0, .int .i64 0, .int .i64 0, .int .i64 0, .int .i64 0, .int .i64 0])).run Try.prog w = .ok (.bool (!noneB n)) w := by
  rw [run_neq_struct]
  have h := equal_ptr n Wn.n0 9998 w
  have h' : (Op.equalIn 10000 81 (.agg #[.int .i64 n.p0, .int .i64 n.p1, .int .i64 n.p2, .int .i64 n.p3, .int .i64 n.p4, .int .i64 n.p5, .int .i64 n.p6, .int .i64 n.p7]) (.agg #[.int .i64 0, .int .i64 0, .int .i64 0, .int .i64 0, .int .i64 0, .int .i64 0, .int .i64 0, .int .i64 0])).run Try.prog w = .ok (noneB n) w := h
  rw [h']
  rfl

theorem ret_cell67 {fn : Func} {tmps : Array Value} {w : World} {B : Nat} {s : Wn.Nod} {v : Value} (hr : fn.results = #[.cell 6 83, .tmp 7]) (hp : tmps.getD 6 undef = .pointer (some ⟨B, 0, none⟩)) (hv : tmps.getD 7 undef = v) (h : Nc w B s) :
    (results fn tmps).run Try.prog w = .ok (.tuple #[nv s, v]) w := by
  obtain ⟨c, c0, c1, c2, c3, c4, c5, c6, c7⟩ := h
  rw [results_cell_tmp hr, hp, hv]
  simp [go_sem, c, c0, c1, c2, c3, c4, c5, c6, c7, nv]

set_option maxRecDepth 100000 in
set_option maxHeartbeats 1600000 in
theorem nodeOf_any (b off n cap : Nat) (L : Int) (l k : Nat) (xs : List Int) (w : World) (hL : L = l) (h8 : 8 * k + 8 ≤ n) (hn : n ≤ 100000) (hv : Wd.In w (.slice (some ⟨b, off, none⟩) n cap) xs) :
    Calls Try.prog 48 #[.slice (some ⟨b, off, none⟩) n cap, .int .i64 L, .int .i64 k] w fun e w' => e = .returned (.tuple #[nv (Wb.mk l xs k), .bool (!Wb.nul xs k)]) ∧ Below w.heap.size w w' := by
  have hs := fun w => slice_ints (some ⟨b, off, none⟩) n cap (8 * k) (by omega) w
  obtain ⟨b', off', n', cap', he, hpos, hl, hcap, -, -, hb, hc⟩ : ∃ b' off' n' cap', Value.slice (some ⟨b, off, none⟩) n cap = .slice (some ⟨b', off', none⟩) n' cap' ∧ 0 < n' ∧ xs.length = n' ∧ n' ≤ cap' ∧ cap' ≤ 9223372036854775807 ∧ n' ≤ 17592186044416 ∧ b' < w.heap.size ∧ ∀ i, i < n' → w.cell? ⟨b', off' + i, none⟩ = some (.int .i64 (xs.getD i 0)) := by
    rcases hv.open with ⟨_, a, c, he, -⟩ | h
    · cases he; omega
    · exact h
  cases he
  rw [if_neg (show ¬ cap = 8 * k by omega)] at hs
  simp only [Option.map_some, Wc.add_none] at hs
  have hs : ∀ w, (Instr.slice 23 (.slice (some ⟨b, off, none⟩) n cap) (some (.int .i64 (8 * (k : Int)))) none none).run Try.prog w = .ok (.slice (some ⟨b, off + 8 * k, none⟩) (n - 8 * k) (cap - 8 * k)) w := hs
  have hm : IntKind.i64.wrap ((k : Int) * 8) = ((8 * k : Nat) : Int) := by rw [wrapS _ (by omega)]; omega
  have A0 := Nh.new w ⟨(l : Int), 0, 0, 0, 0, 0, 0, 0, 0⟩
  have bA := (Below.refl w.heap.size w).alloc (Nat.le_refl _) (.cells #[.int .i64 (l : Int), .int .i64 0, .int .i64 0, .int .i64 0, .int .i64 0, .int .i64 0, .int .i64 0, .int .i64 0, .int .i64 0] 83)
  obtain ⟨w2, hrun, hN, hb2⟩ := copy8 _ w.heap.size b off n (cap - 8 * k) xs k l (A0.keep (show_drew (Below.refl _ _))) h8 (fun i hi => (bA.cell (p := ⟨b, off + i, none⟩) hb).trans (hc i hi))
  have HRUN := Wc.hid hrun
  have HN := Wc.hid hN
  have HB := Wc.hid (hb2 _ _ (Nat.le_refl _) (show_drew bA))
  have HX := Wc.hid (nul_none xs l k)
  clear hrun hN hb2 hv hc hl hcap hb hpos A0 bA
  subst hL
  go_enter Try.func48, Try.ntmps48
  go_wp2_with fail
  go_region_law (refine step_copy_run rfl rfl rfl rfl (by exact HRUN.out) ?_)
  obtain ⟨N, hN⟩ : ∃ N, Wb.mk l xs k = N := ⟨_, rfl⟩
  rw [hN] at HN HX
  have HE := Wc.hid hN
  clear hN HRUN hs hm
  have hx := neq_none N
  have ⟨c, c0, c1, c2, c3, c4, c5, c6, c7⟩ := HN.out.nc
  have hf := HN.out.frozen
  go_wp2_with fail
  go_region
  all_goals (
    go_wp2_with fail
    have H9 := (HN.out.over N).keep (show_drew (Below.refl _ _))
    exact bodyPost_ret (ret_cell67 rfl rfl rfl H9.nc) rfl ⟨by rw [HE.out, ← HX.out]; first | done | rfl, show_drew (below9 HB.out (Nat.le_refl _) N)⟩)
end Go.Proofs.Ytafpjnofccfmlaa
