/-
  Memory of the call's own that holds steps, and append to it; what keep.TwinIos and keep.Ios return.
-/
import Derived.Test.YtfflhiajbioheaaJP
namespace Wd
open Go Go.RowKit

/-- New cells hold steps. -/
theorem Is.lit (w : World) (cs : Array Value) (e n : Nat) (P : List Pl) (hn : P.length = n) (hm : n ≤ 1099511627776) (hc : cs.toList = P.flatMap cells3) (hq : ∀ q ∈ P, Held w q) :
    Is (w.alloc (.cells cs e)) (.slice (some ⟨w.heap.size, 0, none⟩) n n) (P.map Prod.fst) := by
  refine ⟨_, n, n, rfl, by simpa using hn, Nat.le_refl _, by omega, hm, fun _ => ⟨w.heap.size, 0, rfl, by simp, fun i hi => ?_⟩⟩
  rw [getD_map P i (by omega)]
  refine ⟨P[i].2.1, P[i].2.2, at_of_cells (fun j u hu => ?_) ((hq _ (List.getElem_mem (by omega))).keep ((Below.refl _ _).alloc (Nat.le_refl _) _))⟩
  have hj : j < 3 := by have := (List.getElem?_eq_some_iff.1 hu).1; simpa [cells3] using this
  have hsz : cs.size = n * 3 := by rw [← Array.length_toList, hc, flat_length]; omega
  have hr := World.rowIs_alloc w cs e (fun i => cs.toList.getD i .nilFunc) (fun i hi => by
    rw [← Array.getElem?_toList]; simp [hi])
  have hce := hr.cell (i := i * 3 + j) (by omega)
  rw [Nat.zero_add, hce, hc]
  rw [List.getD_eq_getElem?_getD, flat_get P i j (by omega) hj, hu]; rfl

end Wd
namespace Go.Proofs.Ytfflhiajbioheaa
open Go.RowKit

theorem Try.info38 : (Try.prog.info? 38).map (fun i => (i.zero, i.size, i.bytes)) = some (some (.agg #[.int .i64 0, .int .i64 0, .slice none 0 0]), 3, 40) := by kernel_rfl

/-- An append of one step in a region that draws. -/
theorem step_append_io {ops : Array Oper} {o : Oper} {a : Act} {w : World} {K : Act → World → Prop} {Q : Exit → Act → World → Prop} {E : Prop} {s x : Operand} {v u : Value} {ad : Addr} {c : Nat} {l : List Wd.Io} (q : Wd.Pl) (base : Nat)
    (hgd : o.guard = none) (ho : o.op = .call { callee := .builtin .append, args := #[s, x], argTypes := #[36, 36] }) (hs : a.eval s = v) (hx : a.eval x = u) (hue : u = .slice (some ad) 1 c)
    (hv : Wd.Oi 38 5 base w v l) (hu : ∀ j x, (Wd.cells3 q)[j]? = some x → w.cell? (ad.add j) = some x) (hq : Wc.Ob 5 base w (.slice q.2.1 q.1.data.length q.2.2) q.1.data) (hl : l.length + 1 ≤ 1048576) (hbase : base ≤ w.heap.size)
    (h : ∀ v' w', Wd.Oi 38 5 base w' v' (l ++ [q.1]) → Below base w w' → K (a.put o.dst v') w') :
    if Region.wanted o (yielded ops a.tmps) = true then Oper.wp Try.prog o a w K Q else E := by
  obtain ⟨i0, hi, hz0, hz1, hz2⟩ := info_parts Try.info38
  obtain ⟨v', w1, hrun, hO, hb1⟩ := Wd.append_io (P := Try.prog) (ty := o.type) Try.underlying36 hi hz0 hz1 hz2 rfl (by omega) (by decide) hv hu hq hl hbase (c := c)
  rw [← hue] at hrun
  clear hue
  have hw : Region.wanted o (yielded ops a.tmps) = true := by simp [Region.wanted, hgd]
  rw [if_pos hw]
  unfold Oper.wp
  simp [execOp, ho, resolve, invoke, builtin, hs, hx, hrun, Result.andThen]
  exact h v' w1 hO hb1

end Go.Proofs.Ytfflhiajbioheaa
