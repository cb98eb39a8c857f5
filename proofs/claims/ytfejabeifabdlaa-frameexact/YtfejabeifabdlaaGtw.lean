/-
  What keep.TwinCommands returns, of one command.
-/
import Derived.Test.YtfejabeifabdlaaFcom
import Derived.LoopN
namespace Go.Proofs.Ytfejabeifabdlaa
open Go.RowKit

theorem Try.infoCmd : (Try.prog.info? 24).map (fun i => (i.zero, i.size, i.bytes)) = some (some (.agg #[.int .i64 0, .int .i64 0, .int .i64 0, .int .i64 0, .int .i64 0, .int .i64 0, .int .i64 0, .int .i64 0, .slice none 0 0]), 9, 88) := by kernel_rfl

theorem info_cmd : ∃ i, Try.prog.info? 24 = some i ∧ i.zero = some (.agg #[.int .i64 0, .int .i64 0, .int .i64 0, .int .i64 0, .int .i64 0, .int .i64 0, .int .i64 0, .int .i64 0, .slice none 0 0]) ∧ i.size = 9 ∧ i.bytes = 88 := by
  have h := Try.infoCmd
  cases hq : Try.prog.info? 24 with
  | none => rw [hq] at h; cases h
  | some i =>
    rw [hq] at h
    simp only [Option.map_some, Option.some.injEq, Prod.mk.injEq] at h
    exact ⟨i, rfl, h.1, h.2.1, h.2.2⟩

/-- The nine cells of a command. -/
def cells9 (c : Wk.Cmd) (v : Value) : List Value := [.int .i64 c.kind, .int .i64 c.id, .int .i64 c.parent, .int .i64 c.size, .int .i64 c.start, .int .i64 c.count, .int .i64 c.source, .int .i64 c.digest, v]

theorem append_cmd {ty base : Nat} {w : World} {ad : Addr} {k : Nat} {c : Wk.Cmd} {a : Option Addr} {m q : Nat} (hu : ∀ j x, (cells9 c (.slice a m q))[j]? = some x → w.cell? (ad.add j) = some x) (hbase : base ≤ w.heap.size) :
    ∃ g cap w', Sem.run Try.prog (Builtin.append_ #[25, 25] ty #[.slice none 0 0, .slice (some ad) 1 k]) w = .ok (.slice (some ⟨g, 0, none⟩) 1 cap) w' ∧ Wk.Cc w' g c (.slice a m q) ∧ base ≤ g ∧ g < w'.heap.size ∧ Below base w w' := by
  obtain ⟨i, hi, hz, hs, hb⟩ := info_cmd
  obtain ⟨v', w', k1, k2, k3, k4⟩ := run_append_own (P := Try.prog) w base 25 ty 24 i _ 9 88 Try.underlying25 hi hz hs hb rfl (by decide) (.slice none 0 0) 0 [] (World.ownsRow_nil _ _ _ _) ad 1 k (cells9 c (.slice a m q)) rfl hu (by
      intro x hx
      simp only [cells9, List.mem_cons, List.not_mem_nil, or_false] at hx
      rcases hx with rfl | rfl | rfl | rfl | rfl | rfl | rfl | rfl | rfl <;> rfl) (by unfold maxLen; omega) (by omega) hbase
  rcases k2.2 with ⟨_, h⟩ | ⟨g, cap, cur, rfl, hg, hh, h1, h2, h3, h4⟩
  · omega
  · have hcell : ∀ j x, (cells9 c (.slice a m q))[j]? = some x → w'.cell? ⟨g, j, none⟩ = some x := by
      intro j x hx
      have hj : j < 9 := by have := (List.getElem?_eq_some_iff.1 hx).1; simpa [cells9] using this
      have : (cur.toList.take (1 * 9))[j]? = some x := by
        have h4' : cur.toList.take ((0 + 1) * 9) = [] ++ cells9 c (.slice a m q) := h4
        rw [show (1 * 9 : Nat) = (0 + 1) * 9 from rfl, h4', List.nil_append]; exact hx
      rw [List.getElem?_take, if_pos (by omega), Array.getElem?_toList] at this
      simp [World.cell?, hh, this]
    refine ⟨g, cap, w', k1, ⟨hcell 0 _ rfl, hcell 1 _ rfl, hcell 2 _ rfl, hcell 3 _ rfl, hcell 4 _ rfl, hcell 5 _ rfl, hcell 6 _ rfl, hcell 7 _ rfl, hcell 8 _ rfl⟩, hg, (Array.getElem?_eq_some_iff.1 hh).1, (Below.refl _ _).grown k3 hbase (fun g' hg' => by cases hg')⟩

end Go.Proofs.Ytfejabeifabdlaa
