/-
  What keep.TwinInts and the page's Map return, for every input.
-/
import Derived.Test.YtiobegoiehjfiaaGreatJG
namespace Go.Proofs.YtiobegoiehjfiaaGreat
open Go.RowKit

theorem infoI : (Tryz.prog.info? 3).map (fun i => (i.zero, i.size, i.bytes)) = some (some (.int .i64 0), 1, 8) := by kernel_rfl

set_option maxHeartbeats 400000 in
theorem twinInts_any (v : Value) (xs : List Int) (w : World) (hv : Wd.In w v xs) (hs : Wv.Shaped v) :
    Calls Tryz.prog 5 #[v] w fun e w' => ∃ a c, e = .returned (.slice a xs.length c) ∧ Wd.In w' (.slice a xs.length c) xs ∧ Below w.heap.size w w' := by
  obtain ⟨i0, hi, hz0, hz1, hz2⟩ := info_parts infoI
  have hlen : xs.length ≤ 17592186044416 := by obtain ⟨_, n, _, _, h, _, _, h5, _⟩ := hv; omega
  obtain ⟨v', w', hrun, hO, hb⟩ := Wv.append_run (P := Tryz.prog) (ty := 22) (val := Value.int .i64) (d := 0) Tryz.underlying22 hi hz0 hz1 hz2 rfl (by omega) (fun _ => rfl) (Wv.Ov.nil 3 w.heap.size w) hv hs (by simpa using hlen) (Nat.le_refl _)
  have HI : Hid (Wd.In w' v' xs) := Wc.hid hO.rv
  have HB := Wc.hid hb
  clear hO hb hv
  go_enter Tryz.func5, Tryz.ntmps5
  go_wp2_with (at_builtin; refine Wv.wp_append hrun rfl rfl rfl rfl ?_)
  go_ret
  obtain ⟨a, n, c, rfl, hn, -⟩ := id HI.out
  subst hn
  exact ⟨a, c, rfl, HI.out, HB.out⟩

end Go.Proofs.YtiobegoiehjfiaaGreat
