/-
  FramePayload returns true, for all commands and numbers.
-/
import Derived.Test.YtfejabeifabdlaaFplb
import Derived.Test.YtfejabeifabdlaaFplc
namespace Go.Proofs.Ytfejabeifabdlaa
open Go.RowKit

theorem payload_long1 (c d : Wk.Cmd) (s : Int) (a1 a2 : Option Addr) (p1 p2 : Nat) (w : World) (h : 1500 < c.data.length) :
    Calls Try.prog 5 #[cv c (.slice a1 c.data.length p1), cv d (.slice a2 d.data.length p2), .int .i64 s] w fun e w' => e = .returned (.bool true) ∧ Below w.heap.size w w' := by
  have g1 : (1500 : Int) < (c.data.length : Int) := by omega
  unfold cv
  go_enter Try.func5, Try.ntmps5
  go_wp2_with fail
  go_ret
  exact ⟨rfl, ((Below.refl w.heap.size w).alloc (Nat.le_refl _) _).alloc (by simp) _⟩

theorem payload_long2 (c d : Wk.Cmd) (s : Int) (a1 a2 : Option Addr) (p1 p2 : Nat) (w : World) (h : c.data.length ≤ 1500) (h2 : 1500 < d.data.length) :
    Calls Try.prog 5 #[cv c (.slice a1 c.data.length p1), cv d (.slice a2 d.data.length p2), .int .i64 s] w fun e w' => e = .returned (.bool true) ∧ Below w.heap.size w w' := by
  have g1 : ¬ (1500 : Int) < (c.data.length : Int) := by omega
  have g2 : (1500 : Int) < (d.data.length : Int) := by omega
  unfold cv
  go_enter Try.func5, Try.ntmps5
  go_wp2_with fail
  go_ret
  exact ⟨rfl, ((Below.refl w.heap.size w).alloc (Nat.le_refl _) _).alloc (by simp) _⟩

theorem payload_law (c d : Wk.Cmd) (s : Int) (a1 a2 : Option Addr) (p1 p2 : Nat) (w : World) (hv1 : Wc.Bs w (.slice a1 c.data.length p1) c.data) (hs1 : Wc.Shaped (.slice a1 c.data.length p1)) (hv2 : Wc.Bs w (.slice a2 d.data.length p2) d.data) (hs2 : Wc.Shaped (.slice a2 d.data.length p2)) (hc : Wk.Held c) (hd : Wk.Held d) (n1 : c.data.length ≤ 1500) (n2 : d.data.length ≤ 1500) :
    Calls Try.prog 5 #[cv c (.slice a1 c.data.length p1), cv d (.slice a2 d.data.length p2), .int .i64 s] w fun e w' => e = .returned (.bool true) ∧ Below w.heap.size w w' := by
  cases h1 : Wk.cmdB c
  · exact payload_no c d s a1 a2 p1 p2 w hv1 hs1 hv2 hs2 hc hd n1 n2 h1
  · cases h2 : Wk.cmdB d
    · exact payload_half c d s a1 a2 p1 p2 w hv1 hs1 hv2 hs2 hc hd n1 n2 h1 h2
    · by_cases hk : c.kind = d.kind
      · exact payload_both_like c d s a1 a2 p1 p2 w hv1 hs1 hv2 hs2 hc hd n1 n2 h1 h2 hk
      · exact payload_both_unlike c d s a1 a2 p1 p2 w hv1 hs1 hv2 hs2 hc hd n1 n2 h1 h2 hk

end Go.Proofs.Ytfejabeifabdlaa
