/-
  A state that came in, by value: its records a slice of any length. It speaks of no program but of its types.
-/
import Derived.Test.YtfflhiajbioheaaGreatJL
namespace Wi
open Go Go.RowKit Go.ChangeShapes Go.WideShapes
/-- Records that came in. -/
def RawR (w : World) (a : Option Addr) (n cap : Nat) (l : List Wr.Rec) : Prop :=
  l.length = n ∧ n ≤ cap ∧ cap ≤ 9223372036854775807 ∧
    (0 < n → ∃ b off, a = some ⟨b, off, none⟩ ∧ b < w.heap.size ∧ ∀ i, i < n → Ra w b (off + i * 8) (l.getD i Wr.r0))
theorem RawR.rs {w : World} {a : Option Addr} {n cap : Nat} {l : List Wr.Rec} (h : RawR w a n cap l) (hn : n ≤ 1099511627776) : Rs w (.slice a n cap) l :=
  ⟨a, n, cap, rfl, h.1, h.2.1, h.2.2.1, hn, h.2.2.2⟩

section
variable {H : Type} {enc : TypeId × Value → H} {P : Program} {w : World} {base : Nat} {spare : Nat → Bool} {held : Bool} {x : DataW H × List MemPlace} {fuel : Nat}

theorem open_recs {t e it : TypeId} {f0 f1 f2 f3 f4 f5 f6 f7 : Field} {a : Option Addr} {len cap : Nat} (ht : P.underlying t = some (.slice e)) (he : P.underlying e = some (.struct #[f0, f1, f2, f3, f4, f5, f6, f7])) (hc : P.cellsOf e = 8)
    (hte : [f0, f1, f2, f3, f4, f5, f6, f7].map (fun f => (f.type, f.offset)) = [(it, 0), (it, 1), (it, 2), (it, 3), (it, 4), (it, 5), (it, 6), (it, 7)]) (hi : P.underlying it = some (.int .i64)) (hci : P.cellsOf it = 1) (h : DataW.trod enc P w base spare held fuel t [.slice a len cap] = some x) :
    ∃ l, RawR w a len cap l := by
  rcases Deep.open_slice ht h with ⟨h0, _⟩ | ⟨ad, len', cap', m, n, D, Pl, h0, hb, hl, hm, hmm, -, hx⟩
  · simp at h0
    obtain ⟨rfl, rfl, rfl⟩ := h0
    exact ⟨[], rfl, Nat.le_refl _, by omega, by omega⟩
  · simp at h0
    obtain ⟨rfl, rfl, rfl⟩ := h0
    have hlm : len ≤ m := by rw [hmm]; split <;> omega
    rw [hc] at hx
    simp only [List.map_cons, List.map_nil, List.cons.injEq, Prod.mk.injEq, and_true] at hte
    obtain ⟨⟨t0, o0⟩, ⟨t1, o1⟩, ⟨t2, o2⟩, ⟨t3, o3⟩, ⟨t4, o4⟩, ⟨t5, o5⟩, ⟨t6, o6⟩, t7, o7⟩ := hte
    have each : ∀ i, i < len → ∃ r : Wr.Rec, w.cell? (ad.add (i * 8)) = some (.int .i64 r.next) ∧ w.cell? (ad.add (i * 8 + 1)) = some (.int .i64 r.id) ∧ w.cell? (ad.add (i * 8 + 2)) = some (.int .i64 r.parent) ∧ w.cell? (ad.add (i * 8 + 3)) = some (.int .i64 r.root) ∧
        w.cell? (ad.add (i * 8 + 4)) = some (.int .i64 r.size) ∧ w.cell? (ad.add (i * 8 + 5)) = some (.int .i64 r.kind) ∧ w.cell? (ad.add (i * 8 + 6)) = some (.int .i64 r.frames) ∧ w.cell? (ad.add (i * 8 + 7)) = some (.int .i64 r.digest) := fun i hi' => by
      obtain ⟨cs, h1, h2⟩ := hx i (by omega)
      obtain ⟨-, hlen, hcell⟩ := World.cells?_some h1
      obtain ⟨xs, n', _, _, hl', hlen', hf⟩ := DataW.trod_struct he h2
      match xs, hlen' with
      | [y0, y1, y2, y3, y4, y5, y6, y7], _ =>
        have g0 := hf 0 f0 rfl
        have g1 := hf 1 f1 rfl
        have g2 := hf 2 f2 rfl
        have g3 := hf 3 f3 rfl
        have g4 := hf 4 f4 rfl
        have g5 := hf 5 f5 rfl
        have g6 := hf 6 f6 rfl
        have g7 := hf 7 f7 rfl
        rw [t0, o0, hci] at g0
        rw [t1, o1, hci] at g1
        rw [t2, o2, hci] at g2
        rw [t3, o3, hci] at g3
        rw [t4, o4, hci] at g4
        rw [t5, o5, hci] at g5
        rw [t6, o6, hci] at g6
        rw [t7, o7, hci] at g7
        match cs, hlen with
        | [v0, v1, v2, v3, v4, v5, v6, v7], _ =>
          obtain ⟨z0, e0, -⟩ := DataW.trod_int hi g0
          obtain ⟨z1, e1, -⟩ := DataW.trod_int hi g1
          obtain ⟨z2, e2, -⟩ := DataW.trod_int hi g2
          obtain ⟨z3, e3, -⟩ := DataW.trod_int hi g3
          obtain ⟨z4, e4, -⟩ := DataW.trod_int hi g4
          obtain ⟨z5, e5, -⟩ := DataW.trod_int hi g5
          obtain ⟨z6, e6, -⟩ := DataW.trod_int hi g6
          obtain ⟨z7, e7, -⟩ := DataW.trod_int hi g7
          simp at e0 e1 e2 e3 e4 e5 e6 e7
          subst e0 e1 e2 e3 e4 e5 e6 e7
          have k0 := hcell 0 (by omega)
          have k1 := hcell 1 (by omega)
          have k2 := hcell 2 (by omega)
          have k3 := hcell 3 (by omega)
          have k4 := hcell 4 (by omega)
          have k5 := hcell 5 (by omega)
          have k6 := hcell 6 (by omega)
          have k7 := hcell 7 (by omega)
          simp only [Deep.add_add] at k0 k1 k2 k3 k4 k5 k6 k7
          exact ⟨⟨z0, z1, z2, z3, z4, z5, z6, z7⟩, by simpa using k0, by simpa using k1, by simpa using k2, by simpa using k3, by simpa using k4, by simpa using k5, by simpa using k6, by simpa using k7⟩
    haveI : Inhabited Wr.Rec := ⟨Wr.r0⟩
    obtain ⟨Z, hZ⟩ := Deep.choose_lt each
    refine ⟨(List.range len).map Z, by simp, hl, by unfold maxLen at hm; omega, fun h0 => ?_⟩
    obtain ⟨b, off, spot⟩ := ad
    have hspot : spot = none := by
      obtain ⟨k0, -⟩ := hZ 0 h0
      simpa [Addr.add] using World.cell?_spot k0
    subst hspot
    refine ⟨b, off, rfl, ?_, fun i hi => ?_⟩
    · obtain ⟨k0, -⟩ := hZ 0 h0
      rw [Wc.add_none] at k0
      exact Wc.cell_lt k0
    · obtain ⟨k0, k1, k2, k3, k4, k5, k6, k7⟩ := hZ i hi
      rw [Wc.add_none] at k0 k1 k2 k3 k4 k5 k6 k7
      have e : ((List.range len).map Z).getD i Wr.r0 = Z i := by simp [hi]
      rw [e]
      simp only [← Nat.add_assoc] at k0 k1 k2 k3 k4 k5 k6 k7
      exact ⟨k0, k1, k2, k3, k4, k5, k6, k7⟩

end
end Wi
namespace Go.Proofs.YtfflhiajbioheaaGreat
open Go Go.RowKit Go.ChangeShapes Go.WideShapes

theorem array7 {α : Type} {cs : Array α} (h : cs.size = 7) : ∃ c0 c1 c2 c3 c4 c5 c6, cs = #[c0, c1, c2, c3, c4, c5, c6] := by
  obtain ⟨l⟩ := cs
  match l, h with
  | [c0, c1, c2, c3, c4, c5, c6], _ => exact ⟨c0, c1, c2, c3, c4, c5, c6, rfl⟩

theorem open_state {P : Program} {W : World} {r : Reach} {b0 base : Nat} {t st it rt e : TypeId} {s0 s1 s2 g0 g1 g2 g3 g4 f0 f1 f2 f3 f4 f5 f6 f7 : Field} {v : Value} {H : Type} {enc : TypeId × Value → H} {sp : Nat → Bool} {held : Bool} {d : DataW H} {ps : List MemPlace}
    (hu : P.underlying t = some (.struct #[s0, s1, s2])) (ht : [s0, s1, s2].map (fun f => (f.type, f.offset)) = [(st, 0), (it, 5), (rt, 6)]) (hus : P.underlying st = some (.struct #[g0, g1, g2, g3, g4])) (hts : [g0, g1, g2, g3, g4].map (fun f => (f.type, f.offset)) = [(it, 0), (it, 1), (it, 2), (it, 3), (it, 4)])
    (hi : P.underlying it = some (.int .i64)) (hc1 : P.cellsOf it = 1) (hc5 : P.cellsOf st = 5) (hc : P.cellsOf t = 7) (hrt : P.underlying rt = some (.slice e)) (hcr : P.cellsOf rt = 1) (he : P.underlying e = some (.struct #[f0, f1, f2, f3, f4, f5, f6, f7])) (hce : P.cellsOf e = 8)
    (hte : [f0, f1, f2, f3, f4, f5, f6, f7].map (fun f => (f.type, f.offset)) = [(it, 0), (it, 1), (it, 2), (it, 3), (it, 4), (it, 5), (it, 6), (it, 7)])
    (hv : Value.okWide P W r b0 t v) (hd : DataW.Trod enc P W base sp held t v d ps) : ∃ (s : Ws.Sup) (k : Int) (a : Option Addr) (n c : Nat) (l : List Wr.Rec), v = stv s k (.slice a n c) ∧ Wi.RawR W a n c l := by
  obtain ⟨cs, rfl, hsz⟩ := okWide_struct hu hv
  obtain ⟨c0, c1, c2, c3, c4, c5, c6, rfl⟩ := array7 (hsz.trans hc)
  obtain ⟨fuel, hf⟩ := hd
  obtain ⟨xs, n, _, _, hl, hlen, hf⟩ := DataW.trod_struct hu hf
  simp only [List.map_cons, List.map_nil, List.cons.injEq, Prod.mk.injEq, and_true] at ht hts
  obtain ⟨⟨t0, o0⟩, ⟨t1, o1⟩, t2, o2⟩ := ht
  obtain ⟨⟨u0, q0⟩, ⟨u1, q1⟩, ⟨u2, q2⟩, ⟨u3, q3⟩, u4, q4⟩ := hts
  match xs, hlen with
  | [y0, y1, y2], _ =>
    have h0 := hf 0 s0 rfl
    have h1 := hf 1 s1 rfl
    have h2 := hf 2 s2 rfl
    rw [t0, o0, hc5] at h0
    rw [t1, o1, hc1] at h1
    rw [t2, o2, hcr] at h2
    obtain ⟨xs, n', _, _, hl', hlen', hg⟩ := DataW.trod_struct hus h0
    match xs, hlen' with
    | [a0, a1, a2, a3, a4], _ =>
      have k0 := hg 0 g0 rfl
      have k1 := hg 1 g1 rfl
      have k2 := hg 2 g2 rfl
      have k3 := hg 3 g3 rfl
      have k4 := hg 4 g4 rfl
      rw [u0, q0, hc1] at k0
      rw [u1, q1, hc1] at k1
      rw [u2, q2, hc1] at k2
      rw [u3, q3, hc1] at k3
      rw [u4, q4, hc1] at k4
      obtain ⟨z0, e0, -⟩ := DataW.trod_int hi k0
      obtain ⟨z1, e1, -⟩ := DataW.trod_int hi k1
      obtain ⟨z2, e2, -⟩ := DataW.trod_int hi k2
      obtain ⟨z3, e3, -⟩ := DataW.trod_int hi k3
      obtain ⟨z4, e4, -⟩ := DataW.trod_int hi k4
      obtain ⟨z5, e5, -⟩ := DataW.trod_int hi h1
      simp [Value.cells] at e0 e1 e2 e3 e4 e5 h2
      subst e0 e1 e2 e3 e4 e5
      have hsl : ∃ a' n' c', c6 = .slice a' n' c' := by
        rcases Deep.open_slice hrt h2 with ⟨h0, _⟩ | ⟨ad, len', cap', m, n, D, Pl, h0, _⟩
        · simp at h0; exact ⟨_, _, _, h0⟩
        · simp at h0; exact ⟨_, _, _, h0⟩
      obtain ⟨a', n', c', rfl⟩ := hsl
      obtain ⟨l, hz⟩ := Wi.open_recs hrt he hce hte hi hc1 h2
      exact ⟨⟨z0, z1, z2, z3, z4⟩, z5, a', n', c', l, rfl, hz⟩

end Go.Proofs.YtfflhiajbioheaaGreat
