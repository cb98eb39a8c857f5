/-
  Devices, steps and bools that came in, whatever their length. It speaks of no program.
-/
import Derived.Test.YtifjbmknghjohaaDmem
import Derived.Deep.Strs
namespace Wd
open Go Go.RowKit Go.ChangeShapes Go.WideShapes

/-- Bytes that came in. -/
def RawB (w : World) (a : Option Addr) (n cap : Nat) (zs : List Int) : Prop :=
  zs.length = n ∧ n ≤ cap ∧ cap ≤ 9223372036854775807 ∧ (∀ x ∈ zs, 0 ≤ x ∧ x < 256) ∧ Wc.Shaped (.slice a n cap) ∧
    (0 < n → ∃ b off, a = some ⟨b, off, none⟩ ∧ b < w.heap.size ∧ ∀ i, i < n → w.cell? ⟨b, off + i, none⟩ = some (.int .u8 (zs.getD i 0)))

theorem RawB.bs {w : World} {a : Option Addr} {n cap : Nat} {zs : List Int} (h : RawB w a n cap zs) (hn : n ≤ 140737488355328) : Wc.Bs w (.slice a n cap) zs :=
  ⟨a, n, cap, rfl, h.1, h.2.1, h.2.2.1, hn, h.2.2.2.1, h.2.2.2.2.2⟩

/-- Steps that came in. -/
def Raw (w : World) (a : Option Addr) (n cap : Nat) (l : List Io) : Prop :=
  l.length = n ∧ n ≤ cap ∧ cap ≤ 9223372036854775807 ∧
    (0 < n → ∃ b off, a = some ⟨b, off, none⟩ ∧ b < w.heap.size ∧ ∀ i, i < n → ∃ a' c', w.cell? ⟨b, off + i * 3, none⟩ = some (.int .i64 (l.getD i d0).kind) ∧ w.cell? ⟨b, off + i * 3 + 1, none⟩ = some (.int .i64 (l.getD i d0).pos) ∧
      w.cell? ⟨b, off + i * 3 + 2, none⟩ = some (.slice a' (l.getD i d0).data.length c') ∧ RawB w a' (l.getD i d0).data.length c' (l.getD i d0).data)

theorem Raw.is {w : World} {a : Option Addr} {n cap : Nat} {l : List Io} (h : Raw w a n cap l) (hn : n ≤ 1099511627776) (hd : ∀ x ∈ l, x.data.length ≤ 140737488355328) : Is w (.slice a n cap) l := by
  obtain ⟨h1, h2, h3, h4⟩ := h
  refine ⟨a, n, cap, rfl, h1, h2, h3, hn, fun h0 => ?_⟩
  obtain ⟨b, off, ha, hb, hc⟩ := h4 h0
  refine ⟨b, off, ha, hb, fun i hi => ?_⟩
  obtain ⟨a', c', k0, k1, k2, k3⟩ := hc i hi
  have hm : l.getD i d0 ∈ l := by
    have : i < l.length := by omega
    have e : l.getD i d0 = l[i] := by simp [this]
    rw [e]; exact List.getElem_mem this
  exact ⟨a', c', k0, k1, k2, k3.bs (hd _ hm), k3.2.2.2.2.1⟩

section
variable {H : Type} {enc : TypeId × Value → H} {P : Program} {w : World} {base : Nat} {spare : Nat → Bool} {held : Bool} {x : DataW H × List MemPlace} {fuel : Nat}

theorem open_bytes {t e : TypeId} {a : Option Addr} {len cap : Nat} (ht : P.underlying t = some (.slice e)) (he : P.underlying e = some (.int .u8)) (hc : P.cellsOf e = 1) (h : DataW.trod enc P w base spare held fuel t [.slice a len cap] = some x) :
    ∃ zs, RawB w a len cap zs := by
  rcases open_ints ht he hc h with ⟨h0, _⟩ | ⟨ad, len', cap', zs, h0, _, hl, hm, hz, _, hcell, hwz⟩
  · simp at h0
    obtain ⟨rfl, rfl, rfl⟩ := h0
    exact ⟨[], rfl, Nat.le_refl _, by omega, by simp, .inl rfl, by omega⟩
  · simp at h0
    obtain ⟨rfl, rfl, rfl⟩ := h0
    have hlz : len ≤ zs.length := by rw [hz]; split <;> omega
    refine ⟨zs.take len, by simp; omega, hl, by unfold maxLen at hm; omega, fun y hy => Wc.byte_wf (hwz y (List.mem_of_mem_take hy)), .inr ⟨_, _, _, rfl⟩, fun h0 => ?_⟩
    obtain ⟨b, off, rfl, hc⟩ := ints_at hcell (by omega)
    refine ⟨b, off, rfl, Wc.cell_lt (hc 0 (by omega)), fun i hi => ?_⟩
    rw [hc i (by omega)]
    simp [hi]

theorem open_bools {t e : TypeId} {a : Option Addr} {len cap : Nat} (ht : P.underlying t = some (.slice e)) (he : P.underlying e = some .bool) (hc : P.cellsOf e = 1) (h : DataW.trod enc P w base spare held fuel t [.slice a len cap] = some x) :
    ∃ ks, Wv.IsRowV Value.bool false w a len cap ks := by
  rcases Deep.open_slice1 ht hc h with ⟨h0, _⟩ | ⟨ad, len', cap', m, n, V, D, Pl, h0, hb, hl, hm, hmm, -, hx⟩
  · simp at h0
    obtain ⟨rfl, rfl, rfl⟩ := h0
    exact ⟨[], .inl ⟨rfl, rfl, rfl, rfl⟩⟩
  · simp at h0
    obtain ⟨rfl, rfl, rfl⟩ := h0
    have hlm : len ≤ m := by rw [hmm]; split <;> omega
    have each : ∀ i, i < len → ∃ z : Bool, V i = .bool z := fun i hi => by
      obtain ⟨z, hz, -⟩ := DataW.trod_bool he (hx i (by omega)).2
      exact ⟨z, by simpa using hz⟩
    obtain ⟨Z, hZ⟩ := Deep.choose_lt each
    refine ⟨(List.range len).map Z, .inr ⟨ad, rfl, hl, hm, by simp, fun i hi => ?_⟩⟩
    rw [(hx i (by omega)).1, hZ i hi]
    simp [hi]

theorem open_ios {t e it bt ut : TypeId} {f0 f1 f2 : Field} {a : Option Addr} {len cap : Nat} (ht : P.underlying t = some (.slice e)) (he : P.underlying e = some (.struct #[f0, f1, f2])) (hc : P.cellsOf e = 3)
    (t0 : f0.type = it) (t1 : f1.type = it) (t2 : f2.type = bt) (o0 : f0.offset = 0) (o1 : f1.offset = 1) (o2 : f2.offset = 2) (hi : P.underlying it = some (.int .i64)) (hci : P.cellsOf it = 1)
    (hbt : P.underlying bt = some (.slice ut)) (hcb : P.cellsOf bt = 1) (hut : P.underlying ut = some (.int .u8)) (hcu : P.cellsOf ut = 1) (h : DataW.trod enc P w base spare held fuel t [.slice a len cap] = some x) :
    ∃ l, Raw w a len cap l := by
  rcases Deep.open_slice ht h with ⟨h0, _⟩ | ⟨ad, len', cap', m, n, D, Pl, h0, hb, hl, hm, hmm, -, hx⟩
  · simp at h0
    obtain ⟨rfl, rfl, rfl⟩ := h0
    exact ⟨[], rfl, Nat.le_refl _, by omega, by omega⟩
  · simp at h0
    obtain ⟨rfl, rfl, rfl⟩ := h0
    have hlm : len ≤ m := by rw [hmm]; split <;> omega
    rw [hc] at hx
    have each : ∀ i, i < len → ∃ q : Io, ∃ a' c', w.cell? (ad.add (i * 3)) = some (.int .i64 q.kind) ∧ w.cell? (ad.add (i * 3 + 1)) = some (.int .i64 q.pos) ∧ w.cell? (ad.add (i * 3 + 2)) = some (.slice a' q.data.length c') ∧ RawB w a' q.data.length c' q.data := fun i hi' => by
      obtain ⟨cs, h1, h2⟩ := hx i (by omega)
      obtain ⟨-, hlen, hcell⟩ := World.cells?_some h1
      obtain ⟨y0, y1, y2, n', -, -, k0, k1, k2⟩ := Deep.trod_struct3 he h2
      rw [t0, o0, hci] at k0
      rw [t1, o1, hci] at k1
      rw [t2, o2, hcb] at k2
      match cs, hlen with
      | [v0, v1, v2], _ =>
        simp at k0 k1 k2
        obtain ⟨z0, e0, -⟩ := DataW.trod_int hi k0
        obtain ⟨z1, e1, -⟩ := DataW.trod_int hi k1
        simp at e0 e1
        subst e0 e1
        have g0 := hcell 0 (by omega)
        have g1 := hcell 1 (by omega)
        have g2 := hcell 2 (by omega)
        simp only [Deep.add_add] at g0 g1 g2
        have hsl : ∃ a' n' c', v2 = .slice a' n' c' := by
          rcases open_ints hbt hut hcu k2 with ⟨h0, _⟩ | ⟨ad, len', cap', zs, h0, _⟩
          · simp at h0; exact ⟨_, _, _, h0⟩
          · simp at h0; exact ⟨_, _, _, h0⟩
        obtain ⟨a', n', c', rfl⟩ := hsl
        obtain ⟨zs, hz⟩ := open_bytes hbt hut hcu k2
        refine ⟨⟨z0, z1, zs⟩, a', c', by simpa using g0, by simpa using g1, ?_, ?_⟩
        · rw [hz.1]; simpa using g2
        · rw [hz.1]; exact hz
    haveI : Inhabited Io := ⟨d0⟩
    obtain ⟨Z, hZ⟩ := Deep.choose_lt each
    refine ⟨(List.range len).map Z, by simp, hl, by unfold maxLen at hm; omega, fun h0 => ?_⟩
    obtain ⟨b, off, spot⟩ := ad
    have hspot : spot = none := by
      obtain ⟨a', c', k0, -⟩ := hZ 0 h0
      simpa [Addr.add] using World.cell?_spot k0
    subst hspot
    refine ⟨b, off, rfl, ?_, fun i hi => ?_⟩
    · obtain ⟨a', c', k0, -⟩ := hZ 0 h0
      rw [Wc.add_none] at k0
      exact Wc.cell_lt k0
    · obtain ⟨a', c', k0, k1, k2, k3⟩ := hZ i hi
      rw [Wc.add_none] at k0 k1 k2
      have e : ((List.range len).map Z).getD i d0 = Z i := by simp [hi]
      rw [e]
      exact ⟨a', c', k0, by rw [Nat.add_assoc]; exact k1, by rw [Nat.add_assoc]; exact k2, k3⟩

end
end Wd
