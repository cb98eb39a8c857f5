/-
  What it says that a slice of steps holds a list of them, and that it goes on holding it where nothing old has turned; what a device is. It speaks of no program.
-/
import Derived.Test.YtifjbmknghjohaaKit
import Derived.Test.YtifjbmknghjohaaFrow
namespace Wd
open Go Go.RowKit

/-- A step of a device: its kind, its block, its bytes. -/
structure Io where
  kind : Int
  pos : Int
  data : List Int

def d0 : Io := ⟨0, 0, []⟩

/-- At the offset o of the block b lies the step x: its bytes are the slice a, c. -/
def At (w : World) (b o : Nat) (x : Io) (a : Option Addr) (c : Nat) : Prop :=
  w.cell? ⟨b, o, none⟩ = some (.int .i64 x.kind) ∧ w.cell? ⟨b, o + 1, none⟩ = some (.int .i64 x.pos) ∧ w.cell? ⟨b, o + 2, none⟩ = some (.slice a x.data.length c) ∧
    Wc.Bs w (.slice a x.data.length c) x.data ∧ Wc.Shaped (.slice a x.data.length c)

/-- The slice value v holds the steps l in the world w. -/
def Is (w : World) (v : Value) (l : List Io) : Prop :=
  ∃ a n cap, v = .slice a n cap ∧ l.length = n ∧ n ≤ cap ∧ cap ≤ 9223372036854775807 ∧ n ≤ 1099511627776 ∧
    (0 < n → ∃ b off, a = some ⟨b, off, none⟩ ∧ b < w.heap.size ∧ ∀ i, i < n → ∃ a' c', At w b (off + i * 3) (l.getD i d0) a' c')

theorem At.lt {w : World} {b o c : Nat} {x : Io} {a : Option Addr} (h : At w b o x a c) : b < w.heap.size := Wc.cell_lt h.1

theorem At.keep {w w' : World} {b o c : Nat} {x : Io} {a : Option Addr} (h : At w b o x a c) (hb : Below w.heap.size w w') : At w' b o x a c := by
  have hlt := h.lt
  exact ⟨(hb.cell (p := ⟨b, o, none⟩) hlt).trans h.1, (hb.cell (p := ⟨b, o + 1, none⟩) hlt).trans h.2.1, (hb.cell (p := ⟨b, o + 2, none⟩) hlt).trans h.2.2.1, h.2.2.2.1.keep hb, h.2.2.2.2⟩

theorem Is.keep {w w' : World} {v : Value} {l : List Io} (h : Is w v l) (hb : Below w.heap.size w w') : Is w' v l := by
  obtain ⟨a, n, cap, h1, h2, h3, h4, h5, h7⟩ := h
  refine ⟨a, n, cap, h1, h2, h3, h4, h5, fun hn => ?_⟩
  obtain ⟨b, off, ha, hlt, hc⟩ := h7 hn
  exact ⟨b, off, ha, Nat.lt_of_lt_of_le hlt hb.size, fun i hi => by obtain ⟨a', c', hi'⟩ := hc i hi; exact ⟨a', c', hi'.keep hb⟩⟩

theorem Is.nil (w : World) : Is w (.slice none 0 0) [] := ⟨none, 0, 0, rfl, rfl, Nat.le_refl _, by omega, by omega, by omega⟩

theorem Is.open {w : World} {v : Value} {l : List Io} (h : Is w v l) :
    (l = [] ∧ ∃ a cap, v = .slice a 0 cap ∧ cap ≤ 9223372036854775807) ∨
    ∃ b off n cap, v = .slice (some ⟨b, off, none⟩) n cap ∧ 0 < n ∧ l.length = n ∧ n ≤ cap ∧ cap ≤ 9223372036854775807 ∧ n ≤ 1099511627776 ∧ b < w.heap.size ∧
      ∀ i, i < n → ∃ a' c', At w b (off + i * 3) (l.getD i d0) a' c' := by
  obtain ⟨a, n, cap, h1, h2, h3, h4, h5, h7⟩ := h
  rcases Nat.eq_zero_or_pos n with h0 | h0
  · subst h0
    exact .inl ⟨List.eq_nil_of_length_eq_zero h2, a, cap, h1, h4⟩
  · obtain ⟨b, off, ha, hlt, hc⟩ := h7 h0
    subst ha
    exact .inr ⟨b, off, n, cap, h1, h0, h2, h3, h4, h5, hlt, hc⟩

theorem is_len {w : World} {a : Option Addr} {n cap : Nat} {l : List Io} (h : Is w (.slice a n cap) l) : l.length = n := by
  obtain ⟨a, n', cap', h1, h2, _⟩ := h
  cases h1
  exact h2

theorem is_cap {w : World} {a : Option Addr} {n cap : Nat} {l : List Io} (h : Is w (.slice a n cap) l) : n ≤ cap ∧ cap ≤ 9223372036854775807 ∧ n ≤ 1099511627776 := by
  obtain ⟨a, n', cap', h1, h2, h3, h4, h5, _⟩ := h
  cases h1
  exact ⟨h3, h4, h5⟩

theorem is_cells {w : World} {b off n cap : Nat} {l : List Io} (h : Is w (.slice (some ⟨b, off, none⟩) n cap) l) (i : Nat) (hi : i < n) : ∃ a' c', At w b (off + i * 3) (l.getD i d0) a' c' := by
  obtain ⟨a, n', cap', h1, h2, h3, h4, h5, h7⟩ := h
  cases h1
  obtain ⟨b', off', ha, hb, hc⟩ := h7 (by omega)
  cases ha
  exact hc i hi

/-- A part of a slice of steps. -/
theorem is_mid {w : World} {b off n cap : Nat} {l : List Io} (h : Is w (.slice (some ⟨b, off, none⟩) n cap) l) (j t c : Nat) (hk : j + t ≤ n) (hc : t ≤ c) (hc2 : c ≤ 9223372036854775807) : Is w (.slice (some ⟨b, off + j * 3, none⟩) t c) ((l.drop j).take t) := by
  obtain ⟨a, n', cap', h1, h2, h3, h4, h5, h7⟩ := h
  cases h1
  refine ⟨_, t, c, rfl, by simp; omega, hc, hc2, by omega, fun h0 => ?_⟩
  obtain ⟨b', off', ha, hb, hc⟩ := h7 (by omega)
  cases ha
  refine ⟨b, off + j * 3, rfl, hb, fun i hi => ?_⟩
  obtain ⟨a', c', hx⟩ := hc (j + i) (by omega)
  refine ⟨a', c', ?_⟩
  have e : ((l.drop j).take t).getD i d0 = l.getD (j + i) d0 := by simp [hi]
  rw [e, show off + j * 3 + i * 3 = off + (j + i) * 3 by omega]
  exact hx

theorem is_take {w : World} {b off n cap : Nat} {l : List Io} (h : Is w (.slice (some ⟨b, off, none⟩) n cap) l) (t c : Nat) (hk : t ≤ n) (hc : t ≤ c) (hc2 : c ≤ 9223372036854775807) : Is w (.slice (some ⟨b, off, none⟩) t c) (l.take t) := by
  have := is_mid h 0 t c (by omega) hc hc2
  simpa using this

theorem is_drewN {w : World} {v : Value} {l : List Io} (h : Is w v l) (n : Nat) : Is (w.drewN n) v l := h.keep (below_drewN (Below.refl _ _) n)

/-- A device of n bytes is right. -/
def devB (n : Nat) : Bool := decide (n % 64 = 0) && (decide (256 ≤ n) && decide (n ≤ 262144))
/-- What Check tells: how many blocks, the error. -/
def chkN (n : Nat) : Int := if devB n then ((n / 64 : Nat) : Int) else 0
def chkE (n : Nat) : Int := if devB n then 0 else 2

/-- A step is right for a device of m blocks. -/
def rightB (k p : Int) (len : Nat) (m : Int) : Bool := (k == 1 && (decide (0 ≤ p) && decide (p < m)) && len == 64) || (k == 2 && p == 0 && len == 0)
def okIo (m : Int) (x : Io) : Bool := rightB x.kind x.pos x.data.length m
/-- What Steps tells. -/
def stepsE (n : Nat) (l : List Io) : Int := if devB n then (if l.length ≤ 1048576 then (if l.all (okIo (chkN n)) then 0 else 1) else 2) else 2

theorem devB_iff {n : Nat} : devB n = true ↔ n % 64 = 0 ∧ 256 ≤ n ∧ n ≤ 262144 := by simp [devB]

theorem chk_yes {n : Nat} (h : n % 64 = 0 ∧ 256 ≤ n ∧ n ≤ 262144) : ((n : Int) / 64 = chkN n) ∧ (0 = chkE n) := by
  have := devB_iff.2 h
  simp [chkN, chkE, this]

theorem chk_no {n : Nat} (h : ¬ (n % 64 = 0 ∧ 256 ≤ n ∧ n ≤ 262144)) : (0 = chkN n) ∧ (2 = chkE n) := by
  have : devB n = false := by
    cases hd : devB n
    · rfl
    · exact absurd (devB_iff.1 hd) h
  simp [chkN, chkE, this]

end Wd
