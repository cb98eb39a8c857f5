/-
  What frame.command puts together out of a payload, held against what the payload says. It speaks of no walk.
-/
import Derived.Test.YtfejabeifabdlaaFext
namespace Wk
open Wc Ws Wr

/-- The command of that kind and payload; none: nought. -/
def com (k : Int) (xs : List Int) : Cmd := if okB k xs = true then raw k xs else c0
theorem com_yes {k : Int} {xs : List Int} (h : okB k xs = true) : com k xs = raw k xs := if_pos h
theorem com_no {k : Int} {xs : List Int} (h : okB k xs = false) : com k xs = c0 := if_neg (by rw [h]; decide)

def k0 (k : Int) : Cmd := ⟨k, 0, 0, 0, 0, 0, 0, 0, []⟩
def asCmd (F : Nat → Int) (D : List Int) : Cmd := ⟨F 0, F 1, F 2, F 3, F 4, F 5, F 6, F 7, D⟩

theorem g8_id {n : Int} (h : idB (g8 n) = true) : g8 n = n := by
  unfold g8 at h ⊢
  split
  · rfl
  · rename_i h'; rw [if_neg h'] at h; exact absurd h (by decide)

end Wk
namespace Go.Proofs.Ytfejabeifabdlaa
open Go.RowKit

theorem got8_gen (xs : List Int) (p : Nat) (hp : p + 8 ≤ xs.length) : gotN xs (p : Int) 8 = Wr.g8 (Ws.num xs p 8) := by
  have hi : Wc.inB xs.length (p : Int) 8 = true := Wc.inB_iff.2 (by omega)
  unfold gotN Wc.getR Wr.g8
  rw [hi, show Wc.rsB 8 = true from rfl]
  simp only [Bool.true_eq_false, if_false, Int.toNat_natCast]
  show (if (if Ws.num xs p 8 ≤ 4611686018427387903 then (Ws.num xs p 8, (0 : Int)) else (0, 1)).2 = 0 then (if Ws.num xs p 8 ≤ 4611686018427387903 then (Ws.num xs p 8, (0 : Int)) else (0, 1)).1 else -1) = _
  by_cases h : Ws.num xs p 8 ≤ 4611686018427387903
  · rw [if_pos h, if_pos h]; rfl
  · rw [if_neg h, if_neg h]; rfl

theorem gotN_rng (xs : List Int) (hx : ∀ x ∈ xs, 0 ≤ x ∧ x < 256) (p s : Int) : -1 ≤ gotN xs p s ∧ gotN xs p s ≤ 4611686018427387903 := by
  unfold gotN Wc.getR
  have h := Wc.val_nonneg ((xs.drop p.toNat).take s.toNat) (fun x h' => hx x (List.mem_of_mem_drop (List.mem_of_mem_take h')))
  repeat' split
  all_goals simp_all
  all_goals omega

theorem gotN4_rng (xs : List Int) (hx : ∀ x ∈ xs, 0 ≤ x ∧ x < 256) (p : Int) : -1 ≤ gotN xs p 4 ∧ gotN xs p 4 ≤ 4294967295 := by
  unfold gotN Wc.getR
  have h := Wk.num4_bd xs p.toNat hx
  unfold Ws.num at h
  rw [show (4 : Int).toNat = 4 from rfl]
  repeat' split
  all_goals simp_all
  all_goals omega

/-- What is put together. -/
def fl (k : Int) (xs : List Int) : Nat → Int := Wk.fill (gotN xs) (Wk.pl k) 0 (Wk.st (Wk.k0 k) 0)

theorem fl_kind (k : Int) (xs : List Int) : fl k xs 0 = k := by
  unfold fl Wk.pl
  repeat' split
  all_goals simp [Wk.fill, Wk.upd, Wk.st, Wk.k0]

theorem fl8_rng (k : Int) (xs : List Int) (hx : ∀ x ∈ xs, 0 ≤ x ∧ x < 256) : -1 ≤ fl k xs 8 ∧ fl k xs 8 ≤ 4294967295 := by
  have h := gotN4_rng xs hx 4
  unfold fl Wk.pl
  repeat' split
  all_goals simp [Wk.fill, Wk.upd, Wk.st]
  all_goals omega

theorem fill_rng (xs : List Int) (hx : ∀ x ∈ xs, 0 ≤ x ∧ x < 256) (l : List (Nat × Int)) (p : Int) (s : Nat → Int) (h : ∀ i, Wk.I64 (s i)) : ∀ i, Wk.I64 (Wk.fill (gotN xs) l p s i) := by
  induction l generalizing p s with
  | nil => exact h
  | cons a l ih =>
    obtain ⟨f, z⟩ := a
    refine ih _ _ (fun i => ?_)
    have := gotN_rng xs hx p z
    unfold Wk.upd Wk.I64
    split
    · omega
    · exact h i

theorem fl_held (k : Int) (xs D : List Int) (hk : Wk.I64 k) (hx : ∀ x ∈ xs, 0 ≤ x ∧ x < 256) : Wk.Held (Wk.asCmd (fl k xs) D) := by
  have h := fill_rng xs hx (Wk.pl k) 0 (Wk.st (Wk.k0 k) 0) (Wk.st_rng (by unfold Wk.Held Wk.I64 Wk.k0; unfold Wk.I64 at hk; simp; exact hk) (by unfold Wk.I64; omega))
  exact ⟨h 0, h 1, h 2, h 3, h 4, h 5, h 6, h 7⟩

theorem tot_rng (k : Int) : 0 ≤ Wk.tot (Wk.pl k) ∧ Wk.tot (Wk.pl k) ≤ 24 := by
  unfold Wk.pl
  repeat' split
  all_goals simp [Wk.tot]

theorem fl_cmd (k : Int) (xs D : List Int) : Wk.asCmd (fl k xs) D = ⟨k, fl k xs 1, fl k xs 2, fl k xs 3, fl k xs 4, fl k xs 5, fl k xs 6, fl k xs 7, D⟩ := by
  unfold Wk.asCmd; rw [fl_kind]

/-- Too short: no command. -/
theorem com_short (k : Int) (xs : List Int) (h : (xs.length : Int) < Wk.tot (Wk.pl k)) : Wk.okB k xs = false := by
  have : Wk.lenB k xs = false := by
    unfold Wk.pl at h
    unfold Wk.lenB
    by_cases h1 : k = 1
    · rw [if_pos h1] at h ⊢; simp [Wk.tot] at h ⊢; omega
    rw [if_neg h1] at h ⊢
    by_cases h2 : k = 2
    · rw [if_pos h2] at h ⊢; simp [Wk.tot] at h ⊢; omega
    rw [if_neg h2] at h ⊢
    by_cases h3 : k = 3
    · rw [if_pos h3] at h ⊢; simp [Wk.tot] at h ⊢; omega
    rw [if_neg h3] at h ⊢
    by_cases h4 : k = 4
    · rw [if_pos h4] at h ⊢; simp [Wk.tot] at h ⊢; omega
    rw [if_neg h4] at h ⊢
    by_cases h5 : k = 5
    · rw [if_pos h5] at h ⊢; simp [Wk.tot] at h ⊢; omega
    rw [if_neg h5] at h ⊢
    by_cases h6 : k = 6
    · rw [if_pos h6] at h ⊢; simp [Wk.tot] at h ⊢; omega
    rw [if_neg h6]
  unfold Wk.okB
  rw [this]; rfl

theorem no_data {c : Wk.Cmd} (h : Wk.cmdB c = true) (h2 : ¬ c.kind = 2) : c.data = [] := by
  rcases Wk.cmdB_iff.1 h with h | h | h | h | h | h
  · exact h.2.2.2.2.2.1
  · exact absurd h.1 h2
  · exact h.2.2.1
  · exact h.2.2.2.1
  · exact h.2.2.1
  · exact h.2.2.2.1

theorem drop_nil {xs : List Int} {T : Nat} (h : xs.drop T = []) (ht : T ≤ xs.length) : xs.length = T := by
  have := congrArg List.length h
  rw [List.length_drop, List.length_nil] at this
  omega

/-- Long enough: what is put together is right, and as long as it says, just if the payload says a right command: that one. -/
theorem com_long (k : Int) (xs : List Int) (hx : ∀ x ∈ xs, 0 ≤ x ∧ x < 256) (T : Nat) (hT : Wk.tot (Wk.pl k) = (T : Int)) (h : T ≤ xs.length) :
    (Wk.cmdB (Wk.asCmd (fl k xs) (xs.drop T)) = true ∧ ((xs.drop T).length : Int) = fl k xs 8 * 64 ↔ Wk.okB k xs = true) ∧ (Wk.okB k xs = true → Wk.asCmd (fl k xs) (xs.drop T) = Wk.raw k xs) := by
  rw [fl_cmd]
  unfold Wk.okB
  by_cases h1 : k = 1
  · subst h1
    obtain rfl : T = 24 := by simp [Wk.pl, Wk.tot] at hT; omega
    have e1 : fl 1 xs 1 = Wr.g8 (Ws.num xs 0 8) := got8_gen xs 0 (by omega)
    have e2 : fl 1 xs 2 = Wr.g8 (Ws.num xs 8 8) := got8_gen xs 8 (by omega)
    have e3 : fl 1 xs 3 = Ws.num xs 16 4 := got4_gen xs 16 (by omega) hx
    have e5 : fl 1 xs 5 = Ws.num xs 20 4 := got4_gen xs 20 (by omega) hx
    have e4 : fl 1 xs 4 = 0 := rfl
    have e6 : fl 1 xs 6 = 0 := rfl
    have e7 : fl 1 xs 7 = 0 := rfl
    have e8 : fl 1 xs 8 = 0 := rfl
    rw [e1, e2, e3, e4, e5, e6, e7, e8, Wk.raw1]
    have hn8 := Wk.num_bd xs 8 8 hx
    have key : ∀ D, D = [] → (Wk.cmdB ⟨1, Wr.g8 (Ws.num xs 0 8), Wr.g8 (Ws.num xs 8 8), Ws.num xs 16 4, 0, Ws.num xs 20 4, 0, 0, D⟩ = true ↔ Wk.cmdB ⟨1, Ws.num xs 0 8, Ws.num xs 8 8, Ws.num xs 16 4, 0, Ws.num xs 20 4, 0, 0, []⟩ = true) ∧
        (Wk.cmdB ⟨1, Ws.num xs 0 8, Ws.num xs 8 8, Ws.num xs 16 4, 0, Ws.num xs 20 4, 0, 0, []⟩ = true → Wr.g8 (Ws.num xs 0 8) = Ws.num xs 0 8 ∧ Wr.g8 (Ws.num xs 8 8) = Ws.num xs 8 8) := by
      rintro D rfl
      rw [Wk.cmdB_iff, Wk.cmdB_iff]
      simp only [Wk.Right]
      unfold Wr.g8
      generalize Ws.num xs 0 8 = A at *
      generalize Ws.num xs 8 8 = B at *
      split <;> split <;> simp <;> omega
    by_cases hD : xs.drop 24 = []
    · have hl := drop_nil hD h
      have hlb : Wk.lenB 1 xs = true := by simp [Wk.lenB, hl]
      obtain ⟨ka, kb⟩ := key [] rfl
      rw [hD, hlb, Bool.true_and]
      refine ⟨⟨fun hh => ka.1 hh.1, fun hh => ⟨ka.2 hh, by simp⟩⟩, fun hh => ?_⟩
      rw [(kb hh).1, (kb hh).2]
    · have hl : Wk.lenB 1 xs = false := by
        simp only [Wk.lenB, if_true, decide_eq_false_iff_not]
        intro hl
        exact hD (List.drop_eq_nil_of_le (by omega))
      rw [hl, Bool.false_and]
      refine ⟨⟨fun hh => ?_, fun hh => by simp at hh⟩, fun hh => by simp at hh⟩
      exact absurd (no_data hh.1 (by simp)) hD
  by_cases h2 : k = 2
  · subst h2
    obtain rfl : T = 8 := by simp [Wk.pl, Wk.tot] at hT; omega
    have e4 : fl 2 xs 4 = Ws.num xs 0 4 := got4_gen xs 0 (by omega) hx
    have e8 : fl 2 xs 8 = Ws.num xs 4 4 := got4_gen xs 4 (by omega) hx
    have e1 : fl 2 xs 1 = 0 := rfl
    have e2 : fl 2 xs 2 = 0 := rfl
    have e3 : fl 2 xs 3 = 0 := rfl
    have e5 : fl 2 xs 5 = 0 := rfl
    have e6 : fl 2 xs 6 = 0 := rfl
    have e7 : fl 2 xs 7 = 0 := rfl
    rw [e1, e2, e3, e4, e5, e6, e7, e8, Wk.raw2, Bool.and_eq_true]
    refine ⟨⟨fun hh => ⟨?_, hh.1⟩, fun hh => ⟨hh.2, ?_⟩⟩, fun _ => rfl⟩
    · have hr := Wk.pay_len hh.1
      rw [Wk.pay2 rfl] at hr
      have hr2 := Wk.cmdB_iff.1 hh.1
      simp only [Wk.Right] at hr2
      simp [Wk.lenB]
      have := hh.2
      rw [List.length_drop] at this
      simp at hr2
      omega
    · have := hh.1
      simp [Wk.lenB] at this
      rw [List.length_drop]
      omega
  have hno : ∀ (n : Nat) (c : Wk.Cmd), ¬ c.kind = 2 → c.data = xs.drop T → Wk.lenB k xs = decide (xs.length = T) → fl k xs 8 = 0 → ({ c with data := [] } : Wk.Cmd) = Wk.raw k xs → n = 0 →
      ((Wk.cmdB c = true ∧ ((xs.drop T).length : Int) = fl k xs 8 * 64 ↔ (Wk.lenB k xs && Wk.cmdB (Wk.raw k xs)) = true) ∧ ((Wk.lenB k xs && Wk.cmdB (Wk.raw k xs)) = true → c = Wk.raw k xs)) := by
    intro n c hk2 hcd hlb h8 hraw _
    rw [hlb, h8]
    by_cases hD : xs.drop T = []
    · have hl := drop_nil hD h
      have hc : c = Wk.raw k xs := by
        rw [← hraw]
        cases c
        simp at hcd
        simp [hcd, hD]
      rw [hc, hl, hD]
      simp
    · have hl : ¬ xs.length = T := fun hl => hD (List.drop_eq_nil_of_le (by omega))
      have hf : decide (xs.length = T) = false := by simpa using hl
      rw [hf, Bool.false_and]
      refine ⟨⟨fun hh => ?_, fun hh => by simp at hh⟩, fun hh => by simp at hh⟩
      exact absurd (hcd ▸ no_data hh.1 hk2) hD
  by_cases h3 : k = 3
  · subst h3
    obtain rfl : T = 8 := by simp [Wk.pl, Wk.tot] at hT; omega
    have e4 : fl 3 xs 4 = Ws.num xs 0 4 := got4_gen xs 0 (by omega) hx
    have e5 : fl 3 xs 5 = Ws.num xs 4 4 := got4_gen xs 4 (by omega) hx
    exact hno 0 _ (by simp) rfl (by simp [Wk.lenB]) rfl (by rw [Wk.raw3, ← e4, ← e5]; rfl) rfl
  by_cases h4 : k = 4
  · subst h4
    obtain rfl : T = 12 := by simp [Wk.pl, Wk.tot] at hT; omega
    have e4 : fl 4 xs 4 = Ws.num xs 0 4 := got4_gen xs 0 (by omega) hx
    have e5 : fl 4 xs 5 = Ws.num xs 4 4 := got4_gen xs 4 (by omega) hx
    have e6 : fl 4 xs 6 = Ws.num xs 8 4 := got4_gen xs 8 (by omega) hx
    exact hno 0 _ (by simp) rfl (by simp [Wk.lenB]) rfl (by rw [Wk.raw4, ← e4, ← e5, ← e6]; rfl) rfl
  by_cases h5 : k = 5
  · subst h5
    obtain rfl : T = 4 := by simp [Wk.pl, Wk.tot] at hT; omega
    have e3 : fl 5 xs 3 = Ws.num xs 0 4 := got4_gen xs 0 (by omega) hx
    exact hno 0 _ (by simp) rfl (by simp [Wk.lenB]) rfl (by rw [Wk.raw5, ← e3]; rfl) rfl
  by_cases h6 : k = 6
  · subst h6
    obtain rfl : T = 8 := by simp [Wk.pl, Wk.tot] at hT; omega
    have e5 : fl 6 xs 5 = Ws.num xs 0 4 := got4_gen xs 0 (by omega) hx
    have e7 : fl 6 xs 7 = Ws.num xs 4 4 := got4_gen xs 4 (by omega) hx
    exact hno 0 _ (by simp) rfl (by simp [Wk.lenB]) rfl (by rw [Wk.raw6, ← e5, ← e7]; rfl) rfl
  have hl : Wk.lenB k xs = false := by unfold Wk.lenB; rw [if_neg h1, if_neg h2, if_neg h3, if_neg h4, if_neg h5, if_neg h6]
  rw [hl, Bool.false_and]
  refine ⟨⟨fun hh => ?_, fun hh => by simp at hh⟩, fun hh => by simp at hh⟩
  have hk := Wk.cmdB_kind hh.1
  simp at hk
  omega

end Go.Proofs.Ytfejabeifabdlaa
