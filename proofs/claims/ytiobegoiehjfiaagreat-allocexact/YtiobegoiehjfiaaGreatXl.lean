/-
  The page's marks: what each block is used as, and when two uses clash. It speaks of no program.
-/
import Derived.Test.YtiobegoiehjfiaaGreatXk
namespace Wi
/-- A block's mark: a node, a record, a sector's. -/
def cd (R N D : List Int) (j : Nat) : Int := (if (j : Int) ∈ N then 1 else 0) + (if (j : Int) ∈ R then 2 else 0) + (if (j : Int) ∈ D then 4 else 0)
/-- What the least block that clashes tells. -/
def Bd (m : Nat) (R N D : List Int) (bd : Int) : Prop := 0 ≤ bd ∧ bd ≤ (m : Int) ∧ (bd < (m : Int) ↔ ¬ Dis R N D)
theorem dis_node {R N D : List Int} {p : Int} : Dis R (N ++ [p]) D ↔ Dis R N D ∧ ¬ p ∈ R ∧ ¬ p ∈ D := by
  constructor
  · intro h
    refine ⟨h.sub (fun q hq => List.mem_append.2 (.inl hq)) (fun q hq => hq), fun hp => (h.1 p hp).1 (by simp), h.2 p (by simp)⟩
  · rintro ⟨h, h1, h2⟩
    refine ⟨fun q hq => ⟨fun hn => ?_, (h.1 q hq).2⟩, fun q hq hd => ?_⟩
    · rcases List.mem_append.1 hn with hn | hn
      · exact (h.1 q hq).1 hn
      · obtain rfl : q = p := by simpa using hn
        exact h1 hq
    · rcases List.mem_append.1 hq with hq | hq
      · exact h.2 q hq hd
      · obtain rfl : q = p := by simpa using hq
        exact h2 hd
theorem dis_sec {R N D : List Int} {p : Int} : Dis R N (D ++ [p]) ↔ Dis R N D ∧ ¬ p ∈ R ∧ ¬ p ∈ N := by
  constructor
  · intro h
    refine ⟨h.sub (fun q hq => hq) (fun q hq => List.mem_append.2 (.inl hq)), fun hp => (h.1 p hp).2 (by simp), fun hp => h.2 p hp (by simp)⟩
  · rintro ⟨h, h1, h2⟩
    refine ⟨fun q hq => ⟨(h.1 q hq).1, fun hn => ?_⟩, fun q hq hd => ?_⟩
    · rcases List.mem_append.1 hn with hn | hn
      · exact (h.1 q hq).2 hn
      · obtain rfl : q = p := by simpa using hn
        exact h1 hq
    · rcases List.mem_append.1 hd with hd | hd
      · exact h.2 q hq hd
      · obtain rfl : q = p := by simpa using hd
        exact h2 hq
theorem Bd.start (m : Nat) (R : List Int) : Bd m R [] [] (m : Int) := ⟨by omega, Int.le_refl _, ⟨fun h => absurd h (by omega), fun h => absurd (dis_first R) h⟩⟩
/-- A node that clashes; one that does not. -/
theorem Bd.nodeNo {m : Nat} {R N D : List Int} {bd : Int} (h : Bd m R N D bd) {p : Int} (h1 : ¬ p ∈ R) (h2 : ¬ p ∈ D) : Bd m R (N ++ [p]) D bd := by
  refine ⟨h.1, h.2.1, h.2.2.trans ?_⟩
  rw [dis_node]
  exact ⟨fun k e => k e.1, fun k e => k ⟨e, h1, h2⟩⟩
theorem Bd.nodeYes {m : Nat} {R N D : List Int} {bd bd' : Int} (_h : Bd m R N D bd) {p : Int} (h1 : p ∈ R ∨ p ∈ D) (h0 : 0 ≤ bd') (hb : bd' < (m : Int)) : Bd m R (N ++ [p]) D bd' := by
  refine ⟨h0, by omega, ⟨fun _ e => ?_, fun _ => hb⟩⟩
  obtain ⟨-, e1, e2⟩ := dis_node.1 e
  rcases h1 with h1 | h1
  · exact e1 h1
  · exact e2 h1
theorem Bd.secNo {m : Nat} {R N D : List Int} {bd : Int} (h : Bd m R N D bd) {p : Int} (h1 : ¬ p ∈ R) (h2 : ¬ p ∈ N) : Bd m R N (D ++ [p]) bd := by
  refine ⟨h.1, h.2.1, h.2.2.trans ?_⟩
  rw [dis_sec]
  exact ⟨fun k e => k e.1, fun k e => k ⟨e, h1, h2⟩⟩
theorem Bd.secYes {m : Nat} {R N D : List Int} {bd bd' : Int} (_h : Bd m R N D bd) {p : Int} (h1 : p ∈ R ∨ p ∈ N) (h0 : 0 ≤ bd') (hb : bd' < (m : Int)) : Bd m R N (D ++ [p]) bd' := by
  refine ⟨h0, by omega, ⟨fun _ e => ?_, fun _ => hb⟩⟩
  obtain ⟨-, e1, e2⟩ := dis_sec.1 e
  rcases h1 with h1 | h1
  · exact e1 h1
  · exact e2 h1
/-- The row behind a mark. -/
theorem cd_rec {R : List Int} {q j : Nat} : cd (R ++ [(q : Int)]) [] [] j = if j = q then 2 else cd R [] [] j := by
  unfold cd
  by_cases e : j = q
  · subst e; simp
  · have : ((j : Int) ∈ R ++ [(q : Int)]) ↔ (j : Int) ∈ R := by simp; omega
    simp [this, e]
theorem cd_node {R N D : List Int} {q j : Nat} {v : Int} (hv : v = cd R N D q + (if (q : Int) ∈ N then 0 else 1)) : cd R (N ++ [(q : Int)]) D j = if j = q then v else cd R N D j := by
  unfold cd at *
  by_cases e : j = q
  · subst e
    rw [if_pos rfl, hv]
    have : (j : Int) ∈ N ++ [(j : Int)] := by simp
    rw [if_pos this]
    by_cases h : (j : Int) ∈ N
    · rw [if_pos h, if_pos h]; omega
    · rw [if_neg h, if_neg h]; omega
  · have : ((j : Int) ∈ N ++ [(q : Int)]) ↔ (j : Int) ∈ N := by simp; omega
    simp [this, e]
theorem cd_sec {R N D : List Int} {q j : Nat} {v : Int} (hv : v = cd R N D q + (if (q : Int) ∈ D then 0 else 4)) : cd R N (D ++ [(q : Int)]) j = if j = q then v else cd R N D j := by
  unfold cd at *
  by_cases e : j = q
  · subst e
    rw [if_pos rfl, hv]
    have : (j : Int) ∈ D ++ [(j : Int)] := by simp
    rw [if_pos this]
    by_cases h : (j : Int) ∈ D
    · rw [if_pos h, if_pos h]; omega
    · rw [if_neg h, if_neg h]; omega
  · have : ((j : Int) ∈ D ++ [(q : Int)]) ↔ (j : Int) ∈ D := by simp; omega
    simp [this, e]
theorem cd_val (R N D : List Int) (q : Nat) : cd R N D q = (if (q : Int) ∈ N then 1 else 0) + (if (q : Int) ∈ R then 2 else 0) + (if (q : Int) ∈ D then 4 else 0) := rfl
/-- The sectors' blocks of a map. -/
def secsAll (xs : List Int) (t : Int × Int) : List Int := (Wt.treS xs t.1).filter fun p => !(p == 0)
theorem secs_all {xs : List Int} {t : Int × Int} (h : szB xs t = true) : secsAll xs t = secs xs t := by
  unfold szB at h
  rw [Bool.and_eq_true, List.all_eq_true] at h
  unfold secsAll secs
  conv => lhs; rw [← List.take_append_drop t.2.toNat (Wt.treS xs t.1)]
  rw [List.filter_append]
  have : ((Wt.treS xs t.1).drop t.2.toNat).filter (fun p => !(p == 0)) = [] := by
    rw [List.filter_eq_nil_iff]
    intro x hx
    have := h.2 x hx
    simpa using this
  rw [this, List.append_nil]
def allDp (xs : List Int) (L : List (Int × Int)) : List Int := L.flatMap (secsAll xs)
theorem allD_page {xs : List Int} : ∀ {L : List (Int × Int)}, L.all (szB xs) = true → allDp xs L = allD xs L
  | [], _ => rfl
  | t :: L, h => by
    rw [List.all_cons, Bool.and_eq_true] at h
    show secsAll xs t ++ allDp xs L = secs xs t ++ allD xs L
    rw [secs_all h.1, allD_page h.2]
theorem allN_snoc (xs : List Int) (L : List (Int × Int)) (t : Int × Int) : allN xs (L ++ [t]) = allN xs L ++ Wt.treN xs t.1 := by simp [allN]
theorem allDp_snoc (xs : List Int) (L : List (Int × Int)) (t : Int × Int) : allDp xs (L ++ [t]) = allDp xs L ++ secsAll xs t := by simp [allDp]
theorem filt_snoc {S : List Int} {k : Nat} (h : k < S.length) : (S.take (k + 1)).filter (fun p => !(p == 0)) = (S.take k).filter (fun p => !(p == 0)) ++ (if S.getD k 0 = 0 then [] else [S.getD k 0]) := by
  rw [take_getD S 0 h, List.filter_append]
  congr 1
  by_cases e : S.getD k 0 = 0
  · rw [if_pos e, List.filter_cons_of_neg (by rw [e]; decide)]; rfl
  · rw [if_neg e, List.filter_cons_of_pos (by simpa using e)]; rfl
end Wi
namespace Go.Proofs.YtiobegoiehjfiaaGreat
open Go.RowKit
theorem row_put {w : World} {g m q : Nat} {f f' : Nat → Int} {v : Int} (h : w.rowIs g 3 m (fun j => .int .i64 (f j))) (hf : ∀ j, f' j = if j = q then v else f j) : (w.setCell ⟨g, q, none⟩ (.int .i64 v)).rowIs g 3 m (fun j => .int .i64 (f' j)) := by
  refine (h.set q _).congr fun j _ => ?_
  rw [hf]
  by_cases e : j = q
  · rw [if_pos e, if_pos e]
  · rw [if_neg e, if_neg e]
theorem row_same {w : World} {g m q : Nat} {f f' : Nat → Int} {v : Int} (h : w.rowIs g 3 m (fun j => .int .i64 (f j))) (hf : ∀ j, f' j = if j = q then v else f j) (hv : f q = v) : w.rowIs g 3 m (fun j => .int .i64 (f' j)) := by
  refine h.congr fun j _ => ?_
  rw [hf]
  by_cases e : j = q
  · rw [if_pos e, e, hv]
  · rw [if_neg e]
/-- Where it ends well. -/
theorem ropen_good {xs : List Int} {w w1 : World} {P2 P3 P7 : Nat} {s : Ws.Sup} {t : Int} {a a' m1 n1 : Option Addr} {n c nb cb m2 m3 n2 n3 : Nat} {L : List Wr.Rec} {B : List Int} (hE : opnE xs = 0) (hS : opnS xs = s) (hT : opnT xs = t) (hL : opnL xs = L) (hB : opnB xs = B)
    (hF : Frm P2 P3 P7 s (.slice a n c) (.slice a' nb cb) L B w1) (hOm : Ol w.heap.size w1 (.slice m1 m2 m3) ((Wi.trees s L).map fun t => Wt.treS xs t.1)) (hOn : Ol w.heap.size w1 (.slice n1 n2 n3) ((Wi.trees s L).map fun t => Wt.treN xs t.1)) (h2 : w.heap.size ≤ P2) (h3 : w.heap.size ≤ P3) (hb : Below w.heap.size w w1)
    {tmps : Array Value} (t2 : tmps.getD 2 undef = .pointer (some ⟨P2, 0, none⟩)) (t3 : tmps.getD 3 undef = .pointer (some ⟨P3, 0, none⟩)) {d : List Deferred} (hd : d = []) :
    bodyPost Tryz.prog Tryz.f11 (ROpenPost xs w) .ret { tmps := tmps, defers := d } (over2 (over10 w1 P2 s t (.slice a n c) (.slice a' nb cb) (.slice m1 m2 m3) (.slice n1 n2 n3)) P3 0 0) := by
  obtain ⟨hI, hG, -, hR, hN⟩ := hF
  have hne : P3 ≠ P2 := fun e => by subst e; unfold Ih at hI; unfold Fh at hG; rw [hI] at hG; cases hG
  have hI2 := hI.over s t (.slice a n c) (.slice a' nb cb) (.slice m1 m2 m3) (.slice n1 n2 n3)
  have hG2 : Fh (over10 w1 P2 s t (.slice a n c) (.slice a' nb cb) (.slice m1 m2 m3) (.slice n1 n2 n3)) P3 0 0 := (over10_other w1 P2 s t _ _ _ _ hne).trans hG
  have hG3 := hG2.over 0 0
  have hI3 : Ih (over2 (over10 w1 P2 s t (.slice a n c) (.slice a' nb cb) (.slice m1 m2 m3) (.slice n1 n2 n3)) P3 0 0) P2 s t (.slice a n c) (.slice a' nb cb) (.slice m1 m2 m3) (.slice n1 n2 n3) := (over2_other _ P3 0 0 hne.symm).trans hI2
  have hB2 := over2_below (over10_below hb h2 s t (.slice a n c) (.slice a' nb cb) (.slice m1 m2 m3) (.slice n1 n2 n3)) h3 0 0
  have hsz : w1.heap.size ≤ (over2 (over10 w1 P2 s t (.slice a n c) (.slice a' nb cb) (.slice m1 m2 m3) (.slice n1 n2 n3)) P3 0 0).heap.size := by
    unfold over2 over10; simp [World.setCell]
  have hst : ∀ (g : Nat) (cs : Array Value) (T : TypeId) (fr : Nat × Nat), w1.heap[g]? = some (.cells cs T fr) → T ≠ 41 → T ≠ 43 → (over2 (over10 w1 P2 s t (.slice a n c) (.slice a' nb cb) (.slice m1 m2 m3) (.slice n1 n2 n3)) P3 0 0).heap[g]? = w1.heap[g]? := fun g cs T fr hc h5 h6 => by
    have e2 : g ≠ P2 := fun e => by subst e; unfold Ih at hI; rw [hI] at hc; cases hc; exact h5 rfl
    have e3 : g ≠ P3 := fun e => by subst e; unfold Fh at hG; rw [hG] at hc; cases hc; exact h6 rfl
    rw [over2_other _ P3 0 0 e3, over10_other w1 P2 s t _ _ _ _ e2]
  have k3 : ∀ (b : Nat) (cs : Array Value) (fr : Nat × Nat), w1.heap[b]? = some (.cells cs 3 fr) → (over2 (over10 w1 P2 s t (.slice a n c) (.slice a' nb cb) (.slice m1 m2 m3) (.slice n1 n2 n3)) P3 0 0).heap[b]? = some (.cells cs 3 fr) := fun b cs fr hc => (hst b cs 3 fr hc (by decide) (by decide)).trans hc
  have k30 : ∀ {v : Value} {M : List (List Int)}, Ol w.heap.size w1 v M → Ol w.heap.size (over2 (over10 w1 P2 s t (.slice a n c) (.slice a' nb cb) (.slice m1 m2 m3) (.slice n1 n2 n3)) P3 0 0) v M := fun h => h.stay hsz k3 (fun g hg => by
    obtain ⟨-, cs, fr, hc⟩ := h.own hg
    exact hst g cs 22 fr hc (by decide) (by decide))
  subst hd
  refine bodyPost_ret (ret_img rfl t2 t3 hI3.ic ⟨hG3.fc.1, hG3.fc.2.1⟩) rfl ⟨a, n, c, a', nb, cb, m1, m2, m3, n1, n2, n3, 0, ?_, ?_, hB2, fun _ => ⟨?_, ?_, ?_⟩⟩
  · rw [hS, hT, hE]
  · rw [hL]; exact (hR.stay hsz (fun b cs fr hc => (hst b cs 63 fr hc (by decide) (by decide)).trans hc)).1
  · rw [hB]; exact hN.stay hsz k3
  · rw [hS, hL]; exact k30 hOm
  · rw [hS, hL]; exact k30 hOn
end Go.Proofs.YtiobegoiehjfiaaGreat
