/-
  What found.follow does, for every device and every way.
-/
import Derived.Test.YtifjbmknghjohaaTw
namespace Go.Proofs.Ytifjbmknghjohaa
open Go.RowKit

theorem Try.infoI : (Try.prog.info? 3).map (fun i => (i.zero, i.size, i.bytes)) = some (some (.int .i64 0), 1, 8) := by kernel_rfl

/-- One number is put behind memory of the call's own; blocks of other things stay. -/
theorem push_run (w : World) (gb base : Nat) (hgb : gb = w.heap.size) (v : Value) (l : List Int) (p : Int) (hO : Wv.Ov (Value.int .i64) 3 base w v l) (hl : l.length ≤ 1000) (hb : base ≤ w.heap.size) :
    ∃ a n c w', Sem.run Try.prog (Builtin.append_ #[23, 23] 23 #[v, .slice (some ⟨gb, 0, none⟩) 1 1]) (w.alloc (.cells #[.int .i64 p] 3)) = .ok (.slice a n c) w' ∧ Wv.Ov (Value.int .i64) 3 base w' (.slice a n c) (l ++ [p]) ∧ Below base (w.alloc (.cells #[.int .i64 p] 3)) w' ∧
      ∀ (b : Nat) (cs : Array Value) (T : TypeId) (fr : Nat × Nat), (w.alloc (.cells #[.int .i64 p] 3)).heap[b]? = some (.cells cs T fr) → T ≠ 3 → w'.heap[b]? = some (.cells cs T fr) := by
  subst hgb
  obtain ⟨i, hi, hzz⟩ := Option.map_eq_some_iff.1 Try.infoI
  simp only [Prod.mk.injEq] at hzz
  obtain ⟨hz, hs, hby⟩ := hzz
  have hO1 : Wv.Ov (Value.int .i64) 3 base (w.alloc (.cells #[.int .i64 p] 3)) v l := hO.keep ((Below.refl _ _).alloc (Nat.le_refl _) _)
  have hR : Wv.Rv (Value.int .i64) 0 (w.alloc (.cells #[.int .i64 p] 3)) (.slice (some ⟨w.heap.size, 0, none⟩) 1 1) [p] := Wv.Rv.lit w _ 3 1 [p] rfl (by omega) rfl
  obtain ⟨v', w', k1, k2, k3, k4⟩ := run_append_own (P := Try.prog) (w.alloc (.cells #[.int .i64 p] 3)) base 23 23 3 i (.int .i64 0) 1 8 Try.underlying23 hi hz hs hby rfl (by decide) v _ _ hO1.1 ⟨w.heap.size, 0, none⟩ 1 1 [.int .i64 p] rfl (by
      intro j c hj
      have hj0 : j = 0 := by have := (List.getElem?_eq_some_iff.1 hj).1; simpa using this
      subst hj0
      have := (Wv.rv_cells hR (by omega)).2 0 (by omega)
      rw [Wv.add_none]
      rw [this]
      simpa using hj) (by intro c hc; simp at hc; subst hc; rfl) (by unfold maxLen; omega) (by omega) (by simp; omega)
  have hO2 : Wv.Ov (Value.int .i64) 3 base w' v' (l ++ [p]) := ⟨by simpa using k2, by simp; omega⟩
  have hbl : Below base (w.alloc (.cells #[.int .i64 p] 3)) w' := (Below.refl _ _).grown k3 (by simp; omega) (fun g hg => (hO1.1.lt g hg).1)
  have hoth : ∀ (b : Nat) (cs : Array Value) (T : TypeId) (fr : Nat × Nat), (w.alloc (.cells #[.int .i64 p] 3)).heap[b]? = some (.cells cs T fr) → T ≠ 3 → w'.heap[b]? = some (.cells cs T fr) := by
    intro b cs T fr hh hT
    refine (k3.block b (Array.getElem?_eq_some_iff.1 hh).1 (fun ee => ?_)).trans hh
    rcases hO1.1.2 with ⟨rfl, _⟩ | ⟨g2, c2, cur2, rfl, _, hg2, _⟩
    · cases ee
    · have : b = g2 := by simpa [Value.ownBlock] using ee
      subst this
      rw [hh] at hg2
      cases hg2
      exact hT rfl
  rcases hO2.shaped with rfl | ⟨ad, n, c, rfl⟩
  · exact ⟨_, _, _, _, k1, hO2, hbl, hoth⟩
  · exact ⟨_, _, _, _, k1, hO2, hbl, hoth⟩

theorem okN_iff {xs : List Int} {p : Int} {L : Nat} : Wt.okN xs p L = true ↔ (Wn.parE (Wd.rdR xs p) == 0) = true ∧ (Wt.nd xs p).level = (L : Int) := by
  simp [Wt.okN]

theorem isSome_none : (none : Option Wt.St).isSome = false := rfl

set_option maxHeartbeats 3200000 in
theorem follow_no (xs : List Int) (v : Value) (w0 : World) (B g nb L : Nat) (hv : Wc.Bs w0 v xs) (p l q : Int) (pl : Nat) (s : Wt.St) (w : World) (hl : l = L) (hb : Below w0.heap.size w0 w) (ho : Wt.okN xs p L = false) :
    Calls Try.prog 42 #[.pointer (some ⟨B, 0, none⟩), v, .int .i64 p, .int .i64 l, .int .i64 q] w fun e w' => e = .returned (.bool (Wt.met xs (L + 1) p pl s).isSome) ∧ Below w0.heap.size w0 w' ∧ ∀ t, Wt.met xs (L + 1) p pl s = some t → Fo w' B g nb t := by
  rw [Wt.met_no ho]
  have HV := Wc.hid (hv.keep hb)
  have HB := Wc.hid hb
  clear hv hb
  cases hk : (Wn.parE (Wd.rdR xs p) == 0)
  · clear ho
    go_enter Try.func42, Try.ntmps42
    go_wp2_with fail
    refine (tread_any v p xs _ HV.out).mono ?_
    rintro e w1 ⟨rfl, hb1⟩
    rw [hk]
    have HB1 := Wc.hid ((Wc.step HB.out (Nat.le_refl _) hb1).alloc (Wc.step HB.out (Nat.le_refl _) hb1).size (.cells #[.int .i64 (Wt.nd xs p).level, .int .i64 (Wt.nd xs p).p0, .int .i64 (Wt.nd xs p).p1, .int .i64 (Wt.nd xs p).p2, .int .i64 (Wt.nd xs p).p3, .int .i64 (Wt.nd xs p).p4, .int .i64 (Wt.nd xs p).p5, .int .i64 (Wt.nd xs p).p6, .int .i64 (Wt.nd xs p).p7] 47))
    unfold nv
    clear hb1
    go_wp2_with fail
    go_ret
    exact ⟨rfl, HB1.out, fun t ht => by cases ht⟩
  · have hlev : ¬ (Wt.nd xs p).level = (L : Int) := fun e => by
      rw [okN_iff.2 ⟨hk, e⟩] at ho; cases ho
    clear ho
    go_enter Try.func42, Try.ntmps42
    go_wp2_with fail
    refine (tread_any v p xs _ HV.out).mono ?_
    rintro e w1 ⟨rfl, hb1⟩
    rw [hk]
    generalize Wt.nd xs p = n at hlev
    have HB1 := Wc.hid ((Wc.step HB.out (Nat.le_refl _) hb1).alloc (Wc.step HB.out (Nat.le_refl _) hb1).size (.cells #[.int .i64 n.level, .int .i64 n.p0, .int .i64 n.p1, .int .i64 n.p2, .int .i64 n.p3, .int .i64 n.p4, .int .i64 n.p5, .int .i64 n.p6, .int .i64 n.p7] 47))
    have ⟨d, d0, d1, d2, d3, d4, d5, d6, d7⟩ := (Nh.new w1 n).nc
    have hne : (n.level != l) = true := by simp; omega
    unfold nv
    clear hb1
    go_wp2_with fail
    go_ret
    exact ⟨rfl, HB1.out, fun t ht => by cases ht⟩

set_option maxRecDepth 100000 in
set_option maxHeartbeats 6400000 in
theorem follow_yes (xs : List Int) (v : Value) (w0 : World) (B g nb L : Nat) (hv : Wc.Bs w0 v xs) (hM : MeetOk xs v w0 B g nb L) (hB : w0.heap.size ≤ B) (p l q : Int) (pl : Nat) (s : Wt.St) (w : World) (hl : l = L) (hq : q = pl)
   (hpl : (pl + 1) * 8 ^ (L + 1) ≤ 512) (hr : s.nodes.length + Wt.room (L + 1) ≤ 1000) (hb : Below w0.heap.size w0 w) (hF : Fo w B g nb s) (ho : Wt.okN xs p L = true) :
    Calls Try.prog 42 #[.pointer (some ⟨B, 0, none⟩), v, .int .i64 p, .int .i64 l, .int .i64 q] w fun e w' => e = .returned (.bool (Wt.met xs (L + 1) p pl s).isSome) ∧ Below w0.heap.size w0 w' ∧ ∀ t, Wt.met xs (L + 1) p pl s = some t → Fo w' B g nb t := by
  rw [Wt.met_yes ho]
  obtain ⟨hk, hlev⟩ := okN_iff.1 ho
  obtain ⟨n, hn⟩ : ∃ n, Wt.nd xs p = n := ⟨_, rfl⟩
  rw [hn] at hlev ⊢
  have HN := Wc.hid hn
  have HV := Wc.hid (hv.keep hb)
  have HB := Wc.hid hb
  have HF := Wc.hid hF
  have HM := Wc.hid hM
  have h8 : 1 ≤ 8 ^ L := Nat.pos_of_ne_zero (by simp)
  have hp64 : pl < 64 := by rw [Nat.pow_succ] at hpl; apply Classical.byContradiction; intro hn; have := Nat.mul_le_mul (show 65 ≤ pl + 1 by omega) (show 8 ≤ 8 ^ L * 8 by omega); omega
  have HP : Hid ((pl + 1) * 8 ^ (L + 1) ≤ 512) := Wc.hid hpl
  have HR := Wc.hid hr
  clear hv hb hF hM ho hpl hr h8 hn
  subst hq
  go_enter Try.func42, Try.ntmps42
  go_wp2_with fail
  refine (tread_any v p xs _ HV.out).mono ?_
  rintro e w1 ⟨rfl, hb1⟩
  rw [hk, HN.out]
  have HB1 := Wc.hid ((Wc.step HB.out (Nat.le_refl _) hb1).alloc (Wc.step HB.out (Nat.le_refl _) hb1).size (.cells #[.int .i64 n.level, .int .i64 n.p0, .int .i64 n.p1, .int .i64 n.p2, .int .i64 n.p3, .int .i64 n.p4, .int .i64 n.p5, .int .i64 n.p6, .int .i64 n.p7] 47))
  have F1 := Wc.hid ((HF.out.keep hb1).keep ((Below.refl _ _).alloc (Nat.le_refl _) (.cells #[.int .i64 n.level, .int .i64 n.p0, .int .i64 n.p1, .int .i64 n.p2, .int .i64 n.p3, .int .i64 n.p4, .int .i64 n.p5, .int .i64 n.p6, .int .i64 n.p7] 47)))
  have N1 := Wc.hid (Nh.new w1 n)
  have ⟨d, d0, d1, d2, d3, d4, d5, d6, d7⟩ := N1.out.nc
  have hne : (n.level != l) = false := by simp; omega
  obtain ⟨a, m, c, c0, c1, cf, hO⟩ := F1.out.cells
  obtain ⟨-, -, hBn, hgn, hBg, hnb⟩ := F1.out.row
  have hln : s.nodes.length ≤ 1000 := by have := HR.out; omega
  obtain ⟨a', m', c', w4, hrun, hO4, hb4, hoth⟩ := push_run _ (w1.heap.size + 1) nb (by simp) _ s.nodes p hO hln hnb
  have F1b := F1.out.keep ((Below.refl _ _).alloc (Nat.le_refl _) (.cells #[.int .i64 p] 3))
  have F4 := Wc.hid (F1b.push hb4 hO4 s.dat)
  have N4 : Nh (w4.setCell ⟨B, 0, none⟩ (.slice a' m' c')) w1.heap.size n := by
    refine Nh.other ?_ (fun e => ?_) 0 _
    · exact hoth _ _ _ _ (N1.out.keep ((Below.refl _ _).alloc (Nat.le_refl _) (.cells #[.int .i64 p] 3))) (by decide)
    · have h9 := N1.out
      obtain ⟨a9, n9, c9, h10, -⟩ := F1.out
      unfold Nh at h9
      rw [e, h10] at h9
      cases h9
  have ⟨f, f0, f1, f2, f3, f4, f5, f6, f7⟩ := N4.nc
  obtain ⟨a5, m5, c5, k0, -, kf, -⟩ := F1b.cells
  have e0 : w4.cell? ⟨B, 0, none⟩ = some (.slice a5 m5 c5) := (hb4.cell (p := ⟨B, 0, none⟩) hBn).trans k0
  have e1 : w4.frozen? ⟨B, 0, none⟩ = false := (hb4.frozen (p := ⟨B, 0, none⟩) hBn).trans (kf 0)
  have HRUN := Wc.hid hrun
  have HB4 := Wc.hid (((HB1.out.alloc HB1.out.size (.cells #[.int .i64 p] 3)).trans (hb4.mono (by omega))).setCell (p := ⟨B, 0, none⟩) hB (.slice a' m' c'))
  unfold nv
  clear hb1 hrun hO hO4 hb4 hoth F1b k0 kf N4 hnb hBn hgn hBg hlev
  go_wp2_with (at_builtin; refine Wv.wp_append HRUN.out rfl rfl rfl rfl ?_)
  clear d d0 d1 d2 d3 d4 d5 d6 d7 f f0 f1 f2 f3 f4 f5 f6 f7 e0 e1 c0 c1 cf hk hne HRUN N1 F1 HB1 HF HB HV
  go_loopw [41] (fun i wr => ∃ (k : Nat) (t : Wt.St), i = .int .i64 k ∧ k ≤ 8 ∧ Hid (Wt.go (Wt.met xs L) n pl k ⟨s.nodes ++ [p], s.sec, s.dat⟩ = some t) ∧ Hid (Fo wr B g nb t) ∧ Hid (Below w0.heap.size w0 wr)) (fun i _ => 8 - (intOf i).toNat)
  case atStart => exact ⟨0, _, rfl, by omega, rfl, F4, HB4⟩
  case round =>
    obtain ⟨k, t, rfl, hk, HG, FT, BT⟩ := hrel
    by_cases hlt : k < 8
    · have hi := idx8 n hlt
      have hle : (pl * 8 + k + 1) * 8 ^ L ≤ 512 := by
        have h1 := HP.out
        rw [Nat.pow_succ] at h1
        have h2 : (pl * 8 + k + 1) * 8 ^ L ≤ (pl * 8 + 8) * 8 ^ L := Nat.mul_le_mul_right _ (by omega)
        have h3 : (pl * 8 + 8) * 8 ^ L = (pl + 1) * (8 ^ L * 8) := by rw [show pl * 8 + 8 = (pl + 1) * 8 by omega, Nat.mul_assoc, Nat.mul_comm 8]
        omega
      have hroom : t.nodes.length + Wt.room L ≤ 1000 := by
        have h1 := Wt.go_room (Wt.met_room xs L) k _ _ HG.out
        have h2 := HR.out
        simp only [Wt.room] at h2
        simp only [List.length_append, List.length_cons, List.length_nil] at h1
        have h3 : k * Wt.room L ≤ 7 * Wt.room L := Nat.mul_le_mul_right _ (by omega)
        omega
      have HLE := Wc.hid hle
      have HRO := Wc.hid hroom
      clear hle hroom
      by_cases hp : Wn.pat n k = 0
      · have HG1 := Wc.hid (Wt.go_skip HG.out hp)
        have hpb : (Wn.pat n k != 0) = false := by simpa using hp
        clear hp
        go_wp2_with fail
        go_roundw
        case rel => exact ⟨k + 1, t, by go_num, by omega, HG1, FT, BT⟩
        case measure => simp [intOf]; omega
      · have HG1 := Wc.hid (Wt.go_step HG.out hp)
        have hpb : (Wn.pat n k != 0) = true := by simpa using hp
        clear hp
        cases ho : Wt.met xs L (Wn.pat n k) (pl * 8 + k) t with
        | none =>
          have HO := Wc.hid ho
          clear ho
          go_wp2_with fail
          refine (HM.out (Wn.pat n k) _ _ (pl * 8 + k) t wr rfl (by omega) HLE.out HRO.out BT.out FT.out).mono ?_
          rintro e w5 ⟨rfl, hb5, -⟩
          rw [HO.out]
          have HB5 := Wc.hid hb5
          have HE : Hid (Wt.go (Wt.met xs L) n pl 8 ⟨s.nodes ++ [p], s.sec, s.dat⟩ = none) := by
            have h1 := HG1.out
            rw [HO.out] at h1
            have h2 := Wt.go_none h1 (7 - k)
            rw [show k + 1 + (7 - k) = 8 by omega] at h2
            exact h2
          clear hb5
          go_wp2_with fail
          go_ret
          rw [HE.out]
          exact ⟨rfl, HB5.out, fun t ht => by cases ht⟩
        | some u =>
          have HO := Wc.hid ho
          clear ho
          go_wp2_with fail
          refine (HM.out (Wn.pat n k) _ _ (pl * 8 + k) t wr rfl (by omega) HLE.out HRO.out BT.out FT.out).mono ?_
          rintro e w5 ⟨rfl, hb5, hu⟩
          rw [HO.out]
          have HB5 := Wc.hid hb5
          have HU := Wc.hid (hu u HO.out)
          have HG2 : Hid (Wt.go (Wt.met xs L) n pl (k + 1) ⟨s.nodes ++ [p], s.sec, s.dat⟩ = some u) := Wc.hid (HG1.out.trans HO.out)
          clear hb5 hu
          go_wp2_with fail
          go_roundw
          case rel => exact ⟨k + 1, u, by go_num, by omega, HG2, HU, HB5⟩
          case measure => simp [intOf]; omega
    · obtain rfl : k = 8 := by omega
      go_wp2_with fail
      go_ret
      rw [HG.out]
      refine ⟨rfl, BT.out, fun u hu => ?_⟩
      cases hu
      exact FT.out

theorem follow_of (xs : List Int) (v : Value) (w0 : World) (B g nb L : Nat) (hv : Wc.Bs w0 v xs) (hB : w0.heap.size ≤ B) (hM : MeetOk xs v w0 B g nb L) : FollowOk xs v w0 B g nb L := by
  intro p l q pl s w hl hq hpl hr hb hF
  cases ho : Wt.okN xs p L
  · exact follow_no xs v w0 B g nb L hv p l q pl s w hl hb ho
  · exact follow_yes xs v w0 B g nb L hv hM hB p l q pl s w hl hq hpl hr hb hF ho

theorem meet_all (xs : List Int) (v : Value) (w0 : World) (B g nb : Nat) (hv : Wc.Bs w0 v xs) (hB : w0.heap.size ≤ B) (hg : w0.heap.size ≤ g) : ∀ L, L ≤ 3 → MeetOk xs v w0 B g nb L
  | 0, _ => meet_zero xs v w0 B g nb hg
  | L + 1, h => meet_succ xs v w0 B g nb L (by omega) (follow_of xs v w0 B g nb L hv hB (meet_all xs v w0 B g nb hv hB hg L (by omega)))

/-- What follow does from a root. -/
theorem follow_any (xs : List Int) (v : Value) (w0 : World) (B g nb : Nat) (hv : Wc.Bs w0 v xs) (hB : w0.heap.size ≤ B) (hg : w0.heap.size ≤ g) (p : Int) (s : Wt.St) (w : World) (hs : s.nodes = []) (hb : Below w0.heap.size w0 w) (hF : Fo w B g nb s) :
    Calls Try.prog 42 #[.pointer (some ⟨B, 0, none⟩), v, .int .i64 p, .int .i64 2, .int .i64 0] w fun e w' => e = .returned (.bool (Wt.met xs 3 p 0 s).isSome) ∧ Below w0.heap.size w0 w' ∧ ∀ t, Wt.met xs 3 p 0 s = some t → Fo w' B g nb t :=
  follow_of xs v w0 B g nb 2 hv hB (meet_all xs v w0 B g nb hv hB hg 2 (by omega)) p 2 0 0 s w rfl rfl (by omega) (by rw [hs]; decide) hb hF

end Go.Proofs.Ytifjbmknghjohaa
