/-
  What frame.Check returns, for every command.
-/
import Derived.Test.YtfejabeifabdlaaFmem
namespace Go.Proofs.Ytfejabeifabdlaa
open Go.RowKit

/-- A command as a value: v is its data's slice. -/
def cv (c : Wk.Cmd) (v : Value) : Value := .agg #[.int .i64 c.kind, .int .i64 c.id, .int .i64 c.parent, .int .i64 c.size, .int .i64 c.start, .int .i64 c.count, .int .i64 c.source, .int .i64 c.digest, v]

set_option maxHeartbeats 3200000 in
theorem rightFields_any (c : Wk.Cmd) (a : Option Addr) (cap : Nat) (w : World) (hl : c.data.length ≤ 140737488355328) (hn : Wk.I64 c.count) :
    Calls Try.prog 37 #[cv c (.slice a c.data.length cap)] w fun e w' => e = .returned (.bool (Wk.fldB c)) ∧ Below w.heap.size w w' := by
  have E1 := Wk.fld1 (c := c)
  have E2 := Wk.fld2 (c := c)
  have E3 := Wk.fld3 (c := c)
  have E4 := Wk.fld4 (c := c)
  have E5 := Wk.fld5 (c := c)
  have E6 := Wk.fld6 (c := c)
  have E0 := Wk.fld0 (c := c)
  generalize Wk.fldB c = R at E0 E1 E2 E3 E4 E5 E6 ⊢
  unfold cv
  unfold Wk.I64 at hn
  obtain ⟨k, i, p, z, f, n, s, d, D⟩ := c
  simp only at hl hn E1 E2 E3 E4 E5 E6 E0 ⊢
  have HB := Wc.hid ((Below.refl w.heap.size w).alloc (Nat.le_refl _) (.cells #[.int .i64 k, .int .i64 i, .int .i64 p, .int .i64 z, .int .i64 f, .int .i64 n, .int .i64 s, .int .i64 d, .slice a D.length cap] 24))
  by_cases h1 : k = 1
  · have E := Wc.hid (E1 h1)
    clear E0 E1 E2 E3 E4 E5 E6
    subst h1
    cases hi : Wr.idB i
    · have HI := Wc.hid (Wr.idE_no hi)
      rw [hi] at E
      clear hi
      go_enter Try.func37, Try.ntmps37
      go_wp2_with (first | (go_at_call 47; refine (ide_any _ _).mono ?_; rintro e w' ⟨rfl, rfl⟩; rw [HI.out]))
      go_ret
      exact ⟨ret_bool (by first | (rw [E.out]; done) | (rw [E.out]; rfl) | (rw [E.out]; simp; done)), HB.out⟩
    · have HI := Wc.hid (Wr.idE_yes hi)
      rw [hi] at E
      clear hi
      cases hp : Wr.parB p i
      · rw [hp] at E
        go_enter Try.func37, Try.ntmps37
        go_wp2_with (first | (go_at_call 47; refine (ide_any _ _).mono ?_; rintro e w' ⟨rfl, rfl⟩; rw [HI.out]) | (go_at_call 48; refine (rightParent_any _ _ _).mono ?_; rintro e w' ⟨rfl, rfl⟩; rw [hp]))
        go_ret
        exact ⟨ret_bool (by first | (rw [E.out]; done) | (rw [E.out]; rfl) | (rw [E.out]; simp; done)), HB.out⟩
      · rw [hp] at E
        cases hz : Wk.szB z
        · rw [hz] at E
          go_enter Try.func37, Try.ntmps37
          go_wp2_with (first | (go_at_call 47; refine (ide_any _ _).mono ?_; rintro e w' ⟨rfl, rfl⟩; rw [HI.out]) | (go_at_call 48; refine (rightParent_any _ _ _).mono ?_; rintro e w' ⟨rfl, rfl⟩; rw [hp]) | (go_at_call 49; refine (rightSize9_any _ _).mono ?_; rintro e w' ⟨rfl, rfl⟩; rw [hz]))
          go_ret
          exact ⟨ret_bool (by first | (rw [E.out]; done) | (rw [E.out]; rfl) | (rw [E.out]; simp; done)), HB.out⟩
        · rw [hz] at E
          go_enter Try.func37, Try.ntmps37
          go_wp2_with (first | (go_at_call 47; refine (ide_any _ _).mono ?_; rintro e w' ⟨rfl, rfl⟩; rw [HI.out]) | (go_at_call 48; refine (rightParent_any _ _ _).mono ?_; rintro e w' ⟨rfl, rfl⟩; rw [hp]) | (go_at_call 49; refine (rightSize9_any _ _).mono ?_; rintro e w' ⟨rfl, rfl⟩; rw [hz]) | (go_at_call 25; refine (within9_any _ _ _ _).mono ?_; rintro e w' ⟨rfl, rfl⟩))
          go_ret
          exact ⟨ret_bool (by first | (rw [E.out]; done) | (rw [E.out]; rfl) | (rw [E.out]; simp; done)), HB.out⟩
  by_cases h2 : k = 2
  · have E := Wc.hid (E2 h2)
    clear E0 E1 E2 E3 E4 E5 E6
    subst h2
    cases hd : Wk.datB D.length
    · rw [hd] at E
      go_enter Try.func37, Try.ntmps37
      go_wp2_with (first | (go_at_call 50; refine (rightData_any _ _ _ _ hl).mono ?_; rintro e w' ⟨rfl, rfl⟩; rw [hd]) | (go_at_call 51; refine (rightRun_any _ _ _ (by omega)).mono ?_; rintro e w' ⟨rfl, rfl⟩))
      go_ret
      exact ⟨ret_bool (by first | (rw [E.out]; done) | (rw [E.out]; rfl) | (rw [E.out]; simp; done)), HB.out⟩
    · rw [hd] at E
      go_enter Try.func37, Try.ntmps37
      go_wp2_with (first | (go_at_call 50; refine (rightData_any _ _ _ _ hl).mono ?_; rintro e w' ⟨rfl, rfl⟩; rw [hd]) | (go_at_call 51; refine (rightRun_any _ _ _ (by omega)).mono ?_; rintro e w' ⟨rfl, rfl⟩))
      go_ret
      exact ⟨ret_bool (by first | (rw [E.out]; done) | (rw [E.out]; rfl) | (rw [E.out]; simp; done)), HB.out⟩
  by_cases h3 : k = 3
  · have E := Wc.hid (E3 h3)
    clear E0 E1 E2 E3 E4 E5 E6
    subst h3
    go_enter Try.func37, Try.ntmps37
    go_wp2_with (first | (go_at_call 51; refine (rightRun_any _ _ _ (by omega)).mono ?_; rintro e w' ⟨rfl, rfl⟩))
    go_ret
    exact ⟨ret_bool (by first | (rw [E.out]; done) | (rw [E.out]; rfl) | (rw [E.out]; simp; done)), HB.out⟩
  by_cases h4 : k = 4
  · have E := Wc.hid (E4 h4)
    clear E0 E1 E2 E3 E4 E5 E6
    subst h4
    cases hr : Wk.runB f n
    · rw [hr] at E
      go_enter Try.func37, Try.ntmps37
      go_wp2_with (first | (go_at_call 51; refine (rightRun_any _ _ _ (by omega)).mono ?_; rintro e w' ⟨rfl, rfl⟩; first | rw [hr] | skip))
      go_ret
      exact ⟨ret_bool (by first | (rw [E.out]; done) | (rw [E.out]; rfl) | (rw [E.out]; simp; done)), HB.out⟩
    · rw [hr] at E
      go_enter Try.func37, Try.ntmps37
      go_wp2_with (first | (go_at_call 51; refine (rightRun_any _ _ _ (by omega)).mono ?_; rintro e w' ⟨rfl, rfl⟩; first | rw [hr] | skip))
      go_ret
      exact ⟨ret_bool (by first | (rw [E.out]; done) | (rw [E.out]; rfl) | (rw [E.out]; simp; done)), HB.out⟩
  by_cases h5 : k = 5
  · have E := Wc.hid (E5 h5)
    clear E0 E1 E2 E3 E4 E5 E6
    subst h5
    go_enter Try.func37, Try.ntmps37
    go_wp2_with (first | (go_at_call 49; refine (rightSize9_any _ _).mono ?_; rintro e w' ⟨rfl, rfl⟩))
    go_ret
    exact ⟨ret_bool (by first | (rw [E.out]; done) | (rw [E.out]; rfl) | (rw [E.out]; simp; done)), HB.out⟩
  by_cases h6 : k = 6
  · have E := Wc.hid (E6 h6)
    clear E0 E1 E2 E3 E4 E5 E6
    subst h6
    cases hn1 : (decide (0 ≤ n) && decide (n ≤ 65535))
    · have E' : Hid (R = false) := Wc.hid (by rw [E.out]; unfold Wk.cntB; rw [hn1]; rfl)
      clear E
      go_enter Try.func37, Try.ntmps37
      go_wp2_with (first | (go_at_call 25; refine (within9_any _ _ _ _).mono ?_; rintro e w' ⟨rfl, rfl⟩; first | rw [hn1] | skip))
      go_ret
      exact ⟨ret_bool (by rw [E'.out]), HB.out⟩
    · have E' : Hid (R = Wk.digB d) := Wc.hid (by rw [E.out]; unfold Wk.cntB; rw [hn1]; rfl)
      clear E
      go_enter Try.func37, Try.ntmps37
      go_wp2_with (first | (go_at_call 25; refine (within9_any _ _ _ _).mono ?_; rintro e w' ⟨rfl, rfl⟩; first | rw [hn1] | skip))
      go_ret
      exact ⟨ret_bool (by rw [E'.out]; rfl), HB.out⟩
  have E := Wc.hid (E0 ⟨h1, h2, h3, h4, h5, h6⟩)
  clear E0 E1 E2 E3 E4 E5 E6
  go_enter Try.func37, Try.ntmps37
  go_wp2
  go_ret
  exact ⟨ret_bool (by first | (rw [E.out]; done) | (rw [E.out]; rfl) | (rw [E.out]; simp; done)), HB.out⟩

set_option maxHeartbeats 3200000 in
theorem bare_any (c : Wk.Cmd) (a : Option Addr) (cap : Nat) (w : World) (hc : Wk.Held c) :
    Calls Try.prog 38 #[cv c (.slice a c.data.length cap)] w fun e w' => e = .returned (.bool (Wk.bareB c)) ∧ Below w.heap.size w w' := by
  have HR := Wc.hid (Wk.st_rng hc (z := 0) (by unfold Wk.I64; omega))
  have HF : Hid (Wk.bareB c = ((c.kind == 2 || c.data.length == 0) && Wk.noneB (Wk.clr (Wk.pl c.kind) (Wk.st c 0)))) := Wc.hid rfl
  have HP := Wc.hid (Wk.Pb.new w (Wk.st c 0) (.slice a c.data.length cap))
  have HB := Wc.hid (((Below.refl w.heap.size w).alloc (Nat.le_refl _) (.cells #[.int .i64 c.kind, .int .i64 c.id, .int .i64 c.parent, .int .i64 c.size, .int .i64 c.start, .int .i64 c.count, .int .i64 c.source, .int .i64 c.digest, .slice a c.data.length cap] 24)).alloc (by simp) (.cells #[.int .i64 0] 3))
  clear hc
  unfold cv
  go_enter Try.func38, Try.ntmps38
  go_wp2_with fail
  refine (parts_any _ _ (Wk.st c 0) (.slice a c.data.length cap) _ HP.out).mono ?_
  rintro e w1 ⟨u, rfl, hu, hb1⟩
  have HP1 := Wc.hid (HP.out.keep hb1)
  have HB1 := Wc.hid (Wc.step HB.out (Nat.le_refl _) hb1)
  clear hb1 HP HB
  have hu' : Wk.Pv w1 u w.heap.size (w.heap.size + 1) (Wk.pl c.kind) := hu
  clear hu
  have h4 := Wk.pl_len c.kind
  have HFD := Wc.hid (Wk.pl_fields c.kind)
  have HK0 := Wc.hid (Wk.clr_kind (Wk.pl c.kind) (Wk.st c 0) (Wk.pl_kind c.kind))
  have HRG := Wc.hid (Wk.clr_rng (Wk.pl c.kind) (Wk.st c 0) HR.out)
  generalize Wk.pl c.kind = L at hu' h4 HFD HF HK0 HRG
  generalize hFd : Wk.clr L (Wk.st c 0) = F at HF HK0 HRG
  have HFE := Wc.hid hFd
  clear hFd HR
  obtain ⟨ua, rfl⟩ := hu'.shape
  have HU := Wc.hid hu'
  clear hu'
  have HS0 := Wc.hid (show Wk.st c 0 0 = c.kind from rfl)
  generalize Wk.st c 0 = s0 at HP1 HFE HK0 HS0
  go_wp2_with fail
  go_loopw [8] (fun i wr => ∃ (k : Nat) (s : Nat → Int), i = .int .i64 k ∧ k ≤ L.length ∧ Hid (Wk.Pb wr w.heap.size (w.heap.size + 1) s (.slice a c.data.length cap)) ∧ Hid (Wk.Pv wr (.slice ua L.length L.length) w.heap.size (w.heap.size + 1) L) ∧ Hid (Below w.heap.size w wr) ∧ Hid (Wk.clr (L.drop k) s = F)) (fun i _ => L.length - (intOf i).toNat)
  case atStart => exact ⟨0, s0, rfl, by omega, HP1, HU, HB1, HFE⟩
  case round =>
    obtain ⟨k, s, rfl, hk, P, V, Bw, T⟩ := hrel
    by_cases hlt : k < L.length
    · obtain ⟨fd, hfd⟩ : ∃ fd, (L.getD k (0, 0)).1 = fd := ⟨_, rfl⟩
      obtain ⟨sz, hsz⟩ : ∃ sz, (L.getD k (0, 0)).2 = sz := ⟨_, rfl⟩
      have hf9 : fd < 9 := by rw [← hfd]; exact (HFD.out _ (Wk.getD_mem L k hlt)).1
      have HT : Hid (Wk.clr (L.drop (k + 1)) (Wk.upd s fd 0) = F) := Wc.hid (by
        have := T.out
        rw [Wk.drop_get L k hlt] at this
        rw [← this, ← hfd]; rfl)
      rcases V.out with ⟨h0, _⟩ | ⟨g, hg, hgl, n1, n2, hcs⟩
      · rw [h0] at hlt; simp at hlt
      · cases hg
        obtain ⟨c1, c2⟩ := hcs k hlt
        rw [hfd] at c1
        rw [hsz] at c2
        have HAL := Wc.hid ((Below.refl wr.heap.size wr).alloc (Nat.le_refl _) (.cells #[.pointer (some (Wk.Adr w.heap.size (w.heap.size + 1) fd)), .int .i64 sz] 56))
        have P2 := Wc.hid (P.out.keep HAL.out)
        have V2 := Wc.hid (V.out.keep HAL.out)
        have B2 := Wc.hid (Wc.step Bw.out (Nat.le_refl _) HAL.out)
        have hc3 := P2.out.cell hf9
        have hfr := P2.out.frozen fd
        have P3 := Wc.hid (P2.out.set hf9 0)
        have V3 := Wc.hid (V2.out.set fd (.int .i64 0))
        have B3 := Wc.hid (Wk.below_adr B2.out (Nat.le_refl _) (Nat.le_succ _) fd (.int .i64 0))
        clear HAL P V Bw P2 V2 B2 T hcs hfd hsz n1 n2 hgl
        generalize Wk.Adr w.heap.size (w.heap.size + 1) fd = ad at *
        go_wp2_with fail
        go_roundw
        case rel => exact ⟨k + 1, _, by go_num, by omega, P3, V3, B3, HT⟩
        case measure => simp [intOf]; omega
    · obtain rfl : k = L.length := by omega
      have hs : s = F := by
        have := T.out
        rw [List.drop_eq_nil_of_le (Nat.le_refl _)] at this
        exact this
      subst hs
      have c0 : wr.cell? ⟨w.heap.size, 0, none⟩ = some (.int .i64 c.kind) := by rw [← HS0.out, ← HK0.out]; exact P.out.cell (f := 0) (by omega)
      have c1 : wr.cell? ⟨w.heap.size, 1, none⟩ = some (.int .i64 (s 1)) := P.out.cell (f := 1) (by omega)
      have c2 : wr.cell? ⟨w.heap.size, 2, none⟩ = some (.int .i64 (s 2)) := P.out.cell (f := 2) (by omega)
      have c3 : wr.cell? ⟨w.heap.size, 3, none⟩ = some (.int .i64 (s 3)) := P.out.cell (f := 3) (by omega)
      have c4 : wr.cell? ⟨w.heap.size, 4, none⟩ = some (.int .i64 (s 4)) := P.out.cell (f := 4) (by omega)
      have c5 : wr.cell? ⟨w.heap.size, 5, none⟩ = some (.int .i64 (s 5)) := P.out.cell (f := 5) (by omega)
      have c6 : wr.cell? ⟨w.heap.size, 6, none⟩ = some (.int .i64 (s 6)) := P.out.cell (f := 6) (by omega)
      have c7 : wr.cell? ⟨w.heap.size, 7, none⟩ = some (.int .i64 (s 7)) := P.out.cell (f := 7) (by omega)
      have c8 := P.out.data
      have HO := Wc.hid (Wk.none_or HRG.out)
      clear P V T HRG HK0 HS0 HFE HP1 HU HB1
      by_cases h2 : c.kind = 2
      · have hb2 : (c.kind != 2) = false := by simpa using h2
        go_wp2_with fail
        go_ret
        refine ⟨ret_bool ?_, Bw.out⟩
        rw [HF.out, ← HO.out]
        simp [h2]
      · have hb2 : (c.kind != 2) = true := by simpa using h2
        by_cases h0 : c.data.length = 0
        · have hb3 : (((c.data.length : Nat) : Int) != 0) = false := by simpa using h0
          have HH0 := Wc.hid h0
          clear h0
          go_wp2_with fail
          go_ret
          refine ⟨ret_bool ?_, Bw.out⟩
          rw [HF.out, ← HO.out, HH0.out]
          simp
        · have hb3 : (((c.data.length : Nat) : Int) != 0) = true := by simpa using h0
          have HH0 := Wc.hid h0
          clear h0
          go_wp2_with fail
          go_ret
          refine ⟨ret_bool ?_, Bw.out⟩
          rw [HF.out]
          have e1 : (c.kind == 2) = false := by simpa using h2
          have e2 : (c.data.length == 0) = false := by simpa using HH0.out
          rw [e1, e2]; rfl

set_option maxHeartbeats 1600000 in
theorem check9_any (c : Wk.Cmd) (a : Option Addr) (cap : Nat) (w : World) (hl : c.data.length ≤ 140737488355328) (hc : Wk.Held c) :
    Calls Try.prog 18 #[cv c (.slice a c.data.length cap)] w fun e w' => e = .returned (.int .i64 (Wk.cmdE c)) ∧ Below w.heap.size w w' := by
  have HF : Hid (Wk.cmdB c = (Wk.fldB c && Wk.bareB c)) := Wc.hid rfl
  have HA := Wc.hid (rightFields_any c a cap)
  have HC := Wc.hid (bare_any c a cap)
  have HB := Wc.hid ((Below.refl w.heap.size w).alloc (Nat.le_refl _) (.cells #[.int .i64 c.kind, .int .i64 c.id, .int .i64 c.parent, .int .i64 c.size, .int .i64 c.start, .int .i64 c.count, .int .i64 c.source, .int .i64 c.digest, .slice a c.data.length cap] 24))
  have HD : Hid ((w.alloc (.cells #[.int .i64 c.kind, .int .i64 c.id, .int .i64 c.parent, .int .i64 c.size, .int .i64 c.start, .int .i64 c.count, .int .i64 c.source, .int .i64 c.digest, .slice a c.data.length cap] 24)).heap[w.heap.size]? = some (.cells #[.int .i64 c.kind, .int .i64 c.id, .int .i64 c.parent, .int .i64 c.size, .int .i64 c.start, .int .i64 c.count, .int .i64 c.source, .int .i64 c.digest, .slice a c.data.length cap] 24 (0, 0))) := Wc.hid (by show (w.heap.push _)[w.heap.size]? = _; simp)
  unfold cv
  go_enter Try.func18, Try.ntmps18
  cases h1 : Wk.fldB c
  · have E := Wc.hid (Wk.cmdE_no (c := c) (by rw [HF.out, h1]; rfl))
    go_wp2_with fail
    refine (HA.out _ hl hc.2.2.2.2.2.1).mono ?_
    rintro e w1 ⟨rfl, hb1⟩
    rw [h1]
    go_wp2_with fail
    go_ret
    exact ⟨by rw [E.out]; rfl, Wc.step HB.out (Nat.le_refl _) hb1⟩
  · have HE : Hid (Wk.cmdB c = Wk.bareB c) := Wc.hid (by rw [HF.out, h1]; rfl)
    go_wp2_with fail
    refine (HA.out _ hl hc.2.2.2.2.2.1).mono ?_
    rintro e w1 ⟨rfl, hb1⟩
    rw [h1]
    have B1 := Wc.hid (Wc.step HB.out (Nat.le_refl _) hb1)
    have D1 := hb1.block w.heap.size (by simp)
    rw [HD.out] at D1
    have d0 : w1.cell? ⟨w.heap.size, 0, none⟩ = some (.int .i64 c.kind) := by simp [World.cell?, D1]
    have d1 : w1.cell? ⟨w.heap.size, 1, none⟩ = some (.int .i64 c.id) := by simp [World.cell?, D1]
    have d2 : w1.cell? ⟨w.heap.size, 2, none⟩ = some (.int .i64 c.parent) := by simp [World.cell?, D1]
    have d3 : w1.cell? ⟨w.heap.size, 3, none⟩ = some (.int .i64 c.size) := by simp [World.cell?, D1]
    have d4 : w1.cell? ⟨w.heap.size, 4, none⟩ = some (.int .i64 c.start) := by simp [World.cell?, D1]
    have d5 : w1.cell? ⟨w.heap.size, 5, none⟩ = some (.int .i64 c.count) := by simp [World.cell?, D1]
    have d6 : w1.cell? ⟨w.heap.size, 6, none⟩ = some (.int .i64 c.source) := by simp [World.cell?, D1]
    have d7 : w1.cell? ⟨w.heap.size, 7, none⟩ = some (.int .i64 c.digest) := by simp [World.cell?, D1]
    have d8 : w1.cell? ⟨w.heap.size, 8, none⟩ = some (.slice a c.data.length cap) := by simp [World.cell?, D1]
    clear hb1 D1 HD
    cases h2 : Wk.bareB c
    · have E := Wc.hid (Wk.cmdE_no (c := c) (by rw [HE.out, h2]))
      go_wp2_with fail
      refine (HC.out _ hc).mono ?_
      rintro e w2 ⟨rfl, hb2⟩
      rw [h2]
      go_wp2_with fail
      go_ret
      exact ⟨by rw [E.out]; rfl, Wc.step B1.out (Nat.le_refl _) hb2⟩
    · have E := Wc.hid (Wk.cmdE_yes (c := c) (by rw [HE.out, h2]))
      go_wp2_with fail
      refine (HC.out _ hc).mono ?_
      rintro e w2 ⟨rfl, hb2⟩
      rw [h2]
      go_wp2_with fail
      go_ret
      exact ⟨by rw [E.out]; rfl, Wc.step B1.out (Nat.le_refl _) hb2⟩

end Go.Proofs.Ytfejabeifabdlaa
