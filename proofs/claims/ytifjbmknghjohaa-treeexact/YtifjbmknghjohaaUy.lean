/-
  What the page's walk.node does, for every device and every way.
-/
import Derived.Test.YtifjbmknghjohaaUx
import Derived.Test.YtifjbmknghjohaaNplc
namespace Go.Proofs.Ytifjbmknghjohaa
open Go.RowKit

/-- What node does at a level. -/
def NodeOk (xs : List Int) (img : Value) (w0 : World) (B m gs gd gm nb L : Nat) : Prop :=
  ∀ (p l q : Int) (pl : Nat) (s : Wt.St) (w : World), l = L → q = ((pl * 8 ^ (L + 1) : Nat) : Int) → (pl + 1) * 8 ^ (L + 1) ≤ 512 → s.nodes.length + Wt.room (L + 1) ≤ 1000 → 2 ≤ p → Below w0.heap.size w0 w → Wk w B img m gs gd gm nb s.nodes s.nodes s.sec s.dat →
    Calls Try.prog 29 #[.pointer (some ⟨B, 0, none⟩), .int .i64 p, .int .i64 l, .int .i64 q] w (NodePost img w0 w B m gs gd gm nb (Wt.rmet xs m (L + 1) p pl s))

theorem rmet_room (xs : List Int) (N : Int) (L : Nat) (p : Int) (pl : Nat) (s t : Wt.St) (h : Wt.rmet xs N L p pl s = some t) : t.nodes.length ≤ s.nodes.length + Wt.room L :=
  Wt.met_room xs L p pl s t (Wt.rmet_met xs N L p pl s t h)

/-- The state of the loop over a node's pointers. -/
def Rst (xs : List Int) (img : Value) (B m gs gd gm nb L pl : Nat) (n : Wn.Nod) (s : Wt.St) (k : Nat) (wr : World) : Prop :=
  (∃ t, Wt.go (Wt.rmet xs m L) n pl k s = some t ∧ Wk wr B img m gs gd gm nb t.nodes t.nodes t.sec t.dat) ∨ (Wt.go (Wt.rmet xs m L) n pl k s = none ∧ Wf wr B img m ∧ 1 ≤ L)

theorem go8_none {f : Int → Nat → Wt.St → Option Wt.St} {n : Wn.Nod} {pl k : Nat} {s : Wt.St} (hk : k < 8) (h : Wt.go f n pl (k + 1) s = none) : Wt.go f n pl 8 s = none := by
  have := Wt.go_none h (7 - k)
  rwa [show k + 1 + (7 - k) = 8 by omega] at this

theorem rst_end {xs : List Int} {img : Value} {w0 w wr : World} {B m gs gd gm nb L pl : Nat} {n : Wn.Nod} {s : Wt.St} (h : Rst xs img B m gs gd gm nb L pl n s 8 wr) (hb : Below w0.heap.size w0 wr) (hk : K47 w wr) :
    NodePost img w0 w B m gs gd gm nb (Wt.go (Wt.rmet xs m L) n pl 8 s) (.returned (.tuple #[])) wr := by
  rcases h with ⟨t, h1, h2⟩ | ⟨h1, h2, -⟩
  · refine ⟨rfl, hb, hk, fun u hu => ?_, fun hu => by rw [h1] at hu; cases hu⟩
    rw [h1] at hu; cases hu; exact h2
  · rw [h1]; exact node_none hb hk h2

/-- The walk fails at a pointer. -/
theorem rst_fail {xs : List Int} {img : Value} {w0 w wr : World} {B m gs gd gm nb L pl k : Nat} {n : Wn.Nod} {s : Wt.St} (hk8 : k < 8) (h : Wt.go (Wt.rmet xs m L) n pl (k + 1) s = none) (hb : Below w0.heap.size w0 wr) (hk : K47 w wr) (hf : Wf wr B img m) :
    NodePost img w0 w B m gs gd gm nb (Wt.go (Wt.rmet xs m L) n pl 8 s) (.returned (.tuple #[])) wr := by
  rw [go8_none hk8 h]; exact node_none hb hk hf

theorem rmet_far {xs : List Int} {N p : Int} {L pl : Nat} {s : Wt.St} (h : N ≤ p) : Wt.rmet xs N L p pl s = none := by
  cases L with
  | zero => unfold Wt.rmet; rw [if_neg (by omega)]
  | succ L => unfold Wt.rmet; rw [if_neg (fun h' => by omega)]

theorem wf_set {w : World} {B m : Nat} {img : Value} (h : Wf w B img m) : Wf (w.setCell ⟨B, 6, none⟩ (.bool false)) B img m := by
  obtain ⟨vn, vs, vd, vm, h⟩ := h
  exact ⟨_, _, _, _, h.fail false⟩

theorem wf_k47 {w : World} {B m : Nat} {img : Value} (h : Wf w B img m) (u : Value) : K47 w (w.setCell ⟨B, 6, none⟩ u) := by
  obtain ⟨vn, vs, vd, vm, h⟩ := h
  exact K47.set h (by decide) _ _

theorem wk_k47 {w : World} {B m gs gd gm nb : Nat} {img : Value} {ns ms sc dt : List Int} (h : Wk w B img m gs gd gm nb ns ms sc dt) (o : Nat) (u : Value) : K47 w (w.setCell ⟨B, o, none⟩ u) := by
  obtain ⟨cs, hcs⟩ := h.rows.2.2.2.2.2.2
  exact K47.set hcs (by decide) _ _

set_option maxRecDepth 100000 in
set_option maxHeartbeats 6400000 in
theorem node_yes (xs : List Int) (ai : Option Addr) (ni ci : Nat) (w0 w : World) (B m gs gd gm nb j L pl : Nat) (l q : Int) (s : Wt.St) (hv : Wc.Bs w0 (.slice ai ni ci) xs) (hd : Wd.devB xs.length = true) (hmx : xs.length / 64 = m) (hl : l = L) (hL : L ≤ 2) (hq : q = ((pl * 8 ^ (L + 1) : Nat) : Int)) (hpl : (pl + 1) * 8 ^ (L + 1) ≤ 512) (hr : s.nodes.length + Wt.room (L + 1) ≤ 1000)
   (hB : w0.heap.size ≤ B) (hgs : w0.heap.size ≤ gs) (hgd : w0.heap.size ≤ gd) (hgm : w0.heap.size ≤ gm) (hm : m ≤ 4096) (hb : Below w0.heap.size w0 w)
   (hN : ∀ L', L = L' + 1 → NodeOk xs (.slice ai ni ci) w0 B m gs gd gm nb L')
   (hW : Wk w B (.slice ai ni ci) m gs gd gm nb s.nodes s.nodes s.sec s.dat) (h2 : 2 ≤ j) (hj : j < m) (hs : ¬ (j : Int) ∈ s.nodes) (ho : Wt.okN xs (j : Int) L = true) :
    Calls Try.prog 29 #[.pointer (some ⟨B, 0, none⟩), .int .i64 j, .int .i64 l, .int .i64 q] w (NodePost (.slice ai ni ci) w0 w B m gs gd gm nb (Wt.go (Wt.rmet xs m L) (Wt.nd xs (j : Int)) pl 8 ⟨s.nodes ++ [(j : Int)], s.sec, s.dat⟩)) := by
  obtain ⟨a, n0, c, ⟨c0, c1, c2, c3, c4, c5, c6⟩, cf, -⟩ := hW.cells
  obtain ⟨hM, -, -, -, -, -, cs, hcs⟩ := hW.rows
  have k0 := hM.cell hj
  rw [decide_eq_false hs] at k0
  have hin : (decide (2 ≤ (j : Int)) && decide ((j : Int) ≤ (m : Int) - 1)) = true := by simp; omega
  have hxl := Wc.bs_len hv
  have HV := Wc.hid (hv.keep hb)
  have HQ : Hid (j * 64 + 64 ≤ ni) := Wc.hid (by have := Wd.devB_iff.1 hd; omega)
  have HR := Wc.hid (rdR_at hd (show j < xs.length / 64 by omega))
  have HW := Wc.hid hW
  have HB := Wc.hid hb
  obtain ⟨hnod, -, -, hE0, hlev⟩ := Wt.okN_nod ho
  have HE := Wc.hid hE0
  obtain ⟨n, hn⟩ : ∃ n, Wt.nd xs (j : Int) = n := ⟨_, rfl⟩
  rw [hn] at hlev hnod ⊢
  have HN := Wc.hid hn
  have HNOD := Wc.hid hnod
  have HREC := Wc.hid hN
  have HP := Wc.hid hpl
  have HRO := Wc.hid hr
  have HQQ := Wc.hid hq
  clear hv hW hb hcs c2 c4 c5 hM hs hd hmx hxl ho hE0 hn hnod hN hpl hr hq
  go_enter Try.func29, Try.ntmps29
  go_wp2_with fail
  refine (refIn10_any _ _ _ _).mono ?_
  rintro e w1 ⟨rfl, rfl⟩
  rw [hin]
  go_wp2_with fail
  refine (block_any ai ni ci j xs _ HV.out HQ.out).mono ?_
  rintro e w2 ⟨ax, cx, rfl, hbs, rfl⟩
  rw [← HR.out] at hbs
  have HBS := Wc.hid hbs
  clear hbs
  go_wp2_with fail
  refine (refParse7_any _ _ _ HBS.out).mono ?_
  rintro e w3 ⟨rfl, hb3⟩
  rw [show Wn.par (Wd.rdR xs (j : Int)) = n from HN.out, HE.out]
  obtain ⟨wa, hwa⟩ : ∃ wa, wa = w3.alloc (.cells #[.int .i64 n.level, .int .i64 n.p0, .int .i64 n.p1, .int .i64 n.p2, .int .i64 n.p3, .int .i64 n.p4, .int .i64 n.p5, .int .i64 n.p6, .int .i64 n.p7] 47) := ⟨_, rfl⟩
  have bA : Below w3.heap.size w3 (w3.alloc (.cells #[.int .i64 n.level, .int .i64 n.p0, .int .i64 n.p1, .int .i64 n.p2, .int .i64 n.p3, .int .i64 n.p4, .int .i64 n.p5, .int .i64 n.p6, .int .i64 n.p7] 47)) := (Below.refl _ _).alloc (Nat.le_refl _) _
  have W3 := (HW.out.keep hb3).keep bA
  obtain ⟨a3, n3, x3, ⟨d0, d1, d2, d3, d4, d5, d6⟩, df, -⟩ := W3.cells
  have N3 := Nh.new w3 n
  have ⟨f, f0, f1, f2, f3, f4, f5, f6, f7⟩ := N3.nc
  have hne : (n.level != l) = false := by simp; omega
  have m3 := (W3.rows.1).cell hj
  have m3f := (W3.rows.1).frozen j
  -- the mark is set
  have W4 := W3.mark j
  have KM := K47.row W3.rows.1 (by decide) j (.bool true)
  have N4 := KM _ _ _ N3
  obtain ⟨a4, n4, x4, ⟨-, -, e2, -, -, -, -⟩, ef, hO4⟩ := W4.cells
  have hnb4 := W4.rows.2.2.2.2.2.1
  have hBn := W4.rows.2.2.2.2.1
  have hln : s.nodes.length ≤ 1000 := by have := HRO.out; omega
  obtain ⟨a5, n5, x5, w5, hrun, hO5, hb5, hoth⟩ := push_run _ (w3.heap.size + 1) nb (by simp) _ s.nodes (j : Int) hO4 hln hnb4
  have W4b := W4.keep ((Below.refl _ _).alloc (Nat.le_refl _) (.cells #[.int .i64 (j : Int)] 3))
  have W5 := Wc.hid (W4b.push hb5 hO5)
  obtain ⟨a6, n6, x6, ⟨-, -, g2, -, -, -, -⟩, gf, -⟩ := W4b.cells
  have e20 : w5.cell? ⟨B, 2, none⟩ = some (.slice a6 n6 x6) := (hb5.cell (p := ⟨B, 2, none⟩) hBn).trans g2
  have e21 : w5.frozen? ⟨B, 2, none⟩ = false := (hb5.frozen (p := ⟨B, 2, none⟩) hBn).trans (gf 2)
  have hRUN := Wc.hid hrun
  have B3 := Wc.step (Wc.step HB.out (Nat.le_refl _) hb3) (Nat.le_refl _) bA
  have B4 := B3.setCell (p := ⟨gs, j, none⟩) hgs (.bool true)
  have B5 := Wc.hid (((B4.alloc B4.size (.cells #[.int .i64 (j : Int)] 3)).trans (hb5.mono (by omega))).setCell (p := ⟨B, 2, none⟩) hB (.slice a5 n5 x5))
  have K3 : K47 (w3.alloc (.cells #[.int .i64 n.level, .int .i64 n.p0, .int .i64 n.p1, .int .i64 n.p2, .int .i64 n.p3, .int .i64 n.p4, .int .i64 n.p5, .int .i64 n.p6, .int .i64 n.p7] 47)) (w5.setCell ⟨B, 2, none⟩ (.slice a5 n5 x5)) := by
    refine KM.trans ((K47.of ((Below.refl _ _).alloc (Nat.le_refl _) (.cells #[.int .i64 (j : Int)] 3))).trans (K47.trans (b := w5) (fun b cs fr hh => hoth b cs 47 fr hh (by decide)) ?_))
    obtain ⟨cs9, h9⟩ := W4b.rows.2.2.2.2.2.2
    exact K47.set (cs := cs9) (T := 69) (fr := (0, 0)) ((hb5.block B hBn).trans h9) (by decide) _ _
  have N5 : Hid (Nh (w5.setCell ⟨B, 2, none⟩ (.slice a5 n5 x5)) w3.heap.size n) := Wc.hid (K3 _ _ _ N3)
  have KK := Wc.hid (((K47.of hb3).trans (K47.of bA)).trans K3)
  unfold nv
  clear B3 B4 W4b W4 W3 gf g2 ef hO4 hnb4 hBn hO5 N3 N4 hwa wa bA hlev hrun K3 KM hoth hb5
  go_wp2_with (at_builtin; refine Wv.wp_append hRUN.out rfl rfl rfl rfl ?_)
  clear f f0 f1 f2 f3 f4 f5 f6 f7 m3 m3f d0 d1 d2 d3 d4 d5 d6 df e2 e20 e21 hne c0 c1 c3 c6 cf k0 hin hRUN HBS HV HQ HR HE HN hb3 HW HB
  go_loop [10, 11] (fun sp i => ∃ k : Nat, k ≤ L ∧ i = .int .i64 k ∧ sp = .int .i64 ((8 : Int) ^ k)) (fun _ i => L - (intOf i).toNat)
  case atStart => exact ⟨0, by omega, rfl, rfl⟩
  case round =>
    obtain ⟨k, hk, rfl, rfl⟩ := hrel
    have hp8 := pow8 (k := k) (by omega)
    by_cases hlt : k < L
    · have hp9 := hp8.2.2 (by omega)
      have hps : (8 : Int) ^ (k + 1) = 8 ^ k * 8 := Int.pow_succ _ _
      have HPS := Wc.hid hps
      generalize (8 : Int) ^ k = S at *
      go_wp2_with fail
      go_round
      case rel => exact ⟨k + 1, by omega, by go_num, by rw [HPS.out]⟩
      case measure => simp [intOf]; omega
    · obtain rfl : L = k := by omega
      obtain ⟨S, hS⟩ : ∃ S : Int, (8 : Int) ^ L = S := ⟨_, rfl⟩
      rw [hS] at hp8 ⊢
      have HS := Wc.hid hS
      have hq0 : 0 ≤ q ∧ q ≤ 512 := by
        have h1 := HQQ.out
        have h2 := HP.out
        rw [Nat.succ_mul] at h2
        have h4 : pl * 8 ^ (L + 1) ≤ 512 := Nat.le_trans (Nat.le_add_right _ _) h2
        generalize pl * 8 ^ (L + 1) = Q at h1 h4
        omega
      obtain ⟨Q, rfl⟩ : ∃ Q : Nat, q = Q := ⟨q.toNat, by omega⟩
      have hQ5 : Q ≤ 512 := by omega
      clear hq0
      clear hS
      go_wp2_with fail
      go_loopw [12] (fun i wr => ∃ k : Nat, i = .int .i64 k ∧ k ≤ 8 ∧ Hid (Rst xs (.slice ai ni ci) B m gs gd gm nb L pl n ⟨s.nodes ++ [(j : Int)], s.sec, s.dat⟩ k wr) ∧ Hid (Nh wr w3.heap.size n) ∧ Hid (Below w0.heap.size w0 wr) ∧ Hid (K47 w wr)) (fun i _ => 8 - (intOf i).toNat)
      case atStart => exact ⟨0, rfl, by omega, Wc.hid (.inl ⟨_, rfl, W5.out⟩), N5, B5, KK⟩
      case round =>
        obtain ⟨k, rfl, hk, RS, RN, RB, RK⟩ := hrel
        by_cases hlt : k < 8
        · have hcell := RN.out.pat hlt
          have hpl2 := Wt.pat_link HNOD.out hlt
          by_cases hz : Wn.pat n k = 0
          · have RS1 : Hid (Rst xs (.slice ai ni ci) B m gs gd gm nb L pl n ⟨s.nodes ++ [(j : Int)], s.sec, s.dat⟩ (k + 1) wr) := by
              rcases RS.out with ⟨t, h1, h2⟩ | ⟨h1, h2, h3⟩
              · exact .inl ⟨t, Wt.go_skip h1 hz, h2⟩
              · exact .inr ⟨Wt.go_none h1 1, h2, h3⟩
            rw [hz] at hcell
            clear hpl2 hz
            go_wp2_with fail
            go_roundw
            case rel => exact ⟨k + 1, by go_num, by omega, RS1, RN, RB, RK⟩
            case measure => simp [intOf]; omega
          · obtain ⟨p, hp⟩ : ∃ p, Wn.pat n k = p := ⟨_, rfl⟩
            rw [hp] at hcell hpl2 hz
            have hp2 : 2 ≤ p := by omega
            have hpz : (p == 0) = false := by simpa using hz
            have HPP := Wc.hid hp
            clear hp hpl2
            rcases RS.out with ⟨t, h1, h2⟩ | ⟨h1, h2, h3⟩
            · have HG := Wc.hid h1
              have HT := Wc.hid h2
              have HG1 : Hid (Wt.go (Wt.rmet xs m L) n pl (k + 1) ⟨s.nodes ++ [(j : Int)], s.sec, s.dat⟩ = Wt.rmet xs m L p (pl * 8 + k) t) := Wc.hid (by rw [Wt.go_step h1 (by rw [HPP.out]; exact hz), HPP.out])
              obtain ⟨a7, n7, x7, ⟨g0, g1, g2, g3, g4, g5, g6⟩, gf, -⟩ := h2.cells
              clear h1 h2 hz
              by_cases hfar : (m : Int) ≤ p
              · have HE : Hid (Wt.go (Wt.rmet xs m L) n pl (k + 1) ⟨s.nodes ++ [(j : Int)], s.sec, s.dat⟩ = none) := Wc.hid (by rw [HG1.out, rmet_far hfar])
                clear g0 g2 g3 g4 g5
                go_wp2_with fail
                go_end0
                exact rst_fail hlt HE.out (RB.out.setCell hB _) (RK.out.trans (wk_k47 HT.out _ _)) HT.out.fail
              · obtain ⟨r, rfl⟩ : ∃ r : Nat, p = r := ⟨p.toNat, by omega⟩
                have hrm : r < m := by omega
                by_cases hL0 : L = 0
                · have hLz : ((L : Int) == 0) = true := by simp [hL0]
                  have hQ : Q = pl * 8 := by
                    have h9 := HQQ.out
                    rw [hL0] at h9
                    omega
                  have hQk : Q + k < 512 := by
                    have h9 := HP.out
                    rw [hL0] at h9
                    omega
                  obtain ⟨-, hMd, hRow, hRl, -⟩ := HT.out.rows
                  have s0 := hRow.cell hQk
                  have s1 := hRow.frozen (Q + k)
                  have T1 := HT.out.sec (Q + k) (r : Int)
                  obtain ⟨a8, n8, x8, ⟨-, -, -, -, t4, -, -⟩, -, -⟩ := T1.cells
                  have s2 := (T1.rows.2.1).cell hrm
                  have s3 := (T1.rows.2.1).frozen r
                  have T2 := Wc.hid (T1.seen r)
                  have KT := Wc.hid ((K47.row hRow (by decide) (Q + k) (.int .i64 (r : Int))).trans (K47.row T1.rows.2.1 (by decide) r (.bool true)))
                  have BT := Wc.hid ((RB.out.setCell (p := ⟨gm, Q + k, none⟩) hgm (.int .i64 (r : Int))).setCell (p := ⟨gd, r, none⟩) hgd (.bool true))
                  have HE : Hid (Wt.go (Wt.rmet xs m L) n pl (k + 1) ⟨s.nodes ++ [(j : Int)], s.sec, s.dat⟩ = some ⟨t.nodes, t.sec.set (Q + k) r, t.dat ++ [(r : Int)]⟩) := Wc.hid (by
                    rw [HG1.out, hL0, hQ]
                    unfold Wt.rmet
                    rw [if_pos (by omega)])
                  clear hMd hRow hRl T1 g0 g2 g3 g6 hL0 hQ
                  go_wp2_with fail
                  go_roundw
                  case rel => exact ⟨k + 1, by go_num, by omega, Wc.hid (.inl ⟨_, HE.out, T2.out⟩), Wc.hid (KT.out _ _ _ RN.out), BT, Wc.hid (RK.out.trans KT.out)⟩
                  case measure => simp [intOf]; omega
                · obtain ⟨L', hLL⟩ : ∃ L', L = L' + 1 := ⟨L - 1, by omega⟩
                  have hLz : ((L : Int) == 0) = false := by simp; omega
                  have hS2 : S = 8 ∧ L = 1 ∨ S = 64 ∧ L = 2 := by
                    have h9 := HS.out
                    have : L = 1 ∨ L = 2 := by omega
                    rcases this with rfl | rfl
                    · left; omega
                    · right; omega
                  have HNO := Wc.hid (HREC.out L' hLL)
                  have HGL : Hid (Wt.go (Wt.rmet xs m L) n pl (k + 1) ⟨s.nodes ++ [(j : Int)], s.sec, s.dat⟩ = Wt.rmet xs m (L' + 1) r (pl * 8 + k) t) := Wc.hid (by rw [HG1.out, hLL])
                  have HLE : Hid ((pl * 8 + k + 1) * 8 ^ (L' + 1) ≤ 512) := Wc.hid (by
                    have h1 := HP.out
                    rw [Nat.pow_succ, hLL] at h1
                    have h2 : (pl * 8 + k + 1) * 8 ^ (L' + 1) ≤ (pl * 8 + 8) * 8 ^ (L' + 1) := Nat.mul_le_mul_right _ (by omega)
                    have h3 : (pl * 8 + 8) * 8 ^ (L' + 1) = (pl + 1) * (8 ^ (L' + 1) * 8) := by rw [show pl * 8 + 8 = (pl + 1) * 8 by omega, Nat.mul_assoc, Nat.mul_comm 8]
                    omega)
                  have HRR : Hid (t.nodes.length + Wt.room (L' + 1) ≤ 1000) := Wc.hid (by
                    have h1 := Wt.go_room (rmet_room xs m L) k _ _ HG.out
                    have h2 := HRO.out
                    rw [hLL] at h1 h2
                    rw [Wt.room] at h2
                    simp only [List.length_append, List.length_cons, List.length_nil] at h1
                    have h3 : k * Wt.room (L' + 1) ≤ 7 * Wt.room (L' + 1) := Nat.mul_le_mul_right _ (by omega)
                    omega)
                  have HLL := Wc.hid hLL
                  have HQ2 := HQQ
                  clear hL0 hLL
                  cases ho : Wt.rmet xs m (L' + 1) r (pl * 8 + k) t with
                  | none =>
                    have HO := Wc.hid ho
                    clear ho
                    have H3 : Hid (1 ≤ L) := Wc.hid (by have := HLL.out; omega)
                    rcases hS2 with ⟨rfl, hLv⟩ | ⟨rfl, hLv⟩
                    all_goals
                      have HLV := Wc.hid hLv
                      clear hLv
                      go_wp2_with fail
                      refine (HNO.out r _ _ (pl * 8 + k) t wr (by have := HLL.out; omega) (by
                        have h1 := HQ2.out
                        have h2 := HLL.out
                        have h3 := HLV.out
                        obtain rfl : L' = _ := Nat.succ.inj (h2.symm.trans h3)
                        rw [h3] at h1
                        omega) HLE.out HRR.out hp2 RB.out HT.out).mono ?_
                      rw [HO.out]
                      rintro e w6 ⟨rfl, hb6, hk6, -, hf6⟩
                      have HF6 := Wc.hid (hf6 rfl)
                      have HB6 := Wc.hid hb6
                      have HK6 := Wc.hid hk6
                      clear hf6 hb6 hk6
                      go_wp2_with fail
                      go_roundw
                      case rel => exact ⟨k + 1, by go_num, by omega, Wc.hid (.inr ⟨HGL.out.trans HO.out, HF6.out, H3.out⟩), Wc.hid (HK6.out _ _ _ RN.out), HB6, Wc.hid (RK.out.trans HK6.out)⟩
                      case measure => simp [intOf]; omega
                  | some u =>
                    have HO := Wc.hid ho
                    clear ho
                    rcases hS2 with ⟨rfl, hLv⟩ | ⟨rfl, hLv⟩
                    all_goals
                      have HLV := Wc.hid hLv
                      clear hLv
                      go_wp2_with fail
                      refine (HNO.out r _ _ (pl * 8 + k) t wr (by have := HLL.out; omega) (by
                        have h1 := HQ2.out
                        have h2 := HLL.out
                        have h3 := HLV.out
                        obtain rfl : L' = _ := Nat.succ.inj (h2.symm.trans h3)
                        rw [h3] at h1
                        omega) HLE.out HRR.out hp2 RB.out HT.out).mono ?_
                      rw [HO.out]
                      rintro e w6 ⟨rfl, hb6, hk6, hf6, -⟩
                      have HF6 := Wc.hid (hf6 u rfl)
                      have HB6 := Wc.hid hb6
                      have HK6 := Wc.hid hk6
                      clear hf6 hb6 hk6
                      go_wp2_with fail
                      go_roundw
                      case rel => exact ⟨k + 1, by go_num, by omega, Wc.hid (.inl ⟨u, HGL.out.trans HO.out, HF6.out⟩), Wc.hid (HK6.out _ _ _ RN.out), HB6, Wc.hid (RK.out.trans HK6.out)⟩
                      case measure => simp [intOf]; omega
            · have HG := Wc.hid h1
              have HT := Wc.hid h2
              have HE : Hid (Wt.go (Wt.rmet xs m L) n pl (k + 1) ⟨s.nodes ++ [(j : Int)], s.sec, s.dat⟩ = none) := Wc.hid (Wt.go_none h1 1)
              obtain ⟨vn, vs, vd, vm, h5⟩ := h2
              have g1 := h5.c1
              have g6 := h5.c6
              have gf := h5.fr
              clear h1 hz h5
              by_cases hfar : (m : Int) ≤ p
              · go_wp2_with fail
                go_end0
                exact rst_fail hlt HE.out (RB.out.setCell hB _) (RK.out.trans (wf_k47 HT.out _)) (wf_set HT.out)
              · have hL0 : ((L : Int) == 0) = false := by simp; omega
                have hS2 : S = 8 ∨ S = 64 := by
                  have h9 := HS.out
                  have : L = 1 ∨ L = 2 := by omega
                  rcases this with rfl | rfl
                  · left; omega
                  · right; omega
                have H3 := Wc.hid h3
                rcases hS2 with rfl | rfl
                all_goals
                  go_wp2_with fail
                  refine (node_failed (.slice ai ni ci) w0 wr B m gs gd gm nb _ _ _ hB RB.out HT.out).mono ?_
                  rintro e w6 ⟨rfl, hb6, hk6, -, hf6⟩
                  have HF6 := Wc.hid (hf6 rfl)
                  have HB6 := Wc.hid hb6
                  have HK6 := Wc.hid hk6
                  clear hf6 hb6 hk6
                  go_wp2_with fail
                  go_roundw
                  case rel => exact ⟨k + 1, by go_num, by omega, Wc.hid (.inr ⟨HE.out, HF6.out, H3.out⟩), Wc.hid (HK6.out _ _ _ RN.out), HB6, Wc.hid (RK.out.trans HK6.out)⟩
                  case measure => simp [intOf]; omega
        · obtain rfl : k = 8 := by omega
          go_wp2_with fail
          go_end0
          exact rst_end RS.out RB.out RK.out

end Go.Proofs.Ytifjbmknghjohaa
