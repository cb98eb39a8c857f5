/-
  What commit.Steps returns, for every input.
-/
import Derived.Test.YtfflhiajbioheaaGreatEf
import Derived.Deep.RegionHeld3
namespace Wq
open Go Go.RowKit
/-- Steps are put behind memory of the call's own; younger blocks stay. -/
theorem append_ios {P : Program} {e u t ty base bytes c : Nat} {i : TypeInfo} {z : Value} {w0 w : World} {v : Value} {ad : Addr} {l : List Wd.Io} (Ps : List Wd.Pl) (ht : P.underlying t = some (.slice e)) (hi : P.info? e = some i) (hz : i.zero = some z) (hsz : i.size = 3) (hby : i.bytes = bytes)
    (hzs : z.cells.size = 3) (h8 : bytes ≤ 64) (hne : e ≠ u) (hv0 : Wd.Oi e u base w0 v l) (hk : Below w0.heap.size w0 w) (hu : ∀ j x, (Ps.flatMap Wd.cells3)[j]? = some x → w.cell? (ad.add j) = some x) (hq : ∀ q ∈ Ps, Wc.Ob u base w (.slice q.2.1 q.1.data.length q.2.2) q.1.data) (hl : l.length + Ps.length ≤ 1048576) (hbase : base ≤ w.heap.size) :
    ∃ v' w', Sem.run P (Builtin.append_ #[t, t] ty #[v, .slice (some ad) Ps.length c]) w = .ok v' w' ∧ Wd.Oi e u base w' v' (l ++ Ps.map Prod.fst) ∧ Below base w w' ∧
      ∀ (b : Nat) (o : Obj), w0.heap.size ≤ b → w.heap[b]? = some o → w'.heap[b]? = some o := by
  have hv := hv0.keep hk
  obtain ⟨Q0, rfl, h20, -, -⟩ := hv0
  obtain ⟨Q, hQ, h2, h3, h4⟩ := hv
  have hlq : Q.length + Ps.length ≤ 1048576 := by have := congrArg List.length hQ; simp at this hl; omega
  obtain ⟨v', w', k1, k2, k3, -⟩ := run_append_own (P := P) w base t ty e i z 3 bytes ht hi hz hsz hby hzs (by decide) v _ _ h2 ad Ps.length c (Ps.flatMap Wd.cells3) (Wd.flat_length Ps) hu (by
      intro x hx
      obtain ⟨q, -, hx⟩ := List.mem_flatMap.1 hx
      simp only [Wd.cells3, List.mem_cons, List.not_mem_nil, or_false] at hx; rcases hx with rfl | rfl | rfl <;> rfl) (by unfold maxLen; omega) (by
        have := Nat.mul_le_mul_left (Q.length + Ps.length) h8
        omega) hbase
  refine ⟨v', w', k1, ⟨Q ++ Ps, by rw [List.map_append, hQ], ?_, by simpa using hlq, fun x hx => ?_⟩, (Below.refl _ _).grown k3 hbase (fun g hg => (h2.lt g hg).1), fun b o hb ho => ?_⟩
  · rw [List.flatMap_append, List.length_append]; exact k2
  · rcases List.mem_append.1 hx with hx | hx
    · exact Wd.ob_grown hne h2 k3 (h4 x hx)
    · exact Wd.ob_grown hne h2 k3 (hq x hx)
  · refine (k3.block b (Array.getElem?_eq_some_iff.1 ho).1 (fun ee => ?_)).trans ho
    have := (h20.lt b (by rw [ee])).2
    omega
theorem lit_ios (w : World) (Ps : List Wd.Pl) (e : Nat) (cs : Array Value) (hcs : cs.toList = Ps.flatMap Wd.cells3) : ∀ j u, (Ps.flatMap Wd.cells3)[j]? = some u → (w.alloc (.cells cs e)).cell? ((⟨w.heap.size, 0, none⟩ : Addr).add j) = some u := by
  intro j u hu
  have hr := World.rowIs_alloc w cs e (fun i => (Ps.flatMap Wd.cells3).getD i .nilFunc) (fun i hi => by
    rw [← hcs]
    have : i < cs.toList.length := by simpa using hi
    simp [hi])
  have hj : j < (Ps.flatMap Wd.cells3).length := (List.getElem?_eq_some_iff.1 hu).1
  have hj2 : j < cs.size := by rw [← Array.length_toList, hcs]; exact hj
  rw [Wc.add_none, Nat.zero_add, hr.cell hj2, List.getD_eq_getElem?_getD, hu]; rfl
end Wq
namespace Go.Proofs.YtfflhiajbioheaaGreat
open Go.RowKit

/-- An append of steps in a region that draws. -/
theorem step_append_ios {ops : Array Oper} {o : Oper} {a : Act} {w0 w : World} {K : Act → World → Prop} {Q : Exit → Act → World → Prop} {E : Prop} {s x : Operand} {v u : Value} {ad : Addr} {c m : Nat} {l : List Wd.Io} (Ps : List Wd.Pl) (base : Nat)
    (hgd : o.guard = none) (ho : o.op = .call { callee := .builtin .append, args := #[s, x], argTypes := #[27, 27] }) (hs : a.eval s = v) (hx : a.eval x = u) (hue : u = .slice (some ad) m c) (hm : Ps.length = m)
    (hv : Wd.Oi 50 5 base w0 v l) (hk : Below w0.heap.size w0 w) (hu : ∀ j x, (Ps.flatMap Wd.cells3)[j]? = some x → w.cell? (ad.add j) = some x) (hq : ∀ q ∈ Ps, Wc.Ob 5 base w (.slice q.2.1 q.1.data.length q.2.2) q.1.data) (hl : l.length + Ps.length ≤ 1048576) (hbase : base ≤ w.heap.size)
    (h : ∀ v' w', Wd.Oi 50 5 base w' v' (l ++ Ps.map Prod.fst) → Below base w w' → (∀ (b : Nat) (o : Obj), w0.heap.size ≤ b → w.heap[b]? = some o → w'.heap[b]? = some o) → K (a.put o.dst v') w') :
    if Region.wanted o (yielded ops a.tmps) = true then Oper.wp Tryz.prog o a w K Q else E := by
  obtain ⟨i0, hi, hz0, hz1, hz2⟩ := info_parts Tryz.info38
  subst hm
  obtain ⟨v', w1, hrun, hO, hb1, hst⟩ := Wq.append_ios (P := Tryz.prog) (ty := o.type) (c := c) Ps Tryz.underlying27 hi hz0 hz1 hz2 rfl (by omega) (by decide) hv hk hu hq hl hbase
  rw [← hue] at hrun
  clear hue
  have hw : Region.wanted o (yielded ops a.tmps) = true := by simp [Region.wanted, hgd]
  rw [if_pos hw]
  unfold Oper.wp
  simp [execOp, ho, resolve, invoke, builtin, hs, hx, hrun, Result.andThen]
  exact h v' w1 hO hb1 hst

theorem sE_bad {s : Ws.Sup} {t : Int} {l : List Wd.Io} {root size first : Int} (h : Wq.rdyB s t = false) : Wq.sE s t l root size first = 8 := by unfold Wq.sE; rw [h]; rfl
theorem sE_arg {s : Ws.Sup} {t : Int} {l : List Wd.Io} {root size first : Int} (h : Wq.rdyB s t = true) (h2 : Ws.supB (Wq.nxt s root size first) = false) : Wq.sE s t l root size first = 1 := by unfold Wq.sE; rw [if_pos h, h2]; rfl
theorem sE_io {s : Ws.Sup} {t : Int} {l : List Wd.Io} {root size first : Int} (h : Wq.rdyB s t = true) (h2 : Ws.supB (Wq.nxt s root size first) = true) (h3 : l.all (Wq.okW s.blocks) = false) : Wq.sE s t l root size first = 1 := by unfold Wq.sE; rw [if_pos h, if_pos h2, h3]; rfl
theorem sE_ok {s : Ws.Sup} {t : Int} {l : List Wd.Io} {root size first : Int} (h : Wq.rdyB s t = true) (h2 : Ws.supB (Wq.nxt s root size first) = true) (h3 : l.all (Wq.okW s.blocks) = true) : Wq.sE s t l root size first = 0 := by unfold Wq.sE; rw [if_pos h, if_pos h2, if_pos h3]

theorem tail_held {base g : Nat} {W : World} {s : Ws.Sup} {t root size first : Int} (h : Wc.Ob 5 base W (.slice (some ⟨g, 0, none⟩) 64 64) (Ws.blk (Wq.nxt s root size first))) :
    ∀ q ∈ ([(⟨2, 0, []⟩, (none, 0)), (⟨1, 1 - t, Ws.blk (Wq.nxt s root size first)⟩, (some ⟨g, 0, none⟩, 64)), (⟨2, 0, []⟩, (none, 0))] : List Wd.Pl), Wc.Ob 5 base W (.slice q.2.1 q.1.data.length q.2.2) q.1.data := by
  have h0 : Wc.Ob 5 base W (.slice none 0 0) [] := Wc.Ob.nil 5 base W
  have h1 : Wc.Ob 5 base W (.slice (some ⟨g, 0, none⟩) (Ws.blk (Wq.nxt s root size first)).length 64) (Ws.blk (Wq.nxt s root size first)) := by rw [Ws.blk_length]; exact h
  intro q hq
  rcases List.mem_cons.1 hq with rfl | hq
  · exact h0
  rcases List.mem_cons.1 hq with rfl | hq
  · exact h1
  obtain rfl := List.mem_singleton.1 hq
  exact h0
theorem tail_lit (w : World) (s : Ws.Sup) (t root size first : Int) (g e : Nat) : ∀ j u, (([(⟨2, 0, []⟩, (none, 0)), (⟨1, 1 - t, Ws.blk (Wq.nxt s root size first)⟩, (some ⟨g, 0, none⟩, 64)), (⟨2, 0, []⟩, (none, 0))] : List Wd.Pl).flatMap Wd.cells3)[j]? = some u →
    (w.alloc (.cells #[.int .i64 2, .int .i64 0, .slice none 0 0, .int .i64 1, .int .i64 (1 - t), .slice (some ⟨g, 0, none⟩) 64 64, .int .i64 2, .int .i64 0, .slice none 0 0] e)).cell? ((⟨w.heap.size, 0, none⟩ : Addr).add j) = some u :=
  Wq.lit_ios w _ e _ (by simp [Wd.cells3, Ws.blk_length])

/-- What Steps returns. -/
def CsPost (s : Ws.Sup) (t : Int) (l : List Wd.Io) (root size first : Int) (w : World) : Ending → World → Prop := fun e w' =>
  Below w.heap.size w w' ∧
    (Wq.sE s t l root size first = 0 → ∃ al cl, e = .returned (.tuple #[.slice al (l.length + 3) cl, .int .i64 0]) ∧ Wd.Oi 50 5 w.heap.size w' (.slice al (l.length + 3) cl) (Wq.sts s t l root size first)) ∧
    (¬ Wq.sE s t l root size first = 0 → e = .returned (.tuple #[.slice none 0 0, .int .i64 (Wq.sE s t l root size first)]))

set_option maxRecDepth 100000 in
set_option maxHeartbeats 12800000 in
theorem steps15_any (s : Ws.Sup) (t : Int) (v : Value) (a : Option Addr) (n cap : Nat) (l : List Wd.Io) (root size first : Int) (w : World) (hI : Wd.Is w (.slice a n cap) l) (hn : n ≤ 1000000) :
    Calls Tryz.prog 7 #[stv s t v, .slice a n cap, .int .i64 root, .int .i64 size, .int .i64 first] w (CsPost s t l root size first w) := by
  unfold CsPost
  have bA := (Below.refl w.heap.size w).alloc (Nat.le_refl _) (.cells #[.int .i64 s.gen, .int .i64 s.blocks, .int .i64 s.root, .int .i64 s.size, .int .i64 s.first, .int .i64 t, v] 26)
  have Z := Zh.new w s t v
  have HI := Wc.hid (hI.keep bA)
  have HL := Wc.hid (Wd.is_len hI)
  obtain ⟨W1, hW1⟩ : ∃ W1, w.alloc (.cells #[.int .i64 s.gen, .int .i64 s.blocks, .int .i64 s.root, .int .i64 s.size, .int .i64 s.first, .int .i64 t, v] 26) = W1 := ⟨_, rfl⟩
  have HS : Hid (W1.heap.size = w.heap.size + 1) := Wc.hid (by rw [← hW1]; simp)
  rw [hW1] at bA Z HI
  have HW1 := Wc.hid hW1
  have BA := Wc.hid bA
  have HZ := Wc.hid Z
  clear hW1 bA Z hI
  cases hr : Wq.rdyB s t
  case false =>
    have hE := Wc.hid (sE_bad (l := l) (root := root) (size := size) (first := first) hr)
    rw [hE.out]
    unfold stv
    go_enter Tryz.func7, Tryz.ntmps7
    go_wp2_with fail
    rw [HW1.out]
    have ⟨z0, z1, z2, z3, z4, z5, z6⟩ := HZ.out.zc
    go_wp2_with fail
    refine (ready15_any s t v _).mono ?_
    rintro e w2 ⟨rfl, hb2⟩
    rw [hr]
    have B2 := Wc.hid (Wc.step BA.out (Nat.le_refl _) hb2)
    clear hb2 z0 z1 z2 z3 z4 z5 z6
    go_wp2_with fail
    go_ret2
    exact ⟨B2.out, fun h => absurd h (by decide), fun _ => rfl⟩
  have hrd := Wq.rdyB_iff.1 hr
  have hsb := (Ws.supB_iff.1 hrd.1).2.1
  have hgen := (Ws.supB_iff.1 hrd.1).1
  obtain ⟨-, hg2, ht0, ht1⟩ := hrd
  cases hs : Ws.supB (Wq.nxt s root size first)
  case false =>
    have hE := Wc.hid (sE_arg (l := l) hr hs)
    rw [hE.out]
    unfold stv
    go_enter Tryz.func7, Tryz.ntmps7
    go_wp2_with fail
    rw [HW1.out]
    have ⟨z0, z1, z2, z3, z4, z5, z6⟩ := HZ.out.zc
    go_wp2_with fail
    refine (ready15_any s t v _).mono ?_
    rintro e w2 ⟨rfl, hb2⟩
    rw [hr]
    have B2 := Wc.hid (Wc.step BA.out (Nat.le_refl _) hb2)
    have ⟨y0, y1, y2, y3, y4, y5, y6⟩ := (HZ.out.keep hb2).zc
    clear hb2 z0 z1 z2 z3 z4 z5 z6
    go_wp2_with fail
    refine (bytes6_bad (Wq.nxt s root size first) _ hs).mono ?_
    rintro e w3 ⟨rfl, hb3⟩
    have B3 := Wc.hid (Wc.step B2.out (Nat.le_refl _) hb3)
    clear hb3 y0 y1 y2 y3 y4 y5 y6
    go_wp2_with fail
    go_ret2
    exact ⟨B3.out, fun h => absurd h (by decide), fun _ => rfl⟩
  have HE1 := Wc.hid (fun h3 => sE_io (l := l) hr hs h3)
  have HE0 := Wc.hid (fun h3 => sE_ok (l := l) hr hs h3)
  obtain ⟨c, hc⟩ : ∃ c, Wq.sE s t l root size first = c := ⟨_, rfl⟩
  rw [hc] at HE1 HE0 ⊢
  have HSB := Wc.hid hsb
  clear hc
  unfold stv
  go_enter Tryz.func7, Tryz.ntmps7
  go_wp2_with fail
  rw [HW1.out]
  have ⟨z0, z1, z2, z3, z4, z5, z6⟩ := HZ.out.zc
  go_wp2_with fail
  refine (ready15_any s t v _).mono ?_
  rintro e w2 ⟨rfl, hb2⟩
  rw [hr]
  have B2 := Wc.hid (Wc.step BA.out (Nat.le_refl _) hb2)
  have Z2 := Wc.hid (HZ.out.keep hb2)
  have I2 := Wc.hid (HI.out.keep hb2)
  have ⟨y0, y1, y2, y3, y4, y5, y6⟩ := (HZ.out.keep hb2).zc
  clear hb2 z0 z1 z2 z3 z4 z5 z6
  go_wp2_with fail
  refine (bytes6_ok (Wq.nxt s root size first) _ hs).mono ?_
  rintro e w3 ⟨g3, rfl, hg3, hr3, hb3⟩
  have B3 := Wc.hid (Wc.step B2.out (Nat.le_refl _) hb3)
  have Z3 := Wc.hid (Z2.out.keep hb3)
  have I3 := Wc.hid (I2.out.keep hb3)
  have D3 := Wc.hid (Wq.row_own (base := w2.heap.size) hr3 (Ws.blk_length _) (by decide) (Ws.blk_bd _) hg3)
  have O3 := Wc.hid (Wd.Oi.nil 50 5 w3.heap.size w3)
  have HZL := Wc.hid Z2.out.lt
  have B23 := Wc.hid hb3.size
  have BR3 := Wc.hid (Below.refl w3.heap.size w3)
  clear hb3 hg3 hr3 y0 y1 y2 y3 y4 y5 y6 Z2 I2
  have BL : Hid (-9223372036854775807 ≤ s.blocks ∧ s.blocks ≤ 9223372036854775807) := Wc.hid (by have := HSB.out; omega)
  clear hsb hgen hg2
  go_wp2_with fail
  go_loopw [15, 42] (fun o i wr => ∃ (k : Nat) (xa : Option Addr) (xc : Nat), i = .int .i64 k ∧ k ≤ n ∧ o = .slice xa k xc ∧ Hid (∀ j, j < k → Wq.okW s.blocks (l.getD j Wd.d0) = true) ∧ Hid (Wd.Oi 50 5 w3.heap.size wr (.slice xa k xc) (l.take k)) ∧ Hid (Below w3.heap.size w3 wr)) (fun _ i _ => n - (intOf i).toNat)
  case atStart => exact ⟨0, none, 0, rfl, Nat.zero_le _, rfl, fun j h => by omega, O3, BR3⟩
  case round =>
    obtain ⟨k, xa, xc, rfl, hk, rfl, HZk, HO, BR⟩ := hrel
    by_cases hlt : k < n
    · obtain ⟨b, off, rfl, hbl, hcs⟩ : ∃ b off, a = some ⟨b, off, none⟩ ∧ b < w3.heap.size ∧ ∀ i, i < n → ∃ a' c', Wd.At w3 b (off + i * 3) (l.getD i Wd.d0) a' c' := by
        obtain ⟨_, _, _, h1, _, _, _, _, h6⟩ := I3.out; cases h1; exact h6 (by omega)
      obtain ⟨ax, cx, hx⟩ := hcs k hlt
      have hkl : k < l.length := by rw [HL.out]; exact hlt
      have hts := Wq.take_succ_at hkl
      have hbad : Wq.okW s.blocks (l.getD k Wd.d0) = false → l.all (Wq.okW s.blocks) = false := fun h => Wq.all_bad hkl h
      obtain ⟨x, hxe⟩ : ∃ x, l.getD k Wd.d0 = x := ⟨_, rfl⟩
      rw [hxe] at hx hts hbad
      obtain ⟨c0, c1, c2, c3, c4⟩ := hx.keep BR.out
      have bB := (Below.refl wr.heap.size wr).alloc (Nat.le_refl _) (.cells #[.int .i64 x.kind, .int .i64 x.pos, .slice ax x.data.length cx] 50)
      have h7 : (wr.alloc (.cells #[.int .i64 x.kind, .int .i64 x.pos, .slice ax x.data.length cx] 50)).heap[wr.heap.size]? = some (.cells #[.int .i64 x.kind, .int .i64 x.pos, .slice ax x.data.length cx] 50 (0, 0)) := by show (wr.heap.push _)[_]? = _; simp
      have B7 := Wc.hid bB
      have H7 := Wc.hid h7
      have HTS := Wc.hid hts
      have HXE := Wc.hid hxe
      have HBAD := Wc.hid hbad
      have C3 := Wc.hid (c3.keep bB)
      have HLT := Wc.hid (show (l.take k).length + 1 ≤ 1048576 by simp; omega)
      obtain ⟨W7, hW7⟩ : ∃ W7, wr.alloc (.cells #[.int .i64 x.kind, .int .i64 x.pos, .slice ax x.data.length cx] 50) = W7 := ⟨_, rfl⟩
      have HW7 := Wc.hid hW7
      rw [hW7] at B7 H7 C3
      clear hcs hx hts hxe hbad hkl c3 c4 bB h7 hW7 hbl
      cases hok : Wq.okW s.blocks x
      · have HOK : Hid ((decide (x.kind = 1) && (decide (2 ≤ x.pos) && (decide (x.pos ≤ s.blocks - 1) && decide (x.data.length = 64)))) = false) := Wc.hid hok
        obtain rfl := HE1.out (HBAD.out hok)
        go_wp2_with fail
        rw [HW7.out]
        have ⟨k0, k1, k2⟩ : W7.cell? ⟨wr.heap.size, 0, none⟩ = some (.int .i64 x.kind) ∧ W7.cell? ⟨wr.heap.size, 1, none⟩ = some (.int .i64 x.pos) ∧ W7.cell? ⟨wr.heap.size, 2, none⟩ = some (.slice ax x.data.length cx) := by have := H7.out; refine ⟨?_, ?_, ?_⟩ <;> simp [World.cell?, this]
        go_wp2_with fail
        refine (isWrite15_any x.kind x.pos ax x.data.length cx s.blocks _ BL.out).mono ?_
        rintro e w8 ⟨rfl, hb8⟩
        rw [HOK.out]
        have B8 := Wc.hid (Wc.step B3.out (Nat.le_refl _) (Wc.step (Wc.step BR.out (Nat.le_refl _) B7.out) (Nat.le_refl _) hb8))
        clear hb8 k0 k1 k2
        go_wp2_with fail
        go_ret2
        exact ⟨B8.out, fun h => absurd h (by decide), fun _ => rfl⟩
      · have HOK : Hid ((decide (x.kind = 1) && (decide (2 ≤ x.pos) && (decide (x.pos ≤ s.blocks - 1) && decide (x.data.length = 64)))) = true) := Wc.hid hok
        have hx1 : x = ⟨1, x.pos, x.data⟩ := by have := (Wq.okW_iff.1 hok).1; cases x; simp_all
        have HX1 := Wc.hid hx1
        have HOKX := Wc.hid hok
        clear hx1
        go_wp2_with fail
        rw [HW7.out]
        have ⟨k0, k1, k2⟩ : W7.cell? ⟨wr.heap.size, 0, none⟩ = some (.int .i64 x.kind) ∧ W7.cell? ⟨wr.heap.size, 1, none⟩ = some (.int .i64 x.pos) ∧ W7.cell? ⟨wr.heap.size, 2, none⟩ = some (.slice ax x.data.length cx) := by have := H7.out; refine ⟨?_, ?_, ?_⟩ <;> simp [World.cell?, this]
        go_wp2_with fail
        refine (isWrite15_any x.kind x.pos ax x.data.length cx s.blocks _ BL.out).mono ?_
        rintro e w8 ⟨rfl, hb8⟩
        rw [HOK.out]
        have B8 := Wc.hid (Wc.step B7.out (Nat.le_refl _) hb8)
        have C8 := Wc.hid (C3.out.keep hb8)
        have HB28 : Hid (w3.heap.size ≤ w8.heap.size) := Wc.hid (by have h1 := BR.out.size; have h2 := B8.out.size; omega)
        obtain ⟨Bx, hBx⟩ : ∃ Bx, wr.heap.size = Bx := ⟨_, rfl⟩
        have h8 := (hb8.block wr.heap.size (Array.getElem?_eq_some_iff.1 H7.out).1).trans H7.out
        rw [hBx] at h8 k0 k1 k2 ⊢
        have H8 := Wc.hid h8
        have HBX := Wc.hid hBx
        have ⟨y0, y1, y2⟩ : w8.cell? ⟨Bx, 0, none⟩ = some (.int .i64 x.kind) ∧ w8.cell? ⟨Bx, 1, none⟩ = some (.int .i64 x.pos) ∧ w8.cell? ⟨Bx, 2, none⟩ = some (.slice ax x.data.length cx) := by refine ⟨?_, ?_, ?_⟩ <;> simp [World.cell?, h8]
        clear hb8 h8 hBx c0 c1 c2 k0 k1 k2
        go_wp2_with fail
        go_region_held3 (fun w' => w'.cell? ⟨Bx, 1, none⟩ = some (.int .i64 x.pos) ∧ w'.cell? ⟨Bx, 2, none⟩ = some (.slice ax x.data.length cx)) (go_keep) (first | (refine step_append_ios (w0 := wr) [(⟨1, x.pos, x.data⟩, (some ⟨g9, 0, none⟩, x.data.length))] w3.heap.size rfl rfl rfl rfl (by rfl) (by rfl) (by exact HO.out) (by exact (Wc.step B8.out (Nat.le_refl _) hb10').alloc (by have h1 := B8.out.size; have h2 := hb10'.size; omega) _) (by exact Wq.lit_ios w10 _ 50 _ rfl) (by intro q hq; obtain rfl := List.mem_singleton.1 hq; exact ((hO9.base (base' := w3.heap.size) HB28.out).keep hb10).keep ((Below.refl _ _).alloc (Nat.le_refl _) _)) (by exact HLT.out) (by have h1 := HB28.out; have h2 := hb10'.size; simp; omega) ?_; intro v11 w11 hO11 hb11 hst11; have h11 := hst11 Bx _ (by have := HBX.out; omega) ((((Below.refl _ _).alloc (Nat.le_refl _) _).block Bx (by have h1 := (Array.getElem?_eq_some_iff.1 H8.out).1; have h2 := hb10'.size; omega)).trans ((hb10'.block Bx (Array.getElem?_eq_some_iff.1 H8.out).1).trans H8.out)); have ⟨k1, k2⟩ : w11.cell? ⟨Bx, 1, none⟩ = some (.int .i64 x.pos) ∧ w11.cell? ⟨Bx, 2, none⟩ = some (.slice ax x.data.length cx) := (by refine ⟨?_, ?_⟩ <;> simp [World.cell?, h11])) | (go_at_call 21; refine (copied15_any ax x.data.length cx x.data _ (by exact C8.out)).mono ?_; rintro e w9 ⟨g9, rfl, hg9, hO9, hb9⟩; have hb9' := ((Below.refl w8.heap.size w8).drew).trans hb9; have h9 := (hb9'.block Bx (Array.getElem?_eq_some_iff.1 H8.out).1).trans H8.out; have ⟨k1, k2⟩ : w9.cell? ⟨Bx, 1, none⟩ = some (.int .i64 x.pos) ∧ w9.cell? ⟨Bx, 2, none⟩ = some (.slice ax x.data.length cx) := (by refine ⟨?_, ?_⟩ <;> simp [World.cell?, h9])) | (go_at_call 20; refine (write15_any _ _ _ _ _).mono ?_; rintro e w10 ⟨rfl, hb10⟩; have hb10' := Wc.step hb9' (Nat.le_refl _) hb10; have h10 := (hb10'.block Bx (Array.getElem?_eq_some_iff.1 H8.out).1).trans H8.out; have ⟨k1, k2⟩ : w10.cell? ⟨Bx, 1, none⟩ = some (.int .i64 x.pos) ∧ w10.cell? ⟨Bx, 2, none⟩ = some (.slice ax x.data.length cx) := (by refine ⟨?_, ?_⟩ <;> simp [World.cell?, h10])) | fail)
        have hO12 : Wd.Oi 50 5 w3.heap.size w11 v11 (l.take (k + 1)) := by rw [HTS.out, HX1.out]; exact hO11
        obtain ⟨za, zc, hza⟩ := hO12.slice
        rw [List.length_take, HL.out, Nat.min_eq_left (by omega)] at hza
        subst hza
        have hb12 := Wc.step BR.out (Nat.le_refl _) (Wc.step B8.out (Nat.le_refl _) hb10')
        have B13 := Wc.hid ((hb12.alloc hb12.size _).trans hb11)
        have O13 := Wc.hid hO12
        have HZ13 : Hid (∀ j, j < k + 1 → Wq.okW s.blocks (l.getD j Wd.d0) = true) := Wc.hid (fun j hj => by
          by_cases hjk : j = k
          · subst hjk; rw [HXE.out]; exact HOKX.out
          · exact HZk.out j (by omega))
        clear hO11 hO12 hb11 hb12 hst11 h11 hb10 hb10' hb9 hb9' h9 h10 hO9 hg9 k1 k2 y0 y1 y2
        go_wp2_with fail
        go_roundw
        case rel => exact ⟨k + 1, za, zc, by go_num, by omega, rfl, HZ13, O13, B13⟩
        case measure => simp [intOf]; omega
    · obtain rfl : k = n := by omega
      obtain rfl := HE0.out (Wq.all_good (fun j hj => HZk.out j (by rw [HL.out] at hj; exact hj)))
      have hO0 : Wd.Oi 50 5 w2.heap.size wr (.slice xa k xc) l := by
        have := HO.out
        rw [List.take_of_length_le (by rw [HL.out]; exact Nat.le_refl _)] at this
        exact Wq.oi_down this B23.out
      have O14 := Wc.hid hO0
      have BZ := Wc.hid (Wc.step B3.out (Nat.le_refl _) BR.out)
      have D14 := Wc.hid (D3.out.keep BR.out)
      have Z14 := Wc.hid (Z3.out.keep BR.out)
      have HB2r : Hid (w2.heap.size ≤ wr.heap.size) := Wc.hid (Nat.le_trans B23.out BR.out.size)
      obtain ⟨Bx, hBx⟩ : ∃ Bx, w.heap.size = Bx := ⟨_, rfl⟩
      have HBX := Wc.hid hBx
      rw [hBx] at Z14
      have ⟨z0, z1, z2, z3, z4, z5, z6⟩ := Z14.out.zc
      have hLn : l.length + 3 ≤ 1048576 := by rw [HL.out]; omega
      have HLN := Wc.hid hLn
      clear hO0 hLn z0 z1 z2 z3 z4 z6 hBx
      go_wp2_with fail
      rw [HBX.out]
      go_region_held3 (fun w' => w'.cell? ⟨Bx, 5, none⟩ = some (.int .i64 t)) (go_keep) (first | (refine step_append_ios (w0 := wr) [(⟨2, 0, []⟩, (none, 0)), (⟨1, 1 - t, Ws.blk (Wq.nxt s root size first)⟩, (some ⟨g3, 0, none⟩, 64)), (⟨2, 0, []⟩, (none, 0))] w2.heap.size rfl rfl rfl rfl (by rfl) (by rfl) (by exact O14.out) (by exact hbE.alloc (by have h1 := hbE.size; omega) _) (by exact tail_lit wE s t root size first g3 50) (by exact tail_held ((D14.out.keep hbE).keep ((Below.refl _ _).alloc (Nat.le_refl _) _))) (by exact HLN.out) (by have h1 := hbE.size; have h2 := HB2r.out; simp; omega) ?_; intro v15 w15 hO15 hb15 hst15; have k5 := hb15.cell (p := ⟨Bx, 5, none⟩) (by have h1 := HBX.out; have h3 := HZL.out; simp; omega)) | (go_at_call 22; have hz := hbD; refine (flush15_any _).mono ?_; rintro e wE ⟨rfl, hbe⟩; have hbE := Wc.step hbD (Nat.le_refl _) hbe; have k5 := (Z14.out.keep hbE).zc.2.2.2.2.2.1) | (go_at_call 22; refine (flush15_any _).mono ?_; rintro e wA ⟨rfl, hba⟩; have hbA := ((Below.refl wr.heap.size wr).drew).trans hba; have k5 := (Z14.out.keep hbA).zc.2.2.2.2.2.1) | (go_at_call 23; refine (other15_any t _ ht0 ht1).mono ?_; rintro e w' ⟨rfl, rfl⟩) | (go_at_call 20; refine (write15_any _ _ _ _ _).mono ?_; rintro e wD ⟨rfl, hbd⟩; have hbD := Wc.step hbA (Nat.le_refl _) hbd; have k5 := (Z14.out.keep hbD).zc.2.2.2.2.2.1) | fail)
      obtain ⟨za, zc, hza⟩ := hO15.slice
      rw [show (l ++ List.map Prod.fst ([(⟨2, 0, []⟩, (none, 0)), (⟨1, 1 - t, Ws.blk (Wq.nxt s root size first)⟩, (some ⟨g3, 0, none⟩, 64)), (⟨2, 0, []⟩, (none, 0))] : List Wd.Pl)).length = l.length + 3 by simp] at hza
      subst hza
      have O16 : Hid (Wd.Oi 50 5 w2.heap.size w15 (.slice za (l.length + 3) zc) (Wq.sts s t l root size first)) := Wc.hid hO15
      have B16 := Wc.hid ((hbE.alloc hbE.size (.cells #[.int .i64 2, .int .i64 0, .slice none 0 0, .int .i64 1, .int .i64 (1 - t), .slice (some ⟨g3, 0, none⟩) 64 64, .int .i64 2, .int .i64 0, .slice none 0 0] 50)).mono HB2r.out |>.trans hb15)
      clear hO15 hb15 hst15 hbE hbe hz hbD hbd hbA hba k5 z5
      go_wp2_with fail
      go_ret2
      rw [← HBX.out]
      exact ⟨BZ.out.trans (B16.out.mono B2.out.size), za, zc, rfl, Wq.oi_down O16.out B2.out.size⟩
end Go.Proofs.YtfflhiajbioheaaGreat
