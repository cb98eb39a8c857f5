/-
  DevBad for every input.
-/
import Derived.Test.YtjacpmbdmbahhaaDregb
import Derived.Test.YtjacpmbdmbahhaaDwake
namespace Wd
open Go Go.RowKit

/-- The right steps that stand ahead: a write of zeros and a flush, k times. -/
def wl (m : Nat) : Nat → List Io
  | 0 => []
  | k + 1 => wl m k ++ [⟨1, ((k % m : Nat) : Int), z64⟩, ⟨2, 0, []⟩]

theorem wl_length (m : Nat) : ∀ k, (wl m k).length = 2 * k
  | 0 => rfl
  | k + 1 => by simp [wl, wl_length m k]; omega

theorem wl_ok (m : Nat) (hm : 0 < m) : ∀ k, (wl m k).all (okIo m) = true
  | 0 => rfl
  | k + 1 => by
    have h1 := Nat.mod_lt k hm
    have h2 : okIo m ⟨1, ((k % m : Nat) : Int), z64⟩ = true := rightB_iff.2 (.inl ⟨rfl, Int.natCast_nonneg _, Int.ofNat_lt.2 h1, rfl⟩)
    have h3 : okIo m ⟨2, 0, []⟩ = true := rightB_iff.2 (.inr ⟨rfl, rfl, rfl⟩)
    rw [wl, List.all_append, wl_ok m hm k, List.all_cons, List.all_cons, h2, h3]
    rfl

theorem lay_zero (n k j : Nat) (h : k + j ≤ n) : lay (List.replicate n 0) k (List.replicate j 0) = List.replicate n 0 := by
  unfold lay
  rw [List.take_replicate, List.drop_replicate, List.length_replicate, List.replicate_append_replicate, List.replicate_append_replicate]
  congr 1
  omega

theorem app_zero (m : Nat) (hm : 0 < m) : ∀ k, app (List.replicate (m * 64) 0) (wl m k) = List.replicate (m * 64) 0
  | 0 => rfl
  | k + 1 => by
    have h1 := Nat.mod_lt k hm
    have h2 : k % m * 64 + 64 ≤ m * 64 := by omega
    rw [wl, app_append, app_zero m hm k]
    show one (one (List.replicate (m * 64) 0) ⟨1, ((k % m : Nat) : Int), z64⟩) ⟨2, 0, []⟩ = _
    rw [one_pos (x := ⟨1, ((k % m : Nat) : Int), z64⟩) (p := k % m) rfl]
    show one (lay (List.replicate (m * 64) 0) (k % m * 64) (List.replicate 64 0)) ⟨2, 0, []⟩ = _
    rw [lay_zero _ _ _ h2, one_pos (x := ⟨2, 0, []⟩) (p := 0) rfl]
    exact lay_nil _ _

theorem bad_no (m : Nat) : ∀ q, q < 7 → okIo m ((badL m).getD q d0) = false := by
  intro q hq
  rcases (by omega : q = 0 ∨ q = 1 ∨ q = 2 ∨ q = 3 ∨ q = 4 ∨ q = 5 ∨ q = 6) with rfl | rfl | rfl | rfl | rfl | rfl | rfl
  all_goals refine rightB_no ?_
  all_goals simp [badL, z63]

theorem Oi.base {e u base base' : Nat} {w : World} {v : Value} {l : List Io} (h : Oi e u base w v l) (hb : base' ≤ base) : Oi e u base' w v l := by
  obtain ⟨P, h1, h2, h3, h4⟩ := h
  refine ⟨P, h1, ⟨h2.1, ?_⟩, h3, fun q hq => (h4 q hq).base hb⟩
  rcases h2.2 with hn | ⟨g, cap, cur, hv, hbg, rest⟩
  · exact .inl hn
  · exact .inr ⟨g, cap, cur, hv, Nat.le_trans hb hbg, rest⟩

/-- Two steps are put behind memory of the call's own. -/
theorem append_io2 {P : Program} {e u t ty base bytes : Nat} {i : TypeInfo} {z : Value} {w : World} {v : Value} {ad : Addr} {c : Nat} {l : List Io} {q r : Pl} (ht : P.underlying t = some (.slice e)) (hi : P.info? e = some i) (hz : i.zero = some z) (hsz : i.size = 3) (hby : i.bytes = bytes)
    (hzs : z.cells.size = 3) (h8 : bytes ≤ 64) (hne : e ≠ u) (hv : Oi e u base w v l) (hu : ∀ j x, (cells3 q ++ cells3 r)[j]? = some x → w.cell? (ad.add j) = some x) (hq : Wc.Ob u base w (.slice q.2.1 q.1.data.length q.2.2) q.1.data) (hr : Wc.Ob u base w (.slice r.2.1 r.1.data.length r.2.2) r.1.data) (hl : l.length + 2 ≤ 1048576) (hbase : base ≤ w.heap.size) :
    ∃ v' w', Sem.run P (Builtin.append_ #[t, t] ty #[v, .slice (some ad) 2 c]) w = .ok v' w' ∧ Oi e u base w' v' (l ++ [q.1, r.1]) ∧ Below base w w' := by
  obtain ⟨Q, rfl, h2, h3, h4⟩ := hv
  have hlq : Q.length + 2 ≤ 1048576 := by simpa using hl
  obtain ⟨v', w', k1, k2, k3, -⟩ := run_append_own (P := P) w base t ty e i z 3 bytes ht hi hz hsz hby hzs (by decide) v _ _ h2 ad 2 c (cells3 q ++ cells3 r) rfl hu (by
      intro x hx; simp only [cells3, List.cons_append, List.nil_append, List.mem_cons, List.not_mem_nil, or_false] at hx; rcases hx with rfl | rfl | rfl | rfl | rfl | rfl <;> rfl) (by unfold maxLen; omega) (by
        have := Nat.mul_le_mul_left (Q.length + 2) h8
        omega) hbase
  refine ⟨v', w', k1, ⟨Q ++ [q, r], by simp, ?_, by simpa using hlq, fun x hx => ?_⟩, (Below.refl _ _).grown k3 hbase (fun g hg => (h2.lt g hg).1)⟩
  · have : (Q ++ [q, r]).flatMap cells3 = Q.flatMap cells3 ++ (cells3 q ++ cells3 r) := by simp
    rw [this]; simpa using k2
  · rcases List.mem_append.1 hx with hx | hx
    · exact ob_grown hne h2 k3 (h4 x hx)
    · simp at hx
      rcases hx with rfl | rfl
      · exact ob_grown hne h2 k3 hq
      · exact ob_grown hne h2 k3 hr

/-- A step whose bytes lie below is put behind memory of the call's own. -/
theorem append_is {P : Program} {e u t ty bytes : Nat} {i : TypeInfo} {z : Value} {wB w : World} {v : Value} {ad : Addr} {c : Nat} {l : List Io} {q : Pl} (ht : P.underlying t = some (.slice e)) (hi : P.info? e = some i) (hz : i.zero = some z) (hsz : i.size = 3) (hby : i.bytes = bytes)
    (hzs : z.cells.size = 3) (h8 : bytes ≤ 64) (hne : e ≠ u) (hv : Oi e u wB.heap.size w v l) (hb : Below wB.heap.size wB w) (hu : ∀ j x, (cells3 q)[j]? = some x → w.cell? (ad.add j) = some x) (hq : Held wB q) (hl : l.length + 1 ≤ 1048576) :
    ∃ v' w', Sem.run P (Builtin.append_ #[t, t] ty #[v, .slice (some ad) 1 c]) w = .ok v' w' ∧ Is w' v' (l ++ [q.1]) ∧ Below wB.heap.size wB w' := by
  obtain ⟨Q, rfl, h2, h3, h4⟩ := hv
  have hlq : Q.length + 1 ≤ 1048576 := by simpa using hl
  obtain ⟨v', w', k1, k2, k3, -⟩ := run_append_own (P := P) w wB.heap.size t ty e i z 3 bytes ht hi hz hsz hby hzs (by decide) v _ _ h2 ad 1 c (cells3 q) rfl hu (by
      intro x hx; simp only [cells3, List.mem_cons, List.not_mem_nil, or_false] at hx; rcases hx with rfl | rfl | rfl <;> rfl) (by unfold maxLen; omega) (by
        have := Nat.mul_le_mul_left (Q.length + 1) h8
        omega) hb.size
  have hbw : Below wB.heap.size wB w' := hb.trans ((Below.refl _ _).grown k3 hb.size (fun g hg => (h2.lt g hg).1))
  refine ⟨v', w', k1, ?_, hbw⟩
  have hfl : (Q ++ [q]).flatMap cells3 = Q.flatMap cells3 ++ cells3 q := by simp
  have hall : ∀ x ∈ Q ++ [q], Held w' x := by
    intro x hx
    rcases List.mem_append.1 hx with hx | hx
    · have := ob_grown hne h2 k3 (h4 x hx)
      exact ⟨this.bs, this.shaped⟩
    · simp at hx; subst hx; exact hq.keep hbw
  rw [← hfl] at k2
  rcases k2.2 with ⟨_, h0⟩ | ⟨g, cap, cur, rfl, hg, hh, j1, j2, j3, j4⟩
  · simp at h0
  · refine ⟨_, Q.length + 1, cap, rfl, by simp, j1, by unfold maxLen at j2; omega, by omega, fun h0 => ⟨g, 0, rfl, (Array.getElem?_eq_some_iff.1 hh).1, fun i hi => ?_⟩⟩
    have hi2 : i < (Q ++ [q]).length := by simpa using hi
    have e1 : (Q.map Prod.fst ++ [q.1]).getD i d0 = (Q ++ [q])[i].1 := by
      have := getD_map (Q ++ [q]) i hi2
      rw [← this]; simp
    rw [e1]
    refine ⟨(Q ++ [q])[i].2.1, (Q ++ [q])[i].2.2, at_of_cells (fun j u hu => ?_) (hall _ (List.getElem_mem hi2))⟩
    have hj : j < 3 := by have := (List.getElem?_eq_some_iff.1 hu).1; simpa [cells3] using this
    have := k2.cells (g := g) rfl (i * 3 + j) u (by rw [flat_get (Q ++ [q]) i j hi2 hj]; exact hu)
    rw [Wc.add_none] at this
    rw [Nat.zero_add] at this ⊢
    exact this

end Wd
namespace Go.Proofs.Ytjacpmbdmbahhaa
open Go.RowKit

theorem lit_cells2 (w : World) (q r : Wd.Pl) (e g : Nat) (hg : w.heap.size = g) : ∀ j u, (Wd.cells3 q ++ Wd.cells3 r)[j]? = some u → (w.alloc (.cells (Wd.cells3 q ++ Wd.cells3 r).toArray e)).cell? ((⟨g, 0, none⟩ : Addr).add j) = some u := by
  subst hg
  intro j u hu
  have hr := World.rowIs_alloc w (Wd.cells3 q ++ Wd.cells3 r).toArray e (fun i => (Wd.cells3 q ++ Wd.cells3 r).getD i .nilFunc) (fun i hi => by
    have : i < (Wd.cells3 q ++ Wd.cells3 r).length := by simpa using hi
    rw [List.getElem?_toArray, List.getD_eq_getElem?_getD, List.getElem?_eq_getElem this]; rfl)
  have hj : j < (Wd.cells3 q ++ Wd.cells3 r).length := (List.getElem?_eq_some_iff.1 hu).1
  rw [Wc.add_none, Nat.zero_add, hr.cell (by simpa using hj), List.getD_eq_getElem?_getD, hu]; rfl

theorem ob_made64 (w : World) (base : Nat) (hb : base ≤ w.heap.size) : Wc.Ob 5 base (w.alloc (.cells (madeCells #[.int .u8 0] 64) 5)) (.slice (some ⟨w.heap.size, 0, none⟩) 64 64) Wd.z64 := by
  refine ⟨⟨by simp [Wd.z64], .inr ⟨w.heap.size, 64, madeCells #[Value.int .u8 0] 64, by simp [Wd.z64], hb, (by show (w.heap.push _)[_]? = _; simp), by simp [Wd.z64], by unfold maxLen; omega, ?_, ?_⟩⟩, by simp [Wd.z64], by intro x hx; unfold Wd.z64 at hx; rw [List.mem_replicate] at hx; omega⟩
  · rw [← Array.length_toList, Wc.made_zero]; simp
  · rw [Wc.made_zero]; simp [Wd.z64]

/-- An append of two steps in a region that draws. -/
theorem step_append_io2 {ops : Array Oper} {o : Oper} {a : Act} {w : World} {K : Act → World → Prop} {Q : Exit → Act → World → Prop} {E : Prop} {s x : Operand} {v u : Value} {ad : Addr} {c : Nat} {l : List Wd.Io} (q r : Wd.Pl) (base : Nat)
    (hgd : o.guard = none) (ho : o.op = .call { callee := .builtin .append, args := #[s, x], argTypes := #[23, 23] }) (hs : a.eval s = v) (hx : a.eval x = u) (hue : u = .slice (some ad) 2 c)
    (hv : Wd.Oi 38 5 base w v l) (hu : ∀ j x, (Wd.cells3 q ++ Wd.cells3 r)[j]? = some x → w.cell? (ad.add j) = some x) (hq : Wc.Ob 5 base w (.slice q.2.1 q.1.data.length q.2.2) q.1.data) (hr : Wc.Ob 5 base w (.slice r.2.1 r.1.data.length r.2.2) r.1.data) (hl : l.length + 2 ≤ 1048576) (hbase : base ≤ w.heap.size)
    (h : ∀ v' w', Wd.Oi 38 5 base w' v' (l ++ [q.1, r.1]) → Below base w w' → K (a.put o.dst v') w') :
    if Region.wanted o (yielded ops a.tmps) = true then Oper.wp Try.prog o a w K Q else E := by
  obtain ⟨i0, hi, hz0, hz1, hz2⟩ := info_parts Try.info38
  obtain ⟨v', w1, hrun, hO, hb1⟩ := Wd.append_io2 (P := Try.prog) (ty := o.type) Try.underlying23 hi hz0 hz1 hz2 rfl (by omega) (by decide) hv hu hq hr hl hbase (c := c)
  rw [← hue] at hrun
  clear hue
  have hw : Region.wanted o (yielded ops a.tmps) = true := by simp [Region.wanted, hgd]
  rw [if_pos hw]
  unfold Oper.wp
  simp [execOp, ho, resolve, invoke, builtin, hs, hx, hrun, Result.andThen]
  exact h v' w1 hO hb1

theorem lit_keep (w w2 : World) (q : Wd.Pl) (e : Nat) (h : Below (w.alloc (.cells (Wd.cells3 q).toArray e)).heap.size (w.alloc (.cells (Wd.cells3 q).toArray e)) w2) : ∀ j u, (Wd.cells3 q)[j]? = some u → w2.cell? ((⟨w.heap.size, 0, none⟩ : Addr).add j) = some u := by
  intro j u hu
  have := lit_cells w q e j u hu
  rw [Wc.add_none] at this ⊢
  exact (h.cell (p := ⟨w.heap.size, 0 + j, none⟩) (by simp)).trans this

/-- An append of one step whose bytes lie below, in a region that draws. -/
theorem step_append_is {ops : Array Oper} {o : Oper} {a : Act} {wB w : World} {K : Act → World → Prop} {Q : Exit → Act → World → Prop} {E : Prop} {s x : Operand} {v u : Value} {ad : Addr} {c : Nat} {l : List Wd.Io} (q : Wd.Pl)
    (hgd : o.guard = none) (ho : o.op = .call { callee := .builtin .append, args := #[s, x], argTypes := #[23, 23] }) (hs : a.eval s = v) (hx : a.eval x = u) (hue : u = .slice (some ad) 1 c)
    (hv : Wd.Oi 38 5 wB.heap.size w v l) (hb : Below wB.heap.size wB w) (hu : ∀ j x, (Wd.cells3 q)[j]? = some x → w.cell? (ad.add j) = some x) (hq : Wd.Held wB q) (hl : l.length + 1 ≤ 1048576)
    (h : ∀ v' w', Wd.Is w' v' (l ++ [q.1]) → Below wB.heap.size wB w' → K (a.put o.dst v') w') :
    if Region.wanted o (yielded ops a.tmps) = true then Oper.wp Try.prog o a w K Q else E := by
  obtain ⟨i0, hi, hz0, hz1, hz2⟩ := info_parts Try.info38
  obtain ⟨v', w1, hrun, hO, hb1⟩ := Wd.append_is (P := Try.prog) (ty := o.type) Try.underlying23 hi hz0 hz1 hz2 rfl (by omega) (by decide) hv hb hu hq hl (c := c)
  rw [← hue] at hrun
  clear hue
  have hw : Region.wanted o (yielded ops a.tmps) = true := by simp [Region.wanted, hgd]
  rw [if_pos hw]
  unfold Oper.wp
  simp [execOp, ho, resolve, invoke, builtin, hs, hx, hrun, Result.andThen]
  exact h v' w1 hO hb1

/-- The first t bytes. -/
theorem slice_bytes_to (a : Option Addr) (n cap t : Nat) (h : t ≤ cap) (w : World) :
    (Instr.slice 22 (.slice a n cap) none (some (.int .i64 (t : Int))) none).run Try.prog w = .ok (.slice a t cap) w := by
  have h0 := Try.sizeU8
  have hm : a.map (·.add 0) = a := by
    cases a with
    | none => rfl
    | some x =>
      have : x.add 0 = x := by unfold Addr.add; split <;> simp_all
      simp [this]
  cases hq : Try.prog.info? 5 with
  | none => rw [hq] at h0; cases h0
  | some i =>
    simp [Instr.slice, run_underlying Try.underlying22, Instr.sliceBounds, run_sliceBound, sizeOf, typeInfo, hq, h]
    exact fun _ => hm

/-- What all calls tell of the steps of DevBad. -/
theorem bad_facts (m s k : Nat) (x : Wd.Io) {vn : Nat} (hs : m * 64 = s) (h4 : 4 ≤ m) (h34 : m < 34) (hx : Wd.okIo m x = false) (hl : (Wd.wl m k).length = vn) (hvn : vn ≤ 18) :
    Wd.appR (List.replicate s 0) (Wd.wl m k ++ [x]) = [] ∧ Wd.stepsE (List.replicate s (0 : Int)).length (Wd.wl m k ++ [x]) = 1 ∧ Wd.crR (List.replicate s 0) (Wd.wl m k ++ [x]) 0 [] = [] ∧ Wd.crE (List.replicate s (0 : Int)).length (Wd.wl m k ++ [x]) 0 = 1 ∧
    Wd.appR (List.replicate s 0) (Wd.wl m k) = List.replicate s 0 ∧ Wd.stepsE (List.replicate s (0 : Int)).length (Wd.wl m k) = 0 ∧ Wd.stepsE s (Wd.wl m k) = 0 ∧ Wd.stepsE s (Wd.wl m k ++ [x]) = 1 := by
  subst hs
  have hd : Wd.devB (m * 64) = true := Wd.devB_iff.2 ⟨by omega, by omega, by omega⟩
  have hmi : ((m * 64 : Nat) : Int) / 64 = (m : Int) := by omega
  have h1 : Wd.stepsE (m * 64) (Wd.wl m k) = 0 := Wd.stepsE_ok hd (by omega) (by rw [hmi]; exact Wd.wl_ok m (by omega) k)
  have h2 : Wd.stepsE (m * 64) (Wd.wl m k ++ [x]) = 1 := Wd.stepsE_bad hd (by simp; omega) (by rw [hmi, List.all_append]; simp [hx])
  have hz : (List.replicate (m * 64) (0 : Int)).length = m * 64 := by simp
  rw [hz]
  refine ⟨?_, h2, ?_, ?_, ?_, h1, h1, h2⟩
  · unfold Wd.appR; rw [hz, if_neg (by rw [h2]; decide)]
  · unfold Wd.crR Wd.crE; rw [hz, if_neg (by rw [if_neg (by rw [h2]; decide), h2]; decide)]
  · unfold Wd.crE; rw [if_neg (by rw [h2]; decide), h2]
  · unfold Wd.appR; rw [hz, if_pos h1, Wd.app_zero m (by omega) k]

theorem lowB (m i : Int) (h0 : 0 < m) (h : m ≤ 4294967296) : ∃ A : Nat, (A : Int) < m ∧ wrap64 ((IntKind.u64.wrap i).tmod m) = (A : Int) ∧ IntKind.i64.wrap ((IntKind.u64.wrap i).tmod m) = (A : Int) := by
  obtain ⟨A, hA, e⟩ := Wc.low m i h0 h
  refine ⟨A.toNat, by omega, by omega, ?_⟩
  rw [IntKind.wrap_i64]
  unfold wrap64 at e
  omega

set_option maxRecDepth 100000 in
set_option maxHeartbeats 1600000 in
theorem devBad_any (y0 y1 y2 : Int) (w : World) :
    Calls Try.prog 6 #[.int .i64 y0, .int .i64 y1, .int .i64 y2] w fun e w' => e = .returned (.bool true) ∧ Below w.heap.size w w' := by
  obtain ⟨A, hA, hA1, hA2⟩ := lowB 30 y0 (by omega) (by omega)
  obtain ⟨n, hn, hn1, hn2⟩ := lowB 10 y1 (by omega) (by omega)
  obtain ⟨q, hq, hq1, hq2⟩ := lowB 7 y2 (by omega) (by omega)
  obtain ⟨m, hm⟩ : ∃ m : Nat, (4 : Int) + (A : Int) = (m : Int) := ⟨4 + A, by omega⟩
  have hm4 : 4 ≤ m := by omega
  have hm34 : m < 34 := by omega
  have hn10 : n < 10 := by omega
  have hq7 : q < 7 := by omega
  obtain ⟨s, hs⟩ : ∃ s, m * 64 = s := ⟨_, rfl⟩
  have hs2 : 256 ≤ s ∧ s < 2176 := by omega
  have hms : (s : Int) = (m : Int) * 64 := by omega
  have hmk : ∀ w, (Instr.makeSlice 22 (.int .i64 ((m : Int) * 64)) (.int .i64 ((m : Int) * 64))).run Try.prog w = .ok (.slice (some ⟨w.heap.size, 0, none⟩) s s) (w.alloc (.cells (madeCells #[.int .u8 0] s) 5)) := fun w => by
    rw [← hms]
    exact run_make_row' (P := Try.prog) 22 5 (.int .u8 0) 1 Try.underlying22 Try.infoU8 rfl .i64 .i64 s (by omega) (by omega) w
  have m64 : ∀ w, (Instr.makeSlice 22 (.int .i64 64) (.int .i64 64)).run Try.prog w = .ok (.slice (some ⟨w.heap.size, 0, none⟩) 64 64) (w.alloc (.cells (madeCells #[.int .u8 0] 64) 5)) := make_run 64 (by omega)
  have hBi : Wc.Bs (w.alloc (.cells (madeCells #[.int .u8 0] s) 5)) (.slice (some ⟨w.heap.size, 0, none⟩) s s) (List.replicate s 0) := Wc.Bs.lit w _ 5 s _ (by simp) (by omega) (Wc.made_zero _) (by intro x h; rw [List.mem_replicate] at h; omega)
  have hB1 : Below w.heap.size w (w.alloc (.cells (madeCells #[.int .u8 0] s) 5)) := (Below.refl _ _).alloc (Nat.le_refl _) _
  obtain ⟨W1, hW1⟩ : ∃ W1, w.alloc (.cells (madeCells #[.int .u8 0] s) 5) = W1 := ⟨_, rfl⟩
  rw [hW1] at hBi hB1
  have HBI := Wc.hid hBi
  have HB1 := Wc.hid hB1
  have HS := Wc.hid hs
  clear hBi hB1 hA hn hq hms hs
  obtain ⟨G, hG⟩ : ∃ G, w.heap.size = G := ⟨_, rfl⟩
  rw [hG] at HBI
  go_enter Try.func6, Try.ntmps6
  go_wp2_with fail
  clear hmk hW1 hA1 hA2 hm hn1 hn2
  clear hG
  go_loopw [8, 9] (fun v i wr => ∃ k : Nat, i = .int .i64 k ∧ k ≤ n ∧ Below W1.heap.size W1 wr ∧ Hid (Wd.Oi 38 5 W1.heap.size wr v (Wd.wl m k))) (fun _ i _ => n - (intOf i).toNat)
  case atStart => exact ⟨0, rfl, by omega, Below.refl _ _, Wd.Oi.nil 38 5 _ _⟩
  case round =>
    obtain ⟨k, rfl, hk, hbr, HO⟩ := hrel
    have hwl := Wd.wl_length m k
    obtain ⟨va, vc, hvs⟩ := HO.out.slice
    rw [hwl] at hvs
    by_cases hlt : k < n
    · have r0 : (k : Int).tmod (m : Int) = ((k % m : Nat) : Int) := by rw [Int.tmod_eq_emod_of_nonneg (by omega)]; rfl
      have r1 : IntKind.i64.wrap ((k : Int).tmod (m : Int)) = ((k % m : Nat) : Int) := by
        have := Nat.mod_lt k (by omega : 0 < m)
        rw [r0, IntKind.wrap_i64]; omega
      have r2 : ¬ m = 0 := by omega
      obtain ⟨r, hr⟩ : ∃ r, k % m = r := ⟨_, rfl⟩
      rw [hr] at r0 r1
      have HRR := Wc.hid (show Wd.wl m (k + 1) = Wd.wl m k ++ [⟨1, (r : Int), Wd.z64⟩, ⟨2, 0, []⟩] by rw [← hr]; rfl)
      have HBR := Wc.hid hbr
      have HLT := Wc.hid (show (Wd.wl m k).length + 2 ≤ 1048576 by omega)
      generalize 2 * k = vn at hvs
      subst hvs
      clear hr hbr hwl
      go_wp2_with fail
      go_region_held3 (fun _ => True) (trivial) (first | (refine step_append_io2 ⟨⟨1, (r : Int), Wd.z64⟩, (some ⟨wr.heap.size, 0, none⟩, 64)⟩ ⟨⟨2, 0, []⟩, (none, 0)⟩ W1.heap.size rfl rfl rfl rfl (by rfl) (by exact HO.out.keep ((((Below.refl _ _).alloc (Nat.le_refl _) _).alloc (by simp) _).drew)) (by exact lit_cells2 (wr.alloc (.cells (madeCells #[.int .u8 0] 64) 5)) ⟨⟨1, (r : Int), Wd.z64⟩, (some ⟨wr.heap.size, 0, none⟩, 64)⟩ ⟨⟨2, 0, []⟩, (none, 0)⟩ 38 (wr.heap.size + 1) (by simp)) (by exact (ob_made64 wr W1.heap.size HBR.out.size).keep (((Below.refl _ _).alloc (Nat.le_refl _) _).drew)) (by exact Wc.Ob.nil 5 _ _) HLT.out (by have h1 := HBR.out.size; simp; omega) ?_; intro v4 w4 hO4 hb4) | fail)
      have HB5 := Wc.hid ((((HBR.out.alloc HBR.out.size _).alloc (by have := HBR.out.size; simp; omega) _).drew).trans hb4)
      have HO5 := Wc.hid hO4
      clear hb4 hO4 HO m64 r0 r1 r2
      go_wp2_with fail
      go_roundw
      case rel => exact ⟨k + 1, by go_num, by omega, HB5.out, by rw [HRR.out]; exact HO5⟩
      case measure => simp only [intOf]; omega
    · obtain rfl : k = n := by omega
      have HLI := Wc.hid HO.out.is
      have hvn : 2 * k ≤ 18 := by omega
      rw [hvs] at HLI ⊢
      generalize hvv : 2 * k = vn at hvs HLI hvn hwl ⊢
      have HVV := Wc.hid hwl
      have HBR := Wc.hid hbr
      clear hvs hvv hwl hbr HO m64
      go_wp2_with fail
      refine region8 m q y2 _ _ wr rfl rfl rfl hq2 hq7 ?_
      intro u W8 hb8 hleft
      obtain ⟨g, a', c', hu, hAt⟩ := hleft
      simp only [Wo.setAll, Wd.slots, List.foldl_cons, List.foldl_nil, List.setIfInBounds_toArray, List.set_cons_zero, List.set_cons_succ]
      rw [hu]
      have hbad := Wd.bad_no m q hq7
      obtain ⟨x, hx⟩ : ∃ x, (Wd.badL m).getD q Wd.d0 = x := ⟨_, rfl⟩
      rw [hx] at hAt hbad
      obtain ⟨c0, c1, c2, c3, c4⟩ := hAt
      rw [Nat.zero_add] at c1 c2
      have hgl : g < W8.heap.size := Wc.cell_lt c0
      have HBAD := Wc.hid hbad
      have C34 := Wc.hid (And.intro c3 c4)
      have HLI8 := Wc.hid (HLI.out.keep hb8)
      have HBI8 := Wc.hid ((HBI.out.keep HBR.out).keep hb8)
      have HB8 := Wc.hid (Wc.step (Wc.step HB1.out (Nat.le_refl _) HBR.out) (Nat.le_refl _) hb8)
      have HLT := Wc.hid (show (Wd.wl m k).length + 1 ≤ 1048576 by have := HVV.out; omega)
      clear hx hbad c3 c4 hu hb8 HLI HBI HB1 HBR hq1 hq2
      generalize u 48 = u48
      generalize u 49 = u49
      generalize u 50 = u50
      generalize u 51 = u51
      generalize u 52 = u52
      generalize u 53 = u53
      generalize u 54 = u54
      generalize u 55 = u55
      generalize u 56 = u56
      generalize u 57 = u57
      generalize u 58 = u58
      generalize u 59 = u59
      generalize u 60 = u60
      generalize u 61 = u61
      generalize u 62 = u62
      generalize u 63 = u63
      generalize u 64 = u64
      generalize u 65 = u65
      generalize u 66 = u66
      clear u
      go_wp2_with fail
      go_region_held3 (fun w' => w'.cell? ⟨g, 0, none⟩ = some (.int .i64 x.kind) ∧ w'.cell? ⟨g, 1, none⟩ = some (.int .i64 x.pos) ∧ w'.cell? ⟨g, 2, none⟩ = some (.slice a' x.data.length c')) (go_keep) (first | (refine step_append_is (wB := W8) ⟨x, (a', c')⟩ rfl rfl rfl rfl (by rfl) (by first | exact (hO2.base (Nat.le_refl _)).keep ((Below.refl _ _).alloc (Nat.le_refl _) _) | exact hO2.base (by simp)) (by first | exact ((((Below.refl _ _).drew).trans hb2)).alloc (by have := hb2.size; simpa using this) _ | exact (((Below.refl _ _).alloc (Nat.le_refl _) _).drew).trans (hb2.mono (by simp))) (by first | exact lit_cells w2 ⟨x, (a', c')⟩ 38 | exact lit_keep W8 w2 ⟨x, (a', c')⟩ 38 (((Below.refl _ _).drew).trans hb2)) C34.out HLT.out ?_; intro v4 w4 hI4 hb4; have k0 := hb4.cell (p := ⟨g, 0, none⟩) hgl; have k1 := hb4.cell (p := ⟨g, 1, none⟩) hgl; have k2 := hb4.cell (p := ⟨g, 2, none⟩) hgl) | (go_at_call 10; refine (twinIos_any _ _ _ _ _ (by first | exact HLI8.out | exact HLI8.out.keep (((Below.refl _ _).drew).alloc (Nat.le_refl _) _) | exact HLI8.out.keep (((Below.refl _ _).alloc (Nat.le_refl _) _).drew)) (by omega)).mono ?_; rintro e w2 ⟨ta, tc, rfl, hO2, hb2⟩; have k0 := hb2.cell (p := ⟨g, 0, none⟩) (by simp; omega); have k1 := hb2.cell (p := ⟨g, 1, none⟩) (by simp; omega); have k2 := hb2.cell (p := ⟨g, 2, none⟩) (by simp; omega)) | fail)
      all_goals
        have hI5 : Wd.Is w4 v4 (Wd.wl m k ++ [x]) := hI4
        have HB4 := Wc.hid hb4
        have HBW := Wc.hid (Wc.step HB8.out (Nat.le_refl _) hb4)
        have HBI4 := Wc.hid (HBI8.out.keep hb4)
        have HLI4 := Wc.hid (HLI8.out.keep hb4)
        clear hI4 hb4 k0 k1 k2 hb2 hO2 c0 c1 c2 C34 HLI8 HBI8 HB8 HB4
        have hE := bad_facts m s k x HS.out (by omega) (by omega) HBAD.out HVV.out hvn
        obtain ⟨BL, hBL⟩ : ∃ BL, Wd.wl m k ++ [x] = BL := ⟨_, rfl⟩
        rw [hBL] at hI5 hE
        obtain ⟨ZS, hZS⟩ : ∃ ZS : List Int, List.replicate s 0 = ZS := ⟨_, rfl⟩
        rw [hZS] at hE HBI4
        have HE := Wc.hid hE
        obtain ⟨ba, bn, bc, rfl⟩ : ∃ ba bn bc, v4 = .slice ba bn bc := by
          obtain ⟨ba, bn, bc, h, _⟩ := hI5
          exact ⟨ba, bn, bc, h⟩
        have HI4 := Wc.hid hI5
        clear hI5 hE hBL hZS
        have hni : s ≤ 140737488355328 := by omega
        have sl1 : ∀ w, (Instr.slice 22 (.slice (some ⟨G, 0, none⟩) s s) (some (.int .i64 1)) none none).run Try.prog w = .ok (.slice (some ⟨G, 1, none⟩) (s - 1) (s - 1)) w := fun w => by
          have := slice_from (some ⟨G, 0, none⟩) s s 1 (by omega) (by omega) w
          simpa [Wc.add_none] using this
        have sl2 : ∀ w, (Instr.slice 22 (.slice (some ⟨G, 0, none⟩) s s) none (some (.int .i64 192)) none).run Try.prog w = .ok (.slice (some ⟨G, 0, none⟩) 192 s) w := fun w => slice_bytes_to (some ⟨G, 0, none⟩) s s 192 (by omega) w
        have hck1 : Wd.chkE (s - 1) = 2 := (Wd.chk_no (fun h => by have := HS.out; omega)).2.symm
        have hck2 : Wd.chkE 192 = 2 := (Wd.chk_no (fun h => by omega)).2.symm
        clear hs2
        go_wp2_with fail
        refine (apply_any _ _ _ _ _ _ ZS BL _ HBI4.out HI4.out).mono ?_
        rintro e w5 ⟨pa, pc, rfl, -, hb5⟩
        rw [HE.out.1, HE.out.2.1, List.length_nil]
        have HBI5 := Wc.hid (HBI4.out.keep hb5)
        have HLI5 := Wc.hid (HLI4.out.keep hb5)
        have HI5 := Wc.hid (HI4.out.keep hb5)
        have HB5 := Wc.hid (Wc.step HBW.out (Nat.le_refl _) hb5)
        clear hb5 HBI4 HLI4 HI4 HBW
        go_wp2_with fail
        refine (crash_any _ _ _ _ _ _ 0 _ _ _ ZS BL [] _ HBI5.out HI5.out (Wv.Rv.nil _)).mono ?_
        rintro e w6 ⟨qa, qc, rfl, -, hb6⟩
        rw [HE.out.2.2.1, HE.out.2.2.2.1, List.length_nil]
        have HBI6 := Wc.hid (HBI5.out.keep hb6)
        have HLI6 := Wc.hid (HLI5.out.keep hb6)
        have HI6 := Wc.hid (HI5.out.keep hb6)
        have HB6 := Wc.hid (Wc.step HB5.out (Nat.le_refl _) hb6)
        clear hb6 HBI5 HLI5 HI5 HB5
        go_wp2_with fail
        refine (apply_any _ _ _ _ _ _ ZS (Wd.wl m k) _ HBI6.out HLI6.out).mono ?_
        rintro e w7 ⟨ra, rc, rfl, hr7, hb7⟩
        rw [HE.out.2.2.2.2.1] at hr7
        rw [HE.out.2.2.2.2.1, HE.out.2.2.2.2.2.1]
        have HR7 := Wc.hid hr7
        have HBI7 := Wc.hid (HBI6.out.keep hb7)
        have HLI7 := Wc.hid (HLI6.out.keep hb7)
        have HI7 := Wc.hid (HI6.out.keep hb7)
        have HB7 := Wc.hid (Wc.step HB6.out (Nat.le_refl _) hb7)
        clear hb7 hr7 HBI6 HLI6 HI6 HB6
        go_wp2_with fail
        refine (check_any _ _ _ _ (by omega)).mono ?_
        rintro e w' ⟨rfl, rfl⟩
        rw [hck1]
        clear hck1 sl1
        go_wp2_with fail
        refine (check_any _ _ _ _ (by omega)).mono ?_
        rintro e w' ⟨rfl, rfl⟩
        rw [hck2]
        clear hck2 sl2
        go_wp2_with fail
        refine (steps_any _ _ _ _ _ _ (Wd.wl m k) _ hni HLI7.out).mono ?_
        rintro e w8 ⟨rfl, hb8⟩
        rw [HE.out.2.2.2.2.2.2.1]
        have HR8 := Wc.hid (HR7.out.keep hb8)
        have HBI8 := Wc.hid (HBI7.out.keep hb8)
        have HI8 := Wc.hid (HI7.out.keep hb8)
        have HB8 := Wc.hid (Wc.step HB7.out (Nat.le_refl _) hb8)
        clear hb8 HR7 HBI7 HLI7 HI7 HB7
        go_wp2_with fail
        refine (steps_any _ _ _ _ _ _ BL _ hni HI8.out).mono ?_
        rintro e w9 ⟨rfl, hb9⟩
        rw [HE.out.2.2.2.2.2.2.2]
        have HR9 := Wc.hid (HR8.out.keep hb9)
        have HBI9 := Wc.hid (HBI8.out.keep hb9)
        have HB9 := Wc.hid (Wc.step HB8.out (Nat.le_refl _) hb9)
        clear hb9 HR8 HBI8 HI8 HB8
        go_wp2_with fail
        refine (bytes_any _ _ _ _ _ HR9.out HBI9.out).mono ?_
        rintro e w10 ⟨rfl, hb10⟩
        rw [beq_self_eq_true]
        have HB10 := Wc.hid (Wc.step HB9.out (Nat.le_refl _) hb10)
        clear hb10 HR9 HBI9 HB9
        go_wp2_with fail
        refine (wakes_any _).mono ?_
        rintro e w11 ⟨rfl, hb11⟩
        go_wp2_with fail
        go_ret
        exact ⟨rfl, Wc.step HB10.out (Nat.le_refl _) hb11⟩

end Go.Proofs.Ytjacpmbdmbahhaa
