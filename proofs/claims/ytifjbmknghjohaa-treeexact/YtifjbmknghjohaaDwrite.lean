/-
  Copying into memory of the call's own: what dev.copied, dev.write, dev.writeAll leave.
-/
import Derived.Test.YtifjbmknghjohaaDleaf
import Derived.Laws.CopyOwn
import Derived.Deep.RegionHeld3
namespace Wd
open Go Go.RowKit

/-- Bytes laid over bytes, from k on. -/
def lay (xs : List Int) (k : Nat) (ys : List Int) : List Int := xs.take k ++ (ys ++ xs.drop (k + ys.length))

theorem lay_length (xs : List Int) (k : Nat) (ys : List Int) (h : k + ys.length ≤ xs.length) : (lay xs k ys).length = xs.length := by
  simp [lay]; omega

theorem lay_bytes {xs : List Int} {k : Nat} {ys : List Int} (hx : ∀ x ∈ xs, 0 ≤ x ∧ x < 256) (hy : ∀ x ∈ ys, 0 ≤ x ∧ x < 256) : ∀ x ∈ lay xs k ys, 0 ≤ x ∧ x < 256 := by
  intro x h
  simp only [lay, List.mem_append] at h
  rcases h with h | h | h
  · exact hx x (List.mem_of_mem_take h)
  · exact hy x h
  · exact hx x (List.mem_of_mem_drop h)

theorem lay_nil (xs : List Int) (k : Nat) : lay xs k [] = xs := by simp [lay]

theorem take_lay {α : Type} (A R ys : List α) (k n : Nat) (hA : A.length = n) (hk : k + ys.length ≤ n) :
    ((A ++ R).take k ++ ys ++ (A ++ R).drop (k + ys.length)).take n = A.take k ++ (ys ++ A.drop (k + ys.length)) := by
  have e1 : (A ++ R).take k = A.take k := List.take_append_of_le_length (by omega)
  have e2 : (A ++ R).drop (k + ys.length) = A.drop (k + ys.length) ++ R := List.drop_append_of_le_length (by omega)
  rw [e1, e2, ← List.append_assoc (A.take k ++ ys), List.take_append_of_le_length (by simp; omega), List.take_of_length_le (by simp; omega), List.append_assoc]

/-- What a copy into memory of the call's own leaves. -/
theorem copy_run {P : Program} {e t ty base : Nat} {w : World} {g n cap k sn sc : Nat} {sp : Option Addr} {xs ys : List Int} (ht : P.underlying t = some (.slice e)) (hsz : (P.info? e).map (·.size) = some 1)
    (hv : Wc.Ob e base w (.slice (some ⟨g, 0, none⟩) n cap) xs) (hu : Wc.Bs w (.slice sp sn sc) ys) (hk : k + ys.length ≤ n) :
    ∃ w', Sem.run P (Builtin.copy_ #[t, t] ty #[.slice (some ⟨g, k, none⟩) (n - k) (cap - k), .slice sp sn sc]) w = .ok (goInt ys.length) w' ∧ Wc.Ob e base w' (.slice (some ⟨g, 0, none⟩) n cap) (lay xs k ys) ∧ Below base w w' ∧
      ∀ q : Addr, q.block ≠ g → w'.cell? q = w.cell? q := by
  have h0 := Wc.bs_len hu
  have hxl := Wc.bs_len hv.bs
  have hO := hv
  obtain ⟨⟨h1, h2⟩, h3, h4⟩ := hv
  rcases h2 with ⟨h, _⟩ | ⟨g', cap', cur, he, hbg, hg, hle, hmx, hcs, htk⟩
  · cases h
  cases he
  by_cases hy : ys.length = 0
  · obtain rfl := List.eq_nil_of_length_eq_zero hy
    have hrun := run_copy_none (P := P) w t t ty e (some ⟨g, k, none⟩) sp (xs.length - k) (cap - k) sn sc ht hsz (by simp at h0; subst h0; exact Nat.zero_min _)
    exact ⟨w, hrun, by rw [lay_nil]; exact hO, Below.refl _ _, fun _ _ => rfl⟩
  · rcases hu.open with ⟨rfl, _⟩ | ⟨b, off, n', c', hsl, _, _, _, _, _, hyb, _, hc⟩
    · exact absurd rfl hy
    · cases hsl
      have hrun := run_copy_row (P := P) w t t ty e g k (xs.length - k) (cap - k) ⟨b, off, none⟩ sn sc cur e (ys.map (Value.int .u8)) ht hsz hg (by
          rw [List.length_map, h0]; exact (Nat.min_eq_left (by omega)).symm) (by
          intro j v hj
          have hjn : j < sn := by have := (List.getElem?_eq_some_iff.1 hj).1; simpa [h0] using this
          rw [Wc.add_none, hc j hjn]; simpa [h0, hjn] using hj) (by rw [List.length_map]; omega) (by
          intro v hv; obtain ⟨x, _, rfl⟩ := List.mem_map.1 hv; rfl)
      rw [List.length_map] at hrun
      refine ⟨_, hrun, ⟨⟨by simp, .inr ⟨g, cap, (cur.toList.take k ++ ys.map (Value.int .u8) ++ cur.toList.drop (k + ys.length)).toArray, ?_, hbg, ?_, ?_, hmx, ?_, ?_⟩⟩, ?_, lay_bytes h4 hyb⟩, below_setRow (Below.refl _ _) hbg _, ?_⟩
      · rw [lay_length _ _ _ (by omega)]
      · exact setRow_heap w g _ _ e _ hg
      · rw [lay_length _ _ _ (by omega)]; exact hle
      · simp [hcs]; omega
      · rw [lay_length _ _ _ (by omega)]
        have e1 : cur.toList = xs.map (Value.int .u8) ++ cur.toList.drop xs.length := by
          rw [Nat.mul_one] at htk
          rw [← htk, List.take_append_drop]
        have := take_lay (xs.map (Value.int .u8)) (cur.toList.drop xs.length) (ys.map (Value.int .u8)) k xs.length (by simp) (by simpa using hk)
        rw [← e1, List.length_map] at this
        rw [Nat.mul_one]
        simpa [lay] using this
      · rw [lay_length _ _ _ (by omega)]; exact h3
      · intro q hq
        have := setRow_other w g q.block (cur.toList.take k ++ ys.map (Value.int .u8) ++ cur.toList.drop (k + ys.length)).toArray hq
        simp only [World.cell?, this]

end Wd
namespace Go.Proofs.Ytifjbmknghjohaa
open Go.RowKit

/-- A copy in a region that draws. -/
theorem step_copy_ob {ops : Array Oper} {o : Oper} {a : Act} {w : World} {K : Act → World → Prop} {Q : Exit → Act → World → Prop} {E : Prop} {d s : Operand} {g n cap k sn sc : Nat} {sp : Option Addr} {xs ys : List Int} (base : Nat)
    (hgd : o.guard = none) (ho : o.op = .call { callee := .builtin .copy, args := #[d, s], argTypes := #[22, 22] }) (hd : a.eval d = .slice (some ⟨g, k, none⟩) (n - k) (cap - k)) (hs : a.eval s = .slice sp sn sc)
    (hv : Wc.Ob 5 base w (.slice (some ⟨g, 0, none⟩) n cap) xs) (hu : Wc.Bs w (.slice sp sn sc) ys) (hk : k + ys.length ≤ n)
    (h : ∀ w', Wc.Ob 5 base w' (.slice (some ⟨g, 0, none⟩) n cap) (Wd.lay xs k ys) → Below base w w' → (∀ q : Addr, q.block ≠ g → w'.cell? q = w.cell? q) → K (a.put o.dst (goInt ys.length)) w') :
    if Region.wanted o (yielded ops a.tmps) = true then Oper.wp Try.prog o a w K Q else E := by
  obtain ⟨w', hrun, hO, hb, hq⟩ := Wd.copy_run (P := Try.prog) (ty := o.type) Try.underlying22 Try.sizeU8 hv hu hk
  have hw : Region.wanted o (yielded ops a.tmps) = true := by simp [Region.wanted, hgd]
  rw [if_pos hw]
  unfold Oper.wp
  simp [execOp, ho, resolve, invoke, builtin, hd, hs, hrun, Result.andThen]
  exact h w' hO hb hq

set_option maxHeartbeats 1600000 in
theorem copied_any (a : Option Addr) (n cap : Nat) (xs : List Int) (w : World) (hv : Wc.Bs w (.slice a n cap) xs) :
    Calls Try.prog 34 #[.slice a n cap] w fun e w' => ∃ g, e = .returned (.slice (some ⟨g, 0, none⟩) n n) ∧ w.heap.size ≤ g ∧ Wc.Ob 5 w.heap.size w' (.slice (some ⟨g, 0, none⟩) n n) xs ∧ Below w.heap.size w w' := by
  have hn : n ≤ 140737488355328 := by obtain ⟨_, _, _, h1, _, _, _, h5, _⟩ := hv; cases h1; exact h5
  have hl := Wc.bs_len hv
  have hbd := Wc.bs_bytes hv
  have hmk := fun w => run_make_row' (P := Try.prog) 22 5 (.int .u8 0) 1 Try.underlying22 Try.infoU8 rfl .i64 .i64 n (by omega) (by omega) w
  have hO : Wc.Ob 5 w.heap.size (w.alloc (.cells (madeCells #[Value.int .u8 0] n) 5)) (.slice (some ⟨w.heap.size, 0, none⟩) n n) (List.replicate n 0) := by
    refine ⟨⟨by simp, .inr ⟨w.heap.size, n, madeCells #[Value.int .u8 0] n, by simp, Nat.le_refl _, (by show (w.heap.push _)[_]? = _; simp), by simp, by unfold maxLen; omega, ?_, ?_⟩⟩, by simpa using hn, by intro x hx; rw [List.mem_replicate] at hx; omega⟩
    · rw [← Array.length_toList, Wc.made_zero]; simp
    · rw [Wc.made_zero]; simp
  have hbA := (Below.refl w.heap.size w).alloc (Nat.le_refl _) (.cells (madeCells #[Value.int .u8 0] n) 5)
  obtain ⟨w2, hrun, hO2, hb2, -⟩ := Wd.copy_run (P := Try.prog) (ty := 3) (k := 0) Try.underlying22 Try.sizeU8 hO (hv.keep hbA) (by omega)
  have e : Wd.lay (List.replicate n 0) 0 xs = xs := by
    unfold Wd.lay
    rw [List.take_zero, List.nil_append, List.drop_eq_nil_of_le (by simp; omega), List.append_nil]
  rw [e] at hO2
  simp only [Nat.sub_zero] at hrun
  rw [hl] at hrun
  have HO := Wc.hid hO2
  have HB := Wc.hid (hbA.trans hb2)
  clear hO2 hb2 hO hbA hv e hl hbd
  go_enter Try.func34, Try.ntmps34
  go_wp2
  go_ret
  exact ⟨_, rfl, Nat.le_refl _, HO.out, HB.out⟩

theorem slice_from (a : Option Addr) (n cap q : Nat) (h : q ≤ n) (h2 : ¬ cap = q) (w : World) :
    (Instr.slice 22 (.slice a n cap) (some (.int .i64 (q : Int))) none none).run Try.prog w = .ok (.slice (a.map (·.add q)) (n - q) (cap - q)) w := by
  have h0 : ((Try.prog.info? 5).map (·.size)) = some 1 := Try.sizeU8
  cases hq : Try.prog.info? 5 with
  | none => rw [hq] at h0; cases h0
  | some i =>
    rw [hq] at h0
    have hi : i.size = 1 := by simpa using h0
    simp [Instr.slice, run_underlying Try.underlying22, Instr.sliceBounds, run_sliceBound, sizeOf, typeInfo, hq, hi, h, h2]

set_option maxHeartbeats 1600000 in
theorem write_any (base g n cap p dn dc : Nat) (kk : Int) (a : Option Addr) (xs ys : List Int) (w : World) (hv : Wc.Ob 5 base w (.slice (some ⟨g, 0, none⟩) n cap) xs) (hu : Wc.Bs w (.slice a dn dc) ys)
    (hk : p * 64 + ys.length ≤ n) (hk2 : p * 64 < n) (hbase : base ≤ w.heap.size) :
    Calls Try.prog 50 #[.slice (some ⟨g, 0, none⟩) n cap, .agg #[.int .i64 kk, .int .i64 p, .slice a dn dc]] w fun e w' => e = .returned (.tuple #[]) ∧ Wc.Ob 5 base w' (.slice (some ⟨g, 0, none⟩) n cap) (Wd.lay xs (p * 64) ys) ∧ Below base w w' := by
  have hn := hv.2.1
  have hxl := Wc.bs_len hv.bs
  have hcap := Wc.bs_cap hv.bs
  have hglt : g < w.heap.size := (hv.1.lt g rfl).2
  rw [hxl] at hn
  clear hxl
  have hbA := (Below.refl w.heap.size w).alloc (Nat.le_refl _) (.cells #[.int .i64 kk, .int .i64 p, .slice a dn dc] 52)
  have HO := Wc.hid (hv.keep hbA)
  have HU := Wc.hid (hu.keep hbA)
  have HA := Wc.hid (hbA.mono hbase)
  have HK := Wc.hid hk
  clear hv hu hbA hk
  obtain ⟨hc1, hc2⟩ := hcap
  have k1 : p * 64 ≤ cap := by omega
  have k2 : ¬ cap = p * 64 := by omega
  have k3 : p * 64 ≤ n := by omega
  have k4 : wrap64 ((p : Int) * 64) = ((p * 64 : Nat) : Int) := by unfold wrap64; omega
  obtain ⟨q, hq⟩ : ∃ q, p * 64 = q := ⟨_, rfl⟩
  rw [hq] at k1 k2 k3 k4 HK ⊢
  clear hq hk2 hn
  have k7 : IntKind.i64.wrap ((p : Int) * 64) = (q : Int) := by rw [IntKind.wrap_i64]; have := k4; unfold wrap64 at this; omega
  have hsl := slice_from (some ⟨g, 0, none⟩) n cap q k3 k2
  go_enter Try.func50, Try.ntmps50
  go_wp2
  have c1 : (w.alloc (.cells #[.int .i64 kk, .int .i64 p, .slice a dn dc] 52)).cell? ⟨w.heap.size, 1, none⟩ = some (.int .i64 p) := by simp
  have c2 : (w.alloc (.cells #[.int .i64 kk, .int .i64 p, .slice a dn dc] 52)).cell? ⟨w.heap.size, 2, none⟩ = some (.slice a dn dc) := by simp
  obtain ⟨W1, hW1⟩ : ∃ W1, w.alloc (.cells #[.int .i64 kk, .int .i64 p, .slice a dn dc] 52) = W1 := ⟨_, rfl⟩
  rw [hW1] at HO HU HA c1 c2 ⊢
  clear hW1
  have hne : ¬ w.heap.size = g := by omega
  obtain ⟨B, hB⟩ : ∃ B, w.heap.size = B := ⟨_, rfl⟩
  rw [hB] at c1 c2 hne ⊢
  go_region_held3 (fun w' => w'.cell? ⟨B, 1, none⟩ = some (.int .i64 p) ∧ w'.cell? ⟨B, 2, none⟩ = some (.slice a dn dc)) (go_keep) (first | (refine step_copy_ob base rfl rfl rfl rfl (by exact HO.out) (by exact HU.out) HK.out ?_; intro w2 hO2 hb2 hq2; have k5 := hq2 ⟨B, 1, none⟩ hne; have k6 := hq2 ⟨B, 2, none⟩ hne) | fail)
  have HB := Wc.hid (HA.out.drew.trans hb2)
  have HO2 := Wc.hid hO2
  clear HO HU HA hb2 hO2 hq2 k5 k6 hsl c1 c2 hB
  go_wp2
  go_end0
  exact ⟨rfl, HO2.out, HB.out⟩

end Go.Proofs.Ytifjbmknghjohaa
