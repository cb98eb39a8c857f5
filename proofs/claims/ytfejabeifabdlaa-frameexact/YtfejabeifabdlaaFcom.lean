/-
  What frame.command returns, for every kind and payload.
-/
import Derived.Test.YtfejabeifabdlaaFcm
import Derived.Laws.ResultCell
import Derived.Deep.RegionLaw
namespace Wk
open Go Go.RowKit

theorem Pb.newAt (w : World) (s : Nat → Int) (v : Value) (B S : Nat) (hB : B = w.heap.size) (hS : S = w.heap.size + 1) :
    Pb ((w.alloc (.cells #[.int .i64 (s 0), .int .i64 (s 1), .int .i64 (s 2), .int .i64 (s 3), .int .i64 (s 4), .int .i64 (s 5), .int .i64 (s 6), .int .i64 (s 7), v] 24)).alloc (.cells #[.int .i64 (s 8)] 3)) B S s v := by
  subst hB hS; exact Pb.new w s v

/-- The block R is a command's own cells. -/
def Ch (w : World) (R : Nat) (c : Cmd) (v : Value) : Prop := w.heap[R]? = some (.cells #[.int .i64 c.kind, .int .i64 c.id, .int .i64 c.parent, .int .i64 c.size, .int .i64 c.start, .int .i64 c.count, .int .i64 c.source, .int .i64 c.digest, v] 24 (0, 0))

theorem Ch.new (w : World) (c : Cmd) (v : Value) : Ch (w.alloc (.cells #[.int .i64 c.kind, .int .i64 c.id, .int .i64 c.parent, .int .i64 c.size, .int .i64 c.start, .int .i64 c.count, .int .i64 c.source, .int .i64 c.digest, v] 24)) w.heap.size c v := by
  show (w.heap.push _)[w.heap.size]? = _; simp

theorem Ch.lt {w : World} {R : Nat} {c : Cmd} {v : Value} (h : Ch w R c v) : R < w.heap.size := (Array.getElem?_eq_some_iff.1 h).1

theorem Ch.below {w w' : World} {R base : Nat} {c : Cmd} {v : Value} (h : Ch w R c v) (hb : Below base w w') (hlt : R < base) : Ch w' R c v := by
  unfold Ch
  rw [hb.block R hlt]; exact h

theorem Ch.keep {w w' : World} {R : Nat} {c : Cmd} {v : Value} (h : Ch w R c v) (hb : Below w.heap.size w w') : Ch w' R c v := h.below hb h.lt

theorem Ch.other {w : World} {R B : Nat} {c : Cmd} {v : Value} (h : Ch w R c v) (hne : R ≠ B) (o : Nat) (u : Value) : Ch (w.setCell ⟨B, o, none⟩ u) R c v := by
  unfold Ch
  rw [heap_setCell_other _ _ _ _ hne]; exact h

theorem Ch.adr {w : World} {R B S : Nat} {c : Cmd} {v : Value} (h : Ch w R c v) (h1 : R ≠ B) (h2 : R ≠ S) (f : Nat) (u : Value) : Ch (w.setCell (Adr B S f) u) R c v := by
  unfold Adr
  split
  · exact h.other h1 _ _
  · exact h.other h2 _ _

theorem Ch.frozen {w : World} {R : Nat} {c : Cmd} {v : Value} (h : Ch w R c v) (i : Nat) : w.frozen? ⟨R, i, none⟩ = false := by
  unfold Ch at h
  simp [World.frozen?, h]

/-- At the block R lies the command c. -/
def Cc (w : World) (R : Nat) (c : Cmd) (v : Value) : Prop :=
  w.cell? ⟨R, 0, none⟩ = some (.int .i64 c.kind) ∧ w.cell? ⟨R, 1, none⟩ = some (.int .i64 c.id) ∧ w.cell? ⟨R, 2, none⟩ = some (.int .i64 c.parent) ∧ w.cell? ⟨R, 3, none⟩ = some (.int .i64 c.size) ∧ w.cell? ⟨R, 4, none⟩ = some (.int .i64 c.start) ∧ w.cell? ⟨R, 5, none⟩ = some (.int .i64 c.count) ∧ w.cell? ⟨R, 6, none⟩ = some (.int .i64 c.source) ∧ w.cell? ⟨R, 7, none⟩ = some (.int .i64 c.digest) ∧ w.cell? ⟨R, 8, none⟩ = some v

theorem Ch.cc {w : World} {R : Nat} {c : Cmd} {v : Value} (h : Ch w R c v) : Cc w R c v := by
  unfold Ch at h
  refine ⟨?_, ?_, ?_, ?_, ?_, ?_, ?_, ?_, ?_⟩ <;> simp [World.cell?, h]

/-- The world with a command written over the block R. -/
def ovr (w : World) (R : Nat) (t : Cmd) (u : Value) : World :=
  ((((((((w.setCell ⟨R, 0, none⟩ (.int .i64 t.kind)).setCell ⟨R, 1, none⟩ (.int .i64 t.id)).setCell ⟨R, 2, none⟩ (.int .i64 t.parent)).setCell ⟨R, 3, none⟩ (.int .i64 t.size)).setCell ⟨R, 4, none⟩ (.int .i64 t.start)).setCell ⟨R, 5, none⟩ (.int .i64 t.count)).setCell ⟨R, 6, none⟩ (.int .i64 t.source)).setCell ⟨R, 7, none⟩ (.int .i64 t.digest)).setCell ⟨R, 8, none⟩ u

theorem Ch.over {w : World} {R : Nat} {c : Cmd} {v : Value} (h : Ch w R c v) (t : Cmd) (u : Value) : Ch (ovr w R t u) R t u := by
  have h0 := heap_setCell_same w R 0 _ 24 (.int .i64 t.kind) h
  have h1 := heap_setCell_same _ R 1 _ 24 (.int .i64 t.id) h0
  have h2 := heap_setCell_same _ R 2 _ 24 (.int .i64 t.parent) h1
  have h3 := heap_setCell_same _ R 3 _ 24 (.int .i64 t.size) h2
  have h4 := heap_setCell_same _ R 4 _ 24 (.int .i64 t.start) h3
  have h5 := heap_setCell_same _ R 5 _ 24 (.int .i64 t.count) h4
  have h6 := heap_setCell_same _ R 6 _ 24 (.int .i64 t.source) h5
  have h7 := heap_setCell_same _ R 7 _ 24 (.int .i64 t.digest) h6
  have h8 := heap_setCell_same _ R 8 _ 24 u h7
  unfold Ch ovr
  simpa using h8

theorem below_ovr {B0 R : Nat} {a w : World} (h : Below B0 a w) (hB : B0 ≤ R) (t : Cmd) (u : Value) : Below B0 a (ovr w R t u) :=
  ((((((((h.setCell hB _).setCell hB _).setCell hB _).setCell hB _).setCell hB _).setCell hB _).setCell hB _).setCell hB _).setCell hB _

end Wk
namespace Go.Proofs.Ytfejabeifabdlaa
open Go.RowKit

theorem ret_cell9 {fn : Func} {tmps : Array Value} {w : World} {R k : Nat} {c : Wk.Cmd} {u v : Value} (hr : fn.results = #[.cell k 24, .tmp (k + 1)]) (hp : tmps.getD k undef = .pointer (some ⟨R, 0, none⟩)) (hv : tmps.getD (k + 1) undef = v) (h : Wk.Cc w R c u) :
    (results fn tmps).run Try.prog w = .ok (.tuple #[cv c u, v]) w := by
  obtain ⟨c0, c1, c2, c3, c4, c5, c6, c7, c8⟩ := h
  rw [results_cell_tmp hr, hp, hv]
  simp [go_sem, c0, c1, c2, c3, c4, c5, c6, c7, c8, cv]

theorem ob_slice {e base : Nat} {w : World} {v : Value} {xs : List Int} (h : Wc.Ob e base w v xs) : ∃ a c, v = .slice a xs.length c := by
  rcases h.1.2 with ⟨hv, h1⟩ | ⟨g, cap, cur, hv, _⟩
  · exact ⟨none, 0, by rw [hv, h1]⟩
  · exact ⟨_, cap, hv⟩

theorem ob_other {e base B : Nat} {w : World} {v : Value} {xs : List Int} (h : Wc.Ob e base w v xs) (hB : B < base) (o : Nat) (u : Value) : Wc.Ob e base (w.setCell ⟨B, o, none⟩ u) v xs := by
  refine ⟨⟨h.1.1, ?_⟩, h.2⟩
  rcases h.1.2 with hn | ⟨g, cap, cur, hv, hbg, hg, rest⟩
  · exact .inl hn
  · refine .inr ⟨g, cap, cur, hv, hbg, ?_, rest⟩
    rw [heap_setCell_other _ _ _ _ (by show g ≠ B; omega)]
    exact hg

theorem ob_ovr {e base R : Nat} {w : World} {v : Value} {xs : List Int} (h : Wc.Ob e base w v xs) (hR : R < base) (t : Wk.Cmd) (u : Value) : Wc.Ob e base (Wk.ovr w R t u) v xs :=
  ob_other (ob_other (ob_other (ob_other (ob_other (ob_other (ob_other (ob_other (ob_other h hR _ _) hR _ _) hR _ _) hR _ _) hR _ _) hR _ _) hR _ _) hR _ _) hR _ _

/-- A part of a slice, up to its end. -/
theorem slice_from (a : Option Addr) (n cap q : Nat) (h : q ≤ n) (h2 : ¬ cap = q) (w : World) :
    (Instr.slice 22 (.slice a n cap) (some (.int .i64 (q : Int))) none none).run Try.prog w = .ok (.slice (a.map (·.add q)) (n - q) (cap - q)) w := by
  have h0 : ((Try.prog.info? 5).map (·.size)) = some 1 := Try.sizeU8
  cases hq : Try.prog.info? 5 with
  | none => rw [hq] at h0; cases h0
  | some i =>
    rw [hq] at h0
    have hi : i.size = 1 := by simpa using h0
    simp [Instr.slice, run_underlying Try.underlying22, Instr.sliceBounds, run_sliceBound, sizeOf, typeInfo, hq, hi, h, h2]

/-- Bytes are put behind memory of the call's own, in a region that draws. -/
theorem step_append_ob {ops : Array Oper} {o : Oper} {a : Act} {w : World} {K : Act → World → Prop} {Q : Exit → Act → World → Prop} {E : Prop} {s x : Operand} {v u : Value} {xs ys : List Int} (base : Nat)
    (hgd : o.guard = none) (ho : o.op = .call { callee := .builtin .append, args := #[s, x], argTypes := #[22, 22] }) (hs : a.eval s = v) (hx : a.eval x = u)
    (hv : Wc.Ob 5 base w v xs) (hu : Wc.Bs w u ys) (hsh : Wc.Shaped u) (hl : xs.length + ys.length ≤ 140737488355328) (hbase : base ≤ w.heap.size)
    (h : ∀ v' w', Wc.Ob 5 base w' v' (xs ++ ys) → Below base w w' → K (a.put o.dst v') w') :
    if Region.wanted o (yielded ops a.tmps) = true then Oper.wp Try.prog o a w K Q else E := by
  obtain ⟨i0, hi, hz0, hz1, hz2⟩ := info_parts Try.infoU8
  obtain ⟨v', w1, hrun, hO, hb1⟩ := Wc.append_run (P := Try.prog) (ty := o.type) Try.underlying22 hi hz0 hz1 hz2 hv hu hsh hl hbase
  have hw : Region.wanted o (yielded ops a.tmps) = true := by simp [Region.wanted, hgd]
  rw [if_pos hw]
  unfold Oper.wp
  simp [execOp, ho, resolve, invoke, builtin, hs, hx, hrun, Result.andThen]
  exact h v' w1 hO hb1

set_option maxHeartbeats 1600000 in
theorem command9_any (k : Int) (b off n cap : Nat) (xs : List Int) (w : World) (hv : Wc.Bs w (.slice (some ⟨b, off, none⟩) n cap) xs) (hcap : n < cap) (hk : Wk.I64 k) :
    Calls Try.prog 29 #[.int .i64 k, .slice (some ⟨b, off, none⟩) n cap] w fun e w' => ∃ a c, e = .returned (.tuple #[cv (Wk.com k xs) (.slice a (Wk.com k xs).data.length c), .bool (Wk.okB k xs)]) ∧ Wc.Ob 5 w.heap.size w' (.slice a (Wk.com k xs).data.length c) (Wk.com k xs).data ∧ Below w.heap.size w w' := by
  have hxl := Wc.bs_len hv
  have hx := Wc.bs_bytes hv
  have hcc := Wc.bs_cap hv
  have hnb : n ≤ 140737488355328 := by obtain ⟨_, m, _, h, _, _, _, h5, _⟩ := hv; cases h; exact h5
  obtain ⟨T, hT⟩ := Int.eq_ofNat_of_zero_le (tot_rng k).1
  have hT24 := (tot_rng k).2
  have HT := Wc.hid hT
  have HSH := Wc.hid (com_short k xs)
  have HLG := Wc.hid (com_long k xs hx T hT)
  have HHD := Wc.hid (fun D => fl_held k xs D hk hx)
  have HF8 := Wc.hid (fl8_rng k xs hx)
  have HFE : Hid (Wk.fill (gotN xs) (Wk.pl k) 0 (Wk.st (Wk.k0 k) 0) = fl k xs) := Wc.hid rfl
  have h4 := Wk.pl_len k
  have HFD := Wc.hid (Wk.pl_fields k)
  rw [hT] at hT24 HSH
  have hT24' : T ≤ 24 := by omega
  clear hT24 hT
  have HV := Wc.hid hv
  have HXL := Wc.hid hxl
  clear hv hx hxl hk
  have HP : Hid (Wk.Pb (((w.alloc (.cells #[.int .i64 0, .int .i64 0, .int .i64 0, .int .i64 0, .int .i64 0, .int .i64 0, .int .i64 0, .int .i64 0, .slice none 0 0] 24)).alloc (.cells #[.int .i64 k, .int .i64 0, .int .i64 0, .int .i64 0, .int .i64 0, .int .i64 0, .int .i64 0, .int .i64 0, .slice none 0 0] 24)).alloc (.cells #[.int .i64 0] 3)) (w.heap.size + 1) (w.heap.size + 2) (Wk.st (Wk.k0 k) 0) (.slice none 0 0)) := Wc.hid (Wk.Pb.newAt (w.alloc (.cells #[.int .i64 0, .int .i64 0, .int .i64 0, .int .i64 0, .int .i64 0, .int .i64 0, .int .i64 0, .int .i64 0, .slice none 0 0] 24)) (Wk.st (Wk.k0 k) 0) (.slice none 0 0) _ _ (by simp) (by simp))
  have HA := Wc.hid ((((Below.refl w.heap.size w).alloc (Nat.le_refl _) (.cells #[.int .i64 0, .int .i64 0, .int .i64 0, .int .i64 0, .int .i64 0, .int .i64 0, .int .i64 0, .int .i64 0, .slice none 0 0] 24)).alloc (by simp) (.cells #[.int .i64 k, .int .i64 0, .int .i64 0, .int .i64 0, .int .i64 0, .int .i64 0, .int .i64 0, .int .i64 0, .slice none 0 0] 24)).alloc (by simp; omega) (.cells #[.int .i64 0] 3))
  have HR : Hid (Wk.Ch (((w.alloc (.cells #[.int .i64 0, .int .i64 0, .int .i64 0, .int .i64 0, .int .i64 0, .int .i64 0, .int .i64 0, .int .i64 0, .slice none 0 0] 24)).alloc (.cells #[.int .i64 k, .int .i64 0, .int .i64 0, .int .i64 0, .int .i64 0, .int .i64 0, .int .i64 0, .int .i64 0, .slice none 0 0] 24)).alloc (.cells #[.int .i64 0] 3)) w.heap.size Wk.c0 (.slice none 0 0)) := Wc.hid (((Wk.Ch.new w Wk.c0 (.slice none 0 0)).keep ((Below.refl _ _).alloc (Nat.le_refl _) _)).keep ((Below.refl _ _).alloc (Nat.le_refl _) _))
  go_enter Try.func29, Try.ntmps29
  go_wp2_with fail
  refine (parts_any _ _ (Wk.st (Wk.k0 k) 0) (.slice none 0 0) _ HP.out).mono ?_
  rintro e w1 ⟨u, rfl, hu, hb1⟩
  have HP1 := Wc.hid (HP.out.keep hb1)
  have HB1 := Wc.hid (Wc.step HA.out (Nat.le_refl _) hb1)
  have HR1 := Wc.hid (HR.out.keep hb1)
  clear hb1 HP HA HR
  have hu' : Wk.Pv w1 u (w.heap.size + 1) (w.heap.size + 2) (Wk.pl k) := hu
  clear hu
  generalize Wk.pl k = L at hu' h4 HFD HFE HT
  obtain ⟨ua, rfl⟩ := hu'.shape
  have HU := Wc.hid hu'
  clear hu'
  generalize hFF : fl k xs = F at HFE HLG HHD HF8
  clear hFF
  generalize Wk.st (Wk.k0 k) 0 = s0 at HP1 HFE
  go_wp2_with fail
  go_loopw [8, 15] (fun at_ i wr => ∃ (j : Nat) (p : Nat) (s : Nat → Int), i = .int .i64 j ∧ j ≤ L.length ∧ at_ = .int .i64 p ∧ p ≤ 8 * j ∧ Hid (Wk.Pb wr (w.heap.size + 1) (w.heap.size + 2) s (.slice none 0 0)) ∧ Hid (Wk.Pv wr (.slice ua L.length L.length) (w.heap.size + 1) (w.heap.size + 2) L) ∧ Hid (Below w.heap.size w wr) ∧ Hid (Wk.Ch wr w.heap.size Wk.c0 (.slice none 0 0)) ∧ Hid (Wk.fill (gotN xs) (L.drop j) p s = F ∧ (p : Int) + Wk.tot (L.drop j) = T)) (fun _ i _ => L.length - (intOf i).toNat)
  case atStart => exact ⟨0, 0, s0, rfl, by omega, rfl, by omega, HP1, HU, HB1, HR1, HFE.out, by simpa using HT.out⟩
  case round =>
    obtain ⟨j, p, s, rfl, hj, rfl, hp8, P, V, Bw, R0, TT⟩ := hrel
    by_cases hlt : j < L.length
    · obtain ⟨fd, hfd⟩ : ∃ fd, (L.getD j (0, 0)).1 = fd := ⟨_, rfl⟩
      obtain ⟨sz, hsz⟩ : ∃ sz, (L.getD j (0, 0)).2 = sz := ⟨_, rfl⟩
      have hm := HFD.out _ (Wk.getD_mem L j hlt)
      rw [hfd, hsz] at hm
      have hf9 : fd < 9 := hm.1
      obtain ⟨z, rfl⟩ : ∃ z : Nat, sz = (z : Int) := hm.2.elim (fun h => ⟨4, h⟩) (fun h => ⟨8, h⟩)
      have hz8 : z ≤ 8 := by rcases hm.2 with h | h <;> omega
      have HTT : Hid (Wk.fill (gotN xs) (L.drop (j + 1)) ((p + z : Nat) : Int) (Wk.upd s fd (gotN xs p z)) = F ∧ ((p + z : Nat) : Int) + Wk.tot (L.drop (j + 1)) = T) := Wc.hid (by
        have := TT.out
        rw [Wk.drop_get L j hlt] at this
        have e : L.getD j (0, 0) = (fd, (z : Int)) := by rw [← hfd, ← hsz]
        rw [e] at this
        refine ⟨?_, ?_⟩
        · rw [← this.1, Int.natCast_add]; rfl
        · rw [← this.2, Int.natCast_add]; simp only [Wk.tot]; omega)
      rcases V.out with ⟨h0, _⟩ | ⟨g, hg, hgl, n1, n2, hcs⟩
      · rw [h0] at hlt; simp at hlt
      · cases hg
        obtain ⟨c1, c2⟩ := hcs j hlt
        rw [hfd] at c1
        rw [hsz] at c2
        have HAL := Wc.hid ((Below.refl wr.heap.size wr).alloc (Nat.le_refl _) (.cells #[.pointer (some (Wk.Adr (w.heap.size + 1) (w.heap.size + 2) fd)), .int .i64 z] 56))
        have P2 := Wc.hid (P.out.keep HAL.out)
        have V2 := Wc.hid (V.out.keep HAL.out)
        have B2 := Wc.hid (Wc.step Bw.out (Nat.le_refl _) HAL.out)
        have R2 := Wc.hid (R0.out.keep HAL.out)
        have hc3 := P2.out.cell hf9
        have hfr := P2.out.frozen fd
        have HV2 := Wc.hid (HV.out.keep (show_drew B2.out))
        have P3 := Wc.hid ((P2.out.set hf9 (gotN xs p z)).keep (show_drew (Below.refl _ _)))
        have V3 := Wc.hid ((V2.out.set fd (.int .i64 (gotN xs p z))).keep (show_drew (Below.refl _ _)))
        have B3 := Wc.hid (show_drew (Wk.below_adr B2.out (Nat.le_succ _) (Nat.le_add_right _ 2) fd (.int .i64 (gotN xs p z))))
        have R3 := Wc.hid ((R2.out.adr (B := w.heap.size + 1) (S := w.heap.size + 2) (by omega) (by omega) fd (.int .i64 (gotN xs p z))).keep (show_drew (Below.refl _ _)))
        have hcz : ((wr.alloc (.cells #[.pointer (some (Wk.Adr (w.heap.size + 1) (w.heap.size + 2) fd)), .int .i64 z] 56)).setCell (Wk.Adr (w.heap.size + 1) (w.heap.size + 2) fd) (.int .i64 (gotN xs p z))).drew.cell? ⟨wr.heap.size, 1, none⟩ = some (.int .i64 z) := by
          have hne : wr.heap.size ≠ (Wk.Adr (w.heap.size + 1) (w.heap.size + 2) fd).block := by
            have := P.out.lt
            have e : (Wk.Adr (w.heap.size + 1) (w.heap.size + 2) fd).block = w.heap.size + 1 ∨ (Wk.Adr (w.heap.size + 1) (w.heap.size + 2) fd).block = w.heap.size + 2 := by
              unfold Wk.Adr
              split
              · exact .inl rfl
              · exact .inr rfl
            omega
          have e : ∀ W : World, (W.setCell (Wk.Adr (w.heap.size + 1) (w.heap.size + 2) fd) (.int .i64 (gotN xs p z))).drew.cell? ⟨wr.heap.size, 1, none⟩ = W.cell? ⟨wr.heap.size, 1, none⟩ := fun W => by
            show (W.setCell _ _).cell? _ = _
            simp only [World.cell?, heap_setCell_other _ _ _ _ hne]
          rw [e, World.cell?_alloc_mark]; rfl
        clear HAL P V Bw P2 V2 B2 R0 R2 TT hcs hfd hsz n1 n2 hgl hm
        generalize Wk.Adr (w.heap.size + 1) (w.heap.size + 2) fd = ad at *
        go_wp2_with fail
        go_region_with (go_at_call 30; refine (get9_any _ xs p z _ (by exact HV2.out)).mono ?_; rintro e w5 ⟨rfl, rfl⟩)
        all_goals go_wp2_with fail
        all_goals
          go_roundw
          case rel => exact ⟨j + 1, p + z, _, by go_num, by omega, by go_num, by omega, P3, V3, B3, R3, HTT⟩
          case measure => simp [intOf]; omega
    · obtain rfl : j = L.length := by omega
      have hT2 := TT.out
      rw [List.drop_eq_nil_of_le (Nat.le_refl _)] at hT2
      obtain rfl : p = T := by have := hT2.2; simp only [Wk.tot] at this; omega
      have hs : s = F := hT2.1
      subst hs
      clear hT2 TT HFE HP1 HU HB1 HR1 V HFD
      by_cases hlong : n < p
      · have HOK := Wc.hid (HSH.out (by rw [HXL.out]; omega))
        have ⟨r0, r1, r2, r3, r4, r5, r6, r7, r8⟩ := R0.out.cc
        have f0 := R0.out.frozen 0
        have f1 := R0.out.frozen 1
        have f2 := R0.out.frozen 2
        have f3 := R0.out.frozen 3
        have f4 := R0.out.frozen 4
        have f5 := R0.out.frozen 5
        have f6 := R0.out.frozen 6
        have f7 := R0.out.frozen 7
        have f8 := R0.out.frozen 8
        go_wp2_with fail
        have hcm := Wk.com_no HOK.out
        exact bodyPost_ret (ret_cell9 rfl rfl rfl (R0.out.over Wk.c0 (.slice none 0 0)).cc) rfl ⟨none, 0, by rw [hcm, HOK.out]; rfl, by rw [hcm]; exact Wc.Ob.nil _ _ _, Wk.below_ovr Bw.out (Nat.le_refl _) Wk.c0 (.slice none 0 0)⟩
      · have k1 : p ≤ n := by omega
        have k2 : ¬ cap = p := by omega
        have hsl := slice_from (some ⟨b, off, none⟩) n cap p k1 k2
        have HS : Hid (Wc.Bs wr.drew (.slice (some ⟨b, off + p, none⟩) (n - p) (cap - p)) (xs.drop p)) := Wc.hid (by
          have := Wc.bs_mid (HV.out.keep (show_drew Bw.out)) p (n - p) (by omega)
          rwa [List.take_of_length_le (by rw [List.length_drop, HXL.out]; omega)] at this)
        have HDL : Hid ((xs.drop p).length = n - p) := Wc.hid (by rw [List.length_drop, HXL.out])
        have HPD := Wc.hid P.out.data
        have c8 := P.out.data
        have f8 := P.out.frozenD 8
        have HPL := Wc.hid P.out.lt
        have hlen0 : ([] : List Int).length + (xs.drop p).length ≤ 140737488355328 := by rw [HDL.out]; simp; omega
        have HL0 := Wc.hid hlen0
        have HLG2 := Wc.hid (HLG.out (by rw [HXL.out]; omega))
        clear hlen0 HLG
        obtain ⟨D, hD⟩ : ∃ D, xs.drop p = D := ⟨_, rfl⟩
        rw [hD] at HS HDL HL0 HLG2
        clear hD
        go_wp2_with fail
        go_region_law (refine step_append_ob wr.heap.size rfl rfl rfl rfl (by exact Wc.Ob.nil 5 wr.heap.size wr.drew) (by exact HS.out) (.inr ⟨_, _, _, rfl⟩) HL0.out (by exact Nat.le_refl _) ?_; intro v6 w6 hO6 hb6; obtain ⟨a6, q6, rfl⟩ := ob_slice hO6; have k5 := P.out.below ((show_drew (Below.refl _ _)).trans hb6) HPL.out.1 HPL.out.2; have k6 := k5.data; have k7 := k5.frozenD 8)
        rw [List.nil_append] at hO6
        have hB6 := Bw.out.trans (((show_drew (Below.refl wr.heap.size wr)).trans hb6).mono Bw.out.size)
        have hRlt := R0.out.lt
        have P7 := Wc.hid (k5.setD (.slice a6 D.length q6))
        have R7 := Wc.hid ((R0.out.below ((show_drew (Below.refl _ _)).trans hb6) hRlt).other (show w.heap.size ≠ w.heap.size + 1 by omega) 8 (.slice a6 D.length q6))
        have B7 := Wc.hid (hB6.setCell (p := ⟨w.heap.size + 1, 8, none⟩) (Nat.le_succ _) (.slice a6 D.length q6))
        have O7 := Wc.hid (ob_other hO6 HPL.out.1 8 (.slice a6 D.length q6))
        have HRL := Wc.hid hRlt
        clear hRlt
        clear hO6 hb6 k5 k6 k7 hB6 c8 f8 hsl
        obtain ⟨W7, hW7⟩ : ∃ W7, w6.setCell ⟨w.heap.size + 1, 8, none⟩ (.slice a6 D.length q6) = W7 := ⟨_, rfl⟩
        rw [hW7] at P7 R7 B7 O7 ⊢
        clear hW7
        have c0 : W7.cell? ⟨w.heap.size + 1, 0, none⟩ = some (.int .i64 (s 0)) := P7.out.cell (f := 0) (by omega)
        have c1 : W7.cell? ⟨w.heap.size + 1, 1, none⟩ = some (.int .i64 (s 1)) := P7.out.cell (f := 1) (by omega)
        have c2 : W7.cell? ⟨w.heap.size + 1, 2, none⟩ = some (.int .i64 (s 2)) := P7.out.cell (f := 2) (by omega)
        have c3 : W7.cell? ⟨w.heap.size + 1, 3, none⟩ = some (.int .i64 (s 3)) := P7.out.cell (f := 3) (by omega)
        have c4 : W7.cell? ⟨w.heap.size + 1, 4, none⟩ = some (.int .i64 (s 4)) := P7.out.cell (f := 4) (by omega)
        have c5 : W7.cell? ⟨w.heap.size + 1, 5, none⟩ = some (.int .i64 (s 5)) := P7.out.cell (f := 5) (by omega)
        have c6 : W7.cell? ⟨w.heap.size + 1, 6, none⟩ = some (.int .i64 (s 6)) := P7.out.cell (f := 6) (by omega)
        have c7 : W7.cell? ⟨w.heap.size + 1, 7, none⟩ = some (.int .i64 (s 7)) := P7.out.cell (f := 7) (by omega)
        have c8 := P7.out.data
        have hf8 := HF8.out
        go_wp2_with fail
        refine (check9_any (Wk.asCmd s D) a6 q6 _ (show D.length ≤ _ by rw [HDL.out]; omega) (HHD.out D)).mono ?_
        rintro e w8 ⟨rfl, hb8⟩
        have P8 := Wc.hid (P7.out.keep hb8)
        have R8 := Wc.hid (R7.out.keep hb8)
        have O8 := Wc.hid (O7.out.keep hb8)
        have B8 := Wc.hid (Wc.step B7.out (Nat.le_refl _) hb8)
        clear hb8 P7 R7 O7 B7 c0 c1 c2 c3 c4 c5 c6 c7 c8
        have c0 : w8.cell? ⟨w.heap.size + 1, 0, none⟩ = some (.int .i64 (s 0)) := P8.out.cell (f := 0) (by omega)
        have c1 : w8.cell? ⟨w.heap.size + 1, 1, none⟩ = some (.int .i64 (s 1)) := P8.out.cell (f := 1) (by omega)
        have c2 : w8.cell? ⟨w.heap.size + 1, 2, none⟩ = some (.int .i64 (s 2)) := P8.out.cell (f := 2) (by omega)
        have c3 : w8.cell? ⟨w.heap.size + 1, 3, none⟩ = some (.int .i64 (s 3)) := P8.out.cell (f := 3) (by omega)
        have c4 : w8.cell? ⟨w.heap.size + 1, 4, none⟩ = some (.int .i64 (s 4)) := P8.out.cell (f := 4) (by omega)
        have c5 : w8.cell? ⟨w.heap.size + 1, 5, none⟩ = some (.int .i64 (s 5)) := P8.out.cell (f := 5) (by omega)
        have c6 : w8.cell? ⟨w.heap.size + 1, 6, none⟩ = some (.int .i64 (s 6)) := P8.out.cell (f := 6) (by omega)
        have c7 : w8.cell? ⟨w.heap.size + 1, 7, none⟩ = some (.int .i64 (s 7)) := P8.out.cell (f := 7) (by omega)
        have c8 := P8.out.data
        have c9 : w8.cell? ⟨w.heap.size + 2, 0, none⟩ = some (.int .i64 (s 8)) := P8.out.cell (f := 8) (by omega)
        have ⟨r0, r1, r2, r3, r4, r5, r6, r7, r8⟩ := R8.out.cc
        have f0 := R8.out.frozen 0
        have f1 := R8.out.frozen 1
        have f2 := R8.out.frozen 2
        have f3 := R8.out.frozen 3
        have f4 := R8.out.frozen 4
        have f5 := R8.out.frozen 5
        have f6 := R8.out.frozen 6
        have f7 := R8.out.frozen 7
        have f8 := R8.out.frozen 8
        cases hcb : Wk.cmdB (Wk.asCmd s D)
        · rw [Wk.cmdE_no hcb]
          have HOK : Hid (Wk.okB k xs = false) := Wc.hid (by
            rw [Bool.eq_false_iff]
            intro h
            have := (HLG2.out.1.2 h).1
            rw [hcb] at this
            exact absurd this (by decide))
          clear hcb
          go_wp2_with fail
          have hcn := Wk.com_no HOK.out
          exact bodyPost_ret (ret_cell9 rfl rfl rfl (R8.out.over Wk.c0 (.slice none 0 0)).cc) rfl ⟨none, 0, by rw [hcn, HOK.out]; rfl, by rw [hcn]; exact Wc.Ob.nil _ _ _, Wk.below_ovr B8.out (Nat.le_refl _) Wk.c0 (.slice none 0 0)⟩
        · rw [Wk.cmdE_yes hcb]
          by_cases hle : (D.length : Int) = s 8 * 64
          · have HOK := Wc.hid (HLG2.out.1.1 ⟨hcb, hle⟩)
            have HRW := Wc.hid (HLG2.out.2 HOK.out)
            have hbn : ((D.length : Int) != s 8 * 64) = false := by simpa using hle
            have HLE := Wc.hid hle
            clear hcb hle
            go_wp2_with fail
            have hcy := Wk.com_yes HOK.out
            rw [← HRW.out] at hcy
            exact bodyPost_ret (ret_cell9 rfl rfl rfl (R8.out.over (Wk.asCmd s D) (.slice a6 D.length q6)).cc) rfl ⟨a6, q6, by rw [hcy, HOK.out]; rfl, by rw [hcy]; exact (ob_ovr O8.out HRL.out (Wk.asCmd s D) (.slice a6 D.length q6)).base Bw.out.size, Wk.below_ovr B8.out (Nat.le_refl _) (Wk.asCmd s D) (.slice a6 D.length q6)⟩
          · have HOK : Hid (Wk.okB k xs = false) := Wc.hid (by
              rw [Bool.eq_false_iff]
              intro h
              exact hle (HLG2.out.1.2 h).2)
            have hbn : ((D.length : Int) != s 8 * 64) = true := by simpa using hle
            have HLE := Wc.hid hle
            clear hcb hle
            go_wp2_with fail
            have hcn := Wk.com_no HOK.out
            exact bodyPost_ret (ret_cell9 rfl rfl rfl (R8.out.over Wk.c0 (.slice none 0 0)).cc) rfl ⟨none, 0, by rw [hcn, HOK.out]; rfl, by rw [hcn]; exact Wc.Ob.nil _ _ _, Wk.below_ovr B8.out (Nat.le_refl _) Wk.c0 (.slice none 0 0)⟩

end Go.Proofs.Ytfejabeifabdlaa
