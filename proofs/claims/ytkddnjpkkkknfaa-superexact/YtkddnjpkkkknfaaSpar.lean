/-
  What super.Parse returns, for all bytes.
-/
import Derived.Test.YtkddnjpkkkknfaaSbyt
import Derived.Laws.ResultCell
namespace Go.Proofs.Ytkddnjpkkkknfaa
open Go.RowKit

/-- The block B is a superblock's own cells. -/
def Sh (w : World) (B : Nat) (s : Ws.Sup) : Prop := w.heap[B]? = some (.cells #[.int .i64 s.gen, .int .i64 s.blocks, .int .i64 s.root, .int .i64 s.size, .int .i64 s.first] 23 (0, 0))

theorem Sh.new (w : World) (s : Ws.Sup) : Sh (w.alloc (.cells #[.int .i64 s.gen, .int .i64 s.blocks, .int .i64 s.root, .int .i64 s.size, .int .i64 s.first] 23)) w.heap.size s := by
  show (w.heap.push _)[w.heap.size]? = _; simp

theorem Sh.lt {w : World} {B : Nat} {s : Ws.Sup} (h : Sh w B s) : B < w.heap.size := (Array.getElem?_eq_some_iff.1 h).1

theorem Sh.keep {w w' : World} {B : Nat} {s : Ws.Sup} (h : Sh w B s) (hb : Below w.heap.size w w') : Sh w' B s := by
  unfold Sh
  rw [hb.block B h.lt]; exact h

theorem Sh.sc {w : World} {B : Nat} {s : Ws.Sup} (h : Sh w B s) : Sc w B s := by
  unfold Sh at h
  refine ⟨?_, ?_, ?_, ?_, ?_⟩ <;> simp [World.cell?, h]

theorem Sh.frozen {w : World} {B : Nat} {s : Ws.Sup} (h : Sh w B s) (i : Nat) : w.frozen? ⟨B, i, none⟩ = false := by
  unfold Sh at h
  simp [World.frozen?, h]

/-- A superblock written over another one. -/
theorem Sh.set {w : World} {B : Nat} {s : Ws.Sup} (h : Sh w B s) (t : Ws.Sup) :
    Sh (((((w.setCell ⟨B, 0, none⟩ (.int .i64 t.gen)).setCell ⟨B, 1, none⟩ (.int .i64 t.blocks)).setCell ⟨B, 2, none⟩ (.int .i64 t.root)).setCell ⟨B, 3, none⟩ (.int .i64 t.size)).setCell ⟨B, 4, none⟩ (.int .i64 t.first)) B t := by
  have h1 := heap_setCell_same w B 0 _ 23 (.int .i64 t.gen) h
  have h2 := heap_setCell_same _ B 1 _ 23 (.int .i64 t.blocks) h1
  have h3 := heap_setCell_same _ B 2 _ 23 (.int .i64 t.root) h2
  have h4 := heap_setCell_same _ B 3 _ 23 (.int .i64 t.size) h3
  have h5 := heap_setCell_same _ B 4 _ 23 (.int .i64 t.first) h4
  unfold Sh
  simpa using h5

theorem below5 {B0 B : Nat} {a w : World} (h : Below B0 a w) (hB : B0 ≤ B) (t : Ws.Sup) :
    Below B0 a (((((w.setCell ⟨B, 0, none⟩ (.int .i64 t.gen)).setCell ⟨B, 1, none⟩ (.int .i64 t.blocks)).setCell ⟨B, 2, none⟩ (.int .i64 t.root)).setCell ⟨B, 3, none⟩ (.int .i64 t.size)).setCell ⟨B, 4, none⟩ (.int .i64 t.first)) :=
  ((((h.setCell hB _).setCell hB _).setCell hB _).setCell hB _).setCell hB _

/-- The first bytes as a text. -/
def txt (xs : List Int) : ByteArray := ⟨((xs.take 4).map fun x => x.toNat.toUInt8).toArray⟩

theorem ret_cell {fn : Func} {tmps : Array Value} {w : World} {B : Nat} {s : Ws.Sup} {v : Value} (hr : fn.results = #[.cell 2 23, .tmp 3]) (hp : tmps.getD 2 undef = .pointer (some ⟨B, 0, none⟩)) (hv : tmps.getD 3 undef = v) (h : Sc w B s) :
    (results fn tmps).run Try.prog w = .ok (.tuple #[sv s, v]) w := by
  obtain ⟨c0, c1, c2, c3, c4⟩ := h
  rw [results_cell_tmp hr, hp, hv]
  simp [go_sem, c0, c1, c2, c3, c4, sv]

set_option maxHeartbeats 1600000 in
theorem parse_len (a : Option Addr) (n cap : Nat) (w : World) (hl : ¬ n = 64) :
    Calls Try.prog 10 #[.slice a n cap] w fun e w' => e = .returned (.tuple #[sv Ws.s0, .int .i64 2]) ∧ Below w.heap.size w w' := by
  have hb : (((n : Int) != 64) = true) := by simp; omega
  clear hl
  go_enter Try.func10, Try.ntmps10
  go_wp2_with fail
  refine bodyPost_ret (ret_cell rfl rfl rfl (Sc.new w Ws.s0 23)) rfl ⟨rfl, (Below.refl w.heap.size w).alloc (Nat.le_refl _) _⟩

theorem get4_num (xs : List Int) (p : Nat) (hl : xs.length = 64) (hp : p + 4 ≤ 64) (hx : ∀ x ∈ xs, 0 ≤ x ∧ x < 256) : (Wc.getR xs (p : Int) 4).1 = Ws.num xs p 4 := by
  have e : ((xs.drop p).take 4).length = 4 := by simp; omega
  have hb := Wc.val_bd ((xs.drop p).take 4) (fun x h => hx x (List.mem_of_mem_drop (List.mem_of_mem_take h)))
  rw [e] at hb
  rw [Wc.getR_ok xs p 4 (Ws.num xs p 4) (by decide) (Wc.inB_iff.2 (by omega)) rfl (by unfold Ws.num; omega)]

/-- The superblock that Parse puts together: a Gen that is too great is got as 0. -/
def got (xs : List Int) : Ws.Sup := ⟨(Wc.getR xs 4 8).1, Ws.num xs 12 4, Ws.num xs 16 4, Ws.num xs 20 4, Ws.num xs 24 4⟩

theorem got_gen (xs : List Int) (hl : xs.length = 64) : (Wc.getR xs 4 8).1 = if Ws.num xs 4 8 ≤ 4611686018427387903 then Ws.num xs 4 8 else 0 := by
  have hi : Wc.inB xs.length 4 8 = true := Wc.inB_iff.2 (by omega)
  unfold Wc.getR
  rw [hi, show Wc.rsB 8 = true from rfl]
  simp only [Bool.true_eq_false, if_false]
  show (if Ws.num xs 4 8 ≤ 4611686018427387903 then (Ws.num xs 4 8, (0 : Int)) else (0, 1)).1 = _
  split <;> rfl

theorem got_sup (xs : List Int) (hl : xs.length = 64) : Ws.supB (got xs) = Ws.supB (Ws.parS xs) ∧ (Ws.supB (Ws.parS xs) = true → got xs = Ws.parS xs) := by
  have hg := got_gen xs hl
  by_cases h : Ws.num xs 4 8 ≤ 4611686018427387903
  · rw [if_pos h] at hg
    have e : got xs = Ws.parS xs := by unfold got Ws.parS; rw [hg]
    exact ⟨by rw [e], fun _ => e⟩
  · rw [if_neg h] at hg
    have h1 : Ws.supB (got xs) = false := by
      rw [Bool.eq_false_iff]; intro hh
      have := (Ws.supB_iff.1 hh).1
      simp only [got, hg] at this; omega
    have h2 : Ws.supB (Ws.parS xs) = false := by
      rw [Bool.eq_false_iff]; intro hh
      have := (Ws.supB_iff.1 hh).1
      simp only [Ws.parS] at this; omega
    rw [h1, h2]
    exact ⟨rfl, fun h => by cases h⟩

set_option maxHeartbeats 1600000 in
theorem parse_name (b off cap : Nat) (S : ByteArray) (w : World) (hc : 64 ≤ cap) (hc2 : cap ≤ 9223372036854775807)
   (hcv : (convert 24 9 (.slice (some ⟨b, off, none⟩) 4 cap)).run Try.prog (w.alloc (.cells #[.int .i64 0, .int .i64 0, .int .i64 0, .int .i64 0, .int .i64 0] 23)) = .ok (.string S) (w.alloc (.cells #[.int .i64 0, .int .i64 0, .int .i64 0, .int .i64 0, .int .i64 0] 23)))
   (hS : (S.toList == [87, 67, 85, 84]) = false) :
    Calls Try.prog 10 #[.slice (some ⟨b, off, none⟩) 64 cap] w fun e w' => e = .returned (.tuple #[sv Ws.s0, .int .i64 4]) ∧ Below w.heap.size w w' := by
  go_enter Try.func10, Try.ntmps10
  go_wp2_with fail
  exact bodyPost_ret (ret_cell rfl rfl rfl (Sc.new w Ws.s0 23)) rfl ⟨rfl, (Below.refl w.heap.size w).alloc (Nat.le_refl _) _⟩

set_option maxHeartbeats 1600000 in
theorem parse_sum (b off cap : Nat) (xs : List Int) (S : ByteArray) (w : World) (hv : Wc.Bs w (.slice (some ⟨b, off, none⟩) 64 cap) xs) (hc : 64 ≤ cap) (hc2 : cap ≤ 9223372036854775807)
   (hcv : (convert 24 9 (.slice (some ⟨b, off, none⟩) 4 cap)).run Try.prog (w.alloc (.cells #[.int .i64 0, .int .i64 0, .int .i64 0, .int .i64 0, .int .i64 0] 23)) = .ok (.string S) (w.alloc (.cells #[.int .i64 0, .int .i64 0, .int .i64 0, .int .i64 0, .int .i64 0] 23)))
   (hS : (S.toList == [87, 67, 85, 84]) = true) (hg : Wc.goodB xs = false) :
    Calls Try.prog 10 #[.slice (some ⟨b, off, none⟩) 64 cap] w fun e w' => e = .returned (.tuple #[sv Ws.s0, .int .i64 5]) ∧ Below w.heap.size w w' := by
  have HV := Wc.hid (hv.alloc (.cells #[.int .i64 0, .int .i64 0, .int .i64 0, .int .i64 0, .int .i64 0] 23))
  clear hv
  go_enter Try.func10, Try.ntmps10
  go_wp2_with fail
  refine (good_any _ xs _ HV.out).mono ?_
  rintro e w1 ⟨rfl, rfl⟩
  rw [hg]
  go_wp2_with fail
  exact bodyPost_ret (ret_cell rfl rfl rfl (Sc.new w Ws.s0 23)) rfl ⟨rfl, (Below.refl w.heap.size w).alloc (Nat.le_refl _) _⟩

set_option maxHeartbeats 1600000 in
theorem parse_nums (b off cap : Nat) (xs : List Int) (S : ByteArray) (w : World) (hv : Wc.Bs w (.slice (some ⟨b, off, none⟩) 64 cap) xs) (hc : 64 ≤ cap) (hc2 : cap ≤ 9223372036854775807)
   (hcv : (convert 24 9 (.slice (some ⟨b, off, none⟩) 4 cap)).run Try.prog (w.alloc (.cells #[.int .i64 0, .int .i64 0, .int .i64 0, .int .i64 0, .int .i64 0] 23)) = .ok (.string S) (w.alloc (.cells #[.int .i64 0, .int .i64 0, .int .i64 0, .int .i64 0, .int .i64 0] 23)))
   (hS : (S.toList == [87, 67, 85, 84]) = true) (hnm : xs.take 4 = Ws.name) (hg : Wc.goodB xs = true) :
    Calls Try.prog 10 #[.slice (some ⟨b, off, none⟩) 64 cap] w fun e w' => e = .returned (.tuple #[sv (Ws.par xs), .int .i64 (Ws.parE xs)]) ∧ Below w.heap.size w w' := by
  have HV := Wc.hid (hv.alloc (.cells #[.int .i64 0, .int .i64 0, .int .i64 0, .int .i64 0, .int .i64 0] 23))
  have hxl := Wc.bs_len hv
  have hxb := Wc.bs_bytes hv
  have HG := Wc.hid (got_sup xs hxl)
  have g0 : Hid ((Wc.getR xs 4 8).1 = (got xs).gen) := Wc.hid rfl
  have g1 : Hid ((Wc.getR xs 12 4).1 = (got xs).blocks) := Wc.hid (get4_num xs 12 hxl (by omega) hxb)
  have g2 : Hid ((Wc.getR xs 16 4).1 = (got xs).root) := Wc.hid (get4_num xs 16 hxl (by omega) hxb)
  have g3 : Hid ((Wc.getR xs 20 4).1 = (got xs).size) := Wc.hid (get4_num xs 20 hxl (by omega) hxb)
  have g4 : Hid ((Wc.getR xs 24 4).1 = (got xs).first) := Wc.hid (get4_num xs 24 hxl (by omega) hxb)
  have HGD := Wc.hid hg
  have HNM := Wc.hid hnm
  clear hnm
  have HXL := Wc.hid hxl
  clear hv hxl hxb
  go_enter Try.func10, Try.ntmps10
  go_wp2_with fail
  refine (good_any _ xs _ HV.out).mono ?_
  rintro e w1 ⟨rfl, rfl⟩
  rw [HGD.out]
  clear hg hcv
  go_wp2_with (go_at_call 24; refine (get6_any _ xs _ _ _ HV.out).mono ?_; rintro e w' ⟨rfl, rfl⟩)
  rw [g0.out, g1.out, g2.out, g3.out, g4.out]
  clear g0 g1 g2 g3 g4
  generalize got xs = t at HG ⊢
  refine (check6_any t _).mono ?_
  rintro e w2 ⟨rfl, hb2⟩
  have A0 := Wc.hid (((Sh.new w Ws.s0).keep ((Below.refl _ _).alloc (Nat.le_refl _) _)).keep hb2)
  have A1 := Wc.hid (((Sh.new (w.alloc (.cells #[.int .i64 0, .int .i64 0, .int .i64 0, .int .i64 0, .int .i64 0] 23)) t)).keep hb2)
  have HB2 := Wc.hid (Wc.step (((Below.refl w.heap.size w).alloc (Nat.le_refl _) (.cells #[.int .i64 0, .int .i64 0, .int .i64 0, .int .i64 0, .int .i64 0] 23)).alloc (by simp) (.cells #[.int .i64 t.gen, .int .i64 t.blocks, .int .i64 t.root, .int .i64 t.size, .int .i64 t.first] 23)) (Nat.le_refl _) hb2)
  have HV2 := Wc.hid ((HV.out.alloc _).keep hb2)
  clear hb2
  have ⟨c0, c1, c2, c3, c4⟩ := A0.out.sc
  have f0 := A0.out.frozen 0
  have f1 := A0.out.frozen 1
  have f2 := A0.out.frozen 2
  have f3 := A0.out.frozen 3
  have f4 := A0.out.frozen 4
  cases ht : Ws.supB t
  · rw [supE_no ht]
    have HT := Wc.hid ht
    clear ht
    go_wp2_with fail
    have hp := Ws.par_arg HXL.out HNM.out HGD.out (by rw [← HG.out.1, HT.out]; rfl)
    rw [hp.1, hp.2]
    exact bodyPost_ret (ret_cell rfl rfl rfl (A0.out.set Ws.s0).sc) rfl ⟨rfl, below5 HB2.out (Nat.le_refl _) Ws.s0⟩
  · rw [supE_yes ht]
    have HT := Wc.hid ht
    clear ht
    have A1' : Hid (Sh w2 (w.heap.size + 1) t) := Wc.hid (by have := A1.out; simpa using this)
    have ⟨d0, d1, d2, d3, d4⟩ := A1'.out.sc
    go_wp2_with fail
    refine (zeros_any _ xs 28 60 _ HV2.out (by omega)).mono ?_
    rintro e w3 ⟨rfl, rfl⟩
    cases hz : Wc.zerosB xs 28 60
    · have hp := Wc.hid (Ws.par_arg HXL.out HNM.out HGD.out (by rw [hz, Bool.and_false]))
      clear hz
      go_wp2_with fail
      rw [hp.out.1, hp.out.2]
      exact bodyPost_ret (ret_cell rfl rfl rfl (A0.out.set Ws.s0).sc) rfl ⟨rfl, below5 HB2.out (Nat.le_refl _) Ws.s0⟩
    · have hp := Wc.hid (Ws.par_ok HXL.out HNM.out HGD.out (by rw [hz, ← HG.out.1, HT.out]; rfl))
      have HTP := Wc.hid (HG.out.2 (by rw [← HG.out.1]; exact HT.out))
      clear hz
      go_wp2_with fail
      rw [hp.out.1, hp.out.2, ← HTP.out]
      exact bodyPost_ret (ret_cell rfl rfl rfl (A0.out.set t).sc) rfl ⟨rfl, below5 HB2.out (Nat.le_refl _) t⟩

theorem ofNat_toNat {x : Int} (h : 0 ≤ x ∧ x < 256) : (x.toNat.toUInt8.toNat : Int) = x := by
  have : x.toNat.toUInt8.toNat = x.toNat := by
    rw [Nat.toUInt8, UInt8.toNat_ofNat']
    omega
  rw [this]; omega

/-- string(b[:4]). -/
theorem convert_txt {w : World} {b off n cap : Nat} {xs : List Int} (hv : Wc.Bs w (.slice (some ⟨b, off, none⟩) n cap) xs) (hn : 4 ≤ n) :
    (convert 24 9 (.slice (some ⟨b, off, none⟩) 4 cap)).run Try.prog w = .ok (.string (txt xs)) w := by
  obtain ⟨hl, hc⟩ := Wc.bs_cells hv (by omega)
  have hb := Wc.bs_bytes hv
  have h4 : ((xs.take 4).map fun x => x.toNat.toUInt8).length = 4 := by simp; omega
  have := run_convert_bytes_back (P := Try.prog) w 24 9 5 ⟨b, off, none⟩ cap ((xs.take 4).map fun x => x.toNat.toUInt8) Try.underlying24 Try.underlying5 Try.underlying9 (by
    intro j hj
    rw [h4] at hj
    rw [Wc.add_none, hc j (by omega)]
    have hjl : j < xs.length := by omega
    have e : ((xs.take 4).map fun x => x.toNat.toUInt8)[j] = (xs[j]).toNat.toUInt8 := by simp
    rw [e, ofNat_toNat (hb _ (List.getElem_mem _))]
    simp [hjl])
  rw [h4] at this
  exact this

theorem u8_eq {x : Int} (h : 0 ≤ x ∧ x < 256) (k : UInt8) : x.toNat.toUInt8 = k ↔ x = (k.toNat : Int) := by
  have := ofNat_toNat h
  constructor
  · rintro rfl; exact this.symm
  · intro e
    apply UInt8.toNat_inj.1
    omega

theorem txt_is (xs : List Int) (hl : 4 ≤ xs.length) (hx : ∀ x ∈ xs, 0 ≤ x ∧ x < 256) : ((txt xs).toList == [87, 67, 85, 84]) = true ↔ xs.take 4 = Ws.name := by
  rw [beq_iff_eq, ByteArray.toList_eq]
  match xs, hl with
  | x0 :: x1 :: x2 :: x3 :: r, _ =>
    have h0 := u8_eq (hx x0 (by simp)) 87
    have h1 := u8_eq (hx x1 (by simp)) 67
    have h2 := u8_eq (hx x2 (by simp)) 85
    have h3 := u8_eq (hx x3 (by simp)) 84
    have e0 : ((87 : UInt8).toNat : Int) = 87 := rfl
    have e1 : ((67 : UInt8).toNat : Int) = 67 := rfl
    have e2 : ((85 : UInt8).toNat : Int) = 85 := rfl
    have e3 : ((84 : UInt8).toNat : Int) = 84 := rfl
    rw [e0] at h0
    rw [e1] at h1
    rw [e2] at h2
    rw [e3] at h3
    simp only [txt, Ws.name, List.take_succ_cons, List.take_zero, List.map_cons, List.map_nil, List.cons.injEq, and_true, h0, h1, h2, h3]

theorem txt_no (xs : List Int) (hl : 4 ≤ xs.length) (hx : ∀ x ∈ xs, 0 ≤ x ∧ x < 256) (h : ¬ xs.take 4 = Ws.name) : ((txt xs).toList == [87, 67, 85, 84]) = false := by
  rw [Bool.eq_false_iff]
  exact fun e => h ((txt_is xs hl hx).1 e)

theorem parse_any (v : Value) (xs : List Int) (w : World) (hv : Wc.Bs w v xs) :
    Calls Try.prog 10 #[v] w fun e w' => e = .returned (.tuple #[sv (Ws.par xs), .int .i64 (Ws.parE xs)]) ∧ Below w.heap.size w w' := by
  have hxb := Wc.bs_bytes hv
  by_cases hl : xs.length = 64
  · rcases hv.open with ⟨rfl, _⟩ | ⟨b, off, n, cap, rfl, h0, hn, hc, hc2, _⟩
    · simp at hl
    · obtain rfl : n = 64 := by omega
      have hcv := convert_txt (hv.alloc (.cells #[.int .i64 0, .int .i64 0, .int .i64 0, .int .i64 0, .int .i64 0] 23)) (by omega)
      by_cases hnm : xs.take 4 = Ws.name
      · have hS := (txt_is xs (by omega) hxb).2 hnm
        cases hg : Wc.goodB xs
        · have := Ws.par_sum hl hnm hg
          rw [this.1, this.2]
          exact parse_sum b off cap xs _ w hv hc hc2 hcv hS hg
        · exact parse_nums b off cap xs _ w hv hc hc2 hcv hS hnm hg
      · have := Ws.par_name hl hnm
        rw [this.1, this.2]
        exact parse_name b off cap _ w hc hc2 hcv (txt_no xs (by omega) hxb hnm)
  · have := Ws.par_len hl
    rw [this.1, this.2]
    obtain ⟨a, n, cap, rfl, hn, -⟩ := hv
    exact parse_len a n cap w (by omega)

end Go.Proofs.Ytkddnjpkkkknfaa
