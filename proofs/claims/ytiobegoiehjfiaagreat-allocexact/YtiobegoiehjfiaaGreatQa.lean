/-
  What open.read, open.snapshots and open.fits return, for every input.
-/
import Derived.Test.YtiobegoiehjfiaaGreatQr
import Derived.Test.YtiobegoiehjfiaaGreatQm
import Derived.Test.YtiobegoiehjfiaaGreatJG
namespace Wi
/-- What read tells. -/
def recGot (xs : List Int) (p : Int) : Wr.Rec := if recOk xs p = true then recAt xs p else Wr.r0
theorem any_snoc {l : List Wr.Rec} {k : Nat} (f : Wr.Rec → Bool) (h : k < l.length) : (l.take (k + 1)).any f = ((l.take k).any f || f (l.getD k Wr.r0)) := by
  have : l.take (k + 1) = l.take k ++ [l.getD k Wr.r0] := by rw [List.take_add_one]; simp [h]
  rw [this]; simp
theorem any_take {l : List Wr.Rec} {k : Nat} (f : Wr.Rec → Bool) (h : k < l.length) (hp : f (l.getD k Wr.r0) = true) : l.any f = true := by
  rw [List.any_eq_true]
  exact ⟨l.getD k Wr.r0, by simp [h], hp⟩
theorem whN_take {l : List Wr.Rec} {k : Nat} (h : k < l.length) : whN (l.take (k + 1)) = whN (l.take k) + (if (l.getD k Wr.r0).kind = 0 then 1 else 0) := by
  have : l.take (k + 1) = l.take k ++ [l.getD k Wr.r0] := by rw [List.take_add_one]; simp [h]
  rw [this, whN_snoc]
end Wi
namespace Go.Proofs.YtiobegoiehjfiaaGreat
open Go.RowKit

theorem ret_cell41 {fn : Func} {tmps : Array Value} {w : World} {B : Nat} {s : Wr.Rec} {v : Value} (hr : fn.results = #[.cell 4 63, .tmp 5]) (hp : tmps.getD 4 undef = .pointer (some ⟨B, 0, none⟩)) (hv : tmps.getD 5 undef = v) (h : Rc w B s) :
    (results fn tmps).run Tryz.prog w = .ok (.tuple #[rv s, v]) w := by
  obtain ⟨c0, c1, c2, c3, c4, c5, c6, c7⟩ := h
  rw [results_cell_tmp hr, hp, hv]
  simp [go_sem, c0, c1, c2, c3, c4, c5, c6, c7, rv]

set_option maxHeartbeats 1600000 in
theorem oread_any (v : Value) (p : Int) (xs : List Int) (w : World) (hv : Wc.Bs w v xs) :
    Calls Tryz.prog 57 #[v, .int .i64 p] w fun e w' => e = .returned (.tuple #[rv (Wi.recGot xs p), .bool (Wi.recOk xs p)]) ∧ Below w.heap.size w w' := by
  obtain ⟨ai, ni, ci, rfl, -⟩ := id hv
  have H0 := Wc.hid (hv.alloc (.cells #[.int .i64 0, .int .i64 0, .int .i64 0, .int .i64 0, .int .i64 0, .int .i64 0, .int .i64 0, .int .i64 0] 63))
  clear hv
  have C0 := Wc.hid (Rh.new w Wr.r0)
  by_cases hp : p < 2
  · have ⟨c0, c1, c2, c3, c4, c5, c6, c7⟩ := C0.out.rc
    have hf := C0.out.frozen
    go_enter Tryz.func57, Tryz.ntmps57
    go_wp2_with fail
    have e1 : Wi.recOk xs p = false := by unfold Wi.recOk; simp; omega
    exact bodyPost_ret (ret_cell41 rfl rfl rfl C0.out.rc) rfl ⟨by unfold Wi.recGot; rw [e1]; rfl, (Below.refl w.heap.size w).alloc (Nat.le_refl _) _⟩
  by_cases hz : Wd.rdE xs.length p = 0
  · have HZ := Wc.hid hz
    have HP := Wc.hid hp
    clear hz
    go_enter Tryz.func57, Tryz.ntmps57
    go_wp2_with fail
    refine (read_any ai ni ci p xs _ H0.out).mono ?_
    rintro e w1 ⟨ax, cx, rfl, hv1, hb1⟩
    rw [HZ.out]
    clear hp
    go_wp2_with fail
    refine (parse8_any _ _ _ hv1).mono ?_
    rintro e w2 ⟨rfl, hb2⟩
    obtain ⟨n, hn⟩ : ∃ n, Wr.par (Wd.rdR xs p) = n := ⟨_, rfl⟩
    obtain ⟨E, hE⟩ : ∃ E, Wr.parE (Wd.rdR xs p) = E := ⟨_, rfl⟩
    rw [hn, hE]
    have HG : Hid (n = Wi.recGot xs p) := Wc.hid (by
      unfold Wi.recGot
      by_cases e : Wi.recOk xs p = true
      · rw [if_pos e, Wi.recAt, hn]
      · rw [if_neg e, ← hn, Wr.par, if_neg]
        intro h
        exact e (Wi.recOk_iff.2 ⟨by have := HP.out; omega, h⟩))
    have HE : Hid ((E == 0) = Wi.recOk xs p) := Wc.hid (by
      rw [← hE, Wi.recOk]
      have := HP.out
      simp; omega)
    clear hn hE
    unfold rv
    have C2 := Wc.hid (((C0.out.keep hb1).keep hb2).keep ((Below.refl _ _).alloc (Nat.le_refl _) (.cells #[.int .i64 n.next, .int .i64 n.id, .int .i64 n.parent, .int .i64 n.root, .int .i64 n.size, .int .i64 n.kind, .int .i64 n.frames, .int .i64 n.digest] 63)))
    have ⟨d0, d1, d2, d3, d4, d5, d6, d7⟩ := (Rh.new w2 n).rc
    have ⟨c0, c1, c2, c3, c4, c5, c6, c7⟩ := C2.out.rc
    have hf := C2.out.frozen
    have HB := Wc.hid ((Wc.step (Wc.step ((Below.refl w.heap.size w).alloc (Nat.le_refl _) _) (Nat.le_refl _) hb1) (Nat.le_refl _) hb2))
    clear hb1 hb2 hv1
    go_wp2_with fail
    have H9 := C2.out.over n
    exact bodyPost_ret (ret_cell41 rfl rfl rfl H9.rc) rfl ⟨by rw [← HG.out, ← HE.out]; rfl, below8 (HB.out.alloc HB.out.size _) (Nat.le_refl _) n⟩
  · have e1 := rd_fail hz
    have e2 : Wi.recOk xs p = false := by unfold Wi.recOk; rw [e1, Wi.parE_nil]; simp
    have HZ := Wc.hid hz
    obtain ⟨E, hE⟩ : ∃ E, Wd.rdE xs.length p = E := ⟨_, rfl⟩
    rw [hE] at hz
    have hz' : (E != 0) = true := by simpa using hz
    have HE := Wc.hid hE
    clear hE hz
    go_enter Tryz.func57, Tryz.ntmps57
    go_wp2_with fail
    refine (read_any ai ni ci p xs _ H0.out).mono ?_
    rintro e w1 ⟨ax, cx, rfl, hv1, hb1⟩
    rw [HE.out]
    have C2 := Wc.hid (C0.out.keep hb1)
    have ⟨c0, c1, c2, c3, c4, c5, c6, c7⟩ := C2.out.rc
    have hf := C2.out.frozen
    have HB := Wc.hid (Wc.step ((Below.refl w.heap.size w).alloc (Nat.le_refl _) _) (Nat.le_refl _) hb1)
    clear hb1 hv1
    go_wp2_with fail
    have H9 := C2.out.over Wr.r0
    exact bodyPost_ret (ret_cell41 rfl rfl rfl H9.rc) rfl ⟨by unfold Wi.recGot; rw [e2]; rfl, below8 HB.out (Nat.le_refl _) Wr.r0⟩

set_option maxHeartbeats 800000 in
theorem fitclos_any (P1 : Nat) (a r : Wr.Rec) (w : World) (h : Rh w P1 r) :
    Calls Tryz.prog 72 #[rv a, .pointer (some ⟨P1, 0, none⟩)] w fun e w' => e = .returned (.bool (a.id == r.id)) ∧ Below w.heap.size w w' := by
  have b1 : Below w.heap.size w (w.alloc (.cells #[.int .i64 a.next, .int .i64 a.id, .int .i64 a.parent, .int .i64 a.root, .int .i64 a.size, .int .i64 a.kind, .int .i64 a.frames, .int .i64 a.digest] 63)) := (Below.refl _ _).alloc (Nat.le_refl _) _
  have ⟨d0, d1, d2, d3, d4, d5, d6, d7⟩ := (Rh.new w a).rc
  have ⟨c0, c1, c2, c3, c4, c5, c6, c7⟩ := (h.keep b1).rc
  have HB := Wc.hid b1
  clear b1 h
  unfold rv
  go_enter Tryz.func72, Tryz.ntmps72
  go_wp2_with fail
  go_ret
  exact ⟨rfl, HB.out⟩

set_option maxHeartbeats 1600000 in
theorem indexr_any (a : Option Addr) (n cap P1 : Nat) (l : List Wr.Rec) (r : Wr.Rec) (w : World) (hl : Wi.Rs w (.slice a n cap) l) (hr : Rh w P1 r) :
    Calls Tryz.prog 92 #[.slice a n cap, .func (.func 72) #[] #[.pointer (some ⟨P1, 0, none⟩)]] w fun e w' => ∃ z : Int, e = .returned (.int .i64 z) ∧ decide (0 ≤ z) = Wi.hasB l r.id ∧ Below w.heap.size w w' := by
  obtain ⟨a', n', cap', h1, hl, hcap, hcap2, hln, hpos⟩ := hl
  cases h1
  have HP := Wc.hid hpos
  have HL := Wc.hid hl
  have HR := Wc.hid hr
  clear hpos hl hr
  go_enter Tryz.func92, Tryz.ntmps92
  go_wp2_with fail
  go_loopw [8] (fun i wr => ∃ k : Nat, i = .int .i64 k ∧ k ≤ n ∧ Hid (Below w.heap.size w wr) ∧ Hid ((l.take k).any (fun a => a.id == r.id) = false)) (fun i _ => n - (intOf i).toNat)
  case atStart => exact ⟨0, rfl, by omega, Wc.hid (Below.refl _ _), Wc.hid (by simp)⟩
  case round =>
    obtain ⟨k, rfl, hk, RB, RZ⟩ := hrel
    by_cases hlt : k < n
    · obtain ⟨b, off, rfl, hblt, hcs⟩ := HP.out (by omega)
      have hx := (hcs k hlt).keep RB.out
      have hkl : k < l.length := by rw [HL.out]; exact hlt
      have HS := Wc.hid (Wi.any_snoc (fun a => a.id == r.id) hkl)
      have HT := Wc.hid (Wi.any_take (l := l) (fun a => a.id == r.id) hkl)
      obtain ⟨x, hxe⟩ : ∃ x, l.getD k Wr.r0 = x := ⟨_, rfl⟩
      rw [hxe] at hx HS HT
      have ⟨c0, c1, c2, c3, c4, c5, c6, c7⟩ := hx
      clear hcs hx hkl hxe
      cases hp : (x.id == r.id)
      · have HPp := Wc.hid hp
        clear hp
        go_wp2_with fail
        refine (fitclos_any P1 x r wr (HR.out.keep RB.out)).mono ?_
        rintro e w1 ⟨rfl, hb1⟩
        rw [HPp.out]
        have HB := Wc.hid (Wc.step RB.out (Nat.le_refl _) hb1)
        clear hb1
        go_wp2_with fail
        go_roundw
        case rel => exact ⟨k + 1, by go_num, by omega, HB, Wc.hid (by rw [HS.out, RZ.out]; simpa using HPp.out)⟩
        case measure => simp [intOf]; omega
      · have HPp := Wc.hid hp
        clear hp
        go_wp2_with fail
        refine (fitclos_any P1 x r wr (HR.out.keep RB.out)).mono ?_
        rintro e w1 ⟨rfl, hb1⟩
        rw [HPp.out]
        have HB := Wc.hid (Wc.step RB.out (Nat.le_refl _) hb1)
        clear hb1
        go_wp2_with fail
        go_ret
        refine ⟨_, rfl, ?_, HB.out⟩
        have := HT.out HPp.out
        unfold Wi.hasB
        rw [this]; simp
    · go_wp2_with fail
      go_ret
      refine ⟨_, rfl, ?_, RB.out⟩
      have := RZ.out
      rw [List.take_of_length_le (by rw [HL.out]; omega)] at this
      unfold Wi.hasB
      rw [this]; rfl

set_option maxHeartbeats 800000 in
theorem containsr_any (a : Option Addr) (n cap P1 : Nat) (l : List Wr.Rec) (r : Wr.Rec) (w : World) (hl : Wi.Rs w (.slice a n cap) l) (hr : Rh w P1 r) :
    Calls Tryz.prog 71 #[.slice a n cap, .func (.func 72) #[] #[.pointer (some ⟨P1, 0, none⟩)]] w fun e w' => e = .returned (.bool (Wi.hasB l r.id)) ∧ Below w.heap.size w w' := by
  have HI := Wc.hid (indexr_any a n cap P1 l r w hl hr)
  clear hl hr
  go_enter Tryz.func71, Tryz.ntmps71
  go_wp2_with fail
  refine HI.out.mono ?_
  rintro e w1 ⟨z, rfl, hz, hb⟩
  have HZ := Wc.hid hz
  have HB := Wc.hid hb
  clear hz hb
  go_wp2_with fail
  go_ret
  exact ⟨ret_bool (by rw [← HZ.out]), HB.out⟩

set_option maxHeartbeats 1600000 in
theorem snapshots_any (a : Option Addr) (n cap : Nat) (l : List Wr.Rec) (w : World) (hl : Wi.Rs w (.slice a n cap) l) :
    Calls Tryz.prog 73 #[.slice a n cap] w fun e w' => e = .returned (.int .i64 (Wi.whN l : Nat)) ∧ Below w.heap.size w w' := by
  obtain ⟨a', n', cap', h1, hl, hcap, hcap2, hln, hpos⟩ := hl
  cases h1
  have HP := Wc.hid hpos
  have HL := Wc.hid hl
  clear hpos hl
  go_enter Tryz.func73, Tryz.ntmps73
  go_wp2_with fail
  go_loopw [3, 8] (fun z i wr => ∃ k m : Nat, i = .int .i64 k ∧ z = .int .i64 m ∧ k ≤ n ∧ m ≤ k ∧ Hid (Below w.heap.size w wr) ∧ Hid (Wi.whN (l.take k) = m)) (fun _ i _ => n - (intOf i).toNat)
  case atStart => exact ⟨0, 0, rfl, rfl, by omega, by omega, Wc.hid (Below.refl _ _), Wc.hid (by simp [Wi.whN])⟩
  case round =>
    obtain ⟨k, m, rfl, rfl, hk, hm, RB, RZ⟩ := hrel
    by_cases hlt : k < n
    · obtain ⟨b, off, rfl, hblt, hcs⟩ := HP.out (by omega)
      have hx := (hcs k hlt).keep RB.out
      have hkl : k < l.length := by rw [HL.out]; exact hlt
      have HS := Wc.hid (Wi.whN_take hkl)
      obtain ⟨x, hxe⟩ : ∃ x, l.getD k Wr.r0 = x := ⟨_, rfl⟩
      rw [hxe] at hx HS
      have ⟨c0, c1, c2, c3, c4, c5, c6, c7⟩ := hx
      have ⟨d0, d1, d2, d3, d4, d5, d6, d7⟩ := (Rh.new wr x).rc
      have HB := Wc.hid (RB.out.alloc RB.out.size (.cells #[.int .i64 x.next, .int .i64 x.id, .int .i64 x.parent, .int .i64 x.root, .int .i64 x.size, .int .i64 x.kind, .int .i64 x.frames, .int .i64 x.digest] 63))
      clear hcs hx hkl hxe
      by_cases hk0 : x.kind = 0
      · have hkb : (x.kind == 0) = true := by simpa using hk0
        have HS1 : Hid (Wi.whN (l.take (k + 1)) = m + 1) := Wc.hid (by rw [HS.out, RZ.out, if_pos hk0])
        clear hk0
        go_wp2_with fail
        go_roundw
        case rel => exact ⟨k + 1, m + 1, by go_num, by go_num, by omega, by omega, HB, HS1⟩
        case measure => simp [intOf]; omega
      · have hkb : (x.kind == 0) = false := by simpa using hk0
        have HS1 : Hid (Wi.whN (l.take (k + 1)) = m) := Wc.hid (by rw [HS.out, RZ.out, if_neg hk0]; rfl)
        clear hk0
        go_wp2_with fail
        go_roundw
        case rel => exact ⟨k + 1, m, by go_num, rfl, by omega, by omega, HB, HS1⟩
        case measure => simp [intOf]; omega
    · go_wp2_with fail
      go_ret
      have := RZ.out
      rw [List.take_of_length_le (by rw [HL.out]; omega)] at this
      exact ⟨by rw [this]; rfl, RB.out⟩

set_option maxHeartbeats 1600000 in
theorem ofits_any (a : Option Addr) (n cap : Nat) (l : List Wr.Rec) (r : Wr.Rec) (w : World) (hl : Wi.Rs w (.slice a n cap) l) :
    Calls Tryz.prog 58 #[rv r, .slice a n cap] w fun e w' => e = .returned (.bool (Wi.fitsB r l)) ∧ Below w.heap.size w w' := by
  have hln := Wi.rs_len hl
  have b1 : Below w.heap.size w (w.alloc (.cells #[.int .i64 r.next, .int .i64 r.id, .int .i64 r.parent, .int .i64 r.root, .int .i64 r.size, .int .i64 r.kind, .int .i64 r.frames, .int .i64 r.digest] 63)) := (Below.refl _ _).alloc (Nat.le_refl _) _
  have HV := Wc.hid (hl.keep b1)
  have HR := Wc.hid (Rh.new w r)
  have HB := Wc.hid b1
  have HL := Wc.hid hln
  have hmf : ∀ (fn : Fn) (first cap : Array Value) (w : World), (Instr.makeFunc fn first cap).run Tryz.prog w = .ok (.func fn first cap) w := fun _ _ _ _ => rfl
  clear b1 hl hln
  unfold rv
  obtain ⟨h, hh⟩ : ∃ h, Wi.hasB l r.id = h := ⟨_, rfl⟩
  have HH := Wc.hid hh
  clear hh
  go_enter Tryz.func58, Tryz.ntmps58
  go_wp2_with fail
  refine (containsr_any a n cap _ l r _ HV.out HR.out).mono ?_
  rintro e w1 ⟨rfl, hb1⟩
  rw [HH.out]
  have ⟨c0, c1, c2, c3, c4, c5, c6, c7⟩ := (HR.out.keep hb1).rc
  have HB1 := Wc.hid (Wc.step HB.out (Nat.le_refl _) hb1)
  have HV1 := Wc.hid (HV.out.keep hb1)
  clear hb1
  cases h
  · by_cases hk : r.kind = 1
    · have hkb : (r.kind == 1) = true := by simpa using hk
      have HK := Wc.hid hk
      clear hk
      go_wp2_with fail
      go_ret
      refine ⟨ret_bool ?_, HB1.out⟩
      unfold Wi.fitsB
      rw [HH.out, if_pos HK.out, HL.out, Bool.eq_iff_iff]
      simp
    · have hkb : (r.kind == 1) = false := by simpa using hk
      have HK := Wc.hid hk
      clear hk
      go_wp2_with fail
      refine (snapshots_any a n cap l _ HV1.out).mono ?_
      rintro e w2 ⟨rfl, hb2⟩
      have HB2 := Wc.hid (Wc.step HB1.out (Nat.le_refl _) hb2)
      clear hb2
      obtain ⟨m, hm⟩ : ∃ m, Wi.whN l = m := ⟨_, rfl⟩
      rw [hm]
      have HM := Wc.hid hm
      clear hm
      go_wp2_with fail
      go_ret
      refine ⟨ret_bool ?_, HB2.out⟩
      unfold Wi.fitsB
      rw [HH.out, if_neg HK.out, HM.out, Bool.eq_iff_iff]
      simp
      omega
  · go_wp2_with fail
    go_ret
    refine ⟨ret_bool ?_, HB1.out⟩
    unfold Wi.fitsB
    rw [HH.out]; rfl

end Go.Proofs.YtiobegoiehjfiaaGreat
