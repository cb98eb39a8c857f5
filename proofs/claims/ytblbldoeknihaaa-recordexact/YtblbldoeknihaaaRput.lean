/-
  What record.put, record.get and the page's Get8 return.
-/
import Derived.Test.YtblbldoeknihaaaRrec
import Derived.Test.YtblbldoeknihaaaNblk
namespace Go.Proofs.Ytblbldoeknihaaa
open Go.RowKit

set_option maxHeartbeats 400000 in
theorem put8_row (b off n cap : Nat) (xs : List Int) (p s m : Int) (w : World) (hs : Wc.rsB s = true) (hf : Wc.fitB m s = true) (hp : Wc.inB n p s = true) (hn : n ≤ 140737488355328) (hl : xs.length = n) (hb : b < w.heap.size)
   (hc : ∀ i, i < n → w.cell? ⟨b, off + i, none⟩ = some (.int .u8 (xs.getD i 0))) :
    Calls Try.prog 15 #[.slice (some ⟨b, off, none⟩) n cap, .int .i64 p, .int .i64 s, .int .i64 m] w fun e w' => ∃ g, e = .returned (.slice (some ⟨g, 0, none⟩) n n) ∧ w.heap.size ≤ g ∧ w'.rowIs g 5 n (fun j => .int .u8 ((Wc.putL xs p.toNat s.toNat m).getD j 0)) ∧ Below w.heap.size w w' := by
  have HC := Wc.hid hc
  clear hc
  go_enter Try.func15, Try.ntmps15
  go_wp2_with fail
  refine (put_row b off n cap xs p s m w hs hf hp hn hl hb HC.out).mono ?_
  rintro e w' ⟨g, rfl, hg, hr, hb⟩
  go_wp2
  go_ret
  exact ⟨g, rfl, hg, hr, hb⟩

set_option maxHeartbeats 400000 in
theorem put8_lay (g : Nat) (xs ys : List Int) (p t m : Int) (w : World) (hl : xs.length = 64) (hs : Wc.rsB t = true) (hf : Wc.fitB m t = true) (hp : Wc.inB 64 p t = true) (hr : Rb w g xs) (he : Wc.putL xs p.toNat t.toNat m = ys) :
    Calls Try.prog 15 #[.slice (some ⟨g, 0, none⟩) 64 64, .int .i64 p, .int .i64 t, .int .i64 m] w fun e w' => ∃ g', e = .returned (.slice (some ⟨g', 0, none⟩) 64 64) ∧ w.heap.size ≤ g' ∧ Rb w' g' ys ∧ Below w.heap.size w w' := by
  refine (put8_row g 0 64 64 xs p t m w hs hf hp (by omega) hl hr.lt (fun i hi => by rw [Nat.zero_add]; exact hr.cell hi)).mono ?_
  rintro e w' ⟨g', rfl, hg, hr', hb⟩
  rw [he] at hr'
  exact ⟨g', rfl, hg, hr', hb⟩

theorem fit8i {n : Int} (h : 0 ≤ n ∧ n ≤ 4611686018427387903) : Wc.fitB n 8 = true := (Wc.fitB_iff (by decide)).2 ⟨h.1, h.2, by rw [show (8 : Int).toNat = 8 from rfl]; omega⟩

/-- What record.get tells: what is refused is -1. -/
def gotN (xs : List Int) (p s : Int) : Int := if (Wc.getR xs p s).2 = 0 then (Wc.getR xs p s).1 else -1

set_option maxHeartbeats 400000 in
theorem get8_any (v : Value) (xs : List Int) (p s : Int) (w : World) (hv : Wc.Bs w v xs) :
    Calls Try.prog 18 #[v, .int .i64 p, .int .i64 s] w fun e w' => e = .returned (.int .i64 (gotN xs p s)) ∧ w = w' := by
  have HV := Wc.hid hv
  clear hv
  unfold gotN
  by_cases h : (Wc.getR xs p s).2 = 0
  · rw [if_pos h]
    have H := Wc.hid h
    clear h
    go_enter Try.func18, Try.ntmps18
    go_wp2_with fail
    refine (get_any v xs p s _ HV.out).mono ?_
    rintro e w' ⟨rfl, rfl⟩
    rw [H.out]
    go_wp2
    go_ret
    exact ⟨rfl, rfl⟩
  · rw [if_neg h]
    have H := Wc.hid h
    clear h
    go_enter Try.func18, Try.ntmps18
    go_wp2_with fail
    refine (get_any v xs p s _ HV.out).mono ?_
    rintro e w' ⟨rfl, rfl⟩
    generalize (Wc.getR xs p s).2 = q at H ⊢
    have hq : (q != 0) = true := by simpa using H.out
    go_wp2
    go_ret
    exact ⟨rfl, rfl⟩

set_option maxHeartbeats 400000 in
theorem refGet8_any (b off n cap m : Nat) (xs : List Int) (w : World) (hv : Wc.Bs w (.slice (some ⟨b, off, none⟩) n cap) xs) (h4 : m + 8 ≤ n) (hcap : n ≤ cap) (hcap2 : cap ≤ 9223372036854775807) :
    Calls Try.prog 21 #[.slice (some ⟨b, off, none⟩) n cap, .int .i64 m] w fun e w' => e = .returned (.tuple #[.int .i64 (numR ((xs.drop m).take 8)).1, .bool (numR ((xs.drop m).take 8)).2]) ∧ w = w' := by
  have HV := Wc.hid hv
  clear hv
  go_enter Try.func21, Try.ntmps21
  go_wp2_with fail
  refine (refNumber_any _ _ _ (Wc.bs_mid HV.out m 8 (by omega))).mono ?_
  rintro e w2 ⟨rfl, rfl⟩
  go_wp2_with fail
  go_ret2
  exact ⟨rfl, rfl⟩

theorem got4_num (xs : List Int) (p : Nat) (hl : xs.length = 64) (hp : p + 4 ≤ 64) (hx : ∀ x ∈ xs, 0 ≤ x ∧ x < 256) : gotN xs (p : Int) 4 = Ws.num xs p 4 := by
  have e : ((xs.drop p).take 4).length = 4 := by simp; omega
  have hb := Wc.val_bd ((xs.drop p).take 4) (fun x h => hx x (List.mem_of_mem_drop (List.mem_of_mem_take h)))
  rw [e] at hb
  unfold gotN
  rw [Wc.getR_ok xs p 4 (Ws.num xs p 4) (by decide) (Wc.inB_iff.2 (by omega)) rfl (by unfold Ws.num; omega)]
  rfl

theorem got8_num (xs : List Int) (p : Nat) (hl : xs.length = 64) (hp : p + 8 ≤ 64) : gotN xs (p : Int) 8 = Wr.g8 (Ws.num xs p 8) := by
  have hi : Wc.inB xs.length (p : Int) 8 = true := Wc.inB_iff.2 (by omega)
  unfold gotN Wc.getR Wr.g8
  rw [hi, show Wc.rsB 8 = true from rfl]
  simp only [Bool.true_eq_false, if_false, Int.toNat_natCast]
  show (if (if Ws.num xs p 8 ≤ 4611686018427387903 then (Ws.num xs p 8, (0 : Int)) else (0, 1)).2 = 0 then (if Ws.num xs p 8 ≤ 4611686018427387903 then (Ws.num xs p 8, (0 : Int)) else (0, 1)).1 else -1) = _
  by_cases h : Ws.num xs p 8 ≤ 4611686018427387903
  · rw [if_pos h, if_pos h]; rfl
  · rw [if_neg h, if_neg h]; rfl

theorem num8 (xs : List Int) (p : Nat) : (numR ((xs.drop p).take 8)).1 = Wr.h8 (Ws.num xs p 8) ∧ (numR ((xs.drop p).take 8)).2 = Wr.i8 (Ws.num xs p 8) := by
  unfold Wr.h8 Wr.i8
  show (if Ws.num xs p 8 ≤ 4611686018427387903 then (Ws.num xs p 8, true) else (0, false)).1 = _ ∧ (if Ws.num xs p 8 ≤ 4611686018427387903 then (Ws.num xs p 8, true) else ((0 : Int), false)).2 = _
  by_cases h : Ws.num xs p 8 ≤ 4611686018427387903
  · rw [if_pos h, if_pos h]; exact ⟨rfl, by simp [h]⟩
  · rw [if_neg h, if_neg h]; exact ⟨rfl, by simp [h]⟩

end Go.Proofs.Ytblbldoeknihaaa
