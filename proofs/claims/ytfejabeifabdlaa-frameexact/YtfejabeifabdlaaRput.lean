/-
  What record.put, record.get and the page's Get8 return.
-/
import Derived.Test.YtfejabeifabdlaaRrec
import Derived.Test.YtfejabeifabdlaaNblk
namespace Go.Proofs.Ytfejabeifabdlaa
open Go.RowKit

theorem fit8i {n : Int} (h : 0 ≤ n ∧ n ≤ 4611686018427387903) : Wc.fitB n 8 = true := (Wc.fitB_iff (by decide)).2 ⟨h.1, h.2, by rw [show (8 : Int).toNat = 8 from rfl]; omega⟩

/-- What record.get tells: what is refused is -1. -/
def gotN (xs : List Int) (p s : Int) : Int := if (Wc.getR xs p s).2 = 0 then (Wc.getR xs p s).1 else -1

set_option maxHeartbeats 400000 in
theorem refGet8_any (b off n cap m : Nat) (xs : List Int) (w : World) (hv : Wc.Bs w (.slice (some ⟨b, off, none⟩) n cap) xs) (h4 : m + 8 ≤ n) (hcap : n ≤ cap) (hcap2 : cap ≤ 9223372036854775807) :
    Calls Try.prog 46 #[.slice (some ⟨b, off, none⟩) n cap, .int .i64 m] w fun e w' => e = .returned (.tuple #[.int .i64 (numR ((xs.drop m).take 8)).1, .bool (numR ((xs.drop m).take 8)).2]) ∧ w = w' := by
  have HV := Wc.hid hv
  clear hv
  go_enter Try.func46, Try.ntmps46
  go_wp2_with fail
  refine (refNumber_any _ _ _ (Wc.bs_mid HV.out m 8 (by omega))).mono ?_
  rintro e w2 ⟨rfl, rfl⟩
  go_wp2_with fail
  go_ret2
  exact ⟨rfl, rfl⟩

theorem got4_num (xs : List Int) (p : Nat) (hl : xs.length = 64) (hp : p + 4 ≤ 64) (hx : ∀ x ∈ xs, 0 ≤ x ∧ x < 256) : gotN xs (p : Int) 4 = Ws.num xs p 4 := by
  have e : ((xs.drop p).take 4).length = 4 := by simp; omega
  have hb := Wc.val_bd ((xs.drop p).take 4) (fun x h => hx x (List.mem_of_mem_drop (List.mem_of_mem_take h)))
  rw [e] at hb
  unfold gotN
  rw [Wc.getR_ok xs p 4 (Ws.num xs p 4) (by decide) (Wc.inB_iff.2 (by omega)) rfl (by unfold Ws.num; omega)]
  rfl

theorem got8_num (xs : List Int) (p : Nat) (hl : xs.length = 64) (hp : p + 8 ≤ 64) : gotN xs (p : Int) 8 = Wr.g8 (Ws.num xs p 8) := by
  have hi : Wc.inB xs.length (p : Int) 8 = true := Wc.inB_iff.2 (by omega)
  unfold gotN Wc.getR Wr.g8
  rw [hi, show Wc.rsB 8 = true from rfl]
  simp only [Bool.true_eq_false, if_false, Int.toNat_natCast]
  show (if (if Ws.num xs p 8 ≤ 4611686018427387903 then (Ws.num xs p 8, (0 : Int)) else (0, 1)).2 = 0 then (if Ws.num xs p 8 ≤ 4611686018427387903 then (Ws.num xs p 8, (0 : Int)) else (0, 1)).1 else -1) = _
  by_cases h : Ws.num xs p 8 ≤ 4611686018427387903
  · rw [if_pos h, if_pos h]; rfl
  · rw [if_neg h, if_neg h]; rfl

theorem num8 (xs : List Int) (p : Nat) : (numR ((xs.drop p).take 8)).1 = Wr.h8 (Ws.num xs p 8) ∧ (numR ((xs.drop p).take 8)).2 = Wr.i8 (Ws.num xs p 8) := by
  unfold Wr.h8 Wr.i8
  show (if Ws.num xs p 8 ≤ 4611686018427387903 then (Ws.num xs p 8, true) else (0, false)).1 = _ ∧ (if Ws.num xs p 8 ≤ 4611686018427387903 then (Ws.num xs p 8, true) else ((0 : Int), false)).2 = _
  by_cases h : Ws.num xs p 8 ≤ 4611686018427387903
  · rw [if_pos h, if_pos h]; exact ⟨rfl, by simp [h]⟩
  · rw [if_neg h, if_neg h]; exact ⟨rfl, by simp [h]⟩

end Go.Proofs.Ytfejabeifabdlaa
