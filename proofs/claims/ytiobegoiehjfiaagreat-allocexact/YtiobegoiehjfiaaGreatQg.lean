/-
  What open.New and open.Find, keep.Records and keep.State return, for every input.
-/
import Derived.Test.YtiobegoiehjfiaaGreatQf
import Derived.Test.YtiobegoiehjfiaaGreatJI
import Derived.Test.YtiobegoiehjfiaaGreatJF
import Derived.Test.YtiobegoiehjfiaaGreatJC
namespace Wi
open Wt
/-- A new image's superblock, a new image. -/
def newS (m : Nat) : Ws.Sup := ⟨1, m, 0, 0, 0⟩
def newI (m : Nat) : List Int := Wd.lay (List.replicate (m * 64) 0) 0 (Ws.blk (newS m))
theorem newS_ok {m : Nat} (h : 4 ≤ m) (h2 : m ≤ 4096) : Ws.supB (newS m) = true := by
  have h3 : (4 : Int) ≤ m := by omega
  have h4 : (m : Int) ≤ 4096 := by omega
  rw [Ws.supB_iff]
  exact ⟨⟨show (1 : Int) ≤ 1 by decide, show (1 : Int) ≤ 1099511627776 by decide⟩, ⟨h3, h4⟩, ⟨show (0 : Int) ≤ 0 by decide, show (0 : Int) ≤ 512 by decide⟩, .inl rfl, .inl rfl⟩
theorem newI_length {m : Nat} (h : 4 ≤ m) : (newI m).length = m * 64 := by
  unfold newI
  rw [Wd.lay_length _ _ _ (by rw [Ws.blk_length, List.length_replicate]; omega), List.length_replicate]
theorem newI_bytes (m : Nat) : ∀ x ∈ newI m, 0 ≤ x ∧ x < 256 := Wd.lay_bytes (fun x hx => by rw [List.eq_of_mem_replicate hx]; decide) (Ws.blk_bd _)
theorem newI_form {m : Nat} : newI m = Ws.blk (newS m) ++ List.replicate (m * 64 - 64) 0 := by
  unfold newI Wd.lay
  rw [List.take_zero, List.nil_append, Nat.zero_add, Ws.blk_length, List.drop_replicate]
theorem newI_zero (m : Nat) : (newI m).take 64 = Ws.blk (newS m) := by
  rw [newI_form, List.take_append_of_le_length (by rw [Ws.blk_length]; omega), List.take_of_length_le (by rw [Ws.blk_length]; omega)]
theorem newI_rest {m : Nat} (h : 4 ≤ m) : ((newI m).drop 64).take 64 = List.replicate 64 0 := by
  rw [newI_form, List.drop_append, Ws.blk_length, List.drop_eq_nil_of_le (by rw [Ws.blk_length]; omega), List.nil_append, Nat.sub_self, List.drop_zero, List.take_replicate]
  congr 1
  omega
end Wi
namespace Go.Proofs.YtiobegoiehjfiaaGreat
open Go.RowKit

theorem zeros_slot2 (n : Int) : Ws.slotS n (List.replicate 64 0) = Ws.s0 := by
  refine Ws.slot_no ?_
  rintro ⟨h, -⟩
  have : Ws.parE (List.replicate 64 0) = 4 := by decide
  rw [this] at h; cases h
theorem new_pick {m : Nat} (h : 4 ≤ m) (h2 : m ≤ 4096) : pickA (Wi.newI m) = (Wi.newS m, 0, 0) := by
  have hl := Wi.newI_length h
  have hb := Ws.par_blk (Wi.newS_ok h h2)
  unfold pickA
  rw [if_pos (by rw [hl]; exact Wt.devB_b h h2)]
  unfold Ws.pickR
  rw [Wi.newI_zero, Wi.newI_rest h, zeros_slot2, hl, Nat.mul_div_cancel _ (by omega), (Ws.slot_yes (b := Ws.blk (Wi.newS m)) ⟨hb.1, by rw [hb.2]; rfl⟩).1, hb.2]
  rfl
theorem sz_zero {xs : List Int} (hd : Wd.devB xs.length = true) (U : Nat → Int) (z : Int) : Wi.trB xs U (0, z) = true := by
  have ht : Wt.tre xs 0 = some Wt.s0 := by simp [Wt.tre]
  have h3 := Wt.tre_some hd ht
  unfold Wi.trB Wi.szB
  rw [ht, h3.2.1, h3.2.2, Wi.s0_nodes, Wi.s0_sec]
  have h1 : ((List.replicate 512 (0 : Int)).drop z.toNat).all (· == 0) = true := by
    rw [List.all_eq_true]; intro x hx
    rw [List.eq_of_mem_replicate (List.mem_of_mem_drop hx)]; rfl
  have h2 : Wi.okT (Wi.upT U 2 []) 3 ((List.replicate 512 0).take z.toNat) = true := Wi.okT_iff.2 fun p hp h0 => absurd (List.eq_of_mem_replicate (List.mem_of_mem_take hp)) h0
  simp only [h1, h2]
  rfl
theorem opn_recs {xs : List Int} {s : Ws.Sup} {t : Int} {b : List Int} (hp : pickA xs = (s, t, 0)) (hr : Wi.recs xs s.first = some b) (hs : Wi.sndB xs s b = true) : opnE xs = 0 ∧ opnS xs = s ∧ opnT xs = t ∧ opnB xs = b := by
  have hE : opnE xs = 0 := by
    unfold opnE
    simp only [hp, hr, hs]
    rfl
  have hg := opn_good hE
  rw [hp] at hg
  refine ⟨hE, hg.2.1, hg.2.2.1, ?_⟩
  have := hg.2.2.2.1
  simp only at this
  rw [hr] at this
  cases this; rfl
theorem new_open {m : Nat} (h : 4 ≤ m) (h2 : m ≤ 4096) : opnE (Wi.newI m) = 0 ∧ opnS (Wi.newI m) = Wi.newS m ∧ opnT (Wi.newI m) = 0 ∧ opnB (Wi.newI m) = [] := by
  refine opn_recs (new_pick h h2) (Wi.chn_zero _ _ _) ?_
  show (Wi.trB _ _ _ && true) = true
  rw [Bool.and_true]
  exact sz_zero (by rw [Wi.newI_length h]; exact Wt.devB_b h h2) _ _
theorem zeros_open {n : Nat} (h : 4 ≤ n) (h2 : n ≤ 4096) (k : Nat) (hk : n * 64 = k) : opnE (List.replicate k 0) = 8 := by
  subst hk
  have : pickA (List.replicate (n * 64) 0) = (Ws.s0, 0, 8) := by
    unfold pickA
    rw [if_pos (by rw [List.length_replicate]; exact Wt.devB_b h h2)]
    unfold Ws.pickR
    rw [List.take_replicate, List.drop_replicate, List.take_replicate, Nat.min_eq_left (by omega), Nat.min_eq_left (by omega), zeros_slot2]
    rfl
  unfold opnE
  rw [this]
  rfl

set_option maxHeartbeats 1600000 in
theorem new_no (z : Int) (w : World) (h : ¬ (4 ≤ z ∧ z ≤ 4096)) : Calls Tryz.prog 28 #[.int .i64 z] w fun e w' => e = .returned (.tuple #[.slice none 0 0, .int .i64 2]) ∧ w = w' := by
  by_cases h4 : z < 4
  · go_enter Tryz.func28, Tryz.ntmps28
    go_wp2_with fail
    go_ret2
    exact ⟨rfl, rfl⟩
  · have h5 : 4096 < z := by omega
    clear h
    go_enter Tryz.func28, Tryz.ntmps28
    go_wp2_with fail
    go_ret2
    exact ⟨rfl, rfl⟩

set_option maxHeartbeats 1600000 in
theorem new_yes (m N : Nat) (w : World) (h : 4 ≤ m) (h2 : m ≤ 4096) (hN : m * 64 = N) :
    Calls Tryz.prog 28 #[.int .i64 (m : Int)] w fun e w' => ∃ g, e = .returned (.tuple #[.slice (some ⟨g, 0, none⟩) N N, .int .i64 0]) ∧ w.heap.size ≤ g ∧ Wc.Ob 5 w.heap.size w' (.slice (some ⟨g, 0, none⟩) N N) (Wi.newI m) ∧ Below w.heap.size w w' := by
  have eN : (m : Int) * 64 = (N : Int) := by omega
  have hN1 : 64 ≤ N := by omega
  have hN2 : N ≤ 262144 := by omega
  have hmk := makeN N (by omega)
  have HN := Wc.hid hN
  clear hN
  go_enter Tryz.func28, Tryz.ntmps28
  go_wp2_with fail
  refine (bytes6_ok (Wi.newS m) _ (Wi.newS_ok h h2)).mono ?_
  rintro e w1 ⟨g1, rfl, hg1, hR1, hb1⟩
  have bA : Below w1.heap.size w1 (w1.alloc (.cells (madeCells #[.int .u8 0] N) 5)) := (Below.refl _ _).alloc (Nat.le_refl _) _
  have hS1 := (hR1.bs (Ws.blk_length _) (Ws.blk_bd _)).keep bA
  have hO1 := (made_ob N (by omega) w1).base hb1.size
  obtain ⟨w2, hrun, hO2, hb2, -⟩ := Wd.copy_run (P := Tryz.prog) (ty := 3) (k := 0) Tryz.underlying23 Tryz.sizeU8 hO1 hS1 (by rw [Ws.blk_length]; omega)
  rw [Nat.sub_zero] at hrun
  have HB2 := Wc.hid ((Wc.step hb1 (Nat.le_refl _) bA).trans hb2)
  have HO2 := Wc.hid hO2
  have HG := Wc.hid hb1.size
  clear hR1 hb1 bA hS1 hO1 hO2 hb2
  go_wp2_with fail
  go_ret2
  refine ⟨_, rfl, HG.out, ?_, HB2.out⟩
  have := HO2.out
  rw [← HN.out] at this ⊢
  exact this

end Go.Proofs.YtiobegoiehjfiaaGreat
