/-
  What frame.extent returns, for all bytes.
-/
import Derived.Test.YtfejabeifabdlaaFbyt
namespace Go.Proofs.Ytfejabeifabdlaa
open Go.RowKit

theorem got4_gen (xs : List Int) (p : Nat) (hp : p + 4 ≤ xs.length) (hx : ∀ x ∈ xs, 0 ≤ x ∧ x < 256) : gotN xs (p : Int) 4 = Ws.num xs p 4 := by
  have hb := Wk.num4_bd xs p hx
  unfold gotN
  rw [Wc.getR_ok xs p 4 (Ws.num xs p 4) (by decide) (Wc.inB_iff.2 (by omega)) rfl (by omega)]
  rfl

/-- The first m bytes as a text. -/
def txtN (m : Nat) (xs : List Int) : ByteArray := ⟨((xs.take m).map fun x => x.toNat.toUInt8).toArray⟩

theorem convert_txtN {w : World} {b off n cap m : Nat} {xs : List Int} (hv : Wc.Bs w (.slice (some ⟨b, off, none⟩) n cap) xs) (h0 : 0 < n) (hn : m ≤ n) :
    (convert 22 9 (.slice (some ⟨b, off, none⟩) m cap)).run Try.prog w = .ok (.string (txtN m xs)) w := by
  obtain ⟨hl, hc⟩ := Wc.bs_cells hv h0
  have hb := Wc.bs_bytes hv
  have h4 : ((xs.take m).map fun x => x.toNat.toUInt8).length = m := by simp; omega
  have := run_convert_bytes_back (P := Try.prog) w 22 9 5 ⟨b, off, none⟩ cap ((xs.take m).map fun x => x.toNat.toUInt8) Try.underlying22 Try.underlying5 Try.underlying9 (by
    intro j hj
    rw [h4] at hj
    rw [Wc.add_none, hc j (by omega)]
    have hjl : j < xs.length := by omega
    have e : ((xs.take m).map fun x => x.toNat.toUInt8)[j] = (xs[j]).toNat.toUInt8 := by simp
    rw [e, ofNat_toNat (hb _ (List.getElem_mem _))]
    simp [hjl])
  rw [h4] at this
  exact this

theorem conv0 (a : Option Addr) (cap : Nat) (w : World) : (convert 22 9 (.slice a 0 cap)).run Try.prog w = .ok (.string ⟨#[]⟩) w := by
  cases a with
  | none => simp [go_sem, convert, Conv.bytesToString]; rfl
  | some ad => exact run_convert_bytes_back (P := Try.prog) w 22 9 5 ad cap [] Try.underlying22 Try.underlying5 Try.underlying9 (by simp)

theorem txt_name1 (xs : List Int) (hl : 1 ≤ xs.length) (hx : ∀ x ∈ xs, 0 ≤ x ∧ x < 256) : ((txtN 1 xs).toList == ((⟨#[70, 82, 65, 77]⟩ : ByteArray).extract 0 1).toList) = decide (xs.take 1 = Wk.name.take 1) := by
  have e : ((⟨#[70, 82, 65, 77]⟩ : ByteArray).extract 0 1).toList = [70] := by decide +kernel
  rw [e, Bool.eq_iff_iff, beq_iff_eq, decide_eq_true_eq, ByteArray.toList_eq]
  match xs, hl with
  | x0 :: r, _ =>
    have h0 := u8_eq (hx x0 (by simp)) 70
    rw [show ((70 : UInt8).toNat : Int) = 70 from rfl] at h0
    simp only [txtN, Wk.name, List.take_succ_cons, List.take_zero, List.map_cons, List.map_nil, List.cons.injEq, and_true, h0]

theorem txt_name2 (xs : List Int) (hl : 2 ≤ xs.length) (hx : ∀ x ∈ xs, 0 ≤ x ∧ x < 256) : ((txtN 2 xs).toList == ((⟨#[70, 82, 65, 77]⟩ : ByteArray).extract 0 2).toList) = decide (xs.take 2 = Wk.name.take 2) := by
  have e : ((⟨#[70, 82, 65, 77]⟩ : ByteArray).extract 0 2).toList = [70, 82] := by decide +kernel
  rw [e, Bool.eq_iff_iff, beq_iff_eq, decide_eq_true_eq, ByteArray.toList_eq]
  match xs, hl with
  | x0 :: x1 :: r, _ =>
    have h0 := u8_eq (hx x0 (by simp)) 70
    rw [show ((70 : UInt8).toNat : Int) = 70 from rfl] at h0
    have h1 := u8_eq (hx x1 (by simp)) 82
    rw [show ((82 : UInt8).toNat : Int) = 82 from rfl] at h1
    simp only [txtN, Wk.name, List.take_succ_cons, List.take_zero, List.map_cons, List.map_nil, List.cons.injEq, and_true, h0, h1]

theorem txt_name3 (xs : List Int) (hl : 3 ≤ xs.length) (hx : ∀ x ∈ xs, 0 ≤ x ∧ x < 256) : ((txtN 3 xs).toList == ((⟨#[70, 82, 65, 77]⟩ : ByteArray).extract 0 3).toList) = decide (xs.take 3 = Wk.name.take 3) := by
  have e : ((⟨#[70, 82, 65, 77]⟩ : ByteArray).extract 0 3).toList = [70, 82, 65] := by decide +kernel
  rw [e, Bool.eq_iff_iff, beq_iff_eq, decide_eq_true_eq, ByteArray.toList_eq]
  match xs, hl with
  | x0 :: x1 :: x2 :: r, _ =>
    have h0 := u8_eq (hx x0 (by simp)) 70
    rw [show ((70 : UInt8).toNat : Int) = 70 from rfl] at h0
    have h1 := u8_eq (hx x1 (by simp)) 82
    rw [show ((82 : UInt8).toNat : Int) = 82 from rfl] at h1
    have h2 := u8_eq (hx x2 (by simp)) 65
    rw [show ((65 : UInt8).toNat : Int) = 65 from rfl] at h2
    simp only [txtN, Wk.name, List.take_succ_cons, List.take_zero, List.map_cons, List.map_nil, List.cons.injEq, and_true, h0, h1, h2]

theorem txt_name4 (xs : List Int) (hl : 4 ≤ xs.length) (hx : ∀ x ∈ xs, 0 ≤ x ∧ x < 256) : ((txtN 4 xs).toList == ((⟨#[70, 82, 65, 77]⟩ : ByteArray).extract 0 4).toList) = decide (xs.take 4 = Wk.name.take 4) := by
  have e : ((⟨#[70, 82, 65, 77]⟩ : ByteArray).extract 0 4).toList = [70, 82, 65, 77] := by decide +kernel
  rw [e, Bool.eq_iff_iff, beq_iff_eq, decide_eq_true_eq, ByteArray.toList_eq]
  match xs, hl with
  | x0 :: x1 :: x2 :: x3 :: r, _ =>
    have h0 := u8_eq (hx x0 (by simp)) 70
    rw [show ((70 : UInt8).toNat : Int) = 70 from rfl] at h0
    have h1 := u8_eq (hx x1 (by simp)) 82
    rw [show ((82 : UInt8).toNat : Int) = 82 from rfl] at h1
    have h2 := u8_eq (hx x2 (by simp)) 65
    rw [show ((65 : UInt8).toNat : Int) = 65 from rfl] at h2
    have h3 := u8_eq (hx x3 (by simp)) 77
    rw [show ((77 : UInt8).toNat : Int) = 77 from rfl] at h3
    simp only [txtN, Wk.name, List.take_succ_cons, List.take_zero, List.map_cons, List.map_nil, List.cons.injEq, and_true, h0, h1, h2, h3]

set_option maxHeartbeats 800000 in
theorem extent_0 (a : Option Addr) (cap : Nat) (w : World) :
    Calls Try.prog 27 #[.slice a 0 cap] w fun e w' => e = .returned (.tuple #[.int .i64 0, .int .i64 16]) ∧ Below w.heap.size w w' := by
  have hcv2 := conv0 a cap w.drew
  go_enter Try.func27, Try.ntmps27
  go_wp2_with fail
  go_region
  go_wp2_with fail
  go_ret2
  exact ⟨rfl, show_drew (Below.refl _ _)⟩

set_option maxHeartbeats 800000 in
theorem extent_1f (b off cap : Nat) (w : World) (S : ByteArray) (hc : 1 ≤ cap)
   (hcv2 : (convert 22 9 (.slice (some ⟨b, off, none⟩) 1 cap)).run Try.prog w.drew = .ok (.string S) w.drew)
   (hS : (S.toList == ((⟨#[70, 82, 65, 77]⟩ : ByteArray).extract 0 1).toList) = false) :
    Calls Try.prog 27 #[.slice (some ⟨b, off, none⟩) 1 cap] w fun e w' => e = .returned (.tuple #[.int .i64 0, .int .i64 13]) ∧ Below w.heap.size w w' := by
  go_enter Try.func27, Try.ntmps27
  go_wp2_with fail
  go_region
  go_wp2_with fail
  go_ret2
  exact ⟨rfl, show_drew (Below.refl _ _)⟩

set_option maxHeartbeats 800000 in
theorem extent_1t (b off cap : Nat) (w : World) (S : ByteArray) (hc : 1 ≤ cap)
   (hcv2 : (convert 22 9 (.slice (some ⟨b, off, none⟩) 1 cap)).run Try.prog w.drew = .ok (.string S) w.drew)
   (hS : (S.toList == ((⟨#[70, 82, 65, 77]⟩ : ByteArray).extract 0 1).toList) = true) :
    Calls Try.prog 27 #[.slice (some ⟨b, off, none⟩) 1 cap] w fun e w' => e = .returned (.tuple #[.int .i64 0, .int .i64 16]) ∧ Below w.heap.size w w' := by
  go_enter Try.func27, Try.ntmps27
  go_wp2_with fail
  go_region
  go_wp2_with fail
  go_ret2
  exact ⟨rfl, show_drew (Below.refl _ _)⟩

set_option maxHeartbeats 800000 in
theorem extent_2f (b off cap : Nat) (w : World) (S : ByteArray) (hc : 2 ≤ cap)
   (hcv2 : (convert 22 9 (.slice (some ⟨b, off, none⟩) 2 cap)).run Try.prog w.drew = .ok (.string S) w.drew)
   (hS : (S.toList == ((⟨#[70, 82, 65, 77]⟩ : ByteArray).extract 0 2).toList) = false) :
    Calls Try.prog 27 #[.slice (some ⟨b, off, none⟩) 2 cap] w fun e w' => e = .returned (.tuple #[.int .i64 0, .int .i64 13]) ∧ Below w.heap.size w w' := by
  go_enter Try.func27, Try.ntmps27
  go_wp2_with fail
  go_region
  go_wp2_with fail
  go_ret2
  exact ⟨rfl, show_drew (Below.refl _ _)⟩

set_option maxHeartbeats 800000 in
theorem extent_2t (b off cap : Nat) (w : World) (S : ByteArray) (hc : 2 ≤ cap)
   (hcv2 : (convert 22 9 (.slice (some ⟨b, off, none⟩) 2 cap)).run Try.prog w.drew = .ok (.string S) w.drew)
   (hS : (S.toList == ((⟨#[70, 82, 65, 77]⟩ : ByteArray).extract 0 2).toList) = true) :
    Calls Try.prog 27 #[.slice (some ⟨b, off, none⟩) 2 cap] w fun e w' => e = .returned (.tuple #[.int .i64 0, .int .i64 16]) ∧ Below w.heap.size w w' := by
  go_enter Try.func27, Try.ntmps27
  go_wp2_with fail
  go_region
  go_wp2_with fail
  go_ret2
  exact ⟨rfl, show_drew (Below.refl _ _)⟩

set_option maxHeartbeats 800000 in
theorem extent_3f (b off cap : Nat) (w : World) (S : ByteArray) (hc : 3 ≤ cap)
   (hcv2 : (convert 22 9 (.slice (some ⟨b, off, none⟩) 3 cap)).run Try.prog w.drew = .ok (.string S) w.drew)
   (hS : (S.toList == ((⟨#[70, 82, 65, 77]⟩ : ByteArray).extract 0 3).toList) = false) :
    Calls Try.prog 27 #[.slice (some ⟨b, off, none⟩) 3 cap] w fun e w' => e = .returned (.tuple #[.int .i64 0, .int .i64 13]) ∧ Below w.heap.size w w' := by
  go_enter Try.func27, Try.ntmps27
  go_wp2_with fail
  go_region
  go_wp2_with fail
  go_ret2
  exact ⟨rfl, show_drew (Below.refl _ _)⟩

set_option maxHeartbeats 800000 in
theorem extent_3t (b off cap : Nat) (w : World) (S : ByteArray) (hc : 3 ≤ cap)
   (hcv2 : (convert 22 9 (.slice (some ⟨b, off, none⟩) 3 cap)).run Try.prog w.drew = .ok (.string S) w.drew)
   (hS : (S.toList == ((⟨#[70, 82, 65, 77]⟩ : ByteArray).extract 0 3).toList) = true) :
    Calls Try.prog 27 #[.slice (some ⟨b, off, none⟩) 3 cap] w fun e w' => e = .returned (.tuple #[.int .i64 0, .int .i64 16]) ∧ Below w.heap.size w w' := by
  go_enter Try.func27, Try.ntmps27
  go_wp2_with fail
  go_region
  go_wp2_with fail
  go_ret2
  exact ⟨rfl, show_drew (Below.refl _ _)⟩

set_option maxHeartbeats 800000 in
theorem extent_4f (b off cap : Nat) (w : World) (S : ByteArray) (hc : 4 ≤ cap)
   (hcv2 : (convert 22 9 (.slice (some ⟨b, off, none⟩) 4 cap)).run Try.prog w.drew = .ok (.string S) w.drew)
   (hS : (S.toList == ((⟨#[70, 82, 65, 77]⟩ : ByteArray).extract 0 4).toList) = false) :
    Calls Try.prog 27 #[.slice (some ⟨b, off, none⟩) 4 cap] w fun e w' => e = .returned (.tuple #[.int .i64 0, .int .i64 13]) ∧ Below w.heap.size w w' := by
  go_enter Try.func27, Try.ntmps27
  go_wp2_with fail
  go_region
  go_wp2_with fail
  go_ret2
  exact ⟨rfl, show_drew (Below.refl _ _)⟩

set_option maxHeartbeats 800000 in
theorem extent_4t (b off cap : Nat) (w : World) (S : ByteArray) (hc : 4 ≤ cap)
   (hcv2 : (convert 22 9 (.slice (some ⟨b, off, none⟩) 4 cap)).run Try.prog w.drew = .ok (.string S) w.drew)
   (hS : (S.toList == ((⟨#[70, 82, 65, 77]⟩ : ByteArray).extract 0 4).toList) = true) :
    Calls Try.prog 27 #[.slice (some ⟨b, off, none⟩) 4 cap] w fun e w' => e = .returned (.tuple #[.int .i64 0, .int .i64 16]) ∧ Below w.heap.size w w' := by
  go_enter Try.func27, Try.ntmps27
  go_wp2_with fail
  go_region
  go_wp2_with fail
  go_ret2
  exact ⟨rfl, show_drew (Below.refl _ _)⟩

set_option maxHeartbeats 800000 in
theorem extent_5f (b off n cap : Nat) (w : World) (S : ByteArray) (hc : 4 ≤ cap) (h4 : ¬ (n : Int) ≤ 4)
   (hcv2 : (convert 22 9 (.slice (some ⟨b, off, none⟩) 4 cap)).run Try.prog w.drew = .ok (.string S) w.drew)
   (hS : (S.toList == ((⟨#[70, 82, 65, 77]⟩ : ByteArray).extract 0 4).toList) = false) :
    Calls Try.prog 27 #[.slice (some ⟨b, off, none⟩) n cap] w fun e w' => e = .returned (.tuple #[.int .i64 0, .int .i64 13]) ∧ Below w.heap.size w w' := by
  go_enter Try.func27, Try.ntmps27
  go_wp2_with fail
  go_region
  all_goals go_wp2_with fail
  all_goals go_ret2
  all_goals exact ⟨rfl, show_drew (Below.refl _ _)⟩

set_option maxHeartbeats 800000 in
theorem extent_5s (b off n cap : Nat) (w : World) (S : ByteArray) (hc : 4 ≤ cap) (h4 : ¬ (n : Int) ≤ 4) (hs : (n : Int) < 16)
   (hcv2 : (convert 22 9 (.slice (some ⟨b, off, none⟩) 4 cap)).run Try.prog w.drew = .ok (.string S) w.drew)
   (hS : (S.toList == ((⟨#[70, 82, 65, 77]⟩ : ByteArray).extract 0 4).toList) = true) :
    Calls Try.prog 27 #[.slice (some ⟨b, off, none⟩) n cap] w fun e w' => e = .returned (.tuple #[.int .i64 0, .int .i64 16]) ∧ Below w.heap.size w w' := by
  go_enter Try.func27, Try.ntmps27
  go_wp2_with fail
  go_region
  all_goals go_wp2_with fail
  all_goals go_ret2
  all_goals exact ⟨rfl, show_drew (Below.refl _ _)⟩

set_option maxHeartbeats 1600000 in
theorem extent_5t (b off n cap : Nat) (xs : List Int) (w : World) (S : ByteArray) (hv : Wc.Bs w (.slice (some ⟨b, off, none⟩) n cap) xs) (hc : 4 ≤ cap) (h4 : ¬ (n : Int) ≤ 4) (hs : ¬ (n : Int) < 16) (hnm : xs.take 4 = Wk.name.take xs.length)
   (hcv2 : (convert 22 9 (.slice (some ⟨b, off, none⟩) 4 cap)).run Try.prog w.drew = .ok (.string S) w.drew)
   (hS : (S.toList == ((⟨#[70, 82, 65, 77]⟩ : ByteArray).extract 0 4).toList) = true) :
    Calls Try.prog 27 #[.slice (some ⟨b, off, none⟩) n cap] w fun e w' => e = .returned (.tuple #[.int .i64 (Wk.extN xs), .int .i64 (Wk.extE xs)]) ∧ Below w.heap.size w w' := by
  have hxl := Wc.bs_len hv
  have hx := Wc.bs_bytes hv
  have hnb : n ≤ 140737488355328 := by obtain ⟨_, m, _, h, _, _, _, h5, _⟩ := hv; cases h; exact h5
  have HN : Hid (gotN xs 12 4 = Ws.num xs 12 4) := Wc.hid (got4_gen xs 12 (by omega) hx)
  have HV := Wc.hid (hv.keep (show_drew (Below.refl _ _)))
  have hbd := Wk.num4_bd xs 12 hx
  have H13 := Wc.hid (fun h => Wk.ext_long (xs := xs) hnm (by omega) h)
  have H16 := Wc.hid (fun h h' => Wk.ext_open (xs := xs) hnm (by omega) h h')
  have H0 := Wc.hid (fun h h' => Wk.ext_ok (xs := xs) hnm (by omega) h h')
  have HNN : Hid (∀ h : Wk.extE xs = 0, Wk.extN xs = 20 + Ws.num xs 12 4) := Wc.hid (fun h => if_pos h)
  have HNO : Hid (∀ h : ¬ Wk.extE xs = 0, Wk.extN xs = 0) := Wc.hid (fun h => if_neg h)
  rw [hxl] at H16 H0
  have HXL := Wc.hid hxl
  generalize Ws.num xs 12 4 = L at HN hbd H13 H16 H0 HNN
  generalize Wk.extE xs = E at H13 H16 H0 HNN HNO ⊢
  generalize Wk.extN xs = M at HNN HNO ⊢
  clear hv hx hnm hxl
  by_cases h1 : 520 < L
  · have hE := H13.out h1
    have hM := HNO.out (by omega)
    subst hE hM
    clear H13 H16 H0 HNN HNO
    go_enter Try.func27, Try.ntmps27
    go_wp2_with fail
    go_region
    all_goals go_wp2_with fail
    all_goals refine (get9_any _ xs 12 4 _ HV.out).mono ?_
    all_goals rintro e w1 ⟨rfl, rfl⟩
    all_goals rw [HN.out]
    all_goals go_wp2_with fail
    all_goals go_ret2
    all_goals exact ⟨rfl, show_drew (Below.refl _ _)⟩
  by_cases h2 : (n : Int) < 20 + L
  · have hE := H16.out (by omega) h2
    have hM := HNO.out (by omega)
    subst hE hM
    have h3 : (n : Int) < 16 + L + 4 := by omega
    clear H13 H16 H0 HNN HNO
    go_enter Try.func27, Try.ntmps27
    go_wp2_with fail
    go_region
    all_goals go_wp2_with fail
    all_goals refine (get9_any _ xs 12 4 _ HV.out).mono ?_
    all_goals rintro e w1 ⟨rfl, rfl⟩
    all_goals rw [HN.out]
    all_goals go_wp2_with fail
    all_goals go_ret2
    all_goals exact ⟨rfl, show_drew (Below.refl _ _)⟩
  · have hE := H0.out (by omega) (by omega)
    have hM := HNN.out hE
    have HM : Hid (M = 16 + L + 4) := Wc.hid (by omega)
    subst hE
    clear hM
    have h3 : ¬ (n : Int) < 16 + L + 4 := by omega
    clear H13 H16 H0 HNN HNO
    go_enter Try.func27, Try.ntmps27
    go_wp2_with fail
    go_region
    all_goals go_wp2_with fail
    all_goals refine (get9_any _ xs 12 4 _ HV.out).mono ?_
    all_goals rintro e w1 ⟨rfl, rfl⟩
    all_goals rw [HN.out]
    all_goals go_wp2_with fail
    all_goals go_ret2
    all_goals exact ⟨by rw [HM.out]; rfl, show_drew (Below.refl _ _)⟩

theorem extent_any (v : Value) (xs : List Int) (w : World) (hv : Wc.Bs w v xs) :
    Calls Try.prog 27 #[v] w fun e w' => e = .returned (.tuple #[.int .i64 (Wk.extN xs), .int .i64 (Wk.extE xs)]) ∧ Below w.heap.size w w' := by
  have hx := Wc.bs_bytes hv
  rcases hv.open with ⟨rfl, a, cap, rfl, _⟩ | ⟨b, off, n, cap, rfl, h0, hl, hc, hc2, hn, _⟩
  · have : Wk.extE [] = 16 := rfl
    rw [this, show Wk.extN [] = 0 from rfl]
    exact extent_0 a cap w
  · have hv2 := hv.keep (show_drew (Below.refl w.heap.size w))
    have hno : ∀ {e : Int}, Wk.extE xs = e → ¬ e = 0 → Wk.extN xs = 0 := fun h h' => if_neg (by rw [h]; exact h')
    by_cases h1 : n = 1
    · subst h1
      have hS := txt_name1 xs (by omega) hx
      have ht : xs.take 4 = xs.take 1 := by first | rfl | rw [List.take_of_length_le (by omega), List.take_of_length_le (by omega)]
      by_cases hnm : xs.take 1 = Wk.name.take 1
      · have hE := Wk.ext_short (xs := xs) (by rw [ht, hl]; exact hnm) (by omega)
        rw [hE, hno hE (by omega)]
        exact extent_1t b off cap w _ (by omega) (convert_txtN hv2 (by omega) (by omega)) (by rw [hS]; simpa using hnm)
      · have hE := Wk.ext_name (xs := xs) (by rw [ht, hl]; exact hnm)
        rw [hE, hno hE (by omega)]
        exact extent_1f b off cap w _ (by omega) (convert_txtN hv2 (by omega) (by omega)) (by rw [hS]; simpa using hnm)
    by_cases h2 : n = 2
    · subst h2
      have hS := txt_name2 xs (by omega) hx
      have ht : xs.take 4 = xs.take 2 := by first | rfl | rw [List.take_of_length_le (by omega), List.take_of_length_le (by omega)]
      by_cases hnm : xs.take 2 = Wk.name.take 2
      · have hE := Wk.ext_short (xs := xs) (by rw [ht, hl]; exact hnm) (by omega)
        rw [hE, hno hE (by omega)]
        exact extent_2t b off cap w _ (by omega) (convert_txtN hv2 (by omega) (by omega)) (by rw [hS]; simpa using hnm)
      · have hE := Wk.ext_name (xs := xs) (by rw [ht, hl]; exact hnm)
        rw [hE, hno hE (by omega)]
        exact extent_2f b off cap w _ (by omega) (convert_txtN hv2 (by omega) (by omega)) (by rw [hS]; simpa using hnm)
    by_cases h3 : n = 3
    · subst h3
      have hS := txt_name3 xs (by omega) hx
      have ht : xs.take 4 = xs.take 3 := by first | rfl | rw [List.take_of_length_le (by omega), List.take_of_length_le (by omega)]
      by_cases hnm : xs.take 3 = Wk.name.take 3
      · have hE := Wk.ext_short (xs := xs) (by rw [ht, hl]; exact hnm) (by omega)
        rw [hE, hno hE (by omega)]
        exact extent_3t b off cap w _ (by omega) (convert_txtN hv2 (by omega) (by omega)) (by rw [hS]; simpa using hnm)
      · have hE := Wk.ext_name (xs := xs) (by rw [ht, hl]; exact hnm)
        rw [hE, hno hE (by omega)]
        exact extent_3f b off cap w _ (by omega) (convert_txtN hv2 (by omega) (by omega)) (by rw [hS]; simpa using hnm)
    by_cases h4 : n = 4
    · subst h4
      have hS := txt_name4 xs (by omega) hx
      have ht : xs.take 4 = xs.take 4 := by first | rfl | rw [List.take_of_length_le (by omega), List.take_of_length_le (by omega)]
      by_cases hnm : xs.take 4 = Wk.name.take 4
      · have hE := Wk.ext_short (xs := xs) (by rw [ht, hl]; exact hnm) (by omega)
        rw [hE, hno hE (by omega)]
        exact extent_4t b off cap w _ (by omega) (convert_txtN hv2 (by omega) (by omega)) (by rw [hS]; simpa using hnm)
      · have hE := Wk.ext_name (xs := xs) (by rw [ht, hl]; exact hnm)
        rw [hE, hno hE (by omega)]
        exact extent_4f b off cap w _ (by omega) (convert_txtN hv2 (by omega) (by omega)) (by rw [hS]; simpa using hnm)
    have hS := txt_name4 xs (by omega) hx
    have ht : Wk.name.take xs.length = Wk.name.take 4 := by rw [Wk.name_take _ (by omega), Wk.name_take _ (by omega)]
    by_cases hnm : xs.take 4 = Wk.name.take 4
    · by_cases hs : n < 16
      · have hE := Wk.ext_short (xs := xs) (by rw [ht]; exact hnm) (by omega)
        rw [hE, hno hE (by omega)]
        exact extent_5s b off n cap w _ (by omega) (by omega) (by omega) (convert_txtN hv2 (by omega) (by omega)) (by rw [hS]; simpa using hnm)
      · exact extent_5t b off n cap xs w _ hv (by omega) (by omega) (by omega) (by rw [ht]; exact hnm) (convert_txtN hv2 (by omega) (by omega)) (by rw [hS]; simpa using hnm)
    · have hE := Wk.ext_name (xs := xs) (by rw [ht]; exact hnm)
      rw [hE, hno hE (by omega)]
      exact extent_5f b off n cap w _ (by omega) (by omega) (convert_txtN hv2 (by omega) (by omega)) (by rw [hS]; simpa using hnm)

end Go.Proofs.Ytfejabeifabdlaa
