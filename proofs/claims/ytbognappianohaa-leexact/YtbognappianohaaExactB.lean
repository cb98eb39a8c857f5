/-
  The walk of the law LeExact, where the place is within.
-/
import Derived.Test.YtbognappianohaaExact
import Derived.Deep.RegionHeld3
import Derived.Laws.CopyOwn
namespace Go.Proofs.Ytbognappianohaa
open Go.RowKit

theorem bs_mid {w : World} {b off n cap : Nat} {xs : List Int} (h : Wc.Bs w (.slice (some ⟨b, off, none⟩) n cap) xs) (j t : Nat) (hk : j + t ≤ n) : Wc.Bs w (.slice (some ⟨b, off + j, none⟩) t (cap - j)) ((xs.drop j).take t) := by
  obtain ⟨a, n', cap', h1, h2, h3, h4, h5, h6, h7⟩ := h
  cases h1
  refine ⟨_, t, cap - j, rfl, by simp; omega, by omega, by omega, by omega, fun x hx => h6 x (List.mem_of_mem_drop (List.mem_of_mem_take hx)), fun h0 => ?_⟩
  obtain ⟨b', off', ha, hb, hc⟩ := h7 (by omega)
  cases ha
  refine ⟨b, off + j, rfl, hb, fun i hi => ?_⟩
  rw [Nat.add_assoc, hc (j + i) (by omega)]
  simp [hi]

-- The number does not fit, the place is within.
set_option maxRecDepth 100000 in
set_option maxHeartbeats 1000000 in
theorem leExact_got (b off n cap : Nat) (xs : List Int) (j t : Nat) (m q y : Int) (w : World) (hn : n ≤ 500) (hv : Wc.Bs w (.slice (some ⟨b, off, none⟩) n cap) xs)
    (ht : 1 ≤ t) (hjt : j + t ≤ n) (hcap : n ≤ cap) (_hcap2 : cap ≤ 9223372036854775807) (hs : Wc.rsB t = true) (hf : Wc.fitB m t = false) (e2 : Int) (bb : Bool) (hg : Wc.getR xs j t = (y, e2)) (hnum : numR ((xs.drop j).take t) = (y, bb)) (he : (bb = true ∧ e2 = 0) ∨ (bb = false ∧ e2 = 1 ∧ y = 0)) :
    Calls Try.prog 3 #[.slice (some ⟨b, off, none⟩) n cap, .int .i64 j, .int .i64 t, .int .i64 m, .int .i64 q] w fun e w' => e = .returned (.bool true) ∧ Below w.heap.size w w' := by
  have hp : (j : Int) ≤ 9223372036854775807 := by omega
  have hpb : decide ((t : Int) ≤ (n : Int) - (j : Int)) = true := by simp; omega
  have R1 := Wc.hid (putR_arg xs j t m (.inr hf))
  have R2 := Wc.hid hg
  have R3 := Wc.hid hnum
  have HV := Wc.hid hv
  have H0 : Hid (.slice (some ⟨b, off, none⟩) n cap = Value.slice none 0 0 ∨ ∃ ad n' cap', .slice (some ⟨b, off, none⟩) n cap = Value.slice (some ad) n' cap') := Or.inr ⟨_, _, _, rfl⟩
  clear hv hg hnum
  rcases he with ⟨rfl, rfl⟩ | ⟨rfl, rfl, rfl⟩
  all_goals
    go_enter Try.func3, Try.ntmps3
    go_wp2_with fail
    refine (twin_any _ xs _ HV.out H0.out).mono ?_
    rintro e w1 ⟨c, rfl, hc, hb1⟩
    have HC1 := Wc.hid hc
    have HV1 := Wc.hid (HV.out.keep hb1)
    clear hc
    go_wp2_with fail
    refine (put_keep _ xs _ _ _ _ HC1.out).mono ?_
    rintro e w2 ⟨x, rfl, hx, hc2, hb2⟩
    rw [R1.out] at hx
    rw [R1.out]
    have HC2 := Wc.hid hc2
    have HV2 := Wc.hid (HV1.out.keep hb2)
    have hb2' := Wc.step hb1 (Nat.le_refl _) hb2
    rcases hx.open with ⟨_, xa, xc, rfl, -⟩ | ⟨_, _, _, _, _, h, hl, -⟩
    rotate_left
    · simp at hl; omega
    clear hx hc2 hb1 hb2 HC1 HV1
    go_wp2_with fail
    refine (get_any _ xs _ _ _ HC2.out).mono ?_
    rintro e w3 ⟨rfl, rfl⟩
    rw [R2.out]
    go_wp2_with fail
    refine (zeros_any _ xs _ _ _ HC2.out hp).mono ?_
    rintro e w3 ⟨rfl, rfl⟩
    go_wp2_with fail
    refine (refZeros_any _ xs _ _ _ HV2.out hp).mono ?_
    rintro e w3 ⟨rfl, rfl⟩
    go_wp2_with fail
    refine (bytes_any _ _ xs xs _ HC2.out HV2.out).mono ?_
    rintro e w4 ⟨rfl, hb4⟩
    rw [beq_self_eq_true]
    have HV4 := Wc.hid (HV2.out.keep hb4)
    have hb4' := Wc.step hb2' (Nat.le_refl _) hb4
    clear hb4 hb2' HC2 HV2
    go_wp2_with fail
    refine (refSize_any _ _).mono ?_
    rintro e w5 ⟨rfl, rfl⟩
    rw [hs]
    go_wp2_with fail
    refine (refFits_any _ _ _ hs).mono ?_
    rintro e w6 ⟨rfl, rfl⟩
    rw [hf]
    go_wp2_with fail
    refine (refNumber_any _ _ _ (bs_mid HV4.out j t hjt)).mono ?_
    rintro e w7 ⟨rfl, rfl⟩
    rw [R3.out]
    go_wp2_with fail
    refine (wakes_any _).mono ?_
    rintro e w9 ⟨rfl, hb9⟩
    go_wp2_with fail
    go_ret
    exact ⟨rfl, Wc.step hb4' (Nat.le_refl _) hb9⟩

theorem refBytes_pos (t : Nat) (m : Int) (w : World) (h1 : 1 ≤ t) (h8 : t ≤ 8) (h0 : 0 ≤ m) (hm : m ≤ 4611686018427387903) :
    Calls Try.prog 17 #[.int .i64 t, .int .i64 m] w fun e w' => ∃ zb zo zc, e = .returned (.slice (some ⟨zb, zo, none⟩) t zc) ∧ (∀ i, i < t → w'.cell? ⟨zb, zo + i, none⟩ = some (.int .u8 ((Wc.enc t m).getD i 0))) ∧ Below w.heap.size w w' := by
  refine (refBytes_any t m w h8 h0 hm).mono fun e w' ⟨v, he, h2, h3⟩ => ?_
  have hl := Wc.enc_length t m
  rcases h2.open with ⟨h, -⟩ | ⟨b, off, n, cap, hv, _, hln, _, _, _, _, _, hc⟩
  · rw [h] at hl; simp at hl; omega
  · obtain rfl : n = t := by omega
    exact ⟨b, off, cap, by rw [he, hv], hc, h3⟩

theorem copy_at {w0 w : World} {zb zo t g j dl dc zc : Nat} {m : Int} {xc : List Value} {cur : Array Value} (hg : w.heap[g]? = some (.cells cur 5 (0, 0)))
    (hz : ∀ i, i < t → w.cell? ⟨zb, zo + i, none⟩ = some (.int .u8 ((Wc.enc t m).getD i 0))) (hx : xc = (Wc.enc t m).map (Value.int .u8)) (hdl : t ≤ dl) (hfit : j + t ≤ cur.size) (hb : Below w0.heap.size w0 w) (hB : w0.heap.size ≤ g) :
    ∃ w9, Sem.run Try.prog (Builtin.copy_ #[22, 22] 3 #[.slice (some ⟨g, j, none⟩) dl dc, .slice (some ⟨zb, zo, none⟩) t zc]) w = .ok (.int .i64 t) w9 ∧
      Hid (w9.heap[g]? = some (.cells (splice cur.toList j xc).toArray 5 (0, 0))) ∧ Below w0.heap.size w0 w9 := by
  have hl := Wc.enc_length t m
  have hxl : xc.length = t := by rw [hx]; simpa using hl
  have h1 : ∀ v ∈ xc, v.oneCell' = true := by
    intro v hv; rw [hx] at hv; obtain ⟨x, _, rfl⟩ := List.mem_map.1 hv; rfl
  have hsrc : ∀ i v, xc[i]? = some v → w.cell? ((⟨zb, zo, none⟩ : Addr).add i) = some v := by
    intro i v hi
    have hit : i < t := by have := (List.getElem?_eq_some_iff.1 hi).1; omega
    rw [Wc.add_none, hz i hit]
    rw [hx] at hi
    simpa [hl, hit] using hi
  have hrun := run_copy_row (P := Try.prog) w 22 22 3 5 g j dl dc ⟨zb, zo, none⟩ t zc cur 5 xc Try.underlying22 Try.size5 hg (by rw [hxl]; exact (Nat.min_eq_left hdl).symm) hsrc (by omega) h1
  refine ⟨_, hrun.trans (by rw [hxl]; rfl), ?_, below_setRow hb hB _⟩
  show _ = _
  rw [setRow_heap _ _ _ _ 5 _ hg]
  simp [splice, hxl]

theorem splice_take (xs : List Int) (cur : List Value) (n j t : Nat) (m : Int) (hcur : n ≤ cur.length) (htk : cur.take n = xs.map (Value.int .u8)) (hjt : j + t ≤ n) :
    (splice cur j ((Wc.enc t m).map (Value.int .u8))).take n = (Wc.putL xs j t m).map (Value.int .u8) := by
  have hel := Wc.enc_length t m
  have e1 : (xs.take j).map (Value.int .u8) = cur.take j := by rw [List.map_take, ← htk, List.take_take, Nat.min_eq_left (by omega)]
  have e2 : (xs.drop (j + t)).map (Value.int .u8) = (cur.drop (j + t)).take (n - (j + t)) := by rw [List.map_drop, ← htk, List.drop_take]
  unfold splice Wc.putL
  rw [List.map_append, List.map_append, e1, e2, List.length_map, hel, List.take_append, List.take_append, List.length_map, hel, List.length_take, Nat.min_eq_left (by omega),
    List.take_of_length_le (l := cur.take j) (by rw [List.length_take]; omega), List.take_of_length_le (l := (Wc.enc t m).map (Value.int .u8)) (by rw [List.length_map, hel]; omega), Nat.sub_sub]

theorem splice_bs {w : World} {g n cap3 j t : Nat} {m : Int} {xs : List Int} {xc : List Value} {cur : Array Value} (hg : w.heap[g]? = some (.cells (splice cur.toList j xc).toArray 5 (0, 0))) (hcs : cur.size = cap3) (h1 : n ≤ cap3) (h2 : cap3 ≤ 9223372036854775807)
    (hl : xs.length = n) (hx : ∀ x ∈ xs, 0 ≤ x ∧ x < 256) (htk : cur.toList.take n = xs.map (Value.int .u8)) (hxc : xc = (Wc.enc t m).map (Value.int .u8)) (hjt : j + t ≤ n) (hn : n ≤ 500) : Wc.Bs w (.slice (some ⟨g, 0, none⟩) n cap3) (Wc.putL xs j t m) := by
  have hlen := Wc.putL_length xs j t m (by omega)
  have hel := Wc.enc_length t m
  have hxl : xc.length = t := by rw [hxc]; simpa using hel
  have hcl : cur.toList.length = cap3 := Array.length_toList.trans hcs
  have hsl : (splice cur.toList j xc).length = cap3 := by rw [length_splice _ _ _ (by rw [hcl, hxl]; omega), hcl]
  refine Wc.Bs.own (base := 0) (e := 5) ⟨by simp; omega, .inr ⟨g, cap3, _, rfl, by omega, hg, h1, by unfold maxLen; omega, ?_, ?_⟩⟩ (by omega) (Wc.putL_bd _ _ _ _ hx)
  · rw [List.size_toArray, hsl, Nat.mul_one]
  · rw [Nat.mul_one, List.toList_toArray, hxc]
    exact splice_take xs cur.toList n j t m (by rw [Array.length_toList]; omega) htk hjt

theorem row_later {w w' : World} {g : Nat} {cur : Array Value} (h : w.heap[g]? = some (.cells cur 5 (0, 0))) (hb : Below w.drew.heap.size w.drew w') : w'.heap[g]? = some (.cells cur 5 (0, 0)) := by
  rw [hb.block g (Array.getElem?_eq_some_iff.1 h).1]
  exact h

theorem below_two {w w1 w2 : World} (h : Below w.heap.size w w1) (k : Below w1.drew.heap.size w1.drew w2) : Below w.heap.size w w2 := Wc.step (b := w1.drew) h.drew (Nat.le_refl _) k

theorem bs_cells {w : World} {b off n cap : Nat} {xs : List Int} (h : Wc.Bs w (.slice (some ⟨b, off, none⟩) n cap) xs) (h0 : 0 < n) : xs.length = n ∧ ∀ i, i < n → w.cell? ⟨b, off + i, none⟩ = some (.int .u8 (xs.getD i 0)) := by
  obtain ⟨a, n', cap', h1, h2, h3, h4, h5, h6, h7⟩ := h
  cases h1
  obtain ⟨b', off', ha, hb, hc⟩ := h7 h0
  cases ha
  exact ⟨h2, hc⟩

theorem bs_bytes {w : World} {v : Value} {xs : List Int} (h : Wc.Bs w v xs) : ∀ x ∈ xs, 0 ≤ x ∧ x < 256 := by
  obtain ⟨a, n', cap', h1, h2, h3, h4, h5, h6, h7⟩ := h
  exact h6

set_option maxHeartbeats 400000 in
theorem twin_own (b off n cap : Nat) (xs : List Int) (w : World) (hn : n ≤ 140737488355328) (hn0 : 0 < n) (hl : xs.length = n) 
   (hc : ∀ i, i < n → w.cell? ⟨b, off + i, none⟩ = some (.int .u8 (xs.getD i 0))) :
    Calls Try.prog 8 #[.slice (some ⟨b, off, none⟩) n cap] w fun e w' => ∃ g cap' cur, e = .returned (.slice (some ⟨g, 0, none⟩) n cap') ∧ w.heap.size ≤ g ∧ n ≤ cap' ∧ cap' ≤ 9223372036854775807 ∧ w'.heap[g]? = some (.cells cur 5 (0, 0)) ∧ cur.size = cap' ∧ cur.toList.take n = xs.map (Value.int .u8) ∧ Below w.heap.size w w' := by
  obtain ⟨i0, hi, hz0, hz1, hz2⟩ := info_parts Try.info5
  go_enter Try.func8, Try.ntmps8
  go_wp2_with (first | (at_builtin; refine wpList_append_own _ rfl _ _ 22 rfl w.heap.size 5 i0 (.int .u8 0) 1 1 Try.underlying22 hi hz0 hz1 hz2 rfl (by decide) _ _ _ rfl (World.ownsRow_nil _ _ _ _) ⟨b, off, none⟩ n cap (xs.map (Value.int .u8)) rfl (by simpa using hl) ?c1 ?c2 ?c3 ?c4 ?c5 ?_))
  case c1 =>
    intro j u hj
    have hjn : j < n := by have := (List.getElem?_eq_some_iff.1 hj).1; simpa [hl] using this
    rw [Wc.add_none, hc j hjn]; simpa [hl, hjn] using hj
  case c2 => intro u hu; obtain ⟨x, _, rfl⟩ := List.mem_map.1 hu; rfl
  case c3 => unfold maxLen; omega
  case c4 => omega
  case c5 => exact Nat.le_refl _
  · intro v' w1 hown' hgrow hnil
    have hb1 : Below w.heap.size w w1 := (Below.refl _ _).grown hgrow (Nat.le_refl _) (fun g hg => by simp [Value.ownBlock] at hg)
    have hex : ∃ g cap' cur, v' = .slice (some ⟨g, 0, none⟩) n cap' ∧ w.heap.size ≤ g ∧ n ≤ cap' ∧ cap' ≤ 9223372036854775807 ∧ w1.heap[g]? = some (.cells cur 5 (0, 0)) ∧ cur.size = cap' ∧ cur.toList.take n = xs.map (Value.int .u8) := by
      have hown : w1.ownsRow w.heap.size 5 1 v' n (xs.map (Value.int .u8)) := by simpa using hown'
      rcases hown.2 with ⟨_, h0⟩ | ⟨g, cap', cur, h1, h2, h3, h4, h5, h6, h7⟩
      · omega
      · exact ⟨g, cap', cur, h1, h2, h4, by unfold maxLen at h5; omega, h3, by simpa using h6, by simpa using h7⟩
    obtain ⟨g, cap', cur, hv, r1, r2, r3, r4, r5, r6⟩ := hex
    rw [hv]
    have R4 := Wc.hid r4
    have R6 := Wc.hid r6
    clear hown' hgrow hnil r4 r6 hv
    go_wp2
    go_ret
    exact ⟨g, cap', cur, rfl, r1, r2, r3, R4.out, r5, R6.out, hb1⟩

-- The number fits, the place is within.
set_option maxRecDepth 100000 in
set_option maxHeartbeats 1000000 in
theorem leExact_ok (b off n cap : Nat) (xs : List Int) (j t : Nat) (m q y : Int) (w : World) (hn : n ≤ 500) (hv : Wc.Bs w (.slice (some ⟨b, off, none⟩) n cap) xs)
    (ht : 1 ≤ t) (hjt : j + t ≤ n) (hcap : n ≤ cap) (_hcap2 : cap ≤ 9223372036854775807) (hs : Wc.rsB t = true) (hf : Wc.fitB m t = true) (hm0 : 0 ≤ m) (hm1 : m ≤ 4611686018427387903) (e2 : Int) (bb : Bool) (hg : Wc.getR xs j t = (y, e2)) (hnum : numR ((xs.drop j).take t) = (y, bb)) (he : (bb = true ∧ e2 = 0) ∨ (bb = false ∧ e2 = 1 ∧ y = 0)) :
    Calls Try.prog 3 #[.slice (some ⟨b, off, none⟩) n cap, .int .i64 j, .int .i64 t, .int .i64 m, .int .i64 q] w fun e w' => e = .returned (.bool true) ∧ Below w.heap.size w w' := by
  have hp : (j : Int) ≤ 9223372036854775807 := by omega
  have hpb : decide ((t : Int) ≤ (n : Int) - (j : Int)) = true := by simp; omega
  have R1 := Wc.hid (putR_ok xs j t m hs ((Wc.fitB_iff hs).1 hf) (inB_yes ⟨by omega, by obtain ⟨_, _, _, h, hl, -⟩ := hv; cases h; omega⟩))
  have R2 := Wc.hid hg
  have R3 := Wc.hid hnum
  have HV := Wc.hid hv
  have H0 : Hid (.slice (some ⟨b, off, none⟩) n cap = Value.slice none 0 0 ∨ ∃ ad n' cap', .slice (some ⟨b, off, none⟩) n cap = Value.slice (some ad) n' cap') := Or.inr ⟨_, _, _, rfl⟩
  clear hv hg hnum
  have ht8 : t ≤ 8 := by rcases Wc.rsB_cases hs with h | h | h | h <;> omega
  obtain ⟨xc, hxc⟩ : ∃ xc, xc = (Wc.enc t m).map (Value.int .u8) := ⟨_, rfl⟩
  have hxl : xc.length = t := by rw [hxc]; simpa using Wc.enc_length t m
  have HXC := Wc.hid hxc
  have HXL := Wc.hid hxl
  clear hxc hxl
  rcases he with ⟨rfl, rfl⟩ | ⟨rfl, rfl, rfl⟩
  all_goals
    go_enter Try.func3, Try.ntmps3
    go_wp2_with fail
    refine (twin_any _ xs _ HV.out H0.out).mono ?_
    rintro e w1 ⟨c, rfl, hc, hb1⟩
    have HC1 := Wc.hid hc
    have HV1 := Wc.hid (HV.out.keep hb1)
    clear hc
    go_wp2_with fail
    refine (put_keep _ xs _ _ _ _ HC1.out).mono ?_
    rintro e w2 ⟨x, rfl, hx, hc2, hb2⟩
    rw [R1.out] at hx
    rw [R1.out]
    have HC2 := Wc.hid hc2
    have HV2 := Wc.hid (HV1.out.keep hb2)
    have hb2' := Wc.step hb1 (Nat.le_refl _) hb2
    have HX2 : Hid (Wc.Bs w2 x _) := hx
    clear hx hc2 hb1 hb2 HC1 HV1
    go_wp2_with fail
    refine (get_any _ xs _ _ _ HC2.out).mono ?_
    rintro e w3 ⟨rfl, rfl⟩
    rw [R2.out]
    go_wp2_with fail
    refine (zeros_any _ xs _ _ _ HC2.out hp).mono ?_
    rintro e w3 ⟨rfl, rfl⟩
    go_wp2_with fail
    refine (refZeros_any _ xs _ _ _ HV2.out hp).mono ?_
    rintro e w3 ⟨rfl, rfl⟩
    go_wp2_with fail
    refine (bytes_any _ _ xs xs _ HC2.out HV2.out).mono ?_
    rintro e w4 ⟨rfl, hb4⟩
    rw [beq_self_eq_true]
    have HV4 := Wc.hid (HV2.out.keep hb4)
    have HX4 := Wc.hid (HX2.out.keep hb4)
    clear HX2
    have hb4' := Wc.step hb2' (Nat.le_refl _) hb4
    clear hb4 hb2' HC2 HV2
    go_wp2_with fail
    refine (refSize_any _ _).mono ?_
    rintro e w5 ⟨rfl, rfl⟩
    rw [hs]
    go_wp2_with fail
    refine (refFits_any _ _ _ hs).mono ?_
    rintro e w6 ⟨rfl, rfl⟩
    rw [hf]
    go_wp2_with fail
    obtain ⟨hlen, hcells⟩ := bs_cells HV4.out (by omega)
    refine (twin_own b off n cap xs _ (by omega) (by omega) hlen hcells).mono ?_
    clear hlen hcells
    rintro e w7 ⟨g, cap3, cur, rfl, hg, hc1, hc2, hrow, hcs, htk, hb7⟩
    have HROW := Wc.hid hrow
    have HTK := Wc.hid htk
    have HCS := Wc.hid hcs
    have HB7 := Wc.hid hb7
    clear hrow htk hcs hb7
    go_wp2_with fail
    go_region_held3 (fun _ => True) (trivial) (first | (go_at_call 17; refine (refBytes_pos _ _ _ ht ht8 hm0 hm1).mono ?_; rintro e w8 ⟨zb, zo, zc, rfl, hz, hb8⟩; obtain ⟨w9, hcp, HG9, hb9⟩ := copy_at (g := g) (j := j) (dl := n - j) (dc := cap3 - j) (zc := zc) (row_later HROW.out hb8) hz HXC.out (by omega) (by rw [HCS.out]; omega) (below_two HB7.out hb8) hg; clear hz hb8) | fail)
    clear hcp
    have HW9 := Wc.hid (splice_bs HG9.out HCS.out hc1 hc2 (bs_cells HV4.out (by omega)).1 (bs_bytes HV4.out) HTK.out HXC.out hjt hn)
    have HX9 : Hid (Wc.Bs w9 x (Wc.putL xs j t m)) := HX4.out.keep hb9
    have HV9 := Wc.hid (HV4.out.keep hb9)
    have hb9' := Wc.step hb4' (Nat.le_refl _) hb9
    clear hb9 hb4' HG9 HV4 HX4 HB7 HROW HTK HCS
    go_wp2_with fail
    refine (bytes_any _ _ _ _ _ HX9.out HW9.out).mono ?_
    rintro e w10 ⟨rfl, hb10⟩
    rw [beq_self_eq_true]
    have HV10 := Wc.hid (HV9.out.keep hb10)
    have hb10' := Wc.step hb9' (Nat.le_refl _) hb10
    clear hb10 hb9' HV9
    go_wp2_with fail
    refine (refNumber_any _ _ _ (bs_mid HV10.out j t hjt)).mono ?_
    rintro e w11 ⟨rfl, rfl⟩
    rw [R3.out]
    go_wp2_with fail
    refine (wakes_any _).mono ?_
    rintro e w9 ⟨rfl, hb9⟩
    go_wp2_with fail
    go_ret
    exact ⟨rfl, Wc.step hb10' (Nat.le_refl _) hb9⟩
#print axioms leExact_ok

theorem leExact_any (a : Option Addr) (n cap : Nat) (xs : List Int) (p s m q : Int) (w : World) (hn : n ≤ 500) (hv : Wc.Bs w (.slice a n cap) xs) (h0 : .slice a n cap = Value.slice none 0 0 ∨ ∃ ad n' cap', .slice a n cap = Value.slice (some ad) n' cap')
    (hp : p ≤ 9223372036854775807) :
    Calls Try.prog 3 #[.slice a n cap, .int .i64 p, .int .i64 s, .int .i64 m, .int .i64 q] w fun e w' => e = .returned (.bool true) ∧ Below w.heap.size w w' := by
  obtain ⟨a', n', cap', h, hl, hcap, hcap2, _, hx, hpos⟩ := id hv
  cases h
  cases hs : Wc.rsB s with
  | false => exact leExact_size a n cap xs p s m q w hn hv h0 hp hs
  | true =>
    have hs1 : 1 ≤ s := by rcases Wc.rsB_cases hs with h | h | h | h <;> omega
    cases hpl : Wc.inB n p s with
    | false =>
      have hpc : p < 0 ∨ (0 ≤ p ∧ (n : Int) < p) ∨ (0 ≤ p ∧ p ≤ (n : Int) ∧ decide (s ≤ (n : Int) - p) = false) := by
        rcases place_cases n p s with h | h | h | h
        · exact .inl h
        · exact .inr (.inl h)
        · exact .inr (.inr h)
        · exfalso
          have := inB_yes (len := n) (p := p) (s := s) ⟨h.1, by omega⟩
          rw [hpl] at this; cases this
      cases hf : Wc.fitB m s with
      | false => exact leExact_fitno a n cap xs p s m q w hn hv h0 hp hs hf (by rw [hl]; exact hpl) hpc
      | true => exact leExact_range a n cap xs p s m q w hn hv h0 hp hs hf (by rw [hl]; exact hpl) hpc
    | true =>
      obtain ⟨p1, p2⟩ := Wc.inB_iff.1 hpl
      obtain ⟨j, rfl⟩ := Int.eq_ofNat_of_zero_le p1
      obtain ⟨t, rfl⟩ := Int.eq_ofNat_of_zero_le (show 0 ≤ s by omega)
      obtain ⟨b, off, rfl, _, _⟩ := hpos (by omega)
      obtain ⟨y, e2, bb, hg, hnum, he⟩ : ∃ y e2 bb, Wc.getR xs j t = (y, e2) ∧ numR ((xs.drop j).take t) = (y, bb) ∧ ((bb = true ∧ e2 = 0) ∨ (bb = false ∧ e2 = 1 ∧ y = 0)) := by
        by_cases hle : Wc.val ((xs.drop j).take t) ≤ 4611686018427387903
        · exact ⟨_, 0, true, getR_ok xs j t _ hs (by rw [hl]; exact hpl) (by rw [Int.toNat_natCast, Int.toNat_natCast]) hle, by unfold numR; rw [if_pos hle], .inl ⟨rfl, rfl⟩⟩
        · refine ⟨0, 1, false, ?_, by unfold numR; rw [if_neg hle], .inr ⟨rfl, rfl, rfl⟩⟩
          unfold Wc.getR
          rw [hs, hl, hpl, Int.toNat_natCast, Int.toNat_natCast, if_neg hle]; simp
      cases hf : Wc.fitB m t with
      | false => exact leExact_got b off n cap xs j t m q y w hn hv (by omega) (by omega) hcap hcap2 hs hf e2 bb hg hnum he
      | true =>
        obtain ⟨f1, f2, -⟩ := (Wc.fitB_iff hs).1 hf
        exact leExact_ok b off n cap xs j t m q y w hn hv (by omega) (by omega) hcap hcap2 hs hf f1 f2 e2 bb hg hnum he
#print axioms leExact_any
end Go.Proofs.Ytbognappianohaa
