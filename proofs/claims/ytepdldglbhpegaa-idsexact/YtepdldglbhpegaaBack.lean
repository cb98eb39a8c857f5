/-
  The walk of the law IdsBack: for every three ints it returns true and turns nothing that was there.
-/
import Derived.Test.YtepdldglbhpegaaIdw
import Derived.Deep.QuietTactic
import Derived.BigQuiet
namespace Go.Proofs.Ytepdldglbhpegaa
open Go.RowKit

theorem quiet_same {P : Program} {f : FuncId} {args : Array Value} {w : World} {n : Nat} {v : Value}
    (h : Calls P f args (w.drewN n) fun e w' => e = .returned v ∧ w.drewN n = w') : Calls P f args (w.drewN n) fun e w'' => e = .returned v ∧ ∃ m, w'' = w.drewN m :=
  h.mono fun _ _ ⟨he, hm⟩ => ⟨he, n, hm.symm⟩

theorem low (m i : Int) (h0 : 0 < m) (h : m ≤ 4294967296) : ∃ A : Nat, ((A : Int) < m) ∧ wrap64 ((IntKind.u64.wrap i).tmod m) = A := by
  rw [IntKind.wrap_u64, Int.tmod_eq_emod_of_nonneg (by omega)]
  have h1 := Int.emod_nonneg (i % 18446744073709551616) (b := m) (by omega)
  have h2 := Int.emod_lt_of_pos (i % 18446744073709551616) (b := m) h0
  obtain ⟨A, hA⟩ := Int.eq_ofNat_of_zero_le h1
  refine ⟨A, by omega, ?_⟩
  rw [hA] at h2 ⊢
  unfold wrap64; omega

/-- What Text answers. -/
def txtR (n : Int) : ByteArray := if idB n = true then ⟨(Wh.txt 16 n.toNat).toArray⟩ else ⟨#[]⟩

theorem text_any (n : Int) (w : World) :
    Calls Try.prog 6 #[.int .i64 n] w fun e w' => e = .returned (.tuple #[.string (txtR n), .int .i64 (chk n)]) ∧ Below w.heap.size w w' := by
  cases h : idB n with
  | false =>
    refine (text_out n w h).mono ?_
    rintro e w' ⟨rfl, rfl⟩
    rw [chk_no h]
    unfold txtR
    rw [h]
    exact ⟨rfl, Below.refl _ _⟩
  | true =>
    have h1 := idB_iff.1 h
    obtain ⟨k, rfl⟩ := Int.eq_ofNat_of_zero_le (show 0 ≤ n by omega)
    refine (text_in k w (by omega) (by omega)).mono ?_
    rintro e w' ⟨rfl, hb⟩
    rw [chk_ok h]
    unfold txtR
    rw [h]
    exact ⟨rfl, hb⟩

set_option maxRecDepth 100000 in
set_option maxHeartbeats 1600000 in
theorem back_none (a b t : Int) (w : World) (h : idB a = false ∨ idB b = false) :
    Calls Try.prog 4 #[.int .i64 a, .int .i64 b, .int .i64 t] w fun e w' => e = .returned (.bool true) ∧ Below w.heap.size w w' := by
  obtain ⟨sa, ea⟩ : ∃ x, txtR a = x := ⟨_, rfl⟩
  obtain ⟨sb, eb⟩ : ∃ x, txtR b = x := ⟨_, rfl⟩
  obtain ⟨ca, fa⟩ : ∃ x, chk a = x := ⟨_, rfl⟩
  obtain ⟨cb, fb⟩ : ∃ x, chk b = x := ⟨_, rfl⟩
  have H1 : ca = 1 ∨ ca = 0 ∧ cb = 1 := by
    rcases h with h | h
    · left; rw [← fa, chk_no h]
    · cases h' : idB a with
      | false => left; rw [← fa, chk_no h']
      | true => right; rw [← fa, ← fb, chk_no h, chk_ok h']; exact ⟨rfl, rfl⟩
  have H2 : Hid ((ca = 0 ∨ sa = ⟨#[]⟩) ∧ (cb = 0 ∨ cb = 1 ∧ sb = ⟨#[]⟩)) := Wv.hid (by
    rw [← ea, ← eb, ← fa, ← fb]
    unfold chk txtR
    cases idB a <;> cases idB b <;> simp)
  go_enter Try.func4, Try.ntmps4
  go_wp2_with fail
  refine (text_any a _).mono ?_
  rintro e w1 ⟨rfl, hb1⟩
  rw [ea, fa]
  go_wp2_with fail
  refine (text_any b _).mono ?_
  rintro e w2 ⟨rfl, hb2⟩
  rw [eb, fb]
  clear ea eb fa fb h
  have hb3 := Wv.step hb1 (Nat.le_refl _) hb2
  clear hb1 hb2
  rcases H1 with rfl | ⟨rfl, rfl⟩
  · obtain rfl : sa = ⟨#[]⟩ := by have := H2.out.1; simpa using this
    rcases H2.out.2 with rfl | ⟨rfl, rfl⟩
    all_goals
      clear H2
      go_wp2_with (first | (go_at_call 12; refine (wakes_any _).mono ?_; rintro e w3 ⟨rfl, hb4⟩))
      all_goals go_ret
      exact ⟨rfl, Wv.step hb3 (Nat.le_refl _) hb4⟩
  · obtain rfl : sb = ⟨#[]⟩ := by have := H2.out.2; simpa using this
    clear H2
    go_wp2_with (first | (go_at_call 12; refine (wakes_any _).mono ?_; rintro e w3 ⟨rfl, hb4⟩))
    all_goals go_ret
    exact ⟨rfl, Wv.step hb3 (Nat.le_refl _) hb4⟩

theorem txt_digit (n : Nat) (j : Nat) (hj : j < (Wh.txt 16 n).length) : 48 ≤ ((Wh.txt 16 n)[j]).toNat ∧ ((Wh.txt 16 n)[j]).toNat < 103 := by
  have h := Wh.txt_get 16 n j (by rw [Wh.txt_length] at hj; exact hj)
  rw [List.getElem?_eq_getElem hj] at h
  rw [Option.some.inj h, Wh.dc_toNat (Nat.mod_lt _ (by omega))]
  have := Wh.dn_lt (d := n / 16 ^ (16 - 1 - j) % 16) (Nat.mod_lt _ (by omega))
  omega

/-- The bytes of a text of sixteen, as memory of its own. -/
theorem bytes16 (w : World) (l : List UInt8) (hl : l.length = 16) :
    ∃ cap w1, (convert 9 37 (.string ⟨l.toArray⟩)).run Try.prog w = .ok (.slice (some ⟨w.heap.size, 0, none⟩) 16 cap) w1 ∧ 16 ≤ cap ∧ cap ≤ 9223372036854775807 ∧ Below w.heap.size w w1 ∧
      ∀ j (hj : j < 16), w1.cell? ⟨w.heap.size, j, none⟩ = some (.int .u8 ((l[j]).toNat : Int)) ∧ w1.frozen? ⟨w.heap.size, j, none⟩ = false := by
  have hr := run_bytes_of_string (P := Try.prog) w 9 37 5 ⟨l.toArray⟩ Try.underlying9 Try.underlying37 Try.underlying5
  have hs : (ByteArray.mk l.toArray).size = 16 := by show l.toArray.size = 16; simpa using hl
  have hd : (ByteArray.mk l.toArray).data = l.toArray := rfl
  have hg := grownCap_ge w 16 0 5
  have hm := grownCap_le_maxLen w 16 0 5 (by unfold maxLen; omega)
  rw [hs] at hr
  generalize grownCap w 16 0 5 = cap at *
  have hsz : (bytesRow ⟨l.toArray⟩ cap).size = cap := by unfold bytesRow; simp [hs, hl]; omega
  rw [hsz] at hr
  refine ⟨cap, _, hr, hg, by unfold maxLen at hm; omega, ((Below.refl _ _).drew).alloc (Nat.le_refl _) _, fun j hj => ⟨?_, ?_⟩⟩
  · have h1 := bytesRow_at ⟨l.toArray⟩ cap j (by rw [hd]; simpa [hl] using hj)
    exact (World.cell?_alloc_mark w.drew _ 5 _ j).trans h1
  · refine (World.frozen?_alloc_mark w.drew _ 5 cap (cap + 1) j).trans ?_
    rw [decide_eq_false (by omega)]; rfl

/-- The bytes as a text again. -/
theorem back_same {w : World} {g cap : Nat} {l : List UInt8} (hl : l.length = 16) (hc : ∀ j (hj : j < 16), w.cell? ⟨g, j, none⟩ = some (.int .u8 ((l[j]).toNat : Int))) :
    (convert 37 9 (.slice (some ⟨g, 0, none⟩) 16 cap)).run Try.prog w = .ok (.string ⟨l.toArray⟩) w := by
  have := run_convert_bytes_back (P := Try.prog) w 37 9 5 ⟨g, 0, none⟩ cap l Try.underlying37 Try.underlying5 Try.underlying9 (fun j hj => by
    rw [Wv.add_none, Nat.zero_add]
    exact hc j (by omega))
  rw [hl] at this
  exact this

theorem back_set {w : World} {g cap : Nat} {l : List UInt8} (hl : l.length = 16) (hc : ∀ j (hj : j < 16), w.cell? ⟨g, j, none⟩ = some (.int .u8 ((l[j]).toNat : Int))) (j x : Nat) (hx : x < 256) :
    (convert 37 9 (.slice (some ⟨g, 0, none⟩) 16 cap)).run Try.prog (w.setCell ⟨g, j, none⟩ (.int .u8 (x : Int))) = .ok (.string ⟨(l.set j (UInt8.ofNat x)).toArray⟩) (w.setCell ⟨g, j, none⟩ (.int .u8 (x : Int))) := by
  refine back_same (by simpa using hl) fun i hi => ?_
  by_cases h : i = j
  · subst h
    rw [List.getElem_set_self, UInt8.toNat_ofNat', Nat.mod_eq_of_lt hx]
    exact World.cell?_setCell_same _ _ _ (hc i hi)
  · rw [List.getElem_set_ne (by omega), ← hc i hi]
    exact World.cell?_setCell_other _ _ _ _ (fun e => h (by cases e; rfl))

set_option maxRecDepth 100000 in
set_option maxHeartbeats 1600000 in
theorem back_both (n m : Nat) (t : Int) (w : World) (n1 : 1 ≤ n) (n2 : n ≤ 4611686018427387903) (m1 : 1 ≤ m) (m2 : m ≤ 4611686018427387903) :
    Calls Try.prog 4 #[.int .i64 n, .int .i64 m, .int .i64 t] w fun e w' => e = .returned (.bool true) ∧ Below w.heap.size w w' := by
  obtain ⟨j, hj, ej⟩ := low 16 t (by omega) (by omega)
  have hp := Wh.par_txt n n1 n2
  have hl : (Wh.txt 16 n).length = 16 := Wh.txt_length 16 n
  have hd := txt_digit n
  obtain ⟨q, hq⟩ : ∃ q, (Wh.txt 16 n == Wh.txt 16 m) = q := ⟨_, rfl⟩
  have hq2 : ((n : Int) == (m : Int)) = q := by rw [← hq, Wh.eq16 n m n2 m2]; rfl
  obtain ⟨r, hr⟩ : ∃ r, Op.bytesLess (Wh.txt 16 n) (Wh.txt 16 m) = r := ⟨_, rfl⟩
  have hr2 : decide (n < m) = r := by rw [← hr, Wh.less16 n m n2 m2]; simp
  obtain ⟨S, eS⟩ : ∃ S, Wh.txt 16 n = S := ⟨_, rfl⟩
  obtain ⟨T, eT⟩ : ∃ T, Wh.txt 16 m = T := ⟨_, rfl⟩
  rw [eS] at hp hl hd hq hr
  rw [eT] at hq hr
  have HP := Wv.hid hp
  have HD := Wv.hid hd
  clear hp hd
  go_enter Try.func4, Try.ntmps4
  go_wp2_with fail
  refine (text_in n _ n1 n2).mono ?_
  rintro e w1 ⟨rfl, hb1⟩
  rw [eS]
  go_wp2_with fail
  refine (text_in m _ m1 m2).mono ?_
  rintro e w2 ⟨rfl, hb2⟩
  rw [eT]
  have hb3 := Wv.step hb1 (Nat.le_refl _) hb2
  clear hb1 hb2 eS eT
  go_wp2_with fail
  refine (parse_any _ _).mono ?_
  rintro e w' ⟨rfl, rfl⟩
  rw [List.toList_toArray, HP.out]
  go_wp2_with fail
  clear hq hr hq2 hr2
  have hsz : ((S.toArray.size : Nat) : Int) = 16 := by simp [hl]
  go_quiet (first | (go_at_call 7; refine quiet_same (parse_any _ _)) | fail)
  have h15 : Wh.par (List.take j S ++ List.take (15 - j) (List.drop (j + 1) S)) = (0, 1) := Wh.par_len (by simp [hl]; omega)
  rw [h15, ej]
  clear h15 ej hsz
  have hb5 : Below w.heap.size w (w2.drewN nq) := below_drewN hb3 _
  generalize w2.drewN nq = w3 at *
  clear hb3
  obtain ⟨cap, w4, hcv, c1, c2, hb6, hc⟩ := bytes16 w3 S hl
  have hjl : j < S.length := by omega
  obtain ⟨hcell, hfz⟩ := hc j (by omega)
  have hidx : ∀ w, (Instr.index 9 (.string ⟨S.toArray⟩) (.int .i64 (j : Int))).run Try.prog w = .ok (.int .u8 ((S[j]).toNat : Int)) w := fun w => idx_str Try.underlying9 ⟨S.toArray⟩ j hjl w
  have hb7 := Wv.step hb5 (Nat.le_refl _) hb6
  obtain ⟨d1, d2⟩ := HD.out j hjl
  have HX := Wv.hid (Wh.par_set hjl)
  have HA := Wv.hid (back_same (cap := cap) hl (fun j hj => (hc j hj).1))
  have HB := Wv.hid (back_set (cap := cap) hl (fun j hj => (hc j hj).1) j)
  clear hc HD hb6
  generalize (S[j]).toNat = c at *
  clear hjl hl
  by_cases hge : 97 ≤ c
  · have hback := HB.out (c - 32) (by omega)
    rw [show ((c - 32 : Nat) : Int) = (c : Int) - 32 by omega] at hback
    have hpar := HX.out hge d2
    have hlt : decide ((c : Int) < 97) = false := by rw [decide_eq_false_iff_not]; omega
    clear HA HB HX
    go_wp2_with fail
    refine (parse_any _ _).mono ?_
    rintro e w' ⟨rfl, rfl⟩
    rw [List.toList_toArray, hpar]
    go_wp2_with (first | (go_at_call 12; refine (wakes_any _).mono ?_; rintro e w5 ⟨rfl, hb8⟩))
    all_goals go_ret
    exact ⟨rfl, Wv.step (hb7.setCell hb5.size _) (Nat.le_refl _) hb8⟩
  · have hback := HA.out
    clear HA HB HX
    go_wp2_with fail
    refine (parse_any _ _).mono ?_
    rintro e w' ⟨rfl, rfl⟩
    rw [List.toList_toArray, HP.out]
    go_wp2_with (first | (go_at_call 12; refine (wakes_any _).mono ?_; rintro e w5 ⟨rfl, hb8⟩))
    all_goals go_ret
    exact ⟨rfl, Wv.step hb7 (Nat.le_refl _) hb8⟩

/-- The law, for every three ints. -/
theorem idsBack_any (a b t : Int) (w : World) :
    Calls Try.prog 4 #[.int .i64 a, .int .i64 b, .int .i64 t] w fun e w' => e = .returned (.bool true) ∧ Below w.heap.size w w' := by
  cases ha : idB a with
  | false => exact back_none a b t w (.inl ha)
  | true =>
    cases hb : idB b with
    | false => exact back_none a b t w (.inr hb)
    | true =>
      have h1 := idB_iff.1 ha
      have h2 := idB_iff.1 hb
      obtain ⟨n, rfl⟩ := Int.eq_ofNat_of_zero_le (show 0 ≤ a by omega)
      obtain ⟨m, rfl⟩ := Int.eq_ofNat_of_zero_le (show 0 ≤ b by omega)
      exact back_both n m t w (by omega) (by omega) (by omega) (by omega)

end Go.Proofs.Ytepdldglbhpegaa
