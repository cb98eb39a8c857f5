/-
  What build.writes, build.nowhere and the closure of build.Tree return.
-/
import Derived.Test.YtafpjnofccfmlaaCe
import Derived.Test.YtafpjnofccfmlaaDow
namespace Go.Proofs.Ytafpjnofccfmlaa
open Go.RowKit

theorem Rb.ob {w : World} {g base : Nat} {xs : List Int} (h : Rb w g xs) (hl : xs.length = 64) (hx : ∀ x ∈ xs, 0 ≤ x ∧ x < 256) (hb : base ≤ g) : Wc.Ob 5 base w (.slice (some ⟨g, 0, none⟩) 64 64) xs := by
  obtain ⟨c, h1, h2, h3⟩ := h
  refine ⟨⟨by simp, .inr ⟨g, 64, c, by rw [hl], hb, h1, by rw [hl]; exact Nat.le_refl _, by unfold maxLen; omega, by simpa using h2, ?_⟩⟩, by omega, hx⟩
  rw [hl, Nat.mul_one, List.take_of_length_le (by simp [h2])]
  refine List.ext_getElem? fun i => ?_
  rw [Array.getElem?_toList, List.getElem?_map]
  by_cases hi : i < 64
  · rw [h3 i hi, List.getElem?_eq_getElem (by omega)]
    show some (Value.int .u8 (xs.getD i 0)) = _
    rw [List.getD_eq_getElem?_getD, List.getElem?_eq_getElem (by omega)]; rfl
  · rw [List.getElem?_eq_none (by omega), Array.getElem?_eq_none (by omega)]; rfl

set_option maxHeartbeats 800000 in
theorem nowhere_any (k : Int) (w : World) : Calls Try.prog 29 #[.int .i64 k] w fun e w2 => e = .returned (.int .i64 4096) ∧ w = w2 := by
  go_enter Try.func29, Try.ntmps29
  go_wp2_with fail
  go_ret
  exact ⟨rfl, rfl⟩

set_option maxHeartbeats 800000 in
theorem taken_any (T g n cap k : Nat) (F : List Int) (w : World) (hc : w.cell? ⟨T, 0, none⟩ = some (.slice (some ⟨g, 0, none⟩) n cap)) (hF : Wd.In w (.slice (some ⟨g, 0, none⟩) n cap) F) (hk : k < n) :
    Calls Try.prog 33 #[.int .i64 (k : Int), .pointer (some ⟨T, 0, none⟩)] w fun e w2 => e = .returned (.int .i64 (F.getD k 2)) ∧ w = w2 := by
  have hl := Wv.rv_len hF
  have hcc := (Wv.rv_cells hF (by omega)).2 k hk
  rw [Nat.zero_add] at hcc
  have he : F.getD k 0 = F.getD k 2 := by rw [List.getD_eq_getElem?_getD, List.getD_eq_getElem?_getD, List.getElem?_eq_getElem (by omega)]; rfl
  rw [he] at hcc
  obtain ⟨x, hx⟩ : ∃ x, F.getD k 2 = x := ⟨_, rfl⟩
  rw [hx] at hcc ⊢
  have hn : n ≤ 17592186044416 := by obtain ⟨_, _, _, h1, _, _, _, h5, _⟩ := hF; cases h1; exact h5
  clear hF hl he hx
  go_enter Try.func33, Try.ntmps33
  go_wp2_with fail
  go_ret
  exact ⟨rfl, rfl⟩

set_option maxRecDepth 100000 in
set_option maxHeartbeats 6400000 in
theorem writes_any (a : Option Addr) (nf cf : Nat) (a2 : Option Addr) (n2 c2 : Nat) (F : List Int) (N : List Wn.Nod) (w : World) (hF : Wd.In w (.slice a nf cf) F) (hN : Wb.Ns w (.slice a2 n2 c2) N) (hle : N.length ≤ F.length) (hm : N.length ≤ 100000) (hok : ∀ n ∈ N, Wn.nodB n = true) :
    Calls Try.prog 34 #[.slice a nf cf, .slice a2 n2 c2] w fun e w' => ∃ a c, e = .returned (.slice a N.length c) ∧ Wd.Oi 54 5 w.heap.size w' (.slice a N.length c) (Wb.ios F N N.length) ∧ Below w.heap.size w w' := by
  obtain ⟨i0, hi, hz0, hz1, hz2⟩ := info_parts Try.info38
  have hn2 := Wb.ns_len hN
  subst hn2
  have HF := Wc.hid hF
  have HFL := Wc.hid (Wv.rv_len hF)
  have HN := Wc.hid hN
  have HLE := Wc.hid hle
  have HOK := Wc.hid hok
  have HI := Wc.hid hi
  have HZ0 := Wc.hid hz0
  have HZ1 := Wc.hid hz1
  have HZ2 := Wc.hid hz2
  obtain ⟨n, hn⟩ : ∃ n, N.length = n := ⟨_, rfl⟩
  rw [hn] at HLE hm HN ⊢
  have HNL := Wc.hid hn
  clear hF hN hle hok hi hz0 hz1 hz2 hn
  go_enter Try.func34, Try.ntmps34
  go_wp2_with fail
  go_loopw [5, 12] (fun v u wr => ∃ (k : Nat) (a : Option Addr) (c : Nat), v = .slice a k c ∧ u = .int .i64 k ∧ k ≤ n ∧ Hid (Wd.Oi 54 5 w.heap.size wr (.slice a k c) (Wb.ios F N k)) ∧ Hid (Below w.heap.size w wr)) (fun _ u _ => n - (intOf u).toNat)
  case atStart => exact ⟨0, none, 0, rfl, rfl, by omega, Wc.hid (Wd.Oi.nil _ _ _ _), Wc.hid (Below.refl _ _)⟩
  case round =>
    obtain ⟨k, ak, ck, rfl, rfl, hk, RO, RB⟩ := hrel
    by_cases hlt : k < n
    · obtain ⟨b, off, cap, he, hbl, hcells⟩ : ∃ b off cap, Value.slice a2 n c2 = .slice (some ⟨b, off, none⟩) n cap ∧ b < w.heap.size ∧ ∀ i, i < n → Wb.Na w b (off + i * 9) (N.getD i Wn.n0) := by
        rcases HN.out.open with ⟨h0, -⟩ | ⟨b, off, n', cap, h1, -, h3, -, -, -, h7, h8⟩
        · have := HNL.out; rw [h0] at this; simp at this; omega
        · cases h1
          exact ⟨b, off, _, rfl, h7, h8⟩
      cases he
      have hna := (hcells k hlt).keep (RB.out.mono (Nat.le_refl _))
      have hmem : N.getD k Wn.n0 ∈ N := by
        rw [List.getD_eq_getElem?_getD, List.getElem?_eq_getElem (by rw [HNL.out]; exact hlt)]; exact List.getElem_mem _
      have hnod := HOK.out _ hmem
      have hw : Wb.ios F N (k + 1) = Wb.ios F N k ++ [Wb.wio F N k] := Wb.ios_succ F N k
      obtain ⟨q, hq⟩ : ∃ q, F.getD k 0 = q := ⟨_, rfl⟩
      obtain ⟨bf, offf, capf, hef, hbf, hcf⟩ := in_open HF.out (by have := HLE.out; omega)
      have hfc := hcf k (by have := HLE.out; omega)
      rw [HFL.out] at hef
      cases hef
      rw [hq] at hfc
      have hq2 : F.getD k 2 = q := by rw [← hq, List.getD_eq_getElem?_getD, List.getD_eq_getElem?_getD, List.getElem?_eq_getElem (by have := HLE.out; omega)]; rfl
      obtain ⟨nk, hnk⟩ : ∃ nk, N.getD k Wn.n0 = nk := ⟨_, rfl⟩
      have hwio : Wb.wio F N k = ⟨1, q, Wn.blk nk⟩ := by unfold Wb.wio; rw [hq2, hnk]
      rw [hnk] at hna hnod
      rw [hwio] at hw
      have HW := Wc.hid hw
      have HNOD := Wc.hid hnod
      have HBF := Wc.hid hbf
      have HNF := Wc.hid (show k < nf by rw [← HFL.out]; have := HLE.out; omega)
      have hknf := HNF.out
      have hnf := (show nf ≤ 17592186044416 by obtain ⟨_, _, _, h1, _, _, _, h5, _⟩ := HF.out; cases h1; exact h5)
      obtain ⟨x0, x1, x2, x3, x4, x5, x6, x7, x8⟩ := hna
      have hA := (Below.refl wr.heap.size wr).alloc (Nat.le_refl _) (.cells #[.int .i64 nk.level, .int .i64 nk.p0, .int .i64 nk.p1, .int .i64 nk.p2, .int .i64 nk.p3, .int .i64 nk.p4, .int .i64 nk.p5, .int .i64 nk.p6, .int .i64 nk.p7] 83)
      have HA := Wc.hid hA
      have hfA : (wr.alloc (.cells #[.int .i64 nk.level, .int .i64 nk.p0, .int .i64 nk.p1, .int .i64 nk.p2, .int .i64 nk.p3, .int .i64 nk.p4, .int .i64 nk.p5, .int .i64 nk.p6, .int .i64 nk.p7] 83)).cell? ⟨bf, offf + k, none⟩ = some (.int .i64 q) := by
        rw [hA.cell (p := ⟨bf, offf + k, none⟩) (Nat.lt_of_lt_of_le hbf RB.out.size), RB.out.cell (p := ⟨bf, offf + k, none⟩) hbf]; exact hfc
      have HFA := Wc.hid hfA
      clear hw hnod hbf hfA hA hcells hcf hfc hq hq2 hnk hwio hmem
      go_wp2_with fail
      refine (bytes7_ok nk _ HNOD.out).mono ?_
      rintro e w3 ⟨g, rfl, hg, hrb, hb3⟩
      have hb03 := Wc.step HA.out (Nat.le_refl _) hb3
      have hfc3 : w3.cell? ⟨bf, offf + k, none⟩ = some (.int .i64 q) := by
        rw [hb3.cell (p := ⟨bf, offf + k, none⟩) (Nat.lt_of_lt_of_le HBF.out (Nat.le_trans RB.out.size HA.out.size))]; exact HFA.out
      have hbl64 := Wn.blk_length nk
      have hcl : (Wd.cells3 (⟨⟨1, q, Wn.blk nk⟩, (some ⟨g, 0, none⟩, 64)⟩ : Wd.Pl)).toArray = #[.int .i64 1, .int .i64 q, .slice (some ⟨g, 0, none⟩) 64 64] := by
        simp [Wd.cells3, hbl64]
      have hA4 := (Below.refl w3.heap.size w3).alloc (Nat.le_refl _) (.cells #[.int .i64 1, .int .i64 q, .slice (some ⟨g, 0, none⟩) 64 64] 54)
      have hu := lit_cells w3 ⟨⟨1, q, Wn.blk nk⟩, (some ⟨g, 0, none⟩, 64)⟩ 54
      rw [hcl] at hu
      obtain ⟨v4, w4, hrun, hO, hb4⟩ := Wd.append_io (P := Try.prog) (ty := 30) (base := w.heap.size) (c := 1) Try.underlying30 HI.out HZ0.out HZ1.out HZ2.out rfl (by omega) (by decide) ((RO.out.keep hb03).keep hA4) hu (by
        show Wc.Ob 5 w.heap.size _ (.slice (some ⟨g, 0, none⟩) (Wn.blk nk).length 64) (Wn.blk nk)
        rw [hbl64]
        exact ((hrb.keep hA4).ob hbl64 (Wn.blk_bd nk) (Nat.le_trans (Nat.le_trans RB.out.size HA.out.size) hg))) (by rw [Wb.ios_length]; omega) (Nat.le_trans (Nat.le_trans RB.out.size hb03.size) hA4.size)
      rw [← HW.out] at hO
      obtain ⟨a4, c4, rfl⟩ := hO.slice
      rw [Wb.ios_length] at hO hrun
      have HRUN := Wc.hid hrun
      have HO := Wc.hid hO
      have HB := Wc.hid (((RB.out.trans (hb03.mono RB.out.size)).trans (hA4.mono (Nat.le_trans RB.out.size hb03.size))).trans hb4)
      clear hrun hO hb4 hA4 hu hcl hb03 hb3 hrb hg
      go_wp2_with (at_builtin; refine Wv.wp_append HRUN.out rfl rfl rfl rfl ?_)
      go_roundw
      case rel => exact ⟨k + 1, a4, c4, rfl, by go_num, by omega, HO, HB⟩
      case measure => simp [intOf]; omega
    · obtain rfl : k = n := by omega
      go_wp2_with fail
      go_ret
      exact ⟨ak, ck, rfl, RO.out, RB.out⟩
end Go.Proofs.Ytafpjnofccfmlaa
