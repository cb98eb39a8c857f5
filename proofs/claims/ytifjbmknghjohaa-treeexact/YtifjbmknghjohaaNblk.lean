/-
  Blocks in general: a row of sixty-four bytes; four bytes as a text; bytes put behind a slice; what the page's seal returns.
-/
import Derived.Test.YtifjbmknghjohaaNnod
import Derived.Test.YtifjbmknghjohaaRefGood
import Derived.Lib.BufferWrite
import Derived.Lib.SlBytesConst
import Derived.Lib.SmallJoins
import Derived.ArgAppend
namespace Wc
open Go Go.RowKit

/-- Bytes put behind a slice that has no room: memory of one's own. -/
theorem grow_run {P : Program} {e t ty : Nat} {i : TypeInfo} {w : World} {ad : Addr} {n cap : Nat} {u : Value} {xs ys : List Int} (ht : P.underlying t = some (.slice e)) (hi : P.info? e = some i) (hz : i.zero = some (.int .u8 0)) (hsz : i.size = 1) (hby : i.bytes = 1)
    (hv : Bs w (.slice (some ad) n cap) xs) (hu : Bs w u ys) (h0 : 0 < ys.length) (hfull : cap < n + ys.length) (hl : xs.length + ys.length ≤ 140737488355328) :
    ∃ v' w', Sem.run P (Builtin.append_ #[t, t] ty #[.slice (some ad) n cap, u]) w = .ok v' w' ∧ Ob e w.heap.size w' v' (xs ++ ys) ∧ Below w.heap.size w w' := by
  have hbd : ∀ x ∈ xs ++ ys, 0 ≤ x ∧ x < 256 := by
    intro x hx
    rcases List.mem_append.1 hx with h | h
    · exact bs_bytes hv x h
    · exact bs_bytes hu x h
  have hxl := bs_len hv
  rcases hu.open with ⟨rfl, _⟩ | ⟨b, off, m, c, rfl, hm0, hyl, _, _, _, _, _, hc⟩
  · simp at h0
  · have holds : ∀ j v, (xs.map (Value.int .u8))[j]? = some v → w.cell? (ad.add j) = some v := by
      intro j v hj
      have hjn : j < n := by have := (List.getElem?_eq_some_iff.1 hj).1; simpa [hxl] using this
      rcases hv.open with ⟨_, a', cap', h, _⟩ | ⟨b', off', n', cap', h, _, _, _, _, _, _, _, hc'⟩
      · cases h; omega
      · cases h
        rw [add_none, hc' j hjn]; simpa [hxl, hjn] using hj
    have hnews : ∀ j v, (ys.map (Value.int .u8))[j]? = some v → w.cell? ((⟨b, off, none⟩ : Addr).add j) = some v := by
      intro j v hj
      have hjn : j < m := by have := (List.getElem?_eq_some_iff.1 hj).1; simpa [hyl] using this
      rw [add_none, hc j hjn]; simpa [hyl, hjn] using hj
    obtain ⟨v', w', h1, h2, h3⟩ := run_append_arg_grows (P := P) w t ty e i (.int .u8 0) 1 1 ht hi hz hsz hby rfl (by decide) ad n cap (xs.map (Value.int .u8)) (by simpa using hxl) holds ⟨b, off, none⟩ m c (ys.map (Value.int .u8)) (by simpa using hyl) hnews (by omega) (by unfold maxLen; omega) (by omega)
    refine ⟨v', w', h1, ⟨by simpa [hxl, hyl] using h2, by simpa using hl, hbd⟩, ?_⟩
    exact (Below.refl _ _).grown h3 (Nat.le_refl _) (fun g hg => by cases hg)

theorem bs_shape {w : World} {v : Value} {xs : List Int} (h : Bs w v xs) (h0 : 0 < xs.length) : ∃ b off cap, v = .slice (some ⟨b, off, none⟩) xs.length cap := by
  rcases h.open with ⟨rfl, _⟩ | ⟨b, off, n, cap, rfl, _, hn, _⟩
  · simp at h0
  · exact ⟨b, off, cap, by rw [hn]⟩

theorem ob_form {e base : Nat} {w : World} {v : Value} {xs : List Int} (h : Ob e base w v xs) (h0 : 0 < xs.length) : ∃ g cap, v = .slice (some ⟨g, 0, none⟩) xs.length cap := by
  rcases h.1.2 with ⟨_, h1⟩ | ⟨g, cap, cur, hv, _⟩
  · omega
  · exact ⟨g, cap, hv⟩

/-- The number of a slice's elements. -/
def slLen : Value → Nat
  | .slice _ n _ => n
  | _ => 0

end Wc
namespace Go.Proofs.Ytifjbmknghjohaa
open Go.RowKit

/-- A row of bytes. -/
def Rb (w : World) (g : Nat) (xs : List Int) : Prop := w.rowIs g 5 64 (fun j => .int .u8 (xs.getD j 0))

theorem Rb.bs {w : World} {g : Nat} {xs : List Int} (h : Rb w g xs) (hl : xs.length = 64) (hx : ∀ x ∈ xs, 0 ≤ x ∧ x < 256) : Wc.Bs w (.slice (some ⟨g, 0, none⟩) 64 64) xs := Wc.Bs.row hl (by omega) hx h

theorem Rb.keep {w w' : World} {g : Nat} {xs : List Int} (h : Rb w g xs) (hb : Below w.heap.size w w') : Rb w' g xs := by
  obtain ⟨c, h1, h2, h3⟩ := h
  exact ⟨c, by rw [hb.block g (Array.getElem?_eq_some_iff.1 h1).1]; exact h1, h2, h3⟩

theorem make64 (w : World) : (Instr.makeSlice 22 (.int .i64 64) (.int .i64 64)).run Try.prog w = .ok (.slice (some ⟨w.heap.size, 0, none⟩) 64 64) (w.alloc (.cells (madeCells #[.int .u8 0] 64) 5)) :=
  run_make_row' (P := Try.prog) 22 5 (.int .u8 0) 1 Try.underlying22 Try.infoU8 rfl .i64 .i64 64 (by omega) (by omega) w

theorem fit8 {n : Int} (h : 0 ≤ n ∧ n ≤ 1099511627776) : Wc.fitB n 8 = true := (Wc.fitB_iff (by decide)).2 ⟨h.1, by omega, by rw [show (8 : Int).toNat = 8 from rfl]; omega⟩
theorem fit4 {n : Int} (h : 0 ≤ n ∧ n < 4294967296) : Wc.fitB n 4 = true := (Wc.fitB_iff (by decide)).2 ⟨h.1, by omega, by rw [show (4 : Int).toNat = 4 from rfl]; omega⟩

/-- The first bytes as a text. -/
def txt (xs : List Int) : ByteArray := ⟨((xs.take 4).map fun x => x.toNat.toUInt8).toArray⟩

theorem ofNat_toNat {x : Int} (h : 0 ≤ x ∧ x < 256) : (x.toNat.toUInt8.toNat : Int) = x := by
  have : x.toNat.toUInt8.toNat = x.toNat := by
    rw [Nat.toUInt8, UInt8.toNat_ofNat']
    omega
  rw [this]; omega

/-- string(b[:4]). -/
theorem convert_txt {w : World} {b off n cap : Nat} {xs : List Int} (hv : Wc.Bs w (.slice (some ⟨b, off, none⟩) n cap) xs) (hn : 4 ≤ n) :
    (convert 22 9 (.slice (some ⟨b, off, none⟩) 4 cap)).run Try.prog w = .ok (.string (txt xs)) w := by
  obtain ⟨hl, hc⟩ := Wc.bs_cells hv (by omega)
  have hb := Wc.bs_bytes hv
  have h4 : ((xs.take 4).map fun x => x.toNat.toUInt8).length = 4 := by simp; omega
  have := run_convert_bytes_back (P := Try.prog) w 22 9 5 ⟨b, off, none⟩ cap ((xs.take 4).map fun x => x.toNat.toUInt8) Try.underlying22 Try.underlying5 Try.underlying9 (by
    intro j hj
    rw [h4] at hj
    rw [Wc.add_none, hc j (by omega)]
    have hjl : j < xs.length := by omega
    have e : ((xs.take 4).map fun x => x.toNat.toUInt8)[j] = (xs[j]).toNat.toUInt8 := by simp
    rw [e, ofNat_toNat (hb _ (List.getElem_mem _))]
    simp [hjl])
  rw [h4] at this
  exact this

theorem u8_eq {x : Int} (h : 0 ≤ x ∧ x < 256) (k : UInt8) : x.toNat.toUInt8 = k ↔ x = (k.toNat : Int) := by
  have := ofNat_toNat h
  constructor
  · rintro rfl; exact this.symm
  · intro e
    apply UInt8.toNat_inj.1
    omega

end Go.Proofs.Ytifjbmknghjohaa
