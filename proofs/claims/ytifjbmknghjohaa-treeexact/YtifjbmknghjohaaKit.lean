/-
  Parts of slices of bytes; memory of the call's own that holds bytes, and append to it; keep.Twin answers such memory. No conditions beyond those that each theorem names.
-/
import Derived.Test.YtifjbmknghjohaaWake
import Derived.Laws.IdiomStrings
namespace Wc
open Go Go.RowKit

theorem bs_take {w : World} {b off n cap : Nat} {xs : List Int} (h : Wc.Bs w (.slice (some ⟨b, off, none⟩) n cap) xs) (k : Nat) (hk : k ≤ n) : Wc.Bs w (.slice (some ⟨b, off, none⟩) k cap) (xs.take k) := by
  obtain ⟨a, n', cap', h1, h2, h3, h4, h5, h6, h7⟩ := h
  cases h1
  refine ⟨_, k, cap, rfl, by simp; omega, by omega, h4, by omega, fun x hx => h6 x (List.mem_of_mem_take hx), fun h0 => ?_⟩
  obtain ⟨b', off', ha, hb, hc⟩ := h7 (by omega)
  cases ha
  exact ⟨b, off, rfl, hb, fun i hi => by rw [hc i (by omega)]; simp [hi]⟩

theorem bs_mid {w : World} {b off n cap : Nat} {xs : List Int} (h : Wc.Bs w (.slice (some ⟨b, off, none⟩) n cap) xs) (j t : Nat) (hk : j + t ≤ n) : Wc.Bs w (.slice (some ⟨b, off + j, none⟩) t (cap - j)) ((xs.drop j).take t) := by
  obtain ⟨a, n', cap', h1, h2, h3, h4, h5, h6, h7⟩ := h
  cases h1
  refine ⟨_, t, cap - j, rfl, by simp; omega, by omega, by omega, by omega, fun x hx => h6 x (List.mem_of_mem_drop (List.mem_of_mem_take hx)), fun h0 => ?_⟩
  obtain ⟨b', off', ha, hb, hc⟩ := h7 (by omega)
  cases ha
  refine ⟨b, off + j, rfl, hb, fun i hi => ?_⟩
  rw [Nat.add_assoc, hc (j + i) (by omega)]
  simp [hi]

theorem bs_cells {w : World} {b off n cap : Nat} {xs : List Int} (h : Wc.Bs w (.slice (some ⟨b, off, none⟩) n cap) xs) (h0 : 0 < n) : xs.length = n ∧ ∀ i, i < n → w.cell? ⟨b, off + i, none⟩ = some (.int .u8 (xs.getD i 0)) := by
  obtain ⟨a, n', cap', h1, h2, h3, h4, h5, h6, h7⟩ := h
  cases h1
  obtain ⟨b', off', ha, hb, hc⟩ := h7 h0
  cases ha
  exact ⟨h2, hc⟩

theorem bs_bytes {w : World} {v : Value} {xs : List Int} (h : Wc.Bs w v xs) : ∀ x ∈ xs, 0 ≤ x ∧ x < 256 := by
  obtain ⟨a, n', cap', h1, h2, h3, h4, h5, h6, h7⟩ := h
  exact h6

theorem bs_len {w : World} {a : Option Addr} {n cap : Nat} {xs : List Int} (h : Wc.Bs w (.slice a n cap) xs) : xs.length = n := by
  obtain ⟨a, n', cap', h1, h2, h3, h4, h5, h6, h7⟩ := h
  cases h1
  exact h2

theorem bs_cap {w : World} {a : Option Addr} {n cap : Nat} {xs : List Int} (h : Wc.Bs w (.slice a n cap) xs) : n ≤ cap ∧ cap ≤ 9223372036854775807 := by
  obtain ⟨a, n', cap', h1, h2, h3, h4, h5, h6, h7⟩ := h
  cases h1
  exact ⟨h3, h4⟩

theorem made_zero (n : Nat) : (madeCells #[Value.int .u8 0] n).toList = (List.replicate n (0 : Int)).map (Value.int .u8) := by
  rw [toList_madeCells_one, List.map_replicate]

theorem low (m i : Int) (h0 : 0 < m) (h : m ≤ 4294967296) : ∃ A : Int, (0 ≤ A ∧ A < m) ∧ wrap64 ((IntKind.u64.wrap i).tmod m) = A := by
  rw [IntKind.wrap_u64, Int.tmod_eq_emod_of_nonneg (by omega)]
  have h1 := Int.emod_nonneg (i % 18446744073709551616) (b := m) (by omega)
  have h2 := Int.emod_lt_of_pos (i % 18446744073709551616) (b := m) h0
  exact ⟨_, ⟨h1, h2⟩, by unfold wrap64; omega⟩

theorem putR_ok (xs : List Int) (p s m : Int) (hs : Wc.rsB s = true) (hf : 0 ≤ m ∧ m ≤ 4611686018427387903 ∧ m < 256 ^ s.toNat) (hp : Wc.inB xs.length p s = true) :
    Wc.putR xs p s m = (Wc.putL xs p.toNat s.toNat m, 0) := by
  have := (Wc.fitB_iff hs).2 hf
  unfold Wc.putR
  rw [hs, this, hp]; simp

theorem getR_ok (xs : List Int) (p s m : Int) (hs : Wc.rsB s = true) (hp : Wc.inB xs.length p s = true) (hm : Wc.val ((xs.drop p.toNat).take s.toNat) = m) (hle : m ≤ 4611686018427387903) :
    Wc.getR xs p s = (m, 0) := by
  unfold Wc.getR
  rw [hs, hp, hm]; simp [hle]

/-- New cells hold bytes, whatever of them bears a mark. -/
theorem Bs.litF (w : World) (cs : Array Value) (e n : Nat) (fr : Nat × Nat) (xs : List Int) (hn : xs.length = n) (hm : n ≤ 140737488355328) (hc : cs.toList = xs.map (Value.int .u8)) (hx : ∀ x ∈ xs, 0 ≤ x ∧ x < 256) :
    Bs (w.alloc (.cells cs e fr)) (.slice (some ⟨w.heap.size, 0, none⟩) n n) xs := by
  refine ⟨_, n, n, rfl, hn, Nat.le_refl _, by omega, hm, hx, fun _ => ⟨w.heap.size, 0, rfl, by simp, fun i hi => ?_⟩⟩
  rw [Nat.zero_add, World.cell?_alloc_mark, ← Array.getElem?_toList, hc]
  simp [hn, hi]

/-- A slice that is nil, or has an address: as one comes in, or is made. -/
def Shaped (v : Value) : Prop := v = .slice none 0 0 ∨ ∃ ad n cap, v = .slice (some ad) n cap

theorem Shaped.of_row {w : World} {a : Option Addr} {len cap : Nat} {zs : List Int}
    (h : (a = none ∧ len = 0 ∧ cap = 0 ∧ zs = []) ∨
      ∃ x, a = some x ∧ len ≤ cap ∧ cap ≤ maxLen ∧ zs.length = cap ∧ (∀ i, i < zs.length → w.cell? (x.add i) = some (.int .u8 (zs.getD i 0))) ∧ ∀ n ∈ zs, (Lit.int .u8 n).wf = true) :
    Shaped (.slice a len cap) := by
  rcases h with ⟨rfl, rfl, rfl, -⟩ | ⟨x, rfl, -⟩
  · exact .inl rfl
  · exact .inr ⟨x, len, cap, rfl⟩

theorem bs_drewN {w : World} {v : Value} {xs : List Int} (h : Bs w v xs) (n : Nat) : Bs (w.drewN n) v xs := h.keep (below_drewN (Below.refl _ _) n)

theorem quiet_same {P : Program} {f : FuncId} {args : Array Value} {w : World} {n : Nat} {v : Value}
    (h : Calls P f args (w.drewN n) fun e w' => e = .returned v ∧ w.drewN n = w') : Calls P f args (w.drewN n) fun e w'' => e = .returned v ∧ ∃ m, w'' = w.drewN m :=
  h.mono fun _ _ ⟨he, hm⟩ => ⟨he, n, hm.symm⟩

/-- Memory of the call's own, from the block base on, that holds bytes: e is the number of the bytes' type. -/
def Ob (e base : Nat) (w : World) (v : Value) (xs : List Int) : Prop :=
  w.ownsRow base e 1 v xs.length (xs.map (Value.int .u8)) ∧ xs.length ≤ 140737488355328 ∧ ∀ x ∈ xs, 0 ≤ x ∧ x < 256

theorem Ob.nil (e base : Nat) (w : World) : Ob e base w (.slice none 0 0) [] := ⟨World.ownsRow_nil _ _ _ _, by simp, by simp⟩

theorem Ob.bs {e base : Nat} {w : World} {v : Value} {xs : List Int} (h : Ob e base w v xs) : Bs w v xs := Bs.own h.1 h.2.1 h.2.2

theorem Ob.shaped {e base : Nat} {w : World} {v : Value} {xs : List Int} (h : Ob e base w v xs) : Shaped v := by
  rcases h.1.2 with ⟨rfl, _⟩ | ⟨g, cap, cur, rfl, _⟩
  · exact .inl rfl
  · exact .inr ⟨_, _, _, rfl⟩

/-- It stays where nothing that was there has turned. -/
theorem Ob.keep {e base : Nat} {w w' : World} {v : Value} {xs : List Int} (h : Ob e base w v xs) (hb : Below w.heap.size w w') : Ob e base w' v xs := by
  refine ⟨⟨h.1.1, ?_⟩, h.2⟩
  rcases h.1.2 with hn | ⟨g, cap, cur, hv, hbg, hg, rest⟩
  · exact .inl hn
  · refine .inr ⟨g, cap, cur, hv, hbg, ?_, rest⟩
    rw [hb.block g (Array.getElem?_eq_some_iff.1 hg).1]
    exact hg

theorem Ob.base {e base base' : Nat} {w : World} {v : Value} {xs : List Int} (h : Ob e base w v xs) (hb : base' ≤ base) : Ob e base' w v xs := by
  refine ⟨⟨h.1.1, ?_⟩, h.2⟩
  rcases h.1.2 with hn | ⟨g, cap, cur, hv, hbg, rest⟩
  · exact .inl hn
  · exact .inr ⟨g, cap, cur, hv, Nat.le_trans hb hbg, rest⟩

/-- Bytes are put behind memory of the call's own. -/
theorem append_run {P : Program} {e t ty base : Nat} {i : TypeInfo} {w : World} {v u : Value} {xs ys : List Int} (ht : P.underlying t = some (.slice e)) (hi : P.info? e = some i) (hz : i.zero = some (.int .u8 0)) (hsz : i.size = 1) (hby : i.bytes = 1)
    (hv : Ob e base w v xs) (hu : Bs w u ys) (hs : Shaped u) (hl : xs.length + ys.length ≤ 140737488355328) (hbase : base ≤ w.heap.size) :
    ∃ v' w', Sem.run P (Builtin.append_ #[t, t] ty #[v, u]) w = .ok v' w' ∧ Ob e base w' v' (xs ++ ys) ∧ Below base w w' := by
  have hbd : ∀ x ∈ xs ++ ys, 0 ≤ x ∧ x < 256 := by
    intro x hx
    rcases List.mem_append.1 hx with h | h
    · exact hv.2.2 x h
    · exact bs_bytes hu x h
  rcases hs with rfl | ⟨ad, n, cap, rfl⟩
  · have hr := run_append_owned_none (P := P) w base t ty e i 1 ht hi v _ _ hv.1
    have h0 := bs_len hu
    obtain rfl := List.eq_nil_of_length_eq_zero h0
    exact ⟨_, _, hr, by rw [List.append_nil]; exact hv, Below.refl _ _⟩
  · have h0 := bs_len hu
    obtain ⟨v', w', h1, h2, h3, h4⟩ := run_append_own (P := P) w base t ty e i (.int .u8 0) 1 1 ht hi hz hsz hby rfl (by decide) v _ _ hv.1 ad n cap (ys.map (Value.int .u8)) (by simpa using h0) (by
        intro j c hj
        have hjn : j < n := by have := (List.getElem?_eq_some_iff.1 hj).1; simpa [h0] using this
        rcases hu.open with ⟨_, a', cap', h, _⟩ | ⟨b, off, n', cap', h, _, _, _, _, _, _, _, hc⟩
        · cases h; omega
        · cases h
          rw [add_none, hc j hjn]; simpa [h0, hjn] using hj) (by
        intro c hc; obtain ⟨x, _, rfl⟩ := List.mem_map.1 hc; rfl) (by unfold maxLen; omega) (by omega) hbase
    refine ⟨v', w', h1, ⟨by simpa [h0] using h2, by simpa using hl, hbd⟩, ?_⟩
    exact (Below.refl _ _).grown h3 hbase (fun g hg => (hv.1.lt g hg).1)

/-- The walk over an append whose run is known; it may stand behind a guard that is met. -/
theorem wp_append {P : Program} {w w' : World} {ops : Array Oper} {rest : List Oper} {o : Oper} {a : Act} {Q : Exit → Act → World → Prop} {s x : Operand} {t : TypeId} {v u v' : Value}
    (hrun : Sem.run P (Builtin.append_ #[t, t] o.type #[v, u]) w = .ok v' w') (hw : Region.wanted o (yielded ops a.tmps) = true)
    (ho : o.op = .call { callee := .builtin .append, args := #[s, x], argTypes := #[t, t] }) (hs : a.eval s = v) (hx : a.eval x = u)
    (h : wpList P ops Q rest (a.put o.dst v') w') : wpList P ops Q (o :: rest) a w := by
  refine wpList_step fun K hK => ?_
  rw [if_pos hw]
  unfold Oper.wp
  simp [execOp, ho, resolve, invoke, builtin, hs, hx, hrun, Result.andThen]
  exact hK _ _ h

theorem mapM_some {α β : Type} {f : α → Option β} : ∀ (L : List α) (ys : List β), L.mapM f = some ys → ∀ i ∈ L, ∃ y, f i = some y
  | [], _, _ => by simp
  | a :: L, ys, h => by
    rw [List.mapM_cons] at h
    simp only [bind, Option.bind_eq_some_iff, pure, Option.some.injEq] at h
    obtain ⟨y, hy, zs, hzs, rfl⟩ := h
    intro i hi
    rcases List.mem_cons.1 hi with rfl | hi
    · exact ⟨y, hy⟩
    · exact mapM_some L zs hzs i hi

def intAt : Value → Int
  | .int _ z => z
  | _ => 0

/-- An array of numbers that came in, by value. -/
theorem open_array {P : Program} {W : World} {r : Reach} {b0 base n : Nat} {t e : TypeId} {k : IntKind} {v : Value} {H : Type} {enc : TypeId × Value → H} {sp : Nat → Bool} {held : Bool} {d : DataW H} {ps : List MemPlace}
    (hu : P.underlying t = some (.array n e)) (he : P.underlying e = some (.int k)) (h1 : P.cellsOf e = 1) (hc : P.cellsOf t = n)
    (hv : Value.okWide P W r b0 t v) (hd : DataW.Trod enc P W base sp held t v d ps) :
    ∃ zs : List Int, v = .agg (zs.map (Value.int k)).toArray ∧ zs.length = n ∧ ∀ z ∈ zs, (Lit.int k z).wf = true := by
  simp only [Value.okWide, hu] at hv
  obtain ⟨cs, rfl, hsz, _⟩ := hv
  rw [hc] at hsz
  obtain ⟨fuel, hf⟩ := hd
  cases fuel with
  | zero => simp [DataW.trod] at hf
  | succ m =>
    rw [DataW.trod_step] at hf
    unfold DataW.trodStep at hf
    simp only [hu, Value.cells] at hf
    rw [if_pos (by rw [hc]; simpa using hsz)] at hf
    simp only [Option.map_eq_some_iff] at hf
    obtain ⟨ys, hy, -⟩ := hf
    have hall : ∀ i, i < n → ∃ z, cs.toList[i]? = some (.int k z) ∧ (Lit.int k z).wf = true := by
      intro i hi
      obtain ⟨y, hy'⟩ := mapM_some _ _ hy i (by simpa using hi)
      obtain ⟨z, hz, -, wz⟩ := DataW.trod_int he hy'
      rw [h1, Nat.mul_one] at hz
      refine ⟨z, ?_, wz⟩
      have : ((cs.toList.drop i).take 1)[0]? = some (.int k z) := by rw [hz]; rfl
      simpa using this
    refine ⟨cs.toList.map intAt, ?_, by simpa using hsz, ?_⟩
    · have : (cs.toList.map intAt).map (Value.int k) = cs.toList := by
        refine List.ext_getElem (by simp) fun i h1' h2' => ?_
        obtain ⟨z, hz, -⟩ := hall i (by simpa [hsz] using h2')
        have e2 : cs.toList[i] = .int k z := by
          have := List.getElem?_eq_getElem h2'
          rw [this] at hz; exact Option.some.inj hz
        simp only [List.getElem_map, e2, intAt]
      rw [this]
    · intro z hz
      rw [List.mem_map] at hz
      obtain ⟨c, hcm, rfl⟩ := hz
      obtain ⟨i, hi, rfl⟩ := List.mem_iff_getElem.1 hcm
      obtain ⟨z, hz, wz⟩ := hall i (by simpa [hsz] using hi)
      rw [List.getElem?_eq_getElem hi] at hz
      rw [Option.some.inj hz]; exact wz

end Wc
namespace Go.Proofs.Ytifjbmknghjohaa
open Go.RowKit

set_option maxHeartbeats 400000 in
theorem twin_ob (v : Value) (xs : List Int) (w : World) (hv : Wc.Bs w v xs) (hs : Wc.Shaped v) :
    Calls Try.prog 8 #[v] w fun e w' => ∃ x, e = .returned x ∧ Wc.Ob 5 w.heap.size w' x xs ∧ Below w.heap.size w w' := by
  obtain ⟨i0, hi, hz0, hz1, hz2⟩ := info_parts Try.infoU8
  have hlen : xs.length ≤ 140737488355328 := by obtain ⟨_, n, _, _, h, _, _, h5, _⟩ := hv; omega
  obtain ⟨v', w', hrun, hO, hb⟩ := Wc.append_run (P := Try.prog) (ty := 22) Try.underlying22 hi hz0 hz1 hz2 (Wc.Ob.nil 5 w.heap.size w) hv hs (by simpa using hlen) (Nat.le_refl _)
  have HO := Wc.hid hO
  have HB := Wc.hid hb
  clear hO hb hv
  go_enter Try.func8, Try.ntmps8
  go_wp2_with (at_builtin; refine Wc.wp_append hrun rfl rfl rfl rfl ?_)
  go_ret
  exact ⟨_, rfl, HO.out, HB.out⟩

end Go.Proofs.Ytifjbmknghjohaa
