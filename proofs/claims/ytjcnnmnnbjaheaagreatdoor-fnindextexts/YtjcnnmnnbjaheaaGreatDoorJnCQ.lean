/- The contract of the library's strings.Join at a blank. No statement is proved here. -/
import Derived.Test.YtjcnnmnnbjaheaaGreatDoorRows
import Derived.Test.YtjcnnmnnbjaheaaGreatDoorLemQ
import Derived.Test.YtjcnnmnnbjaheaaGreatDoorTeLQ
import Derived.WalkKit
import Derived.ProofKit
import Derived.Below
import Derived.WalkSpells
import Derived.Laws.Concat
import Derived.Shelf.Strings.BuilderF
import Derived.Maps.AppendAt
import Derived.Lib.Strings
import Derived.Lib.Slices
import Derived.Lib.Walk
import Derived.Lib.Builder
import Derived.Lib.AppendStr
import Derived.Lib.UnsafeStr
import Derived.Laws.Externs
namespace Go.Proofs.YtjcnnmnnbjaheaaGreatDoor
open Go.ChangeShapes Go.WideShapes Go.ChangeAt Go.RowKit

/-- Words with a blank between, up to a place. -/
def jl (ss : List ByteArray) : Nat → List UInt8
  | 0 => (ss.getD 0 ByteArray.empty).data.toList
  | k + 1 => jl ss k ++ (32 :: (ss.getD (k + 1) ByteArray.empty).data.toList)
def jnB (ss : List ByteArray) : ByteArray := ⟨(jl ss (ss.length - 1)).toArray⟩
theorem jl_len (ss : List ByteArray) : ∀ k, k < ss.length → ((jl ss k).length : Int) = tot (ss.take (k + 1)) + k
  | 0, h => by
    rw [tot_take ss 0 h]
    simp [jl, tot]
  | k + 1, h => by
    have ih := jl_len ss k (by omega)
    rw [tot_take ss (k + 1) h, jl, List.length_append]
    simp only [List.length_cons, Array.length_toList]
    have : (ss.getD (k + 1) ByteArray.empty).data.size = (ss.getD (k + 1) ByteArray.empty).size := rfl
    omega

set_option maxRecDepth 20000 in
set_option maxHeartbeats 4000000 in
theorem joinC (g off c : Nat) (ss : List ByteArray) (w : World) (hs : SS w (some ⟨g, off, none⟩) ss) (h2 : 2 ≤ ss.length) (hc : ss.length ≤ c) (hn : ss.length ≤ 1048576) (htot : tot ss ≤ 1048576) :
    Calls Tryz.prog 87 #[.slice (some ⟨g, off, none⟩) ss.length c, .string ⟨#[32]⟩] w fun e w' => e = .returned (.string (jnB ss)) ∧ Below w.heap.size w w' := by
  have q0 : ((ss.length : Int) == 0) = false := beq_eq_false_iff_ne.2 (by omega)
  have q1 : ((ss.length : Int) == 1) = false := beq_eq_false_iff_ne.2 (by omega)
  have hq : (2 : Int) ≤ 9223372036854775807 / ((ss.length : Int) - 1) := (Int.le_ediv_iff_mul_le (by omega)).2 (by omega)
  have q2 : ¬ (9223372036854775807 / ((ss.length : Int) - 1) ≤ (1 : Int)) := by
    generalize 9223372036854775807 / ((ss.length : Int) - 1) = Q at hq
    omega
  have q3 : ((ss.length : Int) - 1 == 0) = false := beq_eq_false_iff_ne.2 (by omega)
  have hcell : ∀ k, k < ss.length → ∀ W : World, Below w.heap.size w W → W.cell? ⟨g, off + k, none⟩ = some (.string (ss.getD k ByteArray.empty)) := fun k hk W hb => by
    obtain ⟨b, off', e, hb', hc'⟩ := hs.2 k hk
    simp only [Option.some.injEq, Addr.mk.injEq] at e
    obtain ⟨rfl, rfl, _⟩ := e
    exact (hb.cell (p := ⟨g, off + k, none⟩) hb').trans hc'
  have hg : g < w.heap.size := by
    obtain ⟨b, off', e, hb', _⟩ := hs.2 0 (by omega)
    simp only [Option.some.injEq, Addr.mk.injEq] at e
    rw [e.1]; exact hb'
  have ht0 := tot_nonneg ss
  have HCell : Hid (∀ k, k < ss.length → ∀ W : World, Below w.heap.size w W → W.cell? ⟨g, off + k, none⟩ = some (.string (ss.getD k ByteArray.empty))) := hcell
  clear hs hcell hq
  go_enter Tryz.func87, Tryz.ntmps87
  go_wp2
  go_loop [5, 41] (fun t i => ∃ k : Nat, k ≤ ss.length ∧ i = .int .i64 k ∧ t = .int .i64 (((ss.length : Int) - 1) + tot (ss.take k))) (fun _ i => ss.length - (intOf i).toNat)
  case atStart => exact ⟨0, Nat.zero_le _, rfl, by simp [tot]⟩
  case round =>
    obtain ⟨k, hk, rfl, rfl⟩ := hrel
    by_cases hlt : k < ss.length
    · have q : (k : Int) < (ss.length : Int) := by omega
      have hc0 := HCell.out k hlt w (Below.refl _ _)
      have hts := tot_take ss k hlt
      have ht2 := tot_take_le ss (k + 1)
      have ht3 := tot_nonneg (ss.take k)
      obtain ⟨s, hse⟩ : ∃ s, ss.getD k ByteArray.empty = s := ⟨_, rfl⟩
      rw [hse] at hc0 hts
      obtain ⟨T, hT⟩ : ∃ T, tot (ss.take k) = T := ⟨_, rfl⟩
      rw [hT] at hts ht3 ⊢
      have HT : Hid (tot (ss.take (k + 1)) = T + (s.size : Int)) := hts
      have hb1 : T + (s.size : Int) ≤ 1048576 := by omega
      clear hse hT hts ht2
      go_wp2
      go_round
      case rel => exact ⟨k + 1, by omega, by go_num, by rw [HT.out]; go_num⟩
      case measure => simp [intOf]; omega
    · have q : ¬ (k : Int) < (ss.length : Int) := by omega
      have e : ss.take k = ss := List.take_of_length_le (by omega)
      rw [e]
      clear e
      obtain ⟨N, hN⟩ : ∃ N : Nat, (N : Int) = ((ss.length : Int) - 1) + tot ss := ⟨(((ss.length : Int) - 1) + tot ss).toNat, by omega⟩
      rw [← hN]
      have hNb : N ≤ 281474976710656 := by omega
      obtain ⟨W1, hW1⟩ : ∃ W, w.alloc (.cells #[.pointer none, .slice none 0 0] 74) = W := ⟨_, rfl⟩
      have b1 : Below w.heap.size w W1 := by rw [← hW1]; exact (Below.refl _ _).alloc (Nat.le_refl _) _
      have hbk : W1.heap[w.heap.size]? = some (.cells #[.pointer none, .slice none 0 0] 74 (0, 0)) := by rw [← hW1]; exact heap_alloc_new _ _
      have hG := Tryz.Builder_Grow_fresh w.heap.size w.heap.size N W1 (Nat.le_refl _) hbk b1.size hNb
      clear hN hbk
      go_wp2_with fail
      refine hG.mono ?_; rintro e w2 ⟨rfl, h2', b2⟩
      have B2 := b1.trans b2
      have c0 := HCell.out 0 (by omega) w2 B2
      rw [Nat.add_zero] at c0
      clear hG b1 b2 hW1
      obtain ⟨s0, hs0⟩ : ∃ s, ss.getD 0 ByteArray.empty = s := ⟨_, rfl⟩
      rw [hs0] at c0
      have hl0 : s0.size ≤ 1048576 := by
        have := tot_take ss 0 (by omega)
        have h3 := tot_take_le ss (0 + 1)
        rw [hs0] at this
        have h4 : tot (ss.take 0) = 0 := by simp [tot]
        omega
      have hWs := writeString w.heap.size w.heap.size [] s0 w2 (.inr h2') (by simp; omega) B2.size
      go_wp2_with fail
      refine hWs.mono ?_; rintro e w3 ⟨rfl, h3', b3⟩
      have B3 := B2.trans b3
      have HI : Lib.IsBuilder 74 5 w.heap.size w.heap.size (Lib.byteCells (jl ss 0)) w3 := by
        rw [show jl ss 0 = s0.data.toList by rw [jl, hs0], ← Lib.strCells_eq]
        exact .inr (by simpa using h3')
      clear hWs h2' h3' b3 c0 B2 hs0
      have qc : ¬ c = 1 := by omega
      have q5 : (1 : Int) ≤ (ss.length : Int) := by omega
      have q6 : (ss.length : Int) ≤ (c : Int) := by omega
      go_wp2
      go_loopw [65] (fun i wr => ∃ k : Nat, k + 1 ≤ ss.length ∧ i = .int .i64 k ∧ Lib.IsBuilder 74 5 w.heap.size w.heap.size (Lib.byteCells (jl ss k)) wr ∧ Below w.heap.size w wr) (fun i _ => ss.length - (intOf i).toNat)
      case atStart => exact ⟨0, by omega, rfl, HI, B3⟩
      case round =>
        clear HI B3
        obtain ⟨k, hk, rfl, hB, hbel⟩ := hrel
        have hsz := hbel.size
        by_cases hlt : k + 1 < ss.length
        · have q : (k : Int) < ((ss.length - 1 : Nat) : Int) := by omega
          have hc1 := HCell.out (k + 1) hlt wr hbel
          have hln := jl_len ss k (by omega)
          have ht2 := tot_take_le ss (k + 1)
          have hts := tot_take ss (k + 1) hlt
          have ht4 := tot_take_le ss (k + 1 + 1)
          obtain ⟨s, hse⟩ : ∃ s, ss.getD (k + 1) ByteArray.empty = s := ⟨_, rfl⟩
          have hjl : jl ss (k + 1) = jl ss k ++ ([32] ++ s.data.toList) := by rw [jl, hse]; rfl
          rw [hse] at hc1 hts
          have hl1 : (Lib.byteCells (jl ss k)).length + (⟨#[32]⟩ : ByteArray).size ≤ 140737488355328 := by
            rw [Lib.byteCells_length]; show _ + 1 ≤ _; omega
          have hW1 := writeString w.heap.size w.heap.size _ ⟨#[32]⟩ wr hB hl1 hsz
          have hl2 : ∀ bs : List Value, bs.length = (jl ss k).length + 1 → bs.length + s.size ≤ 140737488355328 := fun bs e => by omega
          have HJ : Hid (jl ss (k + 1) = jl ss k ++ ([32] ++ s.data.toList)) := hjl
          rw [show off + (k + 1) = off + 1 + k by omega] at hc1
          clear hts ht2 ht4 hln hse hjl hl1
          go_wp2_with fail
          refine hW1.mono ?_; rintro e w4 ⟨rfl, h4, b4⟩
          have hW2 := writeString w.heap.size w.heap.size _ s w4 (.inr h4) (hl2 _ (by rw [List.length_append, Lib.byteCells_length]; rfl)) (Nat.le_trans hsz b4.size)
          clear hW1 hl2
          go_wp2_with fail
          refine hW2.mono ?_; rintro e w5 ⟨rfl, h5, b5⟩
          have HI : Hid (Lib.IsBuilder 74 5 w.heap.size w.heap.size (Lib.byteCells (jl ss (k + 1))) w5) := by
            show Lib.IsBuilder _ _ _ _ _ _
            rw [HJ.out, Lib.byteCells_append, Lib.byteCells_append, ← List.append_assoc, ← Lib.strCells_eq]
            exact .inr h5
          have B5 := (hbel.trans b4).trans b5
          clear hW2 h4 h5 b4 b5 hB
          go_wp2
          go_roundw
          case rel => exact ⟨k + 1, by omega, by go_num, HI.out, B5⟩
          case measure => simp [intOf]; omega
        · have q : ¬ (k : Int) < ((ss.length - 1 : Nat) : Int) := by omega
          have ek : k = ss.length - 1 := by omega
          have hSt := Tryz.Builder_String_any _ _ _ _ hB hsz
          go_wp2_with fail
          refine hSt.mono ?_; rintro e w4 ⟨rfl, b4⟩
          have B4 := hbel.trans b4
          clear hSt b4 hB hbel
          go_wp2
          go_ret
          refine ⟨?_, B4⟩
          unfold jnB
          rw [← ek]
          rfl
end Go.Proofs.YtjcnnmnnbjaheaaGreatDoor
/- The contracts of a strings.Builder that String() has read and that is written on (Len, String, WriteString, WriteByte). No statement is proved here. -/
set_option linter.unusedVariables false
namespace Go.Proofs.YtjcnnmnnbjaheaaGreatDoor
open Go.RowKit

theorem bString (B b : Nat) (l : List UInt8) (w : World) (h : Lib.IsBuilderF 74 5 B b (Lib.byteCells l) w) (hBw : B ≤ w.heap.size) :
    Calls Tryz.prog 55 #[.pointer (some ⟨b, 0, none⟩)] w fun e w' => e = .returned (.string ⟨l.toArray⟩) ∧ (Lib.IsBuilderF 74 5 B b (Lib.byteCells l) w' ∧ Below B w w') := Any.Builder_String_any_f Tryz.lays169 Tryz.Builder_Extra_169 B b l w h hBw

theorem copyCheckF (B b : Nat) (bs : List Value) (w : World) (h : Lib.IsBuilderF 74 5 B b bs w) :
    Calls Tryz.prog 106 #[.pointer (some ⟨b, 0, none⟩)] w fun e w' => e = .returned (.tuple #[]) ∧ (Lib.BuilderAtF 74 5 B b (.pointer (some ⟨b, 0, none⟩)) bs w' ∧ Below B w w') := by
  rcases h with h | h
  · refine (copyCheck_fresh b w h.cell0 h.shape h.frozen0).mono ?_
    rintro e w' ⟨rfl, rfl⟩
    exact ⟨rfl, h.used _, (Below.refl B w).setCell (p := ⟨b, 0, none⟩) h.1 _⟩
  · refine (copyCheck_used b w h.cell0).mono ?_
    rintro e w' ⟨rfl, rfl⟩
    exact ⟨rfl, h, Below.refl B _⟩

/-- append of one byte behind a head that is frozen. -/
theorem run_append_oneF {P : Program} (w : World) (base : Nat) (t ty e : TypeId) (i : TypeInfo) (ht : P.underlying t = some (.slice e)) (hi : P.info? e = some i) (hz : i.zero = some (.int .u8 0)) (hsize : i.size = 1) (hby : i.bytes = 1)
    (v : Value) (n : Nat) (xs : List Value) (hown : w.ownsRowF base e 1 v n xs) (a : Addr) (c : Nat) (u : Value) (hnews : ∀ j x, [u][j]? = some x → w.cell? (a.add j) = some x) (h1 : ∀ x ∈ [u], x.oneCell' = true)
    (h63 : n + 1 ≤ maxLen) (hbytes : n + 1 ≤ 140737488355328) (hbase : base ≤ w.heap.size) :
    ∃ v' w', (Builtin.append_ #[t, t] ty #[v, .slice (some a) 1 c]).run P w = .ok v' w' ∧ w'.ownsRowF base e 1 v' (n + 1) (xs ++ [u]) ∧ w.grownBy w' v.ownBlock := by
  rcases hown.2 with ⟨rfl, rfl⟩ | ⟨g, cap, cur, fz, rfl, hbg, hg, hfz, hnc, hcm, hcs, htake⟩
  · obtain ⟨v', w', r1, r2, r3, _⟩ := run_append_own_at (P := P) w base t ty e i (.int .u8 0) 1 1 ht hi hz hsize hby rfl (by decide) (.slice none 0 0) 0 xs ⟨hown.1, .inl ⟨rfl, rfl⟩⟩ a 1 c [u] rfl hnews h1 h63 (by omega) hbase
    exact ⟨v', w', r1, World.ownsRowF_of r2, r3⟩
  · have hxl : xs.length = n := by simpa using hown.1
    have hlen : (xs ++ [u]).length = (n + 1) * 1 := by rw [List.length_append, hxl, Nat.mul_one]; rfl
    by_cases hroom : n + 1 ≤ cap
    · have hcs' : cur.size = cap := by simpa using hcs
      have hf := run_firstCells_some (P := P) w 1 1 a 1 c [u] rfl hnews
      have hst := run_storeCells_atF P g n e fz [u] 0 cur w hg (by simpa using hfz) (by simp; omega) h1
      simp only [Nat.add_zero] at hst
      have hr : (Builtin.append_ #[t, t] ty #[.slice (some ⟨g, 0, none⟩) n cap, .slice (some a) 1 c]).run P w = .ok (.slice (some ⟨g, 0, none⟩) (n + 1) cap) (w.setRow g (cur.toList.take n ++ [u] ++ cur.toList.drop (n + [u].length)).toArray) := by
        simp [Builtin.append_, run_underlying ht, sizeOf, typeInfo, hi, hsize, Builtin.lenOf, hroom, hf, Addr.add_lit, hst]
      refine ⟨_, _, hr, ⟨hlen, .inr ⟨g, cap, _, fz, rfl, hbg, setRow_heap w g cur _ e _ hg, by omega, hroom, hcm, ?_, ?_⟩⟩, ⟨rfl, rfl, rfl, by simp, fun k _ hk => setRow_other w g k _ (fun e => hk (by simp [Value.ownBlock, e]))⟩⟩
      · simp only [List.size_toArray, List.length_append, List.length_take, List.length_drop, Array.length_toList, List.length_singleton]
        omega
      · have ht' : cur.toList.take n = xs := by simpa using htake
        rw [ht', ← hlen]
        exact List.take_left
    · have holds : ∀ j x, xs[j]? = some x → w.cell? ((⟨g, 0, none⟩ : Addr).add j) = some x := hown.cells (g := g) rfl
      have hr := run_append_grow (P := P) w t ty e i (.int .u8 0) ht hi hz ⟨g, 0, none⟩ n cap xs (by rw [hsize]; exact hown.1) holds a 1 c [u] (by rw [hsize]; rfl) hnews (by omega) (by unfold maxLen at h63; omega) (by rw [hby]; exact growslice_fits (by omega) (by omega))
      have hge := grownCap_ge w (n + 1) cap e
      have hcm2 : grownCap w (n + 1) cap e ≤ maxLen := grownCap_le_maxLen w (n + 1) cap e h63
      refine ⟨_, _, hr, ⟨hlen, .inr ⟨w.heap.size, _, _, (0, 0), rfl, hbase, heap_alloc_new w.drew _, Nat.zero_le _, hge, hcm2, ?_, ?_⟩⟩, ⟨rfl, rfl, rfl, by simp, fun k hk _ => Lib.alloc_old w.drew _ k hk⟩⟩
      · have hz1 : (Value.int IntKind.u8 0).cells.size = 1 := rfl
        simp only [Array.size_append, List.size_toArray, size_zeroCells, hz1, hxl, List.length_singleton]
        omega
      · simp only [Array.toList_append, List.append_assoc]
        rw [← List.append_assoc, ← hlen]
        exact List.take_left
theorem wpList_append_oneF {P : Program} {w : World} {ops : Array Oper} {rest : List Oper} {o : Oper} {a : Act} {Q : Exit → Act → World → Prop} (hgd : o.guard = none) (sl x : Operand) (t : TypeId)
    (ho : o.op = .call { callee := .builtin .append, args := #[sl, x], argTypes := #[t, t] })
    (base : Nat) (e : TypeId) (i : TypeInfo) (ht : P.underlying t = some (.slice e)) (hi : P.info? e = some i) (hz : i.zero = some (.int .u8 0)) (hsize : i.size = 1) (hby : i.bytes = 1)
    (v : Value) (n : Nat) (xs : List Value) (hs : a.eval sl = v) (hown : w.ownsRowF base e 1 v n xs) (ad : Addr) (c : Nat) (u : Value) (hx : a.eval x = .slice (some ad) 1 c) (hnews : ∀ j x, [u][j]? = some x → w.cell? (ad.add j) = some x) (h1 : ∀ x ∈ [u], x.oneCell' = true)
    (h63 : n + 1 ≤ maxLen) (hbytes : n + 1 ≤ 140737488355328) (hbase : base ≤ w.heap.size)
    (h : ∀ v' w', w'.ownsRowF base e 1 v' (n + 1) (xs ++ [u]) → w.grownBy w' v.ownBlock → wpList P ops Q rest (a.put o.dst v') w') : wpList P ops Q (o :: rest) a w := by
  refine wpList_plain hgd fun K hK => ?_
  obtain ⟨v', w', hr, h2, h3⟩ := run_append_oneF (P := P) w base t o.type e i ht hi hz hsize hby v n xs hown ad c u hnews h1 h63 hbytes hbase
  unfold Oper.wp execOp
  simp only [ho, resolve, invoke, builtin, Sem.run_bind, Sem.run_pure, Result.andThen_ok, List.map_toArray, List.map_cons, List.map_nil, hs, hx, hr]
  exact hK _ _ (h v' w' h2 h3)

set_option maxHeartbeats 2000000 in
set_option maxRecDepth 100000 in
theorem writeStringF (B b : Nat) (bs : List Value) (s : ByteArray) (w : World) (h : Lib.IsBuilderF 74 5 B b bs w) (hlen : bs.length + s.size ≤ 140737488355328) (hBw : B ≤ w.heap.size) :
    Calls Tryz.prog 86 #[.pointer (some ⟨b, 0, none⟩), .string s] w fun e w' => e = .returned (.tuple #[.int .i64 s.size, .nilIface]) ∧ (Lib.BuilderAtF 74 5 B b (.pointer (some ⟨b, 0, none⟩)) (bs ++ Lib.strCells s) w' ∧ Below B w w') := by
  obtain ⟨i0, hi, hz0, hz1, hz2⟩ := info_parts infoByte
  go_enter Tryz.func86, Tryz.ntmps86
  go_wp2_with (go_at_call 106; refine (copyCheckF B b bs _ h).mono ?_)
  rintro e w1 ⟨rfl, h1, hb1⟩
  obtain ⟨hB, v, hbk, hown, hne⟩ := h1
  have c0 : w1.cell? ⟨b, 0, none⟩ = some (.pointer (some ⟨b, 0, none⟩)) := by rw [Lib.cell_of_heap hbk]; rfl
  have c1 : w1.cell? ⟨b, 1, none⟩ = some v := by rw [Lib.cell_of_heap hbk]; rfl
  go_wp2_with (at_builtin; refine Lib.wpList_append_own_stringF _ rfl _ _ 22 9 rfl B 5 i0 Tryz.underlying22 Tryz.underlying9 hi hz0 hz1 hz2 _ _ _ rfl hown s rfl ?c3 ?c4 ?c5 ?_)
  case c3 => unfold maxLen; omega
  case c4 => omega
  case c5 => have := hb1.size; omega
  intro v' w2 hown' hgrow _
  have hlt : b < w1.heap.size := by
    rcases Nat.lt_or_ge b w1.heap.size with h' | h'
    · exact h'
    · simp [Array.getElem?_eq_none h'] at hbk
  have hb2 : w2.heap[b]? = some (.cells #[.pointer (some ⟨b, 0, none⟩), v] 74 (0, 0)) := by
    rw [hgrow.block b hlt (fun e => hne e.symm)]
    exact hbk
  have d0 : w2.cell? ⟨b, 0, none⟩ = some (.pointer (some ⟨b, 0, none⟩)) := by rw [Lib.cell_of_heap hb2]; rfl
  have d1 : w2.cell? ⟨b, 1, none⟩ = some v := by rw [Lib.cell_of_heap hb2]; rfl
  have f1 : w2.frozen? ⟨b, 1, none⟩ = false := Lib.frozen_of_heap hb2 1
  obtain ⟨ao, n', cap, rfl⟩ : ∃ ao n' cap, v' = .slice ao n' cap := by
    rcases hown'.2 with ⟨hv, _⟩ | ⟨g, cap, cur, fz, hv, _⟩
    · exact ⟨_, _, _, hv⟩
    · exact ⟨_, _, _, hv⟩
  go_wp2
  go_ret2
  refine ⟨rfl, ?_, ?_⟩
  · exact Lib.BuilderAtF.put (T := 74) (e := 5) hB hb2 (bs' := bs ++ Lib.strCells s) (by simpa [Lib.strCells_length] using hown') (by decide)
  · exact (hb1.grown hgrow (by have := hb1.size; omega) (fun k hk => (hown.lt k hk).1)).setCell (p := ⟨b, 1, none⟩) hB _

set_option maxHeartbeats 2000000 in
set_option maxRecDepth 100000 in
theorem writeByteF (B b : Nat) (bs : List Value) (c : Int) (w : World) (h : Lib.IsBuilderF 74 5 B b bs w) (hlen : bs.length + 1 ≤ 140737488355328) (hBw : B ≤ w.heap.size) :
    Calls Tryz.prog 88 #[.pointer (some ⟨b, 0, none⟩), .int .u8 c] w fun e w' => e = .returned .nilIface ∧ (Lib.BuilderAtF 74 5 B b (.pointer (some ⟨b, 0, none⟩)) (bs ++ [.int .u8 c]) w' ∧ Below B w w') := by
  obtain ⟨i0, hi, hz0, hz1, hz2⟩ := info_parts infoByte
  go_enter Tryz.func88, Tryz.ntmps88
  go_wp2_with (go_at_call 106; refine (copyCheckF B b bs _ h).mono ?_)
  rintro e w1 ⟨rfl, h1, hb1⟩
  obtain ⟨hB, v, hbk, hown, hne⟩ := h1
  have c0 : w1.cell? ⟨b, 0, none⟩ = some (.pointer (some ⟨b, 0, none⟩)) := by rw [Lib.cell_of_heap hbk]; rfl
  have c1 : w1.cell? ⟨b, 1, none⟩ = some v := by rw [Lib.cell_of_heap hbk]; rfl
  have hownA : ∀ o, (w1.alloc o).ownsRowF B 5 1 v bs.length bs := fun o => hown.kept (World.grownBy_alloc w1 o none) (by cases hv : v.ownBlock <;> simp)
  go_wp2_with (at_builtin; refine wpList_append_oneF rfl _ _ 22 rfl B 5 i0 Tryz.underlying22 hi hz0 hz1 hz2 _ _ _ rfl (hownA _) ⟨w1.heap.size, 0, none⟩ 1 (.int .u8 c) rfl ?c1 ?c2 ?c3 ?c4 ?c5 ?_)
  case c1 =>
    intro j u hj
    match j, hj with
    | 0, hj => simp at hj; subst hj; simp [Addr.add]
  case c2 => intro u hu; simp at hu; subst hu; rfl
  case c3 => unfold maxLen; omega
  case c4 => omega
  case c5 => have := hb1.size; simp; omega
  intro v' w2 hown' hgrow
  have hlt : b < w1.heap.size := by
    rcases Nat.lt_or_ge b w1.heap.size with h' | h'
    · exact h'
    · simp [Array.getElem?_eq_none h'] at hbk
  have hb2 : w2.heap[b]? = some (.cells #[.pointer (some ⟨b, 0, none⟩), v] 74 (0, 0)) := by
    rw [hgrow.block b (by simp; omega) (fun e => hne e.symm), Lib.alloc_old w1 _ b hlt]
    exact hbk
  have d0 : w2.cell? ⟨b, 0, none⟩ = some (.pointer (some ⟨b, 0, none⟩)) := by rw [Lib.cell_of_heap hb2]; rfl
  have d1 : w2.cell? ⟨b, 1, none⟩ = some v := by rw [Lib.cell_of_heap hb2]; rfl
  have f1 : w2.frozen? ⟨b, 1, none⟩ = false := Lib.frozen_of_heap hb2 1
  obtain ⟨ao, n', cap, rfl⟩ : ∃ ao n' cap, v' = .slice ao n' cap := by
    rcases hown'.2 with ⟨hv, _⟩ | ⟨g, cap, cur, fz, hv, _⟩
    · exact ⟨_, _, _, hv⟩
    · exact ⟨_, _, _, hv⟩
  go_wp2
  go_ret
  refine ⟨rfl, ?_, ?_⟩
  · exact Lib.BuilderAtF.put (T := 74) (e := 5) hB hb2 (bs' := bs ++ [.int .u8 c]) (by simpa using hown') (by decide)
  · exact ((hb1.alloc (by have := hb1.size; omega) _).grown hgrow (by have := hb1.size; simp; omega) (fun k hk => (hown.lt k hk).1)).setCell (p := ⟨b, 1, none⟩) hB _
end Go.Proofs.YtjcnnmnnbjaheaaGreatDoor
