/- The contracts of IdsOf (the program's and the specification's). No statement is proved here. -/
import Derived.Test.YtnififnogdekiaaRows
import Derived.Test.YtnififnogdekiaaLemQ
import Derived.Test.YtnififnogdekiaaDTabQ
import Derived.Test.YtnififnogdekiaaInQ
import Derived.Test.YtnififnogdekiaaHkTQ
import Derived.Test.YtnififnogdekiaaWvCQ
import Derived.Test.YtnififnogdekiaaIdMQ
import Derived.Test.YtnififnogdekiaaObLQ
import Derived.Test.YtnififnogdekiaaSfCQ
import Derived.WalkKit
import Derived.ProofKit
import Derived.Below
import Derived.WalkSpells
import Derived.Maps.AppendAt
import Derived.Deep.RegionLaw
namespace Go.Proofs.Ytnififnogdekiaa
open Go.ChangeShapes Go.WideShapes Go.ChangeAt Go.RowKit

theorem step_app {P : Program} {ops : Array Oper} {o : Oper} {a : Act} {w : World} {K : Act → World → Prop} {Q : Exit → Act → World → Prop} {E : Prop}
    (hg : o.guard = none) (s x : Operand) (t : TypeId) (hop : o.op = Op.call { callee := Callee.builtin Builtin.append, args := #[s, x], argTypes := #[t, t] })
    (base : Nat) (e : TypeId) (i : TypeInfo) (z : Value) (size bytes : Nat) (ht : P.underlying t = some (.slice e)) (hi : P.info? e = some i) (hz : i.zero = some z)
    (hsize : i.size = size) (hby : i.bytes = bytes) (hzs : z.cells.size = size) (hsz : 0 < size)
    (v : Value) (n : Nat) (xs : List Value) (hs : a.eval s = v) (hown : w.ownsRow base e size v n xs)
    (ad : Addr) (m c : Nat) (news : List Value) (hx : a.eval x = .slice (some ad) m c) (hl : news.length = m * size) (hnews : ∀ j u, news[j]? = some u → w.cell? (ad.add j) = some u) (h1 : ∀ u ∈ news, u.oneCell' = true)
    (h63 : n + m ≤ maxLen) (hbytes : (n + m) * bytes ≤ 140737488355328) (hbase : base ≤ w.heap.size)
    (hK : ∀ v' w', w'.ownsRow base e size v' (n + m) (xs ++ news) → w.grownBy w' v.ownBlock → (v'.ownBlock = v.ownBlock ∨ v'.ownBlock = some w.heap.size) → K (a.put o.dst v') w') :
    if Region.wanted o (yielded ops a.tmps) = true then Oper.wp P o a w K Q else E := by
  have hw : Region.wanted o (yielded ops a.tmps) = true := by simp [Region.wanted, hg]
  rw [if_pos hw]
  obtain ⟨v', w', hr, h2, h3, h4, h5⟩ := run_append_own_at (P := P) w base t o.type e i z size bytes ht hi hz hsize hby hzs hsz v n xs hown ad m c news hl hnews h1 h63 hbytes hbase
  unfold Oper.wp
  simp only [execOp, hop, resolve, invoke, builtin, Sem.run_bind, Sem.run_pure, Result.andThen_ok, List.map_toArray, List.map_cons, List.map_nil, hs, hx, hr]
  exact hK v' w' h2 h3 h5
theorem Rf.drewS {w : World} {b : Nat} {vs : List Value} (h : Rf w b vs) : Rf w.drew b vs := ⟨fun k v hk => h.at_ k v hk, fun k => h.fz k⟩
theorem Rf.grew {w w' : World} {b : Nat} {vs : List Value} {row : Option Nat} (h : Rf w b vs) (hg : w.grownBy w' row) (hne : some b ≠ row) (hlt : b < w.heap.size) : Rf w' b vs :=
  ⟨fun k v hk => hg.cell (h.at_ k v hk) hne, fun k => by
    have e := hg.block b hlt hne
    have h1 := h.fz k
    unfold World.frozen? at h1 ⊢
    rw [e]; exact h1⟩
/-- The ids of the objects of a kind. -/
def idsU (l : List Ob) (k : Int) : List ByteArray := (l.filter fun o => decide (o.2.1 = k)).map fun o => o.1
theorem idsU_yes {l : List Ob} {k : Int} {m : Nat} (h : m < l.length) (e : (l.getD m onil).2.1 = k) : idsU (l.take (m + 1)) k = idsU (l.take m) k ++ [(l.getD m onil).1] := by
  unfold idsU
  obtain ⟨o, ho⟩ : ∃ o, l.getD m onil = o := ⟨_, rfl⟩
  rw [ho] at e
  rw [ob_take l m h, List.filter_append, List.map_append, ho]
  simp [e]
theorem idsU_no {l : List Ob} {k : Int} {m : Nat} (h : m < l.length) (e : ¬ (l.getD m onil).2.1 = k) : idsU (l.take (m + 1)) k = idsU (l.take m) k := by
  unfold idsU
  obtain ⟨o, ho⟩ : ∃ o, l.getD m onil = o := ⟨_, rfl⟩
  rw [ho] at e
  rw [ob_take l m h, List.filter_append, List.map_append, ho]
  simp [e]
theorem idsU_len (l : List Ob) (k : Int) : (idsU l k).length ≤ l.length := by
  unfold idsU
  rw [List.length_map]
  exact List.length_filter_le _ _
theorem idsU_small {l : List Ob} {k : Int} (h : SmallO l) : ∀ j, j < (idsU l k).length → ((idsU l k).getD j ByteArray.empty).size ≤ 1048576 := by
  intro j hj
  rw [getD_at _ j hj]
  have := List.getElem_mem hj
  unfold idsU at this
  obtain ⟨o, ho, e⟩ := List.mem_map.1 this
  rw [show (idsU l k)[j] = o.1 from e.symm]
  exact (h o (List.mem_filter.1 ho).1).1
def idsR (l : List Ob) (k : Int) : Int := if sf l = 0 then (if inB k 1 3 = true then 0 else 3) else sf l
def idsL (l : List Ob) (k : Int) : List ByteArray := if idsR l k = 0 then idsU l k else []
theorem nilRowS (base : Nat) (w : World) (t : TypeId) : w.ownsRow base t 1 (.slice none 0 0) 0 [] := ⟨rfl, .inl ⟨rfl, rfl⟩⟩
theorem infoStr : (Try.prog.info? 9).map (fun i => (i.zero, i.size, i.bytes)) = some (some (.string ByteArray.empty), 1, 16) := by kernel_rfl
theorem beqI {a b : Int} (h : a = b) : (a == b) = true := by simp [h]
theorem beqN {a b : Int} (h : ¬ a = b) : (a == b) = false := by simp [h]

set_option maxRecDepth 20000 in
set_option maxHeartbeats 4000000 in
theorem implIdsOf (a : Option Addr) (c : Nat) (l : List Ob) (kd : Int) (w : World) (h : OB w.heap.size w a l) (hs : SmallO l) (hn : l.length ≤ 1048576) :
    Calls Try.prog 12 #[.slice a l.length c, .int .i64 kd] w fun e w' => LP (idsR l kd) (idsL l kd) w e w' := by
  have hA := fun w h => implStoreFault a c l w h hs hn
  have hFF : ¬ sf l = 0 → Hid (idsR l kd = sf l ∧ idsL l kd = []) := fun e => by
    have e1 : idsR l kd = sf l := if_neg e
    exact ⟨e1, if_neg (by rw [e1]; exact e)⟩
  have hRR : sf l = 0 → inB kd 1 3 = false → Hid (idsR l kd = 3 ∧ idsL l kd = []) := fun e k => by
    have e1 : idsR l kd = 3 := by unfold idsR; rw [if_pos e, if_neg (by rw [k]; decide)]
    exact ⟨e1, if_neg (by rw [e1]; decide)⟩
  have hOK : sf l = 0 → inB kd 1 3 = true → Hid (idsR l kd = 0 ∧ idsL l kd = idsU l kd) := fun e k => by
    have e1 : idsR l kd = 0 := by unfold idsR; rw [if_pos e, if_pos k]
    exact ⟨e1, if_pos e1⟩
  obtain ⟨R, hR⟩ : ∃ R, idsR l kd = R := ⟨_, rfl⟩
  obtain ⟨L, hL⟩ : ∃ L, idsL l kd = L := ⟨_, rfl⟩
  rw [hR, hL] at hFF hRR hOK ⊢
  obtain ⟨F, hF⟩ : ∃ F, sf l = F := ⟨_, rfl⟩
  rw [hF] at hA hFF hRR hOK
  clear hF hR hL
  obtain ⟨W1, hW1⟩ : ∃ W1, w.alloc (.cells #[.int .i64 0, .slice none 0 0] 40) = W1 := ⟨_, rfl⟩
  have b1 : Below w.heap.size w W1 := by rw [← hW1]; exact allocBelow _ _
  have zW : w.heap.size < W1.heap.size := by rw [← hW1]; simp
  have r1 : Res2 W1 w.heap.size (.int .i64 0) (.slice none 0 0) := by rw [← hW1]; exact Res2.new _ _ _ _
  have A1 := h.below b1
  go_enter Try.func12, Try.ntmps12
  go_wp2_with fail
  refine (hA _ (A1.mono (by omega))).mono ?_; rintro e w2 ⟨rfl, b2⟩
  have A2 := A1.below b2
  have r2 := r1.below zW b2
  have B2 := b1.trans (b2.mono b1.size)
  have z2 : w.heap.size < w2.heap.size := Nat.lt_of_lt_of_le zW b2.size
  clear A1 r1 b1 b2 hA hW1 h zW
  by_cases e0 : F = 0
  · replace hRR := hRR e0
    replace hOK := hOK e0
    subst e0
    clear hFF
    have hI := fun w => isKind kd w
    cases hin : inB kd 1 3 with
    | false =>
      have hC := hRR hin
      rw [hin] at hI
      have d0 := r2.c0
      have d1 := r2.c1
      have f0 := r2.f0
      have f1 := r2.f1
      have HB : Hid (Below w.heap.size w ((w2.setCell ⟨w.heap.size, 0, none⟩ (.int .i64 3)).setCell ⟨w.heap.size, 1, none⟩ (.slice none 0 0))) := below_sets B2 (Nat.le_refl _) _ _
      clear r2 B2 A2 hRR hOK hin
      go_wp2_with fail
      refine (hI _).mono ?_; rintro e w2 ⟨rfl, rfl⟩
      go_wp2
      refine bodyPost_ret (v := .agg #[.int .i64 3, .slice none 0 0]) (by simp [results, Try.results12, go_sem, d0, d1]) rfl ?_
      exact ⟨_, ret_agg2 (by rw [hC.out.1]) rfl, by rw [hC.out.2]; exact nilRowS _ _ _, HB.out⟩
    | true =>
      have hC := hOK hin
      rw [hin] at hI
      clear hin hRR hOK
      go_wp2_with fail
      refine (hI _).mono ?_; rintro e w2 ⟨rfl, rfl⟩
      clear hI
      obtain ⟨i0, hi, hz0, hz1, hz2⟩ := info_parts infoStr
      go_wp2
      go_loopw [6, 8, 21] (fun v _o i wr => ∃ (k : Nat), k ≤ l.length ∧ i = .int .i64 k ∧ wr.ownsRow w2.heap.size 9 1 v (idsU (l.take k) kd).length ((idsU (l.take k) kd).map Value.string) ∧ Below w2.heap.size w2 wr) (fun _ _ i _ => l.length - (intOf i).toNat)
      case atStart => exact ⟨0, Nat.zero_le _, rfl, ⟨rfl, .inl ⟨rfl, rfl⟩⟩, Below.refl _ _⟩
      case round =>
        obtain ⟨k, hk, rfl, hu, hbx⟩ := hrel
        have hsz := hbx.size
        by_cases hlt : k < l.length
        · have q : (k : Int) < (l.length : Int) := by omega
          obtain ⟨g, off, e, hg, d0, d1, d2⟩ := (A2.below hbx) k hlt
          subst e
          have hY := idsU_yes (k := kd) hlt
          have hN := idsU_no (k := kd) hlt
          have hsl := (hs _ (ob_mem l k hlt)).1
          have hlen : (idsU (l.take k) kd).length ≤ 1048576 := by have := idsU_len (l.take k) kd; rw [List.length_take] at this; omega
          obtain ⟨C, hCe⟩ : ∃ C, l.getD k onil = C := ⟨_, rfl⟩
          obtain ⟨x0, x1, x2⟩ := C
          rw [hCe] at d0 d1 d2 hY hN hsl
          simp only [] at d0 d1 d2 hY hN hsl
          clear hCe
          obtain ⟨ua, uc, eu⟩ := shapeS hu
          subst eu
          obtain ⟨W3, hW3⟩ : ∃ W, wr.alloc (.cells #[.string x0, .int .i64 x1, .string x2] 31) = W := ⟨_, rfl⟩
          have b3 : Below wr.heap.size wr W3 := by rw [← hW3]; exact allocBelow _ _
          have o3 : Rs W3 wr.heap.size [.string x0, .int .i64 x1, .string x2] := by rw [← hW3]; exact Rs.new _ _ _
          have m0 := o3 0 _ rfl
          have m1 := o3 1 _ rfl
          have B3 : Below w2.heap.size w2 W3 := below_step hbx hsz b3
          have h3 := hu.kept (grownOfBelow b3 none) (blockCases _ _ fun b c1 c2 => by cases c2)
          have s3 := b3.size
          by_cases hkd : x1 = kd
          · have hT := hY hkd
            have qk := beqI hkd
            have HTK : Hid ((idsU (l.take (k + 1)) kd).map Value.string = (idsU (l.take k) kd).map Value.string ++ [.string x0]) := by show _ = _; rw [hT]; simp
            have HTL : Hid ((idsU (l.take (k + 1)) kd).length = (idsU (l.take k) kd).length + 1) := by show _ = _; rw [hT]; simp
            clear hT hY hN hkd b3 o3 hu hbx
            obtain ⟨n, hnn⟩ : ∃ n, (idsU (l.take k) kd).length = n := ⟨_, rfl⟩
            rw [hnn] at h3 HTL hlen ⊢
            clear hnn
            go_wp2_with fail
            refine (cloneS x0 _ (by omega)).mono ?_; rintro e w4 ⟨rfl, b4⟩
            have h4 := h3.kept (grownOfBelow b4 none) (blockCases _ _ fun b c1 c2 => by cases c2)
            have B4 : Below w2.heap.size w2 w4 := B3.trans (b4.mono (by omega))
            have s4 := b4.size
            have hub : ∀ i, (Value.slice ua n uc).ownBlock = some i → w2.heap.size ≤ i := fun i hi => (h4.lt i hi).1
            clear h3 B3 b4 hW3 m0 m1
            go_wp2_with ((at_builtin; refine wpList_append_own_at _ rfl (.tmp 29) (.tmp 33) 38 rfl w2.heap.size 9 i0 (.string ByteArray.empty) 1 16 Try.underlying38 hi hz0 hz1 hz2 rfl (by decide) _ _ _ rfl (h4.alloc _) ⟨w4.heap.size, 0, none⟩ 1 1 [.string x0] rfl rfl (cell_one_new _ _ _) (by simp [Value.oneCell']) (by unfold maxLen; omega) (by omega) (by simp; omega) ?_; intro v' W5 p5 g5 _ k5; have z5 := g5.size))
            have HO : Hid (W5.ownsRow w2.heap.size 9 1 v' (idsU (l.take (k + 1)) kd).length ((idsU (l.take (k + 1)) kd).map Value.string)) := by
              show World.ownsRow _ _ _ _ _ _ _
              rw [HTK.out, HTL.out]; exact p5
            have HB5 : Hid (Below w2.heap.size w2 W5) := (B4.alloc (by omega) _).grown g5 (by simp; omega) (fun i hi => hub i hi)
            clear p5 g5 h4 k5 hub B4
            go_roundw
            case rel => exact ⟨k + 1, by omega, by first | rfl | go_num, HO.out, HB5.out⟩
            case measure => first | (simp [intOf]; omega) | simp [intOf]
          · have hT := hN hkd
            have qk := beqN hkd
            rw [← hT] at h3 ⊢
            have O6 : Hid (World.ownsRow _ _ _ _ _ _ _) := h3
            clear hT hY hN hu h3 hlen hbx b3 o3
            go_wp2
            go_roundw
            case rel => exact ⟨k + 1, by omega, by go_num, O6.out, B3⟩
            case measure => first | (simp [intOf]; omega) | simp [intOf]
        · have q : ¬ (k : Int) < (l.length : Int) := by omega
          rw [List.take_of_length_le (by omega), ← hC.out.2] at hu
          obtain ⟨ua, uc, eu⟩ := shapeS hu
          subst eu
          have r3 := r2.below z2 hbx
          have B3 := B2.trans (hbx.mono (by omega))
          have d0 := r3.c0
          have d1 := r3.c1
          have f0 := r3.f0
          have f1 := r3.f1
          have HB : Hid (Below w.heap.size w ((wr.setCell ⟨w.heap.size, 0, none⟩ (.int .i64 0)).setCell ⟨w.heap.size, 1, none⟩ (.slice ua L.length uc))) := below_sets B3 (Nat.le_refl _) _ _
          have HO : Hid (((wr.setCell ⟨w.heap.size, 0, none⟩ (.int .i64 0)).setCell ⟨w.heap.size, 1, none⟩ (.slice ua L.length uc)).ownsRow w.heap.size 9 1 (.slice ua L.length uc) L.length (L.map Value.string)) := by
            show World.ownsRow _ _ _ _ _ _ _
            exact ownMono ((Fr.ofGrown (lo := w.heap.size) (hi := w.heap.size + 1) (grownTrans (grownSet wr w.heap.size 0 (.int .i64 0)) (grownSet _ w.heap.size 1 (.slice ua L.length uc))) (fun j hj => by cases hj; omega)).own hu (fun j hj => by have := (hu.lt j hj).1; omega)) (by omega)
          clear r2 r3 B2 B3 hu
          go_wp2
          refine bodyPost_ret (v := .agg #[.int .i64 0, .slice ua L.length uc]) (by simp [results, Try.results12, go_sem, d0, d1]) rfl ?_
          exact ⟨_, ret_agg2 (by rw [hC.out.1]) rfl, HO.out, HB.out⟩
  · have hC := hFF e0
    have q0 : (F != 0) = true := ne_beq e0
    have d0 := r2.c0
    have d1 := r2.c1
    have f0 := r2.f0
    have f1 := r2.f1
    have HB : Hid (Below w.heap.size w ((w2.setCell ⟨w.heap.size, 0, none⟩ (.int .i64 F)).setCell ⟨w.heap.size, 1, none⟩ (.slice none 0 0))) := below_sets B2 (Nat.le_refl _) _ _
    clear r2 B2 A2 hRR hOK hFF
    go_wp2
    refine bodyPost_ret (v := .agg #[.int .i64 F, .slice none 0 0]) (by simp [results, Try.results12, go_sem, d0, d1]) rfl ?_
    exact ⟨_, ret_agg2 (by rw [hC.out.1]) rfl, by rw [hC.out.2]; exact nilRowS _ _ _, HB.out⟩
end Go.Proofs.Ytnififnogdekiaa
