/- The contracts of linesOfSide and l4Side: the lines of one side of all chunks. No statement is proved here. -/
import Derived.Test.YticagabnaibmgaaRows
import Derived.Test.YticagabnaibmgaaLemQ
import Derived.Test.YticagabnaibmgaaLFLemQ
import Derived.Test.YticagabnaibmgaaLFQ
import Derived.Test.YticagabnaibmgaaDTabQ
import Derived.Test.YticagabnaibmgaaInQ
import Derived.Test.YticagabnaibmgaaCkLQ
import Derived.Test.YticagabnaibmgaaCkCQ
import Derived.WalkKit
import Derived.ProofKit
import Derived.Below
import Derived.WalkSpells
import Derived.Deep.QuietTactic
import Derived.BigQuiet
import Derived.Maps.AppendAt
import Derived.Laws.AppendOwnNone
import Derived.Deep.RegionWith
import Derived.Deep.CutRange
import Derived.Test.YticagabnaibmgaaHkTQ
namespace Go.Proofs.Yticagabnaibmgaa
open Go.ChangeShapes Go.WideShapes Go.ChangeAt Go.RowKit

/-- append of lines that can be read, or of nil, onto a row of lines that is owned. -/
theorem wpList_appN {w : World} {ops : Array Oper} {rest : List Oper} {o : Oper} {a : Act} {Q : Exit → Act → World → Prop} (hgd : o.guard = none) (s x : Operand)
    (ho : o.op = .call { callee := .builtin .append, args := #[s, x], argTypes := #[24, 24] })
    (base B : Nat) (v : Value) (S0 : List ByteArray) (hs : a.eval s = v) (hown : w.ownsRow base 9 1 v S0.length (S0.map Value.string))
    (ax : Option Addr) (cx : Nat) (S1 : List ByteArray) (hx : a.eval x = .slice ax S1.length cx) (hx2 : SSN B w ax cx S1)
    (hb : S0.length + S1.length ≤ 1048576) (hbase : base ≤ w.heap.size)
    (h : ∀ v' w', w'.ownsRow base 9 1 v' (S0 ++ S1).length ((S0 ++ S1).map Value.string) → w.grownBy w' v.ownBlock → (v'.ownBlock = v.ownBlock ∨ v'.ownBlock = some w.heap.size) → wpList Try.prog ops Q rest (a.put o.dst v') w') :
    wpList Try.prog ops Q (o :: rest) a w := by
  obtain ⟨i0, hi, hz0, hz1, hz2⟩ := info_parts infoString
  cases ax with
  | none =>
    have e3 : S1 = [] := by
      cases S1 with
      | nil => rfl
      | cons z zs => obtain ⟨b, off, e, _⟩ := hx2.1.2 0 (by simp); cases e
    subst e3
    have ec := hx2.2 rfl
    subst ec
    refine wpList_append_own_none hgd s x _ ho base _ i0 1 Try.underlying24 hi v _ _ hs hown hx ?_
    exact h v w (by simpa using hown) (World.grownBy.refl _ _) (.inl rfl)
  | some AD =>
    refine wpList_append_own_at _ hgd s x _ ho base _ i0 (.string ByteArray.empty) 1 16 Try.underlying24 hi hz0 hz1 hz2 rfl (by decide) v _ _ hs hown AD S1.length cx (S1.map Value.string) hx (by simp) (newsOf hx2.1) (oneStr _) (by unfold maxLen; omega) (by omega) hbase ?_
    intro v' w' o1 g1 _ k1
    refine h v' w' ?_ g1 k1
    rw [List.length_append, List.map_append]; exact o1
/-- A row of lines, in memory of its own. -/
def RP (L : List ByteArray) (w : World) (e : Ending) (w' : World) : Prop := ∃ v, e = .returned v ∧ w'.ownsRow w.heap.size 9 1 v L.length (L.map Value.string) ∧ Below w.heap.size w w'

set_option maxRecDepth 20000 in
set_option maxHeartbeats 2000000 in
theorem linesOfSide (i : Nat) (hi : i < 3) (a : Option Addr) (c : Nat) (l : List Ck) (w : World) (h : KB w.heap.size w a l) (hn : l.length ≤ 1048576) (hs : (sideL i l).length ≤ 1048576) :
    Calls Try.prog 36 #[.slice a l.length c, .int .i64 i] w fun e w' => RP (sideL i l) w e w' := by
  go_enter Try.func36, Try.ntmps36
  go_wp2
  go_loopw [5, 10] (fun v j wr => ∃ k : Nat, k ≤ l.length ∧ j = .int .i64 k ∧ wr.ownsRow w.heap.size 9 1 v (sideL i (l.take k)).length ((sideL i (l.take k)).map Value.string) ∧ Below w.heap.size w wr) (fun _ j _ => l.length - (intOf j).toNat)
  case atStart => exact ⟨0, Nat.zero_le _, rfl, ⟨rfl, .inl ⟨rfl, rfl⟩⟩, Below.refl _ _⟩
  case round =>
    obtain ⟨k, hk, rfl, hown, hbel⟩ := hrel
    have hsz := hbel.size
    by_cases hlt : k < l.length
    · have q : (k : Int) < (l.length : Int) := by omega
      obtain ⟨g, off, a1, c1, a2, c2, a3, c3, e, hg, d0, d1, d2, d3, s1, s2, s3⟩ := h.below hbel k hlt
      subst e
      have hT := sideL_take i l k hlt
      have hle := side_take_le i (k + 1) l
      rw [hT, List.length_append] at hle
      obtain ⟨C, hCe⟩ : ∃ C, l.getD k cnil = C := ⟨_, rfl⟩
      obtain ⟨x0, x1, x2, x3⟩ := C
      rw [hCe] at d0 d1 d2 d3 s1 s2 s3 hT hle
      simp only [] at d0 d1 d2 d3 s1 s2 s3
      have HT : Hid (sideL i (l.take (k + 1)) = sideL i (l.take k) ++ sd i (x0, x1, x2, x3)) := hT
      obtain ⟨ai, ci, ix, si⟩ : ∃ ai ci, (∀ w, (Instr.index 69 (.agg #[.slice a1 x1.length c1, .slice a2 x2.length c2, .slice a3 x3.length c3]) (.int .i64 (i : Int))).run Try.prog w = .ok (.slice ai (sd i (x0, x1, x2, x3)).length ci) w) ∧ SSN w.heap.size wr ai ci (sd i (x0, x1, x2, x3)) := by
        have h3 : i = 0 ∨ i = 1 ∨ i = 2 := by omega
        rcases h3 with rfl | rfl | rfl
        · exact ⟨a1, c1, fun _ => by kernel_rfl, s1⟩
        · exact ⟨a2, c2, fun _ => by kernel_rfl, s2⟩
        · exact ⟨a3, c3, fun _ => by kernel_rfl, s3⟩
      obtain ⟨S1, hS1⟩ : ∃ S, sd i (x0, x1, x2, x3) = S := ⟨_, rfl⟩
      obtain ⟨S0, hS0⟩ : ∃ S, sideL i (l.take k) = S := ⟨_, rfl⟩
      rw [hS1] at HT ix si hle
      rw [hS0] at HT hown hle
      clear hT hCe hS1 hS0 s1 s2 s3 h
      obtain ⟨W, hW⟩ : ∃ W, wr.alloc (.cells #[.int .i64 x0, .slice a1 x1.length c1, .slice a2 x2.length c2, .slice a3 x3.length c3] 38) = W := ⟨_, rfl⟩
      have hR : Rs W wr.heap.size [.int .i64 x0, .slice a1 x1.length c1, .slice a2 x2.length c2, .slice a3 x3.length c3] := by rw [← hW]; exact Rs.new _ _ _
      have bW : Below wr.heap.size wr W := by rw [← hW]; exact allocBelow _ _
      have hBW := below_step hbel hsz bW
      have oW := (Fr.ofBelow (lo := 0) (hi := 0) bW).own hown (fun _ _ => .inr (Nat.zero_le _))
      have r0 := hR 0 _ rfl
      have r1 := hR 1 _ rfl
      have r2 := hR 2 _ rfl
      have r3 := hR 3 _ rfl
      have sW := si.below bW
      clear hown si hR
      go_wp2_with fail
      refine (listsOf _ _ _ _ _ _ _ _ _ _ _).mono ?_; rintro e w2 ⟨rfl, b2⟩
      have o2 := (Fr.ofBelow (lo := 0) (hi := 0) b2).own oW (fun _ _ => .inr (Nat.zero_le _))
      have s2 := sW.below b2
      have hB2 := below_step hBW hBW.size b2
      clear oW sW bW b2 r0 r1 r2 r3
      have z2 := hB2.size
      go_wp2_with (at_builtin; refine wpList_appN rfl (.tmp 14) (.tmp 18) rfl w.heap.size w.heap.size _ _ rfl o2 _ _ _ rfl s2 (by omega) z2 ?_; intro v3 w3 o3 g3 _)
      have hB3 : Below w.heap.size w w3 := hB2.grown g3 z2 (fun j hj => (o2.lt j hj).1)
      rw [← HT.out] at o3
      clear o2 s2 g3 hB2
      go_roundw
      case rel => exact ⟨k + 1, by omega, by go_num, o3, hB3⟩
      case measure => first | (simp [intOf]; omega) | simp [intOf]
    · have q : ¬ (k : Int) < (l.length : Int) := by omega
      rw [List.take_of_length_le (by omega)] at hown
      go_wp2
      go_ret
      exact ⟨_, rfl, hown, hbel⟩

end Go.Proofs.Yticagabnaibmgaa
/- The contract of impl.ChunksFault. No statement is proved here. -/
namespace Go.Proofs.Yticagabnaibmgaa
open Go.ChangeShapes Go.WideShapes Go.ChangeAt Go.RowKit

theorem Fr.zcell {w w' : World} {b o : Nat} {v : Value} (h : Below w.heap.size w w') (hc : w.cell? ⟨b, o, none⟩ = some v) : w'.cell? ⟨b, o, none⟩ = some v := (Fr.ofBelow (lo := 0) (hi := 0) h).cell hc (.inr (Nat.zero_le _))

set_option maxRecDepth 20000 in
set_option maxHeartbeats 4000000 in
theorem implChunksFault (a : Option Addr) (c : Nat) (l : List Ck) (w : World) (h : KB w.heap.size w a l) (hn : l.length ≤ 1048576) (hs : ShortK l) (hf : FitsK l) (hl : ∀ i, i < 3 → (sideL i l).length ≤ 1048576) :
    Calls Try.prog 13 #[.slice a l.length c] w fun e w' => e = .returned (.int .i64 (cf l)) ∧ Below w.heap.size w w' := by
  by_cases hbig : 201 < (l.length : Int)
  · have hC : Hid (cf l = 2) := cf_many hbig
    go_enter Try.func13, Try.ntmps13
    go_wp2
    go_ret
    exact ⟨ret_int hC.out.symm, Below.refl _ _⟩
  have HO := fun k => cf_one (l := l) hbig k
  have H0 := fun k e => cf_0 (l := l) hbig k e
  have H1 := fun k e f => cf_1 (l := l) hbig k e f
  have H2 := fun k e f => cf_2 (l := l) hbig k e f
  obtain ⟨V, hV⟩ : ∃ V, cf l = V := ⟨_, rfl⟩
  rw [hV] at HO H0 H1 H2 ⊢
  clear hV
  go_enter Try.func13, Try.ntmps13
  go_wp2
  go_loopw [12] (fun i wr => ∃ (k : Nat), k ≤ l.length ∧ i = .int .i64 k ∧ Hid (ckF (l.drop k) = ckF l) ∧ Below w.heap.size w wr) (fun i _ => l.length - (intOf i).toNat)
  case atStart => exact ⟨0, Nat.zero_le _, rfl, rfl, Below.refl _ _⟩
  case round =>
    obtain ⟨k, hk, rfl, hL, hbel⟩ := hrel
    have hsz := hbel.size
    by_cases hlt : k < l.length
    · have q : (k : Int) < (l.length : Int) := by omega
      obtain ⟨g, off, a1, c1, a2, c2, a3, c3, e, hg, d0, d1, d2, d3, s1, s2, s3⟩ := h.below hbel k hlt
      subst e
      have hdr := ck_drop l k hlt
      obtain ⟨m1, m2, m3⟩ := mem_lns (ck_mem l k hlt)
      have n1 := hs _ m1
      have n2 := hs _ m2
      have n3 := hs _ m3
      obtain ⟨C, hCe⟩ : ∃ C, l.getD k cnil = C := ⟨_, rfl⟩
      obtain ⟨x0, x1, x2, x3⟩ := C
      rw [hCe] at d0 d1 d2 d3 s1 s2 s3 hdr n1 n2 n3
      simp only [] at d0 d1 d2 d3 s1 s2 s3 n1 n2 n3
      rw [hdr] at hL
      have hST : ∀ cc, ck1 (x0, x1, x2, x3) = cc → ¬ cc = 0 → Hid (V = cc) := fun cc h1 h2 => by
        have e : ckF l = cc := by rw [← hL.out, ckF_stop h1 h2]
        show V = cc
        rw [← e]; exact HO (by rw [e]; exact h2)
      have hGO : ck1 (x0, x1, x2, x3) = 0 → Hid (ckF (l.drop (k + 1)) = ckF l) := fun h1 => by show _ = _; rw [← hL.out, ckF_go h1]
      clear hL hCe hdr HO H0 H1 H2 m1 m2 m3 h
      obtain ⟨W, hW⟩ : ∃ W, wr.alloc (.cells #[.int .i64 x0, .slice a1 x1.length c1, .slice a2 x2.length c2, .slice a3 x3.length c3] 38) = W := ⟨_, rfl⟩
      have hR : Rs W wr.heap.size [.int .i64 x0, .slice a1 x1.length c1, .slice a2 x2.length c2, .slice a3 x3.length c3] := by rw [← hW]; exact Rs.new _ _ _
      have bW : Below wr.heap.size wr W := by rw [← hW]; exact allocBelow _ _
      have hBW := below_step hbel hsz bW
      have zW := hBW.size
      have T1 : SS W a1 x1 := ((s1.1.below bW).mono zW).toSS (Nat.le_refl _)
      have T2 : SS W a2 x2 := ((s2.1.below bW).mono zW).toSS (Nat.le_refl _)
      have T3 : SS W a3 x3 := ((s3.1.below bW).mono zW).toSS (Nat.le_refl _)
      have r0 := hR 0 _ rfl
      have r1 := hR 1 _ rfl
      have r2 := hR 2 _ rfl
      have r3 := hR 3 _ rfl
      clear s1 s2 s3 hR bW
      by_cases u0 : x0 < 0
      · have hC := hST 3 (ck1_range (decide_eq_false (by simp only []; omega))) (by decide)
        clear hST hGO T1 T2 T3
        go_wp2
        go_ret
        exact ⟨ret_int hC.out.symm, hBW⟩
      by_cases u4 : 4 < x0
      · have hC := hST 3 (ck1_range (decide_eq_false (by simp only []; omega))) (by decide)
        clear hST hGO T1 T2 T3
        go_wp2
        go_ret
        exact ⟨ret_int hC.out.symm, hBW⟩
      have hin : inB x0 0 4 = true := decide_eq_true ⟨by omega, by omega⟩
      have hK : ∀ W', SS W' a1 x1 → SS W' a2 x2 → SS W' a3 x3 → Calls Try.prog 38 #[.agg #[.int .i64 x0, .slice a1 x1.length c1, .slice a2 x2.length c2, .slice a3 x3.length c3]] W' fun e w' => e = .returned (.int .i64 (kd x1 x2 x3)) ∧ Below W'.heap.size W' w' := fun W' p1 p2 p3 => kindOf x0 a1 a2 a3 c1 c2 c3 x1 x2 x3 W' p1 p2 p3 n1 n2 n3
      have hBr := fun W' => isBare x0 a1 a2 a3 c1 c2 c3 x1 x2 x3 W'
      obtain ⟨D, hD⟩ : ∃ D, kd x1 x2 x3 = D := ⟨_, rfl⟩
      obtain ⟨E, hE⟩ : ∃ E, bare (x0, x1, x2, x3) = E := ⟨_, rfl⟩
      have hKD := fun e => hST 1 (ck1_kind hin (by simp only []; rw [hD]; exact e)) (by decide)
      have hBA := fun e => hST 1 (ck1_bare hin (by rw [hE]; exact e)) (by decide)
      have hOK := fun e f => hGO (ck1_ok hin (by simp only []; rw [hD]; exact e) (by rw [hE]; exact f))
      rw [hD] at hK
      rw [hE] at hBr
      clear hST hGO hD hE hin
      by_cases eD : D = x0
      · have hq : (x0 != D) = false := by simp [eD]
        replace hOK := hOK eD
        clear hKD eD
        go_wp2
        go_cut [32] from 14 to 33 (fun s wx => s = .bool E ∧ Below W.heap.size W wx)
        case first =>
          go_region_with (first | (go_at_call 38; refine (hK _ (by exact T1) (by exact T2) (by exact T3)).mono ?_; rintro e w2 ⟨rfl, b2⟩; have t0 := Fr.zcell b2 (by exact r0); have t1 := Fr.zcell b2 (by exact r1); have t2 := Fr.zcell b2 (by exact r2); have t3 := Fr.zcell b2 (by exact r3)) | (go_at_call 39; refine (hBr _).mono ?_; rintro e w3 ⟨rfl, b3⟩))
          all_goals
            have X2 : Below W.heap.size W w2 := ⟨b2.os, b2.tape, b2.output, b2.size, b2.block⟩
            have X3 : Below w2.heap.size w2 w3 := ⟨b3.os, b3.tape, b3.output, b3.size, b3.block⟩
            have XX := X2.trans (X3.mono X2.size)
            go_wp2_with fail
            go_meet
            exact ⟨rfl, by first | exact XX | exact below_drew XX | exact below_drewN' XX _⟩
        case rest =>
        obtain ⟨hs1, hB⟩ := hcut
        subst hs1
        have HB := below_step hBW (by omega) hB
        cases E with
        | true =>
          have hC := hBA rfl
          go_wp2
          go_ret
          exact ⟨ret_int hC.out.symm, HB⟩
        | false =>
          have hC := hOK rfl
          go_wp2
          go_roundw
          case rel => exact ⟨k + 1, by omega, by go_num, hC, HB⟩
          case measure => first | (simp [intOf]; omega) | simp [intOf]
      · have hq : (x0 != D) = true := by simp; omega
        have hC := hKD eD
        clear hKD eD hBA hOK hBr
        go_wp2
        go_cut [32] from 14 to 33 (fun s wx => s = .bool true ∧ Below W.heap.size W wx)
        case first =>
          go_region_with (first | (go_at_call 38; refine (hK _ (by exact T1) (by exact T2) (by exact T3)).mono ?_; rintro e w2 ⟨rfl, b2⟩; have t0 := Fr.zcell b2 (by exact r0); have t1 := Fr.zcell b2 (by exact r1); have t2 := Fr.zcell b2 (by exact r2); have t3 := Fr.zcell b2 (by exact r3)))
          all_goals
            have X2 : Below W.heap.size W w2 := ⟨b2.os, b2.tape, b2.output, b2.size, b2.block⟩
            go_wp2_with fail
            go_meet
            exact ⟨rfl, by first | exact X2 | exact below_drew X2 | exact below_drewN' X2 _⟩
        case rest =>
        obtain ⟨hs1, hB⟩ := hcut
        subst hs1
        have HB := below_step hBW (by omega) hB
        go_wp2
        go_ret
        exact ⟨ret_int hC.out.symm, HB⟩
    · have q : ¬ (k : Int) < (l.length : Int) := by omega
      have hZ : ckF l = 0 := by rw [← hL.out, List.drop_of_length_le (by omega)]; rfl
      replace H0 := H0 hZ
      replace H1 := H1 hZ
      replace H2 := H2 hZ
      have A0 := h.below hbel
      clear HO hL h hZ hs
      obtain ⟨w1, hw1⟩ : ∃ W, W = wr := ⟨_, rfl⟩
      subst hw1
      go_wp2
      go_loopw [34] (fun i wx => ∃ (j : Nat), j ≤ 3 ∧ i = .int .i64 j ∧ Hid (∀ n, n < j → lf (sideL n l) = 0) ∧ Below w1.heap.size w1 wx) (fun i _ => 3 - (intOf i).toNat)
      case atStart => exact ⟨0, by omega, rfl, fun n hn => absurd hn (Nat.not_lt_zero _), Below.refl _ _⟩
      case round =>
        obtain ⟨j, hj, rfl, hA, hbx⟩ := hrel
        have hBx := below_step hbel hsz hbx
        have zx := hBx.size
        by_cases hlt : j < 3
        · have q3 : (j : Int) < 3 := by omega
          have hV : ¬ lf (sideL j l) = 0 → Hid (V = lf (sideL j l)) := fun e => by
            show _ = _
            have h3 : j = 0 ∨ j = 1 ∨ j = 2 := by omega
            rcases h3 with rfl | rfl | rfl
            · exact H0 e
            · exact H1 (hA.out 0 (by omega)) e
            · exact H2 (hA.out 0 (by omega)) (hA.out 1 (by omega))
          have hA' : lf (sideL j l) = 0 → Hid (∀ n, n < j + 1 → lf (sideL n l) = 0) := fun e => by
            show ∀ n, _
            intro n hn
            by_cases e' : n = j
            · rw [e']; exact e
            · exact hA.out n (by omega)
          have hLS := linesOfSide j hlt a c l wr ((A0.below hbx).mono zx) hn (hl j hlt)
          have zS := side_fits hf j
          have lS := hl j hlt
          obtain ⟨L, hLe⟩ : ∃ L, sideL j l = L := ⟨_, rfl⟩
          rw [hLe] at hLS hV hA' zS lS
          have hLF := fun va vc W' p => implLinesFault va vc L W' p lS
          obtain ⟨F, hF⟩ : ∃ F, lf L = F := ⟨_, rfl⟩
          rw [hF] at hLF hV hA'
          clear hF hLe hA H0 H1 H2 hl hf
          by_cases e0 : F = 0
          · have hC := hA' e0
            have q0 : (F != 0) = false := by simp [e0]
            clear hA' hV e0
            go_wp2_with fail
            refine hLS.mono ?_; rintro e w2 ⟨v, rfl, o2, b2⟩
            obtain ⟨va, vc, ev⟩ := shapeS o2
            subst ev
            go_wp2_with fail
            refine (hLF va vc _ (ownSS o2 zS)).mono ?_; rintro e w3 ⟨rfl, rfl⟩
            have HB := hbx.trans (b2.mono hbx.size)
            clear o2 b2 hLS hLF
            go_wp2
            go_roundw
            case rel => exact ⟨j + 1, by omega, by go_num, hC, HB⟩
            case measure => first | (simp [intOf]; omega) | simp [intOf]
          · have hC := hV e0
            have q0 : (F != 0) = true := by simp [e0]
            clear hA' hV e0
            go_wp2_with fail
            refine hLS.mono ?_; rintro e w2 ⟨v, rfl, o2, b2⟩
            obtain ⟨va, vc, ev⟩ := shapeS o2
            subst ev
            go_wp2_with fail
            refine (hLF va vc _ (ownSS o2 zS)).mono ?_; rintro e w3 ⟨rfl, rfl⟩
            have HB := below_step hBx zx b2
            clear o2 b2 hLS hLF
            go_wp2
            go_ret
            exact ⟨ret_int hC.out.symm, HB⟩
        · have q3 : ¬ (j : Int) < 3 := by omega
          have hC : Hid (V = 0) := by
            show V = 0
            rw [H2 (hA.out 0 (by omega)) (hA.out 1 (by omega))]; exact hA.out 2 (by omega)
          clear H0 H1 H2 hA
          go_wp2
          go_ret
          exact ⟨ret_int hC.out.symm, hBx⟩
end Go.Proofs.Yticagabnaibmgaa
/- The contract of spec.ChunksFault. No statement is proved here. -/
namespace Go.Proofs.Yticagabnaibmgaa
open Go.ChangeShapes Go.WideShapes Go.ChangeAt Go.RowKit

theorem wrapIn {x : Int} (h0 : -9223372036854775808 ≤ x) (h1 : x ≤ 9223372036854775807) : IntKind.i64.wrap x = x := by rw [IntKind.wrap_i64]; omega
theorem bare_sum (x0 : Int) (x1 x2 x3 : List ByteArray) : bare (x0, x1, x2, x3) = ((x1.length : Int) + (x2.length : Int) + (x3.length : Int) == 0) := by
  unfold bare
  by_cases h : x1.length = 0 ∧ x2.length = 0 ∧ x3.length = 0
  · have e : (x1.length : Int) + (x2.length : Int) + (x3.length : Int) = 0 := by omega
    rw [e]; exact decide_eq_true h
  · have e : ¬ (x1.length : Int) + (x2.length : Int) + (x3.length : Int) = 0 := by omega
    rw [show ((x1.length : Int) + (x2.length : Int) + (x3.length : Int) == 0) = false from beq_eq_false_iff_ne.2 e]; exact decide_eq_false h

end Go.Proofs.Yticagabnaibmgaa
/- The contracts of CountClashes (the program's and the specification's). No statement is proved here. -/
namespace Go.Proofs.Yticagabnaibmgaa
open Go.ChangeShapes Go.WideShapes Go.ChangeAt Go.RowKit

/-- How many clash. -/
def cc1 (c : Ck) : Int := if c.1 = 4 then 1 else 0
def cc (l : List Ck) : Int := (l.map cc1).sum
theorem cc_take (l : List Ck) (k : Nat) (h : k < l.length) : cc (l.take (k + 1)) = cc (l.take k) + cc1 (l.getD k cnil) := by
  unfold cc
  rw [List.take_succ_eq_append_getElem h, List.map_append, List.sum_append]
  simp [List.getD, h]
theorem cc_bd (l : List Ck) : 0 ≤ cc l ∧ cc l ≤ l.length := by
  unfold cc
  induction l with
  | nil => simp
  | cons c t ih =>
    have : 0 ≤ cc1 c ∧ cc1 c ≤ 1 := by unfold cc1; split <;> omega
    simp only [List.map_cons, List.sum_cons, List.length_cons]
    omega
def ccV (l : List Ck) : Int := if cf l = 0 then cc l else 0
theorem ret_2 {a b c d : Int} (h : a = c) (k : b = d) : Ending.returned (.agg #[.int .i64 a, .int .i64 b]) = .returned (.agg #[.int .i64 c, .int .i64 d]) := by rw [h, k]

set_option maxRecDepth 20000 in
set_option maxHeartbeats 2000000 in
theorem clashCount (a : Option Addr) (c : Nat) (l : List Ck) (w : World) (h : KB w.heap.size w a l) (hn : l.length ≤ 1048576) :
    Calls Try.prog 41 #[.slice a l.length c] w fun e w' => e = .returned (.int .i64 (cc l)) ∧ Below w.heap.size w w' := by
  go_enter Try.func41, Try.ntmps41
  go_wp2
  go_loopw [3, 8] (fun t i wr => ∃ k : Nat, k ≤ l.length ∧ i = .int .i64 k ∧ t = .int .i64 (cc (l.take k)) ∧ Below w.heap.size w wr) (fun _ i _ => l.length - (intOf i).toNat)
  case atStart => exact ⟨0, Nat.zero_le _, rfl, rfl, Below.refl _ _⟩
  case round =>
    obtain ⟨k, hk, rfl, rfl, hbel⟩ := hrel
    have hsz := hbel.size
    have hb := cc_bd (l.take k)
    have hb2 : ((l.take k).length : Int) ≤ 1048576 := by rw [List.length_take]; omega
    obtain ⟨hb0, hb1⟩ := hb
    by_cases hlt : k < l.length
    · have q : (k : Int) < (l.length : Int) := by omega
      obtain ⟨g, off, a1, c1, a2, c2, a3, c3, e, hg, d0, d1, d2, d3, s1, s2, s3⟩ := h.below hbel k hlt
      subst e
      have hT := cc_take l k hlt
      obtain ⟨C, hCe⟩ : ∃ C, l.getD k cnil = C := ⟨_, rfl⟩
      obtain ⟨x0, x1, x2, x3⟩ := C
      rw [hCe] at d0 d1 d2 d3 hT
      simp only [] at d0 d1 d2 d3
      obtain ⟨N, hN⟩ : ∃ N, cc (l.take k) = N := ⟨_, rfl⟩
      rw [hN] at hT hb0 hb1 ⊢
      have HB := below_step hbel hsz (allocBelow wr (.cells #[.int .i64 x0, .slice a1 x1.length c1, .slice a2 x2.length c2, .slice a3 x3.length c3] 38))
      by_cases e4 : x0 = 4
      · have HT : Hid (cc (l.take (k + 1)) = N + 1) := by show _ = _; rw [hT]; unfold cc1; rw [if_pos e4]
        have q4 : (x0 == 4) = true := by simp [e4]
        clear hT hCe s1 s2 s3 hN e4
        go_wp2
        go_roundw
        case rel => exact ⟨k + 1, by omega, by go_num, by rw [HT.out], HB⟩
        case measure => first | (simp [intOf]; omega) | simp [intOf]
      · have HT : Hid (cc (l.take (k + 1)) = N) := by show _ = _; rw [hT]; unfold cc1; rw [if_neg e4, Int.add_zero]
        have q4 : (x0 == 4) = false := by simp [e4]
        clear hT hCe s1 s2 s3 hN e4
        go_wp2
        go_roundw
        case rel => exact ⟨k + 1, by omega, by go_num, by rw [HT.out], HB⟩
        case measure => first | (simp [intOf]; omega) | simp [intOf]
    · have q : ¬ (k : Int) < (l.length : Int) := by omega
      have HT : Hid (cc l = cc (l.take k)) := by show _ = _; rw [List.take_of_length_le (by omega)]
      clear hb0 hb1 hb2
      go_wp2
      go_ret
      exact ⟨ret_int HT.out.symm, hbel⟩

set_option maxRecDepth 20000 in
set_option maxHeartbeats 2000000 in
theorem implCountClashes (a : Option Addr) (c : Nat) (l : List Ck) (w : World) (h : KB w.heap.size w a l) (hn : l.length ≤ 1048576) (hs : ShortK l) (hf : FitsK l) (hl : ∀ i, i < 3 → (sideL i l).length ≤ 1048576) :
    Calls Try.prog 15 #[.slice a l.length c] w fun e w' => e = .returned (.agg #[.int .i64 (cf l), .int .i64 (ccV l)]) ∧ Below w.heap.size w w' := by
  have hA := fun w h => implChunksFault a c l w h hn hs hf hl
  have hV0 : ¬ cf l = 0 → ccV l = 0 := fun e => if_neg e
  have hV1 : cf l = 0 → ccV l = cc l := fun e => if_pos e
  obtain ⟨F, hF⟩ : ∃ F, cf l = F := ⟨_, rfl⟩
  rw [hF] at hA hV0 hV1 ⊢
  clear hF
  obtain ⟨W1, hW1⟩ : ∃ W1, w.alloc (.cells #[.int .i64 0, .int .i64 0] 40) = W1 := ⟨_, rfl⟩
  have b1 : Below w.heap.size w W1 := by rw [← hW1]; exact allocBelow _ _
  have zW : w.heap.size < W1.heap.size := by rw [← hW1]; simp
  have r1 : Res2 W1 w.heap.size (.int .i64 0) (.int .i64 0) := by rw [← hW1]; exact Res2.new _ _ _ _
  have A1 := h.below b1
  by_cases e0 : F = 0
  · have hC : Hid (ccV l = cc l) := hV1 e0
    subst e0
    clear hV0 hV1
    go_enter Try.func15, Try.ntmps15
    go_wp2_with fail
    refine (hA _ (A1.mono (by omega))).mono ?_; rintro e w2 ⟨rfl, b2⟩
    have A2 := A1.below b2
    have r2 := r1.below zW b2
    have B2 := b1.trans (b2.mono b1.size)
    have z2 : w.heap.size < w2.heap.size := Nat.lt_of_lt_of_le zW b2.size
    clear A1 r1 b1 b2 hA hW1 h zW
    go_wp2_with fail
    refine (clashCount a c l _ (A2.mono (by omega)) hn).mono ?_; rintro e w3 ⟨rfl, b3⟩
    have r3 := r2.below z2 b3
    have B3 := B2.trans (b3.mono B2.size)
    have d0 := r3.c0
    have d1 := r3.c1
    have f0 := r3.f0
    have f1 := r3.f1
    have HB : Hid (Below w.heap.size w ((w3.setCell ⟨w.heap.size, 0, none⟩ (.int .i64 0)).setCell ⟨w.heap.size, 1, none⟩ (.int .i64 (cc l)))) := below_sets B3 (Nat.le_refl _) _ _
    obtain ⟨N, hN⟩ : ∃ N, cc l = N := ⟨_, rfl⟩
    rw [hN] at hC HB ⊢
    clear r2 r3 B2 B3 b3 A2 hN
    go_wp2
    refine bodyPost_ret (v := .agg #[.int .i64 0, .int .i64 N]) (by simp [results, Try.results15, go_sem, d0, d1]) rfl ?_
    exact ⟨ret_2 rfl hC.out.symm, HB.out⟩
  · have hC : Hid (ccV l = 0) := hV0 e0
    have q0 : (F != 0) = true := by simp [e0]
    clear hV0 hV1
    go_enter Try.func15, Try.ntmps15
    go_wp2_with fail
    refine (hA _ (A1.mono (by omega))).mono ?_; rintro e w2 ⟨rfl, b2⟩
    have r2 := r1.below zW b2
    have B2 := b1.trans (b2.mono b1.size)
    have d0 := r2.c0
    have d1 := r2.c1
    have f0 := r2.f0
    have f1 := r2.f1
    have HB : Hid (Below w.heap.size w ((w2.setCell ⟨w.heap.size, 0, none⟩ (.int .i64 F)).setCell ⟨w.heap.size, 1, none⟩ (.int .i64 0))) := below_sets B2 (Nat.le_refl _) _ _
    clear A1 r1 b1 b2 hA hW1 h zW r2 B2 e0
    go_wp2
    refine bodyPost_ret (v := .agg #[.int .i64 F, .int .i64 0]) (by simp [results, Try.results15, go_sem, d0, d1]) rfl ?_
    exact ⟨ret_2 rfl hC.out.symm, HB.out⟩

end Go.Proofs.Yticagabnaibmgaa
