/- The program's reader of a patch: takeNumber. No statement is proved here. -/
import Derived.Test.YtnkbjbbaoddfkaaGreatDoorRows
import Derived.Test.YtnkbjbbaoddfkaaGreatDoorLemQ
import Derived.Test.YtnkbjbbaoddfkaaGreatDoorLFLemQ
import Derived.Test.YtnkbjbbaoddfkaaGreatDoorHkTQ
import Derived.Test.YtnkbjbbaoddfkaaGreatDoorFiCQ
import Derived.Test.YtnkbjbbaoddfkaaGreatDoorDcTQ
import Derived.Test.YtnkbjbbaoddfkaaGreatDoorShelfEQ
import Derived.Test.YtnkbjbbaoddfkaaGreatDoorPpMQ
import Derived.Test.YtnkbjbbaoddfkaaGreatDoorPqTQ
import Derived.Shelf.Strings.SlTrimAscii
import Derived.Lib.ParseIntB
import Derived.Lib.ConvBytes
import Derived.WalkKit
import Derived.ProofKit
import Derived.Below
import Derived.WalkSpells
import Derived.WalkLawsBesides
import Derived.OwnWalk
import Derived.Deep.QuietTactic
import Derived.BigQuiet
set_option linter.unusedVariables false
namespace Go.Proofs.YtnkbjbbaoddfkaaGreatDoor.Pp
open Go.ChangeShapes Go.WideShapes Go.ChangeAt Go.RowKit Go.Shelf
open Go.Proofs.YtnkbjbbaoddfkaaGreatDoor.Dc (pI valF)

/-- The errors that strconv tells: some errors. -/
def PeG (w : World) : Prop := (∃ (T : TypeId) (u : Value), w.cell? ⟨2, 0, none⟩ = some (.iface T u)) ∧ (∃ (T : TypeId) (u : Value), w.cell? ⟨3, 0, none⟩ = some (.iface T u))
theorem PeG.below {B : Nat} {w w' : World} (h : PeG w) (hb : Below B w w') (h1 : 2 < B) (h2 : 3 < B) : PeG w' := by
  obtain ⟨⟨T, u, h⟩, T', u', h'⟩ := h
  exact ⟨⟨T, u, (hb.cell (p := ⟨2, 0, none⟩) h1).trans h⟩, T', u', (hb.cell (p := ⟨3, 0, none⟩) h2).trans h'⟩
/-- How ParseInt ends. -/
def PN (s : ByteArray) (e : Ending) : Prop := (∃ n : Int, pI s.data.toList = some n ∧ e = .returned (.tuple #[.int .i64 n, .nilIface])) ∨ (pI s.data.toList = none ∧ ∃ (n : Int) (T : TypeId) (u : Value), e = .returned (.tuple #[.int .i64 n, .iface T u]))
theorem parseIntC (s : ByteArray) (w : World) (hs : s.size ≤ 1048576) (hP : PeG w) :
    Calls Tryz.prog 57 #[.string s, .int .i64 10, .int .i64 64] w fun e w' => PN s e ∧ Below w.heap.size w w' := by
  obtain ⟨⟨T, u, h1⟩, T', u', h2⟩ := hP
  cases h : Lib.parseIntB 64 s.data.toList with
  | ok n =>
    refine (Tryz.strconv_ParseInt_10_at64_ok s (by omega) n h w).mono ?_
    rintro e w' ⟨rfl, hw⟩
    refine ⟨.inl ⟨n, by unfold pI; rw [h], rfl⟩, ?_⟩
    rcases hw with rfl | ⟨t, rfl⟩
    · exact Below.refl _ _
    · exact Lib.bytesWorld_below _ _ _
  | «syntax» =>
    refine (Tryz.strconv_ParseInt_10_at64_syntax s (by omega) h _ w h1 (.inr ⟨_, _, rfl⟩)).mono ?_
    rintro e w' ⟨N, rfl, _, _, hb⟩
    exact ⟨.inr ⟨by unfold pI; rw [h], _, _, _, rfl⟩, hb⟩
  | range =>
    refine (Tryz.strconv_ParseInt_10_at64_range s (by omega) h _ w h2 (.inr ⟨_, _, rfl⟩)).mono ?_
    rintro e w' ⟨N, rfl, _, _, hb⟩
    exact ⟨.inr ⟨by unfold pI; rw [h], _, _, _, rfl⟩, hb⟩
theorem trimDg (t : ByteArray) (p : Nat) (w : World) :
    Calls Tryz.prog 56 #[.string (rst t p), .string ⟨#[48, 49, 50, 51, 52, 53, 54, 55, 56, 57]⟩] w fun e w' => e = .returned (.string (rst t (p + (dgs (t.data.toList.drop p)).length))) ∧ Below w.heap.size w w' := by
  refine (Any.strings_TrimLeft_laid Tryz.lays161 (by kernel_rfl) (rst t p) ⟨#[48, 49, 50, 51, 52, 53, 54, 55, 56, 57]⟩ w (by decide) ?_).mono ?_
  · intro j b hj
    have : b ∈ cut10s := List.mem_of_getElem? hj
    have h := dg_cut b
    rw [List.contains_iff_mem.2 this] at h
    have := isDg_bd h.symm
    omega
  · rintro e w' ⟨rfl, hb⟩
    refine ⟨?_, hb⟩
    have e1 : (⟨(Lib.trimLeftS (rst t p).data.toList cut10s).toArray⟩ : ByteArray) = rst t (p + (dgs (t.data.toList.drop p)).length) := by
      apply bytes_inj2
      rw [ByteArray.toList_eq, ByteArray.toList_eq, drop_dgs, rst_data, rst_data, List.drop_drop]
    exact congrArg (fun x => Ending.returned (.string x)) e1
def NkP (t : ByteArray) (p R : Nat) (w : World) (e : Ending) (w' : World) : Prop :=
  (nmE t p < 0 ∧ Pan e ∧ Below w.heap.size w w') ∨ (∃ (q : Nat) (w1 : World), nmE t p = q ∧ e = .returned (.int .i64 (nmV t p)) ∧ Below w.heap.size w w1 ∧ w' = w1.setCell ⟨R, 0, none⟩ (.string (rst t q)))
theorem ok_long {l : List UInt8} (h : ¬ (dgs l).length ≤ 4) : okN l = false := by
  unfold okN
  exact decide_eq_false (fun q => h q.2.1)
theorem ok_nothing {l : List UInt8} (h : pI (dgs l) = none) : okN l = false := by
  cases e : okN l with
  | false => rfl
  | true =>
    have q : 1 ≤ (dgs l).length ∧ (dgs l).length ≤ 4 ∧ ¬ (1 < (dgs l).length ∧ l.head? = some 48) := of_decide_eq_true e
    have := pI_four (all_dgs l) (List.length_pos_iff.1 q.1) q.2.1
    rw [h] at this; cases this
theorem dig_ext (t : ByteArray) (p : Nat) : ((rst t p).extract 0 (dgs (t.data.toList.drop p)).length).data.toList = dgs (t.data.toList.drop p) := by
  rw [extract_data, List.drop_zero, Nat.sub_zero, rst_data, take_dgs]
theorem nm_no {t : ByteArray} {p : Nat} (h : okN (t.data.toList.drop p) = false) : nmE t p < 0 := by
  unfold nmE
  rw [h, if_neg (by decide)]; decide
theorem nm_yes {t : ByteArray} {p : Nat} (h : okN (t.data.toList.drop p) = true) : nmE t p = ((p + (dgs (t.data.toList.drop p)).length : Nat) : Int) ∧ nmV t p = (dval (dgs (t.data.toList.drop p)) : Nat) := by
  unfold nmE nmV
  rw [if_pos h, if_pos h]
  exact ⟨rfl, rfl⟩
set_option maxRecDepth 20000 in
set_option maxHeartbeats 4000000 in
theorem takeNumberC (t : ByteArray) (p R : Nat) (hv : Value) (w : World) (hr : Rf w R [.string (rst t p), hv]) (hRs : R < w.heap.size) (hg : UnG w) (hP : PeG w) (hTa : TaG w) (hgs : 9 ≤ w.heap.size) (ht : t.size ≤ 1048576) (hp : p ≤ t.size) :
    Calls Tryz.prog 35 #[.pointer (some ⟨R, 0, none⟩)] w fun e w' => NkP t p R w e w' := by
  have hT := trimDg t p w
  have hk0 := dgs_le (t.data.toList.drop p)
  rw [List.length_drop, size_eq] at hk0
  have hDd := dig_ext t p
  have hLo := ok_long (l := t.data.toList.drop p)
  have hNo := ok_nothing (l := t.data.toList.drop p)
  have hYes := nm_yes (t := t) (p := p)
  have hIff := okN_iff (t.data.toList.drop p)
  have hI4 := pI_four (all_dgs (t.data.toList.drop p))
  have hBd := dval_bd _ (all_dgs (t.data.toList.drop p))
  obtain ⟨k, hk⟩ : ∃ k, (dgs (t.data.toList.drop p)).length = k := ⟨_, rfl⟩
  obtain ⟨dd, hdd⟩ : ∃ dd, dgs (t.data.toList.drop p) = dd := ⟨_, rfl⟩
  have c0 := hr.at_ 0 _ rfl
  have hs1 : (rst t p).size = t.size - p := rst_size t p
  have hs2 : (rst t (p + k)).size = t.size - (p + k) := rst_size t (p + k)
  rw [hk] at hT hk0 hDd
  go_enter Tryz.func35, Tryz.ntmps35
  go_wp2_with fail
  refine hT.mono ?_
  clear hT
  rintro e w1 ⟨rfl, b1⟩
  have R1 := hr.below hRs b1
  have d0 := R1.at_ 0 _ rfl
  obtain ⟨Y, hY⟩ : ∃ Y, rst t p = Y := ⟨_, rfl⟩
  obtain ⟨X, hX⟩ : ∃ X, rst t (p + k) = X := ⟨_, rfl⟩
  rw [hX] at hs2 ⊢
  rw [hY] at hs1 hDd d0 c0 ⊢
  have hXY : X.size ≤ Y.size := by omega
  have hYm : Y.size ≤ 1048576 := by omega
  have HK : Hid (Y.size - X.size = k) := by show _ = _; omega
  clear hs1 hs2 c0
  go_wp2_with fail
  go_quiet (fail)
  obtain ⟨D, hD⟩ : ∃ D, Y.extract 0 (Y.size - X.size) = D := ⟨_, rfl⟩
  have hDl : D.data.toList = dd := by rw [← hD, HK.out, hDd, hdd]
  have hDk : dd.length = k := by rw [← hdd, hk]
  have hDs : D.size = k := by rw [← size_eq, hDl, hDk]
  rw [hD]
  obtain ⟨w2, hw2⟩ : ∃ W, w1.drewN nq = W := ⟨_, rfl⟩
  have B2 : Below w.heap.size w w2 := by rw [← hw2]; exact below_drewN' b1 nq
  rw [hw2]
  have hDm : D.size ≤ 1048576 := by omega
  have hPI := parseIntC D w2 hDm (hP.below B2 (by omega) (by omega))
  rw [hdd] at hLo hNo hYes hIff hI4 hBd
  rw [hDk] at hLo hYes
  have HX : Hid (rst t (p + k) = X) := hX
  have HDl : Hid (D.data.toList = dd) := hDl
  have HDk : Hid (dd.length = k) := hDk
  have HDs : Hid (D.size = k) := hDs
  have HLo : Hid (¬ k ≤ 4 → okN (t.data.toList.drop p) = false) := hLo
  have HNo : Hid (pI dd = none → okN (t.data.toList.drop p) = false) := hNo
  have HYes : Hid (okN (t.data.toList.drop p) = true → nmE t p = ((p + k : Nat) : Int) ∧ nmV t p = (dval dd : Nat)) := hYes
  have HIff : Hid (dd ≠ [] → dd.length ≤ 4 → (okN (t.data.toList.drop p) = true ↔ Lib.decDigits (dval dd) = dd)) := hIff
  have HBd : Hid (dval dd < 10 ^ dd.length) := hBd
  have HI4 : Hid (dd ≠ [] → dd.length ≤ 4 → pI dd = some ((dval dd : Nat) : Int)) := hI4
  clear hBd hD hDl hDk hDs hw2 hLo hNo hYes hIff hI4 hDd hdd hk hX hY HK hXY hYm R1 d0 b1 hk0
  go_wp2_with fail
  refine hPI.mono ?_
  clear hPI
  rintro e w3 ⟨⟨n, hn, rfl⟩ | ⟨hn, n, T0, u0, rfl⟩, b3⟩
  · have B3 : Below w.heap.size w w3 := B2.trans (b3.mono B2.size)
    obtain ⟨T, u, g0⟩ := hg.below B3 (by omega)
    have R3 := hr.below hRs B3
    have f0 := R3.fz 0
    have d0 := R3.at_ 0 _ rfl
    rw [HDl.out] at hn
    by_cases h4 : k ≤ 4
    · have q4 : ¬ (4 : Int) < (D.size : Int) := by have := HDs.out; omega
      have hne : dd ≠ [] := fun q => by rw [q] at hn; cases hn
      have hn2 : n = ((dval dd : Nat) : Int) := by
        have := HI4.out hne (by have := HDk.out; omega)
        rw [hn] at this
        exact Option.some.inj this
      have hall : dval dd < 10000 := by
        have h1 := HBd.out
        have h2 : (10 : Nat) ^ dd.length ≤ 10 ^ 4 := Nat.pow_le_pow_right (by decide) (by have := HDk.out; omega)
        have h3 : (10 : Nat) ^ 4 = 10000 := by decide
        omega
      subst hn2
      have hF := formatInt ((dval dd : Nat) : Int) (by omega) (by omega) w3 (hTa.below B3 (by omega))
      have hIf := HIff.out hne (by have := HDk.out; omega)
      have eb : itB ((dval dd : Nat) : Int) = D ↔ Lib.decDigits (dval dd) = dd := by
        constructor
        · intro h
          have : (itB ((dval dd : Nat) : Int)).data.toList = D.data.toList := by rw [h]
          rw [Dc.it_dec, HDl.out] at this
          exact this
        · intro h
          apply bytes_inj2
          rw [ByteArray.toList_eq, ByteArray.toList_eq, Dc.it_dec, HDl.out, h]
      obtain ⟨I, hI⟩ : ∃ I, itB ((dval dd : Nat) : Int) = I := ⟨_, rfl⟩
      rw [hI] at hF eb
      obtain ⟨N, hN⟩ : ∃ N : Nat, dval dd = N := ⟨_, rfl⟩
      have HN : Hid (dval dd = N) := hN
      rw [hN] at hF hall ⊢
      cases ho : okN (t.data.toList.drop p) with
      | true =>
        have hID : I = D := eb.2 (hIf.1 ho)
        have HY := HYes.out ho
        have HY' : Hid (nmE t p = ((p + k : Nat) : Int) ∧ nmV t p = (N : Int)) := ⟨HY.1, by rw [HY.2, hN]⟩
        subst hID
        have qe := beq_bytes_true (rfl : I = I)
        have HI : Hid (I = I) := rfl
        clear HY eb hIf hI hN hn hne ho h4 b3 R3 d0
        go_wp2_with fail
        refine hF.mono ?_
        rintro e w4 ⟨rfl, b4⟩
        have B4 : Below w.heap.size w w4 := B3.trans (b4.mono B3.size)
        have R4 := hr.below hRs B4
        have f4 := R4.fz 0
        have d4 := R4.at_ 0 _ rfl
        clear R4
        go_wp2
        go_ret
        exact .inr ⟨_, _, HY'.out.1, ret_int HY'.out.2.symm, B4, by rw [HX.out]⟩
      | false =>
        have HE : Hid (nmE t p < 0) := nm_no ho
        have hID : ¬ I = D := fun q => by have := hIf.2 (eb.1 q); rw [ho] at this; cases this
        have qe := beq_bytes_false hID
        clear eb hIf hI hN hn hne ho h4 b3 R3 d0 hID
        go_wp2_with fail
        refine hF.mono ?_
        rintro e w4 ⟨rfl, b4⟩
        have B4 : Below w.heap.size w w4 := B3.trans (b4.mono B3.size)
        obtain ⟨T, u, g4⟩ := hg.below B4 (by omega)
        go_wp2
        exact ⟨rfl, .inl ⟨HE.out, ⟨T, u, rfl⟩, B4⟩⟩
    · have q4 : (4 : Int) < (D.size : Int) := by have := HDs.out; omega
      have HE : Hid (nmE t p < 0) := nm_no (HLo.out h4)
      clear h4 hn b3 R3 d0 f0
      go_wp2
      exact ⟨rfl, .inl ⟨HE.out, ⟨T, u, rfl⟩, B3⟩⟩
  · have B3 : Below w.heap.size w w3 := B2.trans (b3.mono B2.size)
    obtain ⟨T, u, g0⟩ := hg.below B3 (by omega)
    rw [HDl.out] at hn
    have HE : Hid (nmE t p < 0) := nm_no (HNo.out hn)
    clear hn b3
    go_wp2
    exact ⟨rfl, .inl ⟨HE.out, ⟨T, u, rfl⟩, B3⟩⟩
end Go.Proofs.YtnkbjbbaoddfkaaGreatDoor.Pp
