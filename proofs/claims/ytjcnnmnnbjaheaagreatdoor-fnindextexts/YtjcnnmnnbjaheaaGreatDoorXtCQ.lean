/- The contract of the program's indexText. No statement is proved here. -/
import Derived.Test.YtjcnnmnnbjaheaaGreatDoorRows
import Derived.Test.YtjcnnmnnbjaheaaGreatDoorLemQ
import Derived.Test.YtjcnnmnnbjaheaaGreatDoorDTabQ
import Derived.Test.YtjcnnmnnbjaheaaGreatDoorHkTQ
import Derived.Test.YtjcnnmnnbjaheaaGreatDoorDigCQ
import Derived.Test.YtjcnnmnnbjaheaaGreatDoorWwCQ
import Derived.Test.YtjcnnmnnbjaheaaGreatDoorTrWQ
import Derived.Test.YtjcnnmnnbjaheaaGreatDoorJnCQ
import Derived.Test.YtjcnnmnnbjaheaaGreatDoorBldGQ
import Derived.Test.YtjcnnmnnbjaheaaGreatDoorBldHQ
import Derived.Test.YtjcnnmnnbjaheaaGreatDoorIxMQ
import Derived.Test.YtjcnnmnnbjaheaaGreatDoorIxIQ
import Derived.WalkKit
import Derived.ProofKit
import Derived.Below
import Derived.WalkSpells
import Derived.Deep.RegionWith
import Derived.Deep.RegionHeld
import Derived.Deep.QuietTactic
import Derived.BigQuiet
import Derived.Laws.Cover1
namespace Go.Proofs.YtjcnnmnnbjaheaaGreatDoor.En
open Go.ChangeShapes Go.WideShapes Go.ChangeAt Go.RowKit

theorem ss4 (w : World) (x y z u : ByteArray) (hx : x.size ≤ 1048576) (hy : y.size ≤ 1048576) (hz : z.size ≤ 1048576) (hu : u.size ≤ 1048576) : SS (w.alloc (.cells #[.string x, .string y, .string z, .string u] 9)) (some ⟨w.heap.size, 0, none⟩) [x, y, z, u] := by
  refine ⟨?_, ?_⟩
  · intro k hk
    match k, hk with
    | 0, _ => show x.size ≤ _; omega
    | 1, _ => show y.size ≤ _; omega
    | 2, _ => show z.size ≤ _; omega
    | 3, _ => show u.size ≤ _; omega
  · intro k hk
    refine ⟨w.heap.size, 0, rfl, by simp, ?_⟩
    match k, hk with
    | 0, _ => exact Rs.new w #[.string x, .string y, .string z, .string u] _ 0 _ rfl
    | 1, _ => exact Rs.new w #[.string x, .string y, .string z, .string u] _ 1 _ rfl
    | 2, _ => exact Rs.new w #[.string x, .string y, .string z, .string u] _ 2 _ rfl
    | 3, _ => exact Rs.new w #[.string x, .string y, .string z, .string u] _ 3 _ rfl
theorem ssTwo (w : World) (x y : ByteArray) (hx : x.size ≤ 1048576) (hy : y.size ≤ 1048576) : SS (w.alloc (.cells #[.string x, .string y] 9)) (some ⟨w.heap.size, 0, none⟩) [x, y] := by
  refine ⟨?_, ?_⟩
  · intro k hk
    match k, hk with
    | 0, _ => show x.size ≤ _; omega
    | 1, _ => show y.size ≤ _; omega
  · intro k hk
    refine ⟨w.heap.size, 0, rfl, by simp, ?_⟩
    match k, hk with
    | 0, _ => exact Rs.new w #[.string x, .string y] _ 0 _ rfl
    | 1, _ => exact Rs.new w #[.string x, .string y] _ 1 _ rfl
theorem _root_.Go.Proofs.YtjcnnmnnbjaheaaGreatDoor.Kb.cell' {B b k o : Nat} {w w' : World} {v : Value} (h : Kb B b w w') (hk : k < B) (hb : ¬ k = b) (hc : w.cell? ⟨k, o, none⟩ = some v) : w'.cell? ⟨k, o, none⟩ = some v := by
  unfold World.cell? at hc ⊢
  simp only [h.block k hk hb]
  exact hc
/-- A line of four words is written; of two words. -/
theorem words4 (B b : Nat) (l : List UInt8) (x y z u : ByteArray) (w : World) (hT : TG B b l w) (hB : B ≤ w.heap.size) (hx : x.size ≤ 100) (hy : y.size ≤ 100) (hz : z.size ≤ 100) (hu : u.size ≤ 100) (hl : l.length ≤ 1000000) :
    Calls Tryz.prog 52 #[.pointer (some ⟨b, 0, none⟩), .slice (some ⟨w.heap.size, 0, none⟩) 4 4] (w.alloc (.cells #[.string x, .string y, .string z, .string u] 9)) fun e w' => e = .returned (.tuple #[]) ∧ TG B b (l ++ wl [x, y, z, u]) w' ∧ Ky B b w w' := by
  have hW := writeWordsH B b w.heap.size 0 4 l [x, y, z, u] (w.alloc (.cells #[.string x, .string y, .string z, .string u] 9)) (hT.below (allocBelow _ _)) (by have := (allocBelow w (.cells #[.string x, .string y, .string z, .string u] 9)).size; omega) (ss4 w x y z u (by omega) (by omega) (by omega) (by omega)) (by simp) (by simp) (by simp) (by simp [tot]; omega) (by omega)
  refine hW.mono ?_
  rintro e w' ⟨rfl, T, K⟩
  exact ⟨rfl, T, (Ky.of (allocBelow w _) hB).trans K⟩
theorem wordsTwo (B b : Nat) (l : List UInt8) (x y : ByteArray) (w : World) (hT : TG B b l w) (hB : B ≤ w.heap.size) (hx : x.size ≤ 100) (hy : y.size ≤ 100) (hl : l.length ≤ 1000000) :
    Calls Tryz.prog 52 #[.pointer (some ⟨b, 0, none⟩), .slice (some ⟨w.heap.size, 0, none⟩) 2 2] (w.alloc (.cells #[.string x, .string y] 9)) fun e w' => e = .returned (.tuple #[]) ∧ TG B b (l ++ wl [x, y]) w' ∧ Ky B b w w' := by
  have hW := writeWordsH B b w.heap.size 0 2 l [x, y] (w.alloc (.cells #[.string x, .string y] 9)) (hT.below (allocBelow _ _)) (by have := (allocBelow w (.cells #[.string x, .string y] 9)).size; omega) (ssTwo w x y (by omega) (by omega)) (by simp) (by simp) (by simp) (by simp [tot]; omega) (by omega)
  refine hW.mono ?_
  rintro e w' ⟨rfl, T, K⟩
  exact ⟨rfl, T, (Ky.of (allocBelow w _) hB).trans K⟩

set_option maxRecDepth 20000 in
set_option maxHeartbeats 2000000 in
theorem implIndexText (a : Option Addr) (c : Nat) (l : List Ob) (w : World) (h : OB w.heap.size w a l) (hf : ixf l = 0) (hM : Te.MwG w) (hMB : 0 < w.heap.size) (hTa : TaG w) (hTB : 1 < w.heap.size) :
    Calls Tryz.prog 24 #[.slice a l.length c] w fun e w' => e = .returned (.string (xB l)) ∧ Below w.heap.size w w' := by
  obtain ⟨hl2, hA⟩ := ixf_zero hf
  have G1 : TG (w.heap.size + 1) w.heap.size [] (w.alloc (.cells #[.pointer none, .slice none 0 0] 74)) :=   .inl ⟨by omega, .slice none 0 0, by show (w.heap.push _)[w.heap.size]? = _; simp, World.ownsRowF_nil _ _ _ _⟩
  obtain ⟨W0, hW0⟩ : ∃ W, w.alloc (.cells #[.pointer none, .slice none 0 0] 74) = W := ⟨_, rfl⟩
  have b0 : Below w.heap.size w W0 := by rw [← hW0]; exact allocBelow _ _
  have z0 : W0.heap.size = w.heap.size + 1 := by rw [← hW0]; simp
  rw [hW0] at G1
  go_enter Tryz.func24, Tryz.ntmps24
  go_wp2_with fail
  go_loopw [5, 8] (fun _p i wr => ∃ k : Nat, k ≤ l.length ∧ i = .int .i64 k ∧ TG (w.heap.size + 1) w.heap.size (xL (l.take k)) wr ∧ Below w.heap.size w wr) (fun _ i _ => l.length - (intOf i).toNat)
  case atStart => exact ⟨0, Nat.zero_le _, rfl, G1, b0⟩
  case round =>
    clear G1 b0 z0
    obtain ⟨k, hk, rfl, Tk, hbel⟩ := hrel
    have hsz := hbel.size
    have hlen := xL_len k hk (fun j hj => hA j (by omega))
    have hbl : w.heap.size < wr.heap.size := by
      rcases Tk with ⟨_, v, hh, _⟩ | ⟨_, v, hh, _⟩ <;>
      · rcases Nat.lt_or_ge w.heap.size wr.heap.size with h' | h'
        · exact h'
        · simp [Array.getElem?_eq_none h'] at hh
    by_cases hlt : k < l.length
    · have qk : (k : Int) < (l.length : Int) := by omega
      have h3 := h.below hbel
      obtain ⟨g, off, e, hg, d0, d1, d2, d3⟩ := h3 k hlt
      subst e
      have htk := xL_take l k hlt
      have hz := (eiF_zero (hA k hlt)).1
      obtain ⟨C, hCe⟩ : ∃ C, l.getD k onil = C := ⟨_, rfl⟩
      obtain ⟨x0, x1, x2, x3⟩ := C
      rw [hCe] at d0 d1 d2 d3 hz htk
      simp only [] at d0 d1 d2 d3
      obtain ⟨n0, n1, n2, n3⟩ := ei_zero hz
      simp only [] at n0 n1 n2 n3
      obtain ⟨q0, q1⟩ := inB03 n1
      have y0 := pf_size n0
      have y3 := Te.isOf_size n3
      have y2 := Te.wd_size x2
      have y1 := it_size q0 (by omega)
      have hMk := hM.below hbel hMB
      have hTk := hTa.below hbel hTB
      have HG : ∀ w5 : World, TG (w.heap.size + 1) w.heap.size (xL (l.take k) ++ wl [itB x1, Te.wd x2, x3, x0]) w5 → Hid (TG (w.heap.size + 1) w.heap.size (xL (l.take (k + 1))) w5) := fun w5 h5 => by
        show TG _ _ _ _
        rw [htk]
        exact h5
      obtain ⟨W, hW⟩ : ∃ W, wr.alloc (.cells #[.string x0, .int .i64 x1, .int .i64 x2, .string x3] 51) = W := ⟨_, rfl⟩
      have bW : Below wr.heap.size wr W := by rw [← hW]; exact allocBelow _ _
      have oW : Rf W wr.heap.size [.string x0, .int .i64 x1, .int .i64 x2, .string x3] := by rw [← hW]; exact Rf.new _ _ _
      have zW : wr.heap.size < W.heap.size := by rw [← hW]; simp
      have nW : NB W wr.heap.size := by
        rw [← hW]
        intro cs fz e
        have e2 : (wr.alloc (.cells #[.string x0, .int .i64 x1, .int .i64 x2, .string x3] 51)).heap[wr.heap.size]? = some (.cells #[.string x0, .int .i64 x1, .int .i64 x2, .string x3] 51 (0, 0)) := by
          show (wr.heap.push _)[wr.heap.size]? = _
          simp
        rw [e2] at e
        simp at e
      have TW := Tk.below bW
      have TAW : TaG W := hTk.below (bW.mono (Nat.le_of_lt hbl)) hTB
      have MW : Te.MwG W := hMk.below (bW.mono (Nat.le_of_lt hbl)) hMB
      have BW : Below w.heap.size w W := below_step hbel hsz bW
      have e0 := oW.at_ 0 _ rfl
      have e1 := oW.at_ 1 _ rfl
      have e2 := oW.at_ 2 _ rfl
      have e3 := oW.at_ 3 _ rfl
      have hFI := fun w' (hb : Below W.heap.size W w') => formatInt x1 q0 (by omega) w' (TAW.below hb (by omega))
      clear hCe htk hz n0 n1 n3 h3 oW Tk hMk hTk
      rcases inB12 n2 with rfl | rfl
      · have m0 : W.cell? ⟨0, 0, none⟩ = some (.string (Te.wd 1)) := MW.1
        clear MW
        go_wp2_with fail
        go_region_held (fun w' => w'.cell? ⟨wr.heap.size, 0, none⟩ = some (.string x0) ∧ w'.cell? ⟨wr.heap.size, 1, none⟩ = some (.int .i64 x1) ∧ w'.cell? ⟨wr.heap.size, 2, none⟩ = some (.int .i64 1) ∧ w'.cell? ⟨wr.heap.size, 3, none⟩ = some (.string x3) ∧ w'.cell? ⟨0, 0, none⟩ = some (.string (Te.wd 1)))
          (first | with_reducible exact ⟨e0, e1, e2, e3, m0⟩ | exact ⟨e0, e1, e2, e3, m0⟩ | with_reducible exact ⟨e0b, e1b, e2b, e3b, m0b⟩ | exact ⟨e0A _, e1A _, e2A _, e3A _, m0A _⟩ | with_reducible exact ⟨e0a, e1a, e2a, e3a, m0a⟩ | exact ⟨e0a, e1a, e2a, e3a, m0a⟩)
          ((first
            | (go_at_call 53; refine (hFI _ (by first | exact Below.refl _ _ | exact below_drewN' (Below.refl _ _) _)).mono ?_; rintro e wa ⟨rfl, ba⟩; have fa : Below W.heap.size W wa := (below_drewN' (Below.refl _ _) _).trans ba; have e0a := (fa.cell (p := ⟨wr.heap.size, 0, none⟩) zW).trans e0; have e1a := (fa.cell (p := ⟨wr.heap.size, 1, none⟩) zW).trans e1; have e2a := (fa.cell (p := ⟨wr.heap.size, 2, none⟩) zW).trans e2; have e3a := (fa.cell (p := ⟨wr.heap.size, 3, none⟩) zW).trans e3; have m0a := (fa.cell (p := ⟨0, 0, none⟩) (by show 0 < _; omega)).trans m0; have Ta := TW.below fa; have za := fa.size; have na : NB wa wr.heap.size := nW.eq (fa.block _ zW); have e0A := fun o => ((allocBelow wa o).cell (p := ⟨wr.heap.size, 0, none⟩) (by show wr.heap.size < _; omega)).trans e0a; have e1A := fun o => ((allocBelow wa o).cell (p := ⟨wr.heap.size, 1, none⟩) (by show wr.heap.size < _; omega)).trans e1a; have e2A := fun o => ((allocBelow wa o).cell (p := ⟨wr.heap.size, 2, none⟩) (by show wr.heap.size < _; omega)).trans e2a; have e3A := fun o => ((allocBelow wa o).cell (p := ⟨wr.heap.size, 3, none⟩) (by show wr.heap.size < _; omega)).trans e3a; have m0A := fun o => ((allocBelow wa o).cell (p := ⟨0, 0, none⟩) (by show 0 < _; omega)).trans m0a)
            | (go_at_call 52; refine (words4 (w.heap.size + 1) w.heap.size _ (itB x1) (Te.wd 1) x3 x0 _ Ta (by first | (show _ ≤ wa.heap.size; omega)) (by omega) (by omega) (by omega) (by omega) (by omega)).mono ?_; rintro e wb ⟨rfl, Tb, kb⟩; have e0b := kb.cell (k := wr.heap.size) (o := 0) (by show _ < wa.heap.size; omega) (by omega) na e0a; have e1b := kb.cell (k := wr.heap.size) (o := 1) (by show _ < wa.heap.size; omega) (by omega) na e1a; have e2b := kb.cell (k := wr.heap.size) (o := 2) (by show _ < wa.heap.size; omega) (by omega) na e2a; have e3b := kb.cell (k := wr.heap.size) (o := 3) (by show _ < wa.heap.size; omega) (by omega) na e3a; have m0b := kb.kb.cell' (o := 0) (by show 0 < _; omega) (by show ¬ 0 = _; omega) m0a)))
        all_goals
          have HT := (HG wb Tb).out
          have Bb : Below w.heap.size w wb := BW.trans ((fa.mono (by omega)).trans (kb.kb.below (by omega)))
          clear Tb kb e0 e1 e2 e3 e0a e1a e2a e3a e0b e1b e2b e3b m0 m0a m0b fa Ta na e0A e1A e2A e3A m0A
          go_wp2
          go_roundw
          case rel => exact ⟨k + 1, by omega, by go_num, HT, Bb⟩
          case measure => first | (simp [intOf]; omega) | simp [intOf]
      · have m0 : W.cell? ⟨0, 1, none⟩ = some (.string (Te.wd 2)) := MW.2.1
        clear MW
        go_wp2_with fail
        go_region_held (fun w' => w'.cell? ⟨wr.heap.size, 0, none⟩ = some (.string x0) ∧ w'.cell? ⟨wr.heap.size, 1, none⟩ = some (.int .i64 x1) ∧ w'.cell? ⟨wr.heap.size, 2, none⟩ = some (.int .i64 2) ∧ w'.cell? ⟨wr.heap.size, 3, none⟩ = some (.string x3) ∧ w'.cell? ⟨0, 1, none⟩ = some (.string (Te.wd 2)))
          (first | with_reducible exact ⟨e0, e1, e2, e3, m0⟩ | exact ⟨e0, e1, e2, e3, m0⟩ | with_reducible exact ⟨e0b, e1b, e2b, e3b, m0b⟩ | exact ⟨e0A _, e1A _, e2A _, e3A _, m0A _⟩ | with_reducible exact ⟨e0a, e1a, e2a, e3a, m0a⟩ | exact ⟨e0a, e1a, e2a, e3a, m0a⟩)
          ((first
            | (go_at_call 53; refine (hFI _ (by first | exact Below.refl _ _ | exact below_drewN' (Below.refl _ _) _)).mono ?_; rintro e wa ⟨rfl, ba⟩; have fa : Below W.heap.size W wa := (below_drewN' (Below.refl _ _) _).trans ba; have e0a := (fa.cell (p := ⟨wr.heap.size, 0, none⟩) zW).trans e0; have e1a := (fa.cell (p := ⟨wr.heap.size, 1, none⟩) zW).trans e1; have e2a := (fa.cell (p := ⟨wr.heap.size, 2, none⟩) zW).trans e2; have e3a := (fa.cell (p := ⟨wr.heap.size, 3, none⟩) zW).trans e3; have m0a := (fa.cell (p := ⟨0, 1, none⟩) (by show 0 < _; omega)).trans m0; have Ta := TW.below fa; have za := fa.size; have na : NB wa wr.heap.size := nW.eq (fa.block _ zW); have e0A := fun o => ((allocBelow wa o).cell (p := ⟨wr.heap.size, 0, none⟩) (by show wr.heap.size < _; omega)).trans e0a; have e1A := fun o => ((allocBelow wa o).cell (p := ⟨wr.heap.size, 1, none⟩) (by show wr.heap.size < _; omega)).trans e1a; have e2A := fun o => ((allocBelow wa o).cell (p := ⟨wr.heap.size, 2, none⟩) (by show wr.heap.size < _; omega)).trans e2a; have e3A := fun o => ((allocBelow wa o).cell (p := ⟨wr.heap.size, 3, none⟩) (by show wr.heap.size < _; omega)).trans e3a; have m0A := fun o => ((allocBelow wa o).cell (p := ⟨0, 1, none⟩) (by show 0 < _; omega)).trans m0a)
            | (go_at_call 52; refine (words4 (w.heap.size + 1) w.heap.size _ (itB x1) (Te.wd 2) x3 x0 _ Ta (by first | (show _ ≤ wa.heap.size; omega)) (by omega) (by omega) (by omega) (by omega) (by omega)).mono ?_; rintro e wb ⟨rfl, Tb, kb⟩; have e0b := kb.cell (k := wr.heap.size) (o := 0) (by show _ < wa.heap.size; omega) (by omega) na e0a; have e1b := kb.cell (k := wr.heap.size) (o := 1) (by show _ < wa.heap.size; omega) (by omega) na e1a; have e2b := kb.cell (k := wr.heap.size) (o := 2) (by show _ < wa.heap.size; omega) (by omega) na e2a; have e3b := kb.cell (k := wr.heap.size) (o := 3) (by show _ < wa.heap.size; omega) (by omega) na e3a; have m0b := kb.kb.cell' (o := 1) (by show 0 < _; omega) (by show ¬ 0 = _; omega) m0a)))
        all_goals
          have HT := (HG wb Tb).out
          have Bb : Below w.heap.size w wb := BW.trans ((fa.mono (by omega)).trans (kb.kb.below (by omega)))
          clear Tb kb e0 e1 e2 e3 e0a e1a e2a e3a e0b e1b e2b e3b m0 m0a m0b fa Ta na e0A e1A e2A e3A m0A
          go_wp2
          go_roundw
          case rel => exact ⟨k + 1, by omega, by go_num, HT, Bb⟩
          case measure => first | (simp [intOf]; omega) | simp [intOf]
    · have qk : ¬ (k : Int) < (l.length : Int) := by omega
      have ek : l.take k = l := List.take_of_length_le (by omega)
      rw [ek] at Tk hlen
      have HX : Hid (xA l = xL l ++ wl [wSum, itB (dig (xL l))]) := rfl
      have HXB : Hid (xB l = ⟨(xA l).toArray⟩) := rfl
      have T1 := Tk.toB
      obtain ⟨X, hX⟩ : ∃ X, xL l = X := ⟨_, rfl⟩
      rw [hX] at T1 hlen HX
      obtain ⟨g0, g1⟩ := dig_bd X
      have yi := it_size (n := dig X) g0 (by omega)
      have hS1 := bString w.heap.size w.heap.size X wr T1 hsz
      have hDg : ∀ w', Calls Tryz.prog 54 #[.string ⟨X.toArray⟩] w' fun e w2 => e = .returned (.int .i64 (dig X)) ∧ w2 = w' := fun w' => by
        have := implDigestOf ⟨X.toArray⟩ w' (by unfold maxLen; show X.toArray.size ≤ _; simp; omega)
        simpa using this
      clear ek Tk hX h hA hf hM T1
      go_wp2_with fail
      refine hS1.mono ?_; rintro e w1 ⟨rfl, T1, b1⟩
      have B1 : Below w.heap.size w w1 := hbel.trans b1
      have hFI := formatInt (dig X) g0 (by omega) w1 (hTa.below B1 hTB)
      have z1 := B1.size
      clear hS1 b1
      go_wp2_with fail
      refine (hDg _).mono ?_; rintro e w2 ⟨rfl, rfl⟩
      go_wp2_with fail
      refine hFI.mono ?_; rintro e w3 ⟨rfl, b3⟩
      have T3 : TB w.heap.size w.heap.size X w3 := TB.below T1 b3
      have B3 : Below w.heap.size w w3 := below_step B1 z1 b3
      have z3 := B3.size
      have hWW := writeWords w.heap.size w.heap.size w3.heap.size 0 2 X [wSum, itB (dig X)] (w3.alloc (.cells #[.string wSum, .string (itB (dig X))] 9)) (T3.below (allocBelow _ _)) (by have := (allocBelow w3 (.cells #[.string wSum, .string (itB (dig X))] 9)).size; omega) (ssTwo w3 wSum (itB (dig X)) (by decide) (by omega)) (by simp) (by simp) (by simp) (by have z : wSum.size = 3 := rfl; simp [tot]; omega) (by omega)
      clear hFI hDg b3 T1
      go_wp2_with fail
      refine hWW.mono ?_; rintro e w4 ⟨rfl, T4, b4⟩
      have B4 : Below w.heap.size w w4 := B3.trans (((allocBelow w3 _).mono z3).trans b4)
      have hS4 := bString w.heap.size w.heap.size _ w4 T4 B4.size
      rw [← HX.out, ← HXB.out] at hS4
      clear hWW b4 T4
      go_wp2_with fail
      refine hS4.mono ?_; rintro e w5 ⟨rfl, _, b5⟩
      have B5 := B4.trans b5
      clear hS4
      go_wp2
      go_ret
      exact ⟨rfl, B5⟩
end Go.Proofs.YtjcnnmnnbjaheaaGreatDoor.En
