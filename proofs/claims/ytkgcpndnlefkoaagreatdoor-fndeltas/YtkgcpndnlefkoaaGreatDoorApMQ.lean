/- Files that rise by path are told by what is at each path. No statement is proved here. -/
import Derived.Test.YtkgcpndnlefkoaaGreatDoorRows
import Derived.Test.YtkgcpndnlefkoaaGreatDoorLemQ
import Derived.Test.YtkgcpndnlefkoaaGreatDoorDTabQ
import Derived.Test.YtkgcpndnlefkoaaGreatDoorInQ
import Derived.Test.YtkgcpndnlefkoaaGreatDoorFfCQ
import Derived.Test.YtkgcpndnlefkoaaGreatDoorDfMQ
import Derived.Test.YtkgcpndnlefkoaaGreatDoorDfBQ
import Derived.Test.YtkgcpndnlefkoaaGreatDoorDfPQ
import Derived.WalkKit
import Derived.ProofKit
import Derived.Below
import Derived.Test.YtkgcpndnlefkoaaGreatDoorDlLQ
namespace Go.Proofs.YtkgcpndnlefkoaaGreatDoor.Fl
open Go.ChangeShapes Go.WideShapes Go.ChangeAt Go.RowKit

theorem rise_pw {l : List Ob} : Rise l ↔ l.Pairwise (fun a b => plt a.1 b.1) := by
  rw [List.pairwise_iff_getElem]
  constructor
  · intro h i j hi hj hij
    have := h i j hij hj
    simpa [List.getD, hi, hj] using this
  · intro h i j hij hj
    have := h i j (by omega) hj hij
    simpa [List.getD, hj, show i < l.length from by omega] using this
theorem fa_of {l : List Ob} (hr : Rise l) {f : Ob} (hf : f ∈ l) : fa l f.1 = f := by
  unfold fa
  cases h : l.find? (fun g => decide (g.1 = f.1)) with
  | none =>
    have := List.find?_eq_none.1 h f hf
    simp at this
  | some g =>
    have hg : g ∈ l := List.mem_of_find?_eq_some h
    have he : g.1 = f.1 := by simpa using List.find?_some h
    show g = f
    obtain ⟨i, hi, rfl⟩ := List.getElem_of_mem hg
    obtain ⟨j, hj, rfl⟩ := List.getElem_of_mem hf
    have hp := List.pairwise_iff_getElem.1 (rise_pw.1 hr)
    rcases Nat.lt_trichotomy i j with q | q | q
    · have := hp i j hi hj q
      rw [he] at this
      exact absurd this (plt_irr _)
    · subst q; rfl
    · have := hp j i hj hi q
      rw [he] at this
      exact absurd this (plt_irr _)
theorem fa_in {l : List Ob} {p : ByteArray} (h : ¬ fa l p = onil) : fa l p ∈ l ∧ (fa l p).1 = p := by
  unfold fa at h ⊢
  cases e : l.find? (fun g => decide (g.1 = p)) with
  | none => rw [e] at h; exact absurd rfl h
  | some g => exact ⟨List.mem_of_find?_eq_some e, by simpa using List.find?_some e⟩
theorem rise_map {l : List Ob} (hr : Rise l) : (l.map (·.1)).map (fa l) = l := by
  rw [List.map_map]
  have : l.map (fa l ∘ fun x => x.1) = l.map id := List.map_congr_left fun f hf => fa_of hr hf
  rw [this, List.map_id]
theorem rise_one {l m : List Ob} (hl : Rise l) (hm : Rise m) (nl : ∀ f ∈ l, ¬ f = onil) (nm : ∀ f ∈ m, ¬ f = onil) (h : ∀ p, fa l p = fa m p) : l = m := by
  have hp : l.map (·.1) = m.map (·.1) := by
    refine pw_one plt_irr plt_tr _ _ (List.pairwise_map.2 (rise_pw.1 hl)) (List.pairwise_map.2 (rise_pw.1 hm)) fun p => ?_
    constructor
    · intro hx
      obtain ⟨f, hf, rfl⟩ := List.mem_map.1 hx
      have e := fa_of hl hf
      rw [h] at e
      have k := fa_in (l := m) (p := f.1) (by rw [e]; exact nl f hf)
      exact List.mem_map.2 ⟨_, k.1, k.2⟩
    · intro hx
      obtain ⟨f, hf, rfl⟩ := List.mem_map.1 hx
      have e := fa_of hm hf
      rw [← h] at e
      have k := fa_in (l := l) (p := f.1) (by rw [e]; exact nm f hf)
      exact List.mem_map.2 ⟨_, k.1, k.2⟩
  have hf : fa l = fa m := funext h
  rw [← rise_map hl, ← rise_map hm, hp, hf]
end Go.Proofs.YtkgcpndnlefkoaaGreatDoor.Fl
/- What one delta makes of files. No statement is proved here. -/
namespace Go.Proofs.YtkgcpndnlefkoaaGreatDoor.Fl
open Go.ChangeShapes Go.WideShapes Go.ChangeAt Go.RowKit

/-- Files behind a delta, not sorted. -/
def put1 (l : List Ob) (d : ByteArray × Ob × Ob) : List Ob := l.filter (fun f => decide (¬ f.1 = d.1)) ++ (if d.2.2 = onil then [] else [d.2.2])
theorem fa_put1 {l : List Ob} {d : ByteArray × Ob × Ob} (hd : ¬ d.2.2 = onil → d.2.2.1 = d.1) (p : ByteArray) : fa (put1 l d) p = if p = d.1 then d.2.2 else fa l p := by
  unfold fa put1
  rw [List.find?_append, List.find?_filter]
  by_cases hp : p = d.1
  · rw [if_pos hp]
    have e1 : l.find? (fun f => decide (decide (¬ f.1 = d.1) = true ∧ decide (f.1 = p) = true)) = none := by
      rw [List.find?_eq_none]
      intro f _
      by_cases q : f.1 = d.1
      · simp [q]
      · simp [q, hp]
    rw [e1]
    by_cases hn : d.2.2 = onil
    · rw [if_pos hn]; exact hn.symm
    · rw [if_neg hn]
      have : decide (d.2.2.1 = p) = true := by rw [hd hn, hp]; simp
      simp [List.find?, this]
  · rw [if_neg hp]
    have e1 : l.find? (fun f => decide (decide (¬ f.1 = d.1) = true ∧ decide (f.1 = p) = true)) = l.find? (fun f => decide (f.1 = p)) := by
      congr 1
      funext f
      by_cases q : f.1 = p
      · simp [q, hp]
      · simp [q]
    rw [e1]
    have e2 : (if d.2.2 = onil then ([] : List Ob) else [d.2.2]).find? (fun f => decide (f.1 = p)) = none := by
      split
      · rfl
      · rename_i hn
        have : decide (d.2.2.1 = p) = false := by rw [hd hn]; simpa using fun e => hp e.symm
        simp [List.find?, this]
    rw [e2]
    simp
/-- Paths that are all different. -/
def Dif (l : List Ob) : Prop := (l.map (·.1)).Nodup
theorem rise_dif {l : List Ob} (h : Rise l) : Dif l := (List.pairwise_map.2 (rise_pw.1 h)).imp (fun {a b} q e => by subst e; exact plt_irr _ q)
theorem put1_dif {l : List Ob} {d : ByteArray × Ob × Ob} (h : Dif l) (hd : ¬ d.2.2 = onil → d.2.2.1 = d.1) : Dif (put1 l d) := by
  unfold Dif put1
  rw [List.map_append]
  refine List.nodup_append.2 ⟨List.Nodup.sublist ((List.filter_sublist).map _) h, ?_, ?_⟩
  · split <;> simp
  · intro x hx y hy e
    obtain ⟨f, hf, rfl⟩ := List.mem_map.1 hx
    have h1 := (List.mem_filter.1 hf).2
    split at hy
    · simp at hy
    · rename_i hn
      simp at hy
      rw [hd hn] at hy
      rw [e, hy] at h1
      simp at h1
theorem sd_rise {l : List Ob} (h : Sd l) (hd : Dif l) : Rise l := by
  intro i j hij hj
  have h1 := List.pairwise_iff_getElem.1 h i j (by omega) hj hij
  have h2 := List.pairwise_iff_getElem.1 hd i j (by rw [List.length_map]; omega) (by rw [List.length_map]; exact hj) hij
  have ei : (l.getD i onil) = l[i]'(by omega) := by simp [List.getD, show i < l.length from by omega]
  have ej : (l.getD j onil) = l[j] := by simp [List.getD, hj]
  rw [ei, ej]
  rw [List.getElem_map, List.getElem_map] at h2
  rcases plt_tri (l[i]'(by omega)).1 l[j].1 with q | q | q
  · exact q
  · exact absurd q h2
  · exact absurd q h1
theorem fa_dif {l : List Ob} (hr : Dif l) {f : Ob} (hf : f ∈ l) : fa l f.1 = f := by
  unfold fa
  cases h : l.find? (fun g => decide (g.1 = f.1)) with
  | none =>
    have := List.find?_eq_none.1 h f hf
    simp at this
  | some g =>
    have hg : g ∈ l := List.mem_of_find?_eq_some h
    have he : g.1 = f.1 := by simpa using List.find?_some h
    show g = f
    obtain ⟨i, hi, rfl⟩ := List.getElem_of_mem hg
    obtain ⟨j, hj, rfl⟩ := List.getElem_of_mem hf
    have hp := List.pairwise_iff_getElem.1 hr
    rcases Nat.lt_trichotomy i j with q | q | q
    · have := hp i j (by rw [List.length_map]; exact hi) (by rw [List.length_map]; exact hj) q
      rw [List.getElem_map, List.getElem_map] at this
      exact absurd he this
    · subst q; rfl
    · have := hp j i (by rw [List.length_map]; exact hj) (by rw [List.length_map]; exact hi) q
      rw [List.getElem_map, List.getElem_map] at this
      exact absurd he.symm this
theorem fa_perm {l m : List Ob} (hp : l.Perm m) (hd : Dif l) (p : ByteArray) : fa l p = fa m p := by
  have hm : Dif m := (hp.map _).nodup_iff.1 hd
  by_cases h : fa l p = onil
  · by_cases k : fa m p = onil
    · rw [h, k]
    · obtain ⟨k1, k2⟩ := fa_in k
      have := fa_dif hd (hp.mem_iff.2 k1)
      rw [k2] at this
      exact this
  · obtain ⟨k1, k2⟩ := fa_in h
    have := fa_dif hm (hp.mem_iff.1 k1)
    rw [k2] at this
    exact this.symm
end Go.Proofs.YtkgcpndnlefkoaaGreatDoor.Fl
/- What deltas make of files that rise, merged in one walk. No statement is proved here. -/
namespace Go.Proofs.YtkgcpndnlefkoaaGreatDoor.Fl
open Go.ChangeShapes Go.WideShapes Go.ChangeAt Go.RowKit

theorem fa_app (a b : List Ob) (p : ByteArray) : fa (a ++ b) p = if (∃ f ∈ a, f.1 = p) then fa a p else fa b p := by
  unfold fa
  rw [List.find?_append]
  cases e : a.find? (fun f => decide (f.1 = p)) with
  | none =>
    rw [if_neg]
    · simp
    · rintro ⟨f, hf, h⟩
      have := List.find?_eq_none.1 e f hf
      simp [h] at this
  | some g =>
    rw [if_pos ⟨g, List.mem_of_find?_eq_some e, by simpa using List.find?_some e⟩]
    simp
theorem fa_no {l : List Ob} {p : ByteArray} (h : ∀ f ∈ l, ¬ f.1 = p) : fa l p = onil := by
  unfold fa
  rw [List.find?_eq_none.2 (fun f hf => by simpa using h f hf)]
  rfl
/-- What stands ahead of a path, what does not. -/
def ahd (l : List Ob) (p : ByteArray) : List Ob := l.takeWhile (fun f => Op.bytesLess f.1.toList p.toList)
def bhd (l : List Ob) (p : ByteArray) : List Ob := l.dropWhile (fun f => Op.bytesLess f.1.toList p.toList)
theorem ahd_bhd (l : List Ob) (p : ByteArray) : ahd l p ++ bhd l p = l := List.takeWhile_append_dropWhile
theorem tw_all {α : Type} {q : α → Bool} : ∀ (l : List α), ∀ x ∈ l.takeWhile q, q x = true
  | [], x, h => by cases h
  | a :: t, x, h => by
    rw [List.takeWhile_cons] at h
    split at h
    · rename_i ha
      rcases List.mem_cons.1 h with rfl | h
      · exact ha
      · exact tw_all t x h
    · cases h
theorem ahd_lt {l : List Ob} {p : ByteArray} : ∀ f ∈ ahd l p, plt f.1 p := fun f hf => plt_less.1 (tw_all (q := fun f : Ob => Op.bytesLess f.1.toList p.toList) l f hf)
theorem bhd_in {l : List Ob} {p : ByteArray} : ∀ f ∈ bhd l p, f ∈ l := fun _ hf => (List.dropWhile_sublist _).subset hf
theorem ahd_in {l : List Ob} {p : ByteArray} : ∀ f ∈ ahd l p, f ∈ l := fun _ hf => (List.takeWhile_sublist _).subset hf
theorem rise_bhd {l : List Ob} (h : Rise l) (p : ByteArray) : Rise (bhd l p) := rise_pw.2 ((rise_pw.1 h).sublist (List.dropWhile_sublist _))
theorem bhd_ge {l : List Ob} (h : Rise l) {p : ByteArray} : ∀ f ∈ bhd l p, ¬ plt f.1 p := by
  have hr := rise_pw.1 (rise_bhd h p)
  unfold bhd at hr ⊢
  cases e : l.dropWhile (fun f => Op.bytesLess f.1.toList p.toList) with
  | nil => intro f hf; cases hf
  | cons g t =>
    rw [e] at hr
    have hg : ¬ plt g.1 p := by
      have := List.head?_dropWhile_not (fun f : Ob => Op.bytesLess f.1.toList p.toList) l
      rw [e] at this
      simp only [List.head?_cons] at this
      exact plt_no.1 (by simpa using this)
    intro f hf
    rcases List.mem_cons.1 hf with rfl | hf
    · exact hg
    · exact fun q => hg (plt_tr _ _ _ ((List.pairwise_cons.1 hr).1 f hf) q)
/-- The walk's answer. -/
def rst (l : List Ob) (d : ByteArray × Ob × Ob) : List Ob := if d.2.1 = onil then bhd l d.1 else (bhd l d.1).drop 1
def nw (d : ByteArray × Ob × Ob) : List Ob := if d.2.2 = onil then [] else [d.2.2]
def fb : List Ob → List (ByteArray × Ob × Ob) → List Ob
  | l, [] => l
  | l, d :: ds => ahd l d.1 ++ (nw d ++ fb (rst l d) ds)
theorem rst_gt {l : List Ob} (h : Rise l) (nl : ∀ f ∈ l, ¬ f = onil) {d : ByteArray × Ob × Ob} (hd : fa l d.1 = d.2.1) : ∀ f ∈ rst l d, plt d.1 f.1 := by
  have hr := rise_pw.1 (rise_bhd h d.1)
  have hge := bhd_ge h (p := d.1)
  have hf : fa l d.1 = fa (bhd l d.1) d.1 := by
    have := fa_app (ahd l d.1) (bhd l d.1) d.1
    rw [ahd_bhd, if_neg (by rintro ⟨f, hf, e⟩; have := ahd_lt f hf; rw [e] at this; exact plt_irr _ this)] at this
    exact this
  rw [hd] at hf
  unfold rst
  by_cases ho : d.2.1 = onil
  · rw [if_pos ho]
    intro f hf1
    rcases plt_tri d.1 f.1 with q | q | q
    · exact q
    · exfalso
      have k := fa_of (rise_bhd h d.1) hf1
      rw [← q, ← hf, ho] at k
      exact nl f (bhd_in f hf1) k.symm
    · exact absurd q (hge f hf1)
  · rw [if_neg ho]
    have hi := fa_in (l := bhd l d.1) (p := d.1) (by rw [← hf]; exact ho)
    cases e : bhd l d.1 with
    | nil => rw [e] at hi; exact absurd hi.1 (by simp)
    | cons g t =>
      rw [e] at hi hr hge
      intro f hf1
      have hf2 : f ∈ t := hf1
      have hgf := (List.pairwise_cons.1 hr).1 f hf2
      rcases plt_tri d.1 g.1 with q | q | q
      · exact plt_tr _ _ _ q hgf
      · rw [q]; exact hgf
      · exact absurd q (hge g (by simp))
theorem rst_in {l : List Ob} {d : ByteArray × Ob × Ob} : ∀ f ∈ rst l d, f ∈ l := fun f hf => by
  unfold rst at hf
  split at hf
  · exact bhd_in f hf
  · exact bhd_in f (List.mem_of_mem_drop hf)
theorem rise_rst {l : List Ob} (h : Rise l) (d : ByteArray × Ob × Ob) : Rise (rst l d) := by
  unfold rst
  split
  · exact rise_bhd h _
  · exact rise_pw.2 ((rise_pw.1 (rise_bhd h _)).sublist (List.drop_sublist _ _))
/-- What files hold at a path other than the delta's. -/
theorem fa_rst {l : List Ob} (h : Rise l) (_ : ∀ f ∈ l, ¬ f = onil) {d : ByteArray × Ob × Ob} (hd : fa l d.1 = d.2.1) {p : ByteArray} (hp : plt d.1 p) : fa (rst l d) p = fa l p := by
  have h1 : fa l p = fa (bhd l d.1) p := by
    have := fa_app (ahd l d.1) (bhd l d.1) p
    rw [ahd_bhd, if_neg (by rintro ⟨f, hf, e⟩; have := ahd_lt f hf; rw [e] at this; exact plt_as hp this)] at this
    exact this
  rw [h1]
  unfold rst
  by_cases ho : d.2.1 = onil
  · rw [if_pos ho]
  · rw [if_neg ho]
    have hf : fa l d.1 = fa (bhd l d.1) d.1 := by
      have := fa_app (ahd l d.1) (bhd l d.1) d.1
      rw [ahd_bhd, if_neg (by rintro ⟨f, hf, e⟩; have := ahd_lt f hf; rw [e] at this; exact plt_irr _ this)] at this
      exact this
    rw [hd] at hf
    have hi := fa_in (l := bhd l d.1) (p := d.1) (by rw [← hf]; exact ho)
    have hge := bhd_ge h (p := d.1)
    have hr := rise_pw.1 (rise_bhd h d.1)
    cases e : bhd l d.1 with
    | nil => rw [e] at hi; exact absurd hi.1 (by simp)
    | cons g t =>
      have hg : g.1 = d.1 := by
        rw [e] at hi hr hge
        rcases List.mem_cons.1 hi.1 with q | q
        · rw [← q]; exact hi.2
        · have k := (List.pairwise_cons.1 hr).1 _ q
          rw [hi.2] at k
          exact absurd k (hge g (by simp))
      show fa t p = fa ([g] ++ t) p
      rw [fa_app, if_neg]
      rintro ⟨f, hf, e⟩
      rw [List.mem_singleton.1 hf, hg] at e
      rw [e] at hp
      exact plt_irr _ hp
theorem fb_all : ∀ (ds : List (ByteArray × Ob × Ob)) (l : List Ob), Rise l → (∀ f ∈ l, ¬ f = onil) → ds.Pairwise (fun x y => plt x.1 y.1) → (∀ d ∈ ds, fa l d.1 = d.2.1 ∧ (¬ d.2.2 = onil → d.2.2.1 = d.1)) →
    Rise (fb l ds) ∧ (∀ f ∈ fb l ds, ¬ f = onil) ∧ (∀ f ∈ fb l ds, f ∈ l ∨ ∃ d ∈ ds, f.1 = d.1) ∧ ∀ p, (∀ d ∈ ds, d.1 = p → fa (fb l ds) p = d.2.2) ∧ ((∀ d ∈ ds, ¬ d.1 = p) → fa (fb l ds) p = fa l p)
  | [], l, hr, nl, _, _ => ⟨hr, nl, fun f hf => .inl hf, fun p => ⟨fun d hd => (by cases hd), fun _ => rfl⟩⟩
  | d :: ds, l, hr, nl, hd, hf => by
    obtain ⟨hd1, hd2⟩ := List.pairwise_cons.1 hd
    obtain ⟨hf1, hf2⟩ := hf d (by simp)
    have hgt := rst_gt hr nl hf1
    obtain ⟨iR, iN, iM, iF⟩ := fb_all ds (rst l d) (rise_rst hr d) (fun f h => nl f (rst_in f h)) hd2 (fun x hx => ⟨by rw [fa_rst hr nl hf1 (hd1 x hx)]; exact (hf x (by simp [hx])).1, (hf x (by simp [hx])).2⟩)
    have hB : ∀ f ∈ fb (rst l d) ds, plt d.1 f.1 := fun f h => by
      rcases iM f h with q | ⟨x, hx, e⟩
      · exact hgt f q
      · rw [e]; exact hd1 x hx
    have hW : ∀ f ∈ nw d, f = d.2.2 ∧ f.1 = d.1 ∧ ¬ f = onil := fun f h => by
      unfold nw at h
      split at h
      · cases h
      · rename_i n
        rw [List.mem_singleton] at h
        exact ⟨h, by rw [h]; exact hf2 n, by rw [h]; exact n⟩
    refine ⟨rise_pw.2 ?_, fun f h => ?_, fun f h => ?_, fun p => ⟨fun x hx e => ?_, fun hn => ?_⟩⟩
    · show (ahd l d.1 ++ (nw d ++ fb (rst l d) ds)).Pairwise _
      refine List.pairwise_append.2 ⟨(rise_pw.1 hr).sublist (List.takeWhile_sublist _), List.pairwise_append.2 ⟨?_, rise_pw.1 iR, fun x hx y hy => ?_⟩, fun x hx y hy => ?_⟩
      · unfold nw; split <;> simp
      · rw [(hW x hx).2.1]; exact hB y hy
      · rcases List.mem_append.1 hy with q | q
        · rw [(hW y q).2.1]; exact ahd_lt x hx
        · exact plt_tr _ _ _ (ahd_lt x hx) (hB y q)
    · rcases List.mem_append.1 (show f ∈ ahd l d.1 ++ (nw d ++ fb (rst l d) ds) from h) with q | q
      · exact nl f (ahd_in f q)
      · rcases List.mem_append.1 q with q | q
        · exact (hW f q).2.2
        · exact iN f q
    · rcases List.mem_append.1 (show f ∈ ahd l d.1 ++ (nw d ++ fb (rst l d) ds) from h) with q | q
      · exact .inl (ahd_in f q)
      · rcases List.mem_append.1 q with q | q
        · exact .inr ⟨d, by simp, (hW f q).2.1⟩
        · rcases iM f q with k | ⟨x, hx, e⟩
          · exact .inl (rst_in f k)
          · exact .inr ⟨x, by simp [hx], e⟩
    · show fa (ahd l d.1 ++ (nw d ++ fb (rst l d) ds)) p = x.2.2
      have hpx : ¬ plt p d.1 := by
        rcases List.mem_cons.1 hx with q | q
        · rw [← e, q]; exact plt_irr _
        · rw [← e]; exact plt_as (hd1 x q)
      rw [fa_app, if_neg (by rintro ⟨f, h, k⟩; have := ahd_lt f h; rw [k] at this; exact hpx this)]
      rcases List.mem_cons.1 hx with q | q
      · subst q
        by_cases n : x.2.2 = onil
        · have : nw x = [] := if_pos n
          rw [this, List.nil_append, n]
          exact fa_no fun f h k => by have := hB f h; rw [k, ← e] at this; exact plt_irr _ this
        · have : nw x = [x.2.2] := if_neg n
          rw [fa_app, this, if_pos ⟨x.2.2, by simp, by rw [hf2 n]; exact e⟩]
          have k := fa_dif (l := [x.2.2]) (by simp [Dif]) (f := x.2.2) (by simp)
          rw [hf2 n, e] at k
          exact k
      · rw [fa_app, if_neg (by rintro ⟨f, h, k⟩; rw [(hW f h).2.1] at k; have := hd1 x q; rw [e, ← k] at this; exact plt_irr _ this)]
        exact (iF p).1 x q e
    · show fa (ahd l d.1 ++ (nw d ++ fb (rst l d) ds)) p = fa l p
      have hnd : ¬ d.1 = p := hn d (by simp)
      have hns : ∀ x ∈ ds, ¬ x.1 = p := fun x hx => hn x (by simp [hx])
      have hl := fa_app (ahd l d.1) (bhd l d.1) p
      rw [ahd_bhd] at hl
      rw [fa_app, hl]
      split
      · rfl
      · rename_i ha
        rw [fa_app, if_neg (by rintro ⟨f, h, k⟩; rw [(hW f h).2.1] at k; exact hnd k), (iF p).2 hns]
        rcases plt_tri d.1 p with q | q | q
        · rw [fa_rst hr nl hf1 q, hl, if_neg ha]
        · exact absurd q hnd
        · rw [fa_no (l := rst l d) (fun f h k => by have := hgt f h; rw [k] at this; exact plt_as q this), fa_no (l := bhd l d.1) (fun f h k => by have := bhd_ge hr f h; rw [k] at this; exact this q)]
end Go.Proofs.YtkgcpndnlefkoaaGreatDoor.Fl
