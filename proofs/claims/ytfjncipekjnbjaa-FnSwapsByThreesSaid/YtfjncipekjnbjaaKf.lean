/-
  The laws of chapter 6: the draw of KeepsDemand.
-/
import Derived.Test.YtfjncipekjnbjaaKe
import Derived.Deep.RegionLaw
namespace Go.Proofs.Ytfjncipekjnbjaa
open Go.RowKit Go.Lib

/-- What is drawn: a list of at most eight numbers, prices, and others. -/
def DrawnTPQ (w : World) (e : Ending) (w' : World) : Prop :=
  ∃ (g c : Nat) (t : List Int) (g2 off c2 : Nat) (p : List Int) (A3 : Option Addr) (c3 : Nat) (q : List Int), e = .returned (.tuple #[.slice (some ⟨g, 0, none⟩) t.length c, .slice (some ⟨g2, off, none⟩) p.length c2, .slice A3 q.length c3]) ∧ Rd w' (some ⟨g, 0, none⟩) c t ∧ Rd w' (some ⟨g2, off, none⟩) c2 p ∧ Rd w' A3 c3 q ∧ t.length ≤ 8 ∧ t.length ≤ c ∧
    (p.length = 3 ∨ p.length = 2) ∧ q.length = p.length ∧ (∀ x ∈ p, -1 ≤ x ∧ x ≤ 41) ∧ p.length ≤ c2 ∧ Below w.heap.size w w'

theorem own_at0 {w : World} {B c : Nat} {A : Option Addr} {zs : List Int} (h : Own w B A c zs) (hl : 1 ≤ zs.length) : ∃ g, A = some ⟨g, 0, none⟩ := by
  unfold Own at h
  rcases h.2 with ⟨hv, hn⟩ | ⟨g, cap, cur, hv, _⟩
  · omega
  · injection hv with h1 _ _
    exact ⟨g, h1⟩

theorem Rd.keepb {w w' : World} {b off c : Nat} {zs : List Int} (h : Rd w (some ⟨b, off, none⟩) c zs) (hb : w'.heap[b]? = w.heap[b]?) : Rd w' (some ⟨b, off, none⟩) c zs := by
  rcases h with h | ⟨b', off', hA, hc⟩
  · exact .inl h
  · injection hA with hA
    injection hA with h1 h2
    subst h1 h2
    exact .inr ⟨b, off, rfl, fun k hk => by rw [← hc k hk]; unfold World.cell?; rw [hb]⟩

set_option maxHeartbeats 1600000 in
set_option maxRecDepth 100000 in
theorem DrawKeepsDemand_any (A : Option Addr) (c : Nat) (xs : List Int) (w : World) (h : Came .u8 w A c xs) :
    Calls Try.prog 34 #[.slice A xs.length c] w (DrawnTPQ w) := by
  go_enter Try.func34, Try.ntmps34
  go_wp2_with fail
  refine (newReader_any A c xs w h).mono ?_
  rintro e w1 ⟨rb, rfl, hrb, hr1, hb1⟩
  go_wp2_with fail
  refine (someTable_any rb 0 w1 hr1 (by decide)).mono ?_
  rintro e w2 ⟨g, c2, t, rfl, ht, o2, hr2, hg2⟩
  have hge := o2.ge
  have hl1 := hr1.lt
  have hl2 := hr2.lt
  go_wp2_with fail
  refine (somePrices_any rb (0 + 40) w2 hr2 (by decide)).mono ?_
  rintro e w3 ⟨g3, off, c3, p, rfl, hp, hpb, r3, hc3, hg3, hg3', hr3, hgg3⟩
  have o23 : Own w3 w1.heap.size (some ⟨g, 0, none⟩) c2 t := o2.kept_ (A2 := some ⟨rb, 0, none⟩) hgg3 (.inr (fun e => by have h3 : g = rb := Option.some.inj e; omega))
  have HB := Lib.hid (hb1.trans (gb_below (hg2.trans hgg3) hb1.size hrb))
  have HP := Lib.hid hpb
  have HE : Hid (Own (w3.alloc (.cells #[] 3)) w3.heap.size (some ⟨w3.heap.size, 0, none⟩) 0 []) := Lib.hid (own_empty w3)
  have hb3 : Below w3.heap.size w3 (w3.alloc (.cells #[] 3)) := (Below.refl _ w3).alloc (Nat.le_refl _) _
  have HR : Hid (Rd (w3.alloc (.cells #[] 3)) (some ⟨g3, off, none⟩) c3 p) := Lib.hid (r3.below hb3)
  have hpl : p.length ≤ 3 := by omega
  clear hg2 o2 hpb
  go_wp2_with (at_builtin; refine wpList_append_any rfl _ _ 24 Try.underlying24 rfl w3.heap.size (some ⟨w3.heap.size, 0, none⟩) 0 [] 0 rfl rfl HE.out _ _ p p.length rfl rfl HR.out (by omega) hb3.size ?_; intro A4 c4 w4 o4 g4)
  have B4 := Own.grownBelow0 hb3 HE.out hb3.size g4
  obtain ⟨gq, rfl⟩ := own_at0 o4 (by simp; omega)
  have hr4 := hr3.below B4
  have o24 : Own w4 w1.heap.size (some ⟨g, 0, none⟩) c2 t := o23.below B4
  have r34 := r3.below B4
  have hgq := o4.ge
  have hge4 : g < w3.heap.size := (own_blk o23 rfl).2
  have HBB := Lib.hid (below_then HB.out B4)
  have hsz4 : w3.heap.size ≤ w4.heap.size := B4.size
  have hwq : w.heap.size ≤ gq := Nat.le_trans HB.out.size hgq
  have hg3r : g3 ≠ rb := by omega
  have hg3q : g3 ≠ gq := by omega
  have hrq : rb < gq := by omega
  have hggq : g ≠ gq := by omega
  have hl3 := hr3.lt
  have hge2 : w1.heap.size ≤ g := hge
  clear g4 hb3 HE HR o23 r3 B4 hr3 HB hgg3 hr2 hge
  rw [List.nil_append] at o4
  go_loopw [9] (fun iv wr => ∃ (j : Nat) (qs : List Int), j ≤ p.length ∧ iv = .int .i64 (j : Int) ∧ qs.length = p.length ∧ Hid (∀ x ∈ qs, -1 ≤ x ∧ x ≤ 41 + 5 * (j : Int)) ∧ Own wr w3.heap.size (some ⟨gq, 0, none⟩) c4 qs ∧ Rdr wr rb (0 + 40 + 6 + j) ∧ Below w.heap.size w wr ∧ Own wr w1.heap.size (some ⟨g, 0, none⟩) c2 t ∧ Rd wr (some ⟨g3, off, none⟩) c3 p ∧ w3.heap.size ≤ wr.heap.size)
    (fun iv _ => p.length - (intOf iv).toNat)
  case atStart => exact ⟨0, p, by omega, rfl, rfl, Lib.hid (fun x hx => by have := HP.out x hx; simp; omega), o4, hr4, HBB.out, o24, r34, hsz4⟩
  case round =>
    obtain ⟨j, qs, hj, rfl, hql, HQ, oq, hr, hb, og, rp, hsw⟩ := hrel
    by_cases hlt : j < p.length
    · obtain ⟨x, hx⟩ := at_some (xs := qs) (k := j) (by omega)
      have hcell := oq.cell hx
      have hfree := oq.free j
      have hxb := HQ.out x (List.mem_of_getElem? hx)
      have oqA : Own (wr.alloc (.cells #[.int .i64 0, .int .i64 0, .int .i64 1, .int .i64 2, .int .i64 5] 3)) w3.heap.size (some ⟨gq, 0, none⟩) c4 qs := World.ownsRow.alloc oq _
      have ogA : Own (wr.alloc (.cells #[.int .i64 0, .int .i64 0, .int .i64 1, .int .i64 2, .int .i64 5] 3)) w1.heap.size (some ⟨g, 0, none⟩) c2 t := World.ownsRow.alloc og _
      have hbA : Below wr.heap.size wr (wr.alloc (.cells #[.int .i64 0, .int .i64 0, .int .i64 1, .int .i64 2, .int .i64 5] 3)) := (Below.refl _ wr).alloc (Nat.le_refl _) _
      have rpA : Rd (wr.alloc (.cells #[.int .i64 0, .int .i64 0, .int .i64 1, .int .i64 2, .int .i64 5] 3)) (some ⟨g3, off, none⟩) c3 p := rp.below hbA
      have hrA : Rdr (wr.alloc (.cells #[.int .i64 0, .int .i64 0, .int .i64 1, .int .i64 2, .int .i64 5] 3)) rb (0 + 40 + 6 + j) := hr.alloc _
      have oL : Own (wr.alloc (.cells #[.int .i64 0, .int .i64 0, .int .i64 1, .int .i64 2, .int .i64 5] 3)) wr.heap.size (some ⟨wr.heap.size, 0, none⟩) 5 [0, 0, 1, 2, 5] := own_lit wr [0, 0, 1, 2, 5] (by decide)
      have BA : Below w.heap.size w (wr.alloc (.cells #[.int .i64 0, .int .i64 0, .int .i64 1, .int .i64 2, .int .i64 5] 3)) := below_then hb hbA
      have hcellA := oqA.cell hx
      have hrD : Rdr (wr.alloc (.cells #[.int .i64 0, .int .i64 0, .int .i64 1, .int .i64 2, .int .i64 5] 3)).drew rb (0 + 40 + 6 + j) := hrA
      have oLD : Own (wr.alloc (.cells #[.int .i64 0, .int .i64 0, .int .i64 1, .int .i64 2, .int .i64 5] 3)).drew wr.heap.size (some ⟨wr.heap.size, 0, none⟩) 5 [0, 0, 1, 2, 5] := oL
      have oqD : Own (wr.alloc (.cells #[.int .i64 0, .int .i64 0, .int .i64 1, .int .i64 2, .int .i64 5] 3)).drew w3.heap.size (some ⟨gq, 0, none⟩) c4 qs := oqA
      have ogD : Own (wr.alloc (.cells #[.int .i64 0, .int .i64 0, .int .i64 1, .int .i64 2, .int .i64 5] 3)).drew w1.heap.size (some ⟨g, 0, none⟩) c2 t := ogA
      have rpD : Rd (wr.alloc (.cells #[.int .i64 0, .int .i64 0, .int .i64 1, .int .i64 2, .int .i64 5] 3)).drew (some ⟨g3, off, none⟩) c3 p := rpA
      have BD : Below w.heap.size w (wr.alloc (.cells #[.int .i64 0, .int .i64 0, .int .i64 1, .int .i64 2, .int .i64 5] 3)).drew := BA.drew
      have HKEEP : Hid (∀ W, (wr.alloc (.cells #[.int .i64 0, .int .i64 0, .int .i64 1, .int .i64 2, .int .i64 5] 3)).drew.grownBy W (some rb) → Own W w3.heap.size (some ⟨gq, 0, none⟩) c4 qs ∧ Own W w1.heap.size (some ⟨g, 0, none⟩) c2 t ∧ Rd W (some ⟨g3, off, none⟩) c3 p ∧ Below w.heap.size w W) := Lib.hid (fun W hg =>
        ⟨oqD.kept_ (A2 := some ⟨rb, 0, none⟩) hg (.inr (fun e => by have h3 : gq = rb := Option.some.inj e; omega)), ogD.kept_ (A2 := some ⟨rb, 0, none⟩) hg (.inr (fun e => by have h3 : g = rb := Option.some.inj e; omega)), rpD.keepb (hg.block g3 (Nat.lt_of_lt_of_le hg3' (Nat.le_trans hsw (by simp))) (fun e => hg3r (Option.some.inj e))), BD.grown hg BD.size (fun k hk => by have h3 : k = rb := (Option.some.inj hk).symm; have h4 := HBB.out.size; omega)⟩)
      have HONE := Lib.hid (one_any rb (0 + 40 + 6 + j) wr.heap.size 5 5 wr.heap.size [0, 0, 1, 2, 5] (wr.alloc (.cells #[.int .i64 0, .int .i64 0, .int .i64 1, .int .i64 2, .int .i64 5] 3)).drew rfl hrD oLD (by have := hr.lt; omega) (by decide) (by decide) (by omega))
      have hlr := hr.lt
      have hne : wr.heap.size ≠ rb := by omega
      have HX := Lib.hid hx
      have HQL := Lib.hid hql
      clear hx hb hr og rp oq hbA
      go_wp2_with fail
      go_region_law ((go_simp; go_at_call 64; refine HONE.out.mono ?_; rintro e w6 ⟨v, hv, rfl, hr6, hg6⟩; obtain ⟨oq6, og6, rp6, B6⟩ := HKEEP.out _ hg6; have hcell6 := oq6.cell HX.out; have hfree6 := oq6.free j; have hvb : 0 ≤ v ∧ v ≤ 5 := (by simp only [List.mem_cons, List.not_mem_nil, or_false] at hv; omega); have ew : IntKind.i64.wrap (x + v) = x + v := IntWalk.i64_in _ (by omega)))
      all_goals (
        have oq7 := oq6.set_ j (x + v)
        have hr7 := hr6.set_ (g := gq) (i := j) (v := .int .i64 (x + v)) hrq
        have B7 : Below w.heap.size w (w6.setCell ⟨gq, j, none⟩ (.int .i64 (x + v))) := B6.setCell hwq _
        have og7 : Own (w6.setCell ⟨gq, j, none⟩ (.int .i64 (x + v))) w1.heap.size (some ⟨g, 0, none⟩) c2 t := og6.kept_ (A2 := some ⟨gq, 0, none⟩) (grown_set w6 gq j _) (.inr (fun e => hggq (Option.some.inj e)))
        have rp7 : Rd (w6.setCell ⟨gq, j, none⟩ (.int .i64 (x + v))) (some ⟨g3, off, none⟩) c3 p := Rd.other rp6 (fun e => hg3q (Option.some.inj e))
        have hs7 : w3.heap.size ≤ (w6.setCell ⟨gq, j, none⟩ (.int .i64 (x + v))).heap.size := by have := oq6.lt; simp; omega
        have HQ7 : Hid (∀ y ∈ qs.set j (x + v), -1 ≤ y ∧ y ≤ 41 + 5 * ((j + 1 : Nat) : Int)) := Lib.hid (fun y hy => by
          rcases List.mem_or_eq_of_mem_set hy with h1 | h1
          · have := HQ.out y h1; omega
          · omega)
        clear hcell hfree hcellA hcell6 hfree6 oq6 og6 rp6 B6 HQ HKEEP HONE hrD oLD oqD ogD rpD BD oqA ogA rpA hrA oL BA
        go_wp2
        go_roundw
        case rel => exact ⟨j + 1, qs.set j (x + v), by omega, by go_num, by rw [List.length_set]; exact HQL.out, HQ7, oq7, by simpa [Nat.add_assoc] using hr7, B7, og7, rp7, hs7⟩
        case measure => simp [intOf]; omega)
    · obtain rfl : j = p.length := by omega
      have h12 : (p.length : Int) > 0 := by omega
      obtain ⟨x, hx⟩ := at_some (xs := qs) (k := 0) (by omega)
      have hxb := HQ.out x (List.mem_of_getElem? hx)
      go_wp2_with fail
      refine (pick_any rb _ 12 wr hr (by omega) (by decide) (by decide)).mono ?_
      rintro e w6 ⟨m, rfl, hm0, hm1, hr6, hg6⟩
      have oq6 : Own w6 w3.heap.size (some ⟨gq, 0, none⟩) c4 qs := oq.kept_ (A2 := some ⟨rb, 0, none⟩) hg6 (.inr (fun e => by have h3 : gq = rb := Option.some.inj e; omega))
      have og6 : Own w6 w1.heap.size (some ⟨g, 0, none⟩) c2 t := og.kept_ (A2 := some ⟨rb, 0, none⟩) hg6 (.inr (fun e => by have h3 : g = rb := Option.some.inj e; omega))
      have rp6 : Rd w6 (some ⟨g3, off, none⟩) c3 p := rp.keepb (hg6.block g3 (by omega) (fun e => hg3r (Option.some.inj e)))
      have B6 : Below w.heap.size w w6 := hb.grown hg6 hb.size (fun k hk => by have h3 : k = rb := (Option.some.inj hk).symm; omega)
      have hcell := oq6.cell hx
      have hfree := oq6.free 0
      have HQL := Lib.hid hql
      have ew : IntKind.i64.wrap (x - 1) = x - 1 := IntWalk.i64_in _ (by omega)
      by_cases hm : m = 0
      · have hmb : (m == 0) = true := by simpa using hm
        have oq7 := oq6.set_ 0 (x - 1)
        have B7 : Below w.heap.size w (w6.setCell ⟨gq, 0, none⟩ (.int .i64 (x - 1))) := B6.setCell hwq _
        have og7 : Own (w6.setCell ⟨gq, 0, none⟩ (.int .i64 (x - 1))) w1.heap.size (some ⟨g, 0, none⟩) c2 t := og6.kept_ (A2 := some ⟨gq, 0, none⟩) (grown_set w6 gq 0 _) (.inr (fun e => hggq (Option.some.inj e)))
        have rp7 : Rd (w6.setCell ⟨gq, 0, none⟩ (.int .i64 (x - 1))) (some ⟨g3, off, none⟩) c3 p := Rd.other rp6 (fun e => hg3q (Option.some.inj e))
        clear hm hx hql oq6 og6 rp6 B6 oq og rp hb hg6
        go_wp2
        go_ret3
        exact ⟨g, c2, t, g3, off, c3, p, some ⟨gq, 0, none⟩, c4, qs.set 0 (x - 1), by rw [List.length_set, HQL.out]; rfl, og7.rd, rp7, oq7.rd, ht, og7.cap.1, hp, by rw [List.length_set]; exact HQL.out, HP.out, hc3, B7⟩
      · have hmb : (m == 0) = false := by simpa using hm
        clear hm hx hql oq og rp hb hg6
        go_wp2
        go_ret3
        exact ⟨g, c2, t, g3, off, c3, p, some ⟨gq, 0, none⟩, c4, qs, by rw [HQL.out]; rfl, og6.rd, rp6, oq6.rd, ht, og6.cap.1, hp, HQL.out, HP.out, hc3, B6⟩

end Go.Proofs.Ytfjncipekjnbjaa
