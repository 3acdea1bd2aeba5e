/-
  Chapter 6: KeepsDemand: both sides at whatever arguments.
-/
import Derived.Test.YtfjncipekjnbjabJu
namespace Go.Proofs.Ytfjncipekjnbjab
open Go.RowKit

theorem kdB_no {t p q : List Int} (h : vt t = false ∨ vp p = false ∨ vp q = false) : kdB t p q = false := kdB_false (fun hh => by
  rcases h with h | h | h
  · rw [vt_true hh.1] at h; cases h
  · rw [vp_true hh.2.1] at h; cases h
  · rw [vp_true hh.2.2.1] at h; cases h)

set_option maxHeartbeats 800000 in
theorem SKeepsDemand_any (A B C : Option Addr) (c d f : Nat) (t p q : List Int) (w : World) (h : Rd w A c t) (g : Rd w B d p) (r : Rd w C f q) (hl : t.length ≤ 1099511627776) (hp : p.length ≤ 1099511627776) (hq : q.length ≤ 1099511627776) :
    Calls Try.prog 49 #[.slice A t.length c, .slice B p.length d, .slice C q.length f] w fun e w' => e = .returned (.bool (kdB t p q)) ∧ Below w.heap.size w w' := by
  have HV := Lib.hid (SvalidTable_any A c t w h hl)
  have HP := Lib.hid (fun w1 (g : Rd w1 B d p) => SvalidPrices_any B d p w1 g hp)
  have HQ := Lib.hid (fun w1 (g : Rd w1 C f q) => SvalidPrices_any C f q w1 g hq)
  rcases h1 : vt t with _ | _
  · have HE := Lib.hid (kdB_no (p := p) (q := q) (.inl h1))
    rw [h1] at HV
    clear h1
    go_enter Try.func49, Try.ntmps49
    go_wp2_with fail
    refine HV.out.mono ?_
    rintro e w1 ⟨rfl, n1, rfl⟩
    go_wp2
    go_ret
    exact ⟨by rw [HE.out]; rfl, below_drewN' (Below.refl _ _) n1⟩
  rcases h2 : vp p with _ | _
  · have HE := Lib.hid (kdB_no (t := t) (q := q) (.inr (.inl h2)))
    rw [h1] at HV
    rw [h2] at HP
    clear h1 h2
    go_enter Try.func49, Try.ntmps49
    go_wp2_with fail
    refine HV.out.mono ?_
    rintro e w1 ⟨rfl, n1, rfl⟩
    go_wp2_with fail
    refine (HP.out _ (g.drewN _)).mono ?_
    rintro e w1 ⟨rfl, n2, rfl⟩
    go_wp2
    go_ret
    exact ⟨by rw [HE.out]; rfl, below_drewN' (Below.refl _ _) (n1 + n2)⟩
  rcases h3 : vp q with _ | _
  · have HE := Lib.hid (kdB_no (t := t) (p := p) (.inr (.inr h3)))
    rw [h1] at HV
    rw [h2] at HP
    rw [h3] at HQ
    clear h1 h2 h3
    go_enter Try.func49, Try.ntmps49
    go_wp2_with fail
    refine HV.out.mono ?_
    rintro e w1 ⟨rfl, n1, rfl⟩
    go_wp2_with fail
    refine (HP.out _ (g.drewN _)).mono ?_
    rintro e w1 ⟨rfl, n2, rfl⟩
    go_wp2_with fail
    refine (HQ.out _ (r.drewN _)).mono ?_
    rintro e w1 ⟨rfl, n3, rfl⟩
    go_wp2
    go_ret
    exact ⟨by rw [HE.out]; rfl, below_drewN' (Below.refl _ _) (n1 + n2 + n3)⟩
  exact SKeepsDemand_yes A B C c d f t p q w h g r (vt_iff.1 h1) (vp_iff.1 h2) (vp_iff.1 h3)

set_option maxHeartbeats 800000 in
theorem KeepsDemand_any (A B C : Option Addr) (c d f : Nat) (t p q : List Int) (w : World) (h : Rd w A c t) (g : Rd w B d p) (r : Rd w C f q) (hl : t.length ≤ 1099511627776) :
    Calls Try.prog 50 #[.slice A t.length c, .slice B p.length d, .slice C q.length f] w fun e w' => e = .returned (.bool (kdB t p q)) ∧ Below w.heap.size w w' := by
  have HI := Lib.hid (isPriced_any A B c d t p w h g hl)
  have HQ := Lib.hid (fun w1 (g : Rd w1 C f q) => arePrices_any C f q w1 g)
  rcases h1 : vt t && vp p with _ | _
  · have HE := Lib.hid (kdB_no (t := t) (p := p) (q := q) (by rcases hv : vt t with _ | _; exact .inl rfl; rw [hv] at h1; exact .inr (.inl (by simpa using h1))))
    rw [h1] at HI
    clear h1
    go_enter Try.func50, Try.ntmps50
    go_wp2_with fail
    go_step3
    go_wp2_with fail
    refine HI.out.mono ?_
    rintro e w1 ⟨rfl, b1⟩
    go_wp2
    try rw [Exit.noGoto_ret]
    go_ret
    exact ⟨by rw [HE.out]; rfl, b1⟩
  rcases h3 : vp q with _ | _
  · have HE := Lib.hid (kdB_no (t := t) (p := p) (.inr (.inr h3)))
    rw [h1] at HI
    rw [h3] at HQ
    clear h1 h3
    go_enter Try.func50, Try.ntmps50
    go_wp2_with fail
    go_step3
    go_wp2_with fail
    refine HI.out.mono ?_
    rintro e w1 ⟨rfl, b1⟩
    go_wp2_with fail
    refine (HQ.out _ (r.below b1)).mono ?_
    rintro e w2 ⟨rfl, rfl⟩
    go_wp2
    try rw [Exit.noGoto_ret]
    go_ret
    exact ⟨by rw [HE.out]; rfl, b1⟩
  obtain ⟨hv, hp⟩ := Bool.and_eq_true_iff.1 h1
  exact KeepsDemand_yes A B C c d f t p q w h g r (vt_iff.1 hv) (vp_iff.1 hp) (vp_iff.1 h3)

theorem KeepsDemand_both (t p q : List Int) (hl : t.length ≤ 1048576) (gl : p.length ≤ 1048576) (rl : q.length ≤ 1048576) : ∃ v,
    (∀ A c B d C f w, Rd w A c t → Rd w B d p → Rd w C f q → Calls Try.prog 49 #[.slice A t.length c, .slice B p.length d, .slice C q.length f] w fun e w' => e = .returned (.bool v) ∧ Below w.heap.size w w') ∧
    (∀ A c B d C f w, Rd w A c t → Rd w B d p → Rd w C f q → Calls Try.prog 50 #[.slice A t.length c, .slice B p.length d, .slice C q.length f] w fun e w' => e = .returned (.bool v) ∧ Below w.heap.size w w') :=
  ⟨kdB t p q, fun A c B d C f w h g r => SKeepsDemand_any A B C c d f t p q w h g r (by omega) (by omega) (by omega),
    fun A c B d C f w h g r => KeepsDemand_any A B C c d f t p q w h g r (by omega)⟩

end Go.Proofs.Ytfjncipekjnbjab
