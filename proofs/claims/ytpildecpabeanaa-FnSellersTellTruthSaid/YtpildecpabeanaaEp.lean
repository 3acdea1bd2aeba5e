/-
  Chapter 10: numbers taken from the greatest, made by the laws; the walk of FnTradesOf.
-/
import Derived.Test.YtpildecpabeanaaEo
import Derived.Test.YtpildecpabeanaaEc
namespace Go.Proofs.Ytpildecpabeanaa
open Go.RowKit

/-- What the laws make of numbers: taken from the greatest. -/
def fm (x : Int) : Int := IntKind.i64.wrap (30 - x)
def mw (l : List Int) : List Int := l.map fm
theorem mw_len (l : List Int) : (mw l).length = l.length := by simp [mw]
theorem mw_step {l : List Int} {k : Nat} {x : Int} (hx : l[k]? = some x) : (mw l).take (k + 1) = (mw l).take k ++ [fm x] := by
  rw [List.take_add_one]
  unfold mw
  rw [List.getElem?_map, hx]; rfl
theorem mw_mir {l : List Int} (h : ∀ x ∈ l, 0 ≤ x ∧ x ≤ 30) : mw l = mir l := by
  unfold mw mir
  refine List.map_congr_left (fun x hx => ?_)
  have := h x hx
  exact IntWalk.i64_in _ (by omega)
theorem mw_full (l : List Int) : (mw l).take l.length = mw l := by rw [← mw_len l, List.take_length]

theorem wpList_append_one {ops : Array Oper} {rest : List Oper} {o : Oper} {a : Act} {w : World} {Q : Exit → Act → World → Prop} (hgd : o.guard = none) (s x : Operand)
    (ho : o.op = .call { callee := .builtin .append, args := #[s, x], argTypes := #[23, 23] })
    (B : Nat) (ga n ca : Nat) (xs : List Int) (hxs : xs.length = n) (hs : a.eval s = .slice (some ⟨ga, 0, none⟩) n ca) (hown : Own w B (some ⟨ga, 0, none⟩) ca xs) (g : Nat) (y : Int) (hx : a.eval x = .slice (some ⟨g, 0, none⟩) 1 1)
    (hc : w.cell? ⟨g, 0, none⟩ = some (.int .i64 y)) (hn : n ≤ 1099511627776) (hB : B ≤ w.heap.size)
    (h : ∀ gb cb w', Own w' B (some ⟨gb, 0, none⟩) cb (xs ++ [y]) → w.grownBy w' (some ga) → (gb = ga ∨ gb = w.heap.size) → wpList Try.prog ops Q rest (a.put o.dst (.slice (some ⟨gb, 0, none⟩) (n + 1) cb)) w') :
    wpList Try.prog ops Q (o :: rest) a w := by
  subst hxs
  obtain ⟨i0, hi, hz0, hz1, hz2⟩ := info_parts int_info
  refine wpList_append_own_at _ hgd s x 23 ho B 3 i0 (.int .i64 0) 1 8 Try.underlying23 hi hz0 hz1 hz2 rfl (by decide) (.slice (some ⟨ga, 0, none⟩) xs.length ca) xs.length (xs.map (Value.int .i64)) hs hown ⟨g, 0, none⟩ 1 1 [.int .i64 y] hx rfl ?_ (by simp [Value.oneCell']) (by unfold maxLen; omega) (by omega) hB ?_
  · intro j u hu
    rcases j with _ | j
    · simp at hu; subst hu; exact hc
    · simp at hu
  · intro v' w' h1 h2 _ h4
    have h5 : w'.ownsRow B 3 1 v' (xs ++ [y]).length ((xs ++ [y]).map (Value.int .i64)) := by
      rw [List.length_append, List.map_append]; exact h1
    obtain ⟨_, hsh⟩ := own_shape h5
    rcases hsh with ⟨_, hnil⟩ | ⟨gb, cb, rfl⟩
    · simp at hnil
    · have e : Value.slice (some (⟨gb, 0, none⟩ : Addr)) (xs ++ [y]).length cb = .slice (some ⟨gb, 0, none⟩) (xs.length + 1) cb := by rw [List.length_append]; rfl
      have h6 : Own w' B (some ⟨gb, 0, none⟩) cb (xs ++ [y]) := h5
      rw [e]
      refine h gb cb w' h6 h2 ?_
      rcases h4 with h4 | h4
      · exact .inl (Option.some.inj h4)
      · exact .inr (Option.some.inj h4)

/-- Two lists that a law makes, side by side: the one that grows, and the other. -/
structure Two (w3 wr : World) (g c : Nat) (xs : List Int) (g' c' : Nat) (ys : List Int) : Prop where
  own : Own wr w3.heap.size (some ⟨g, 0, none⟩) c xs
  oth : Own wr w3.heap.size (some ⟨g', 0, none⟩) c' ys
  ne : g ≠ g'
  below : Below w3.heap.size w3 wr
theorem Two.begin (w3 : World) : Two w3 ((w3.alloc (.cells #[] 3)).alloc (.cells #[] 3)) w3.heap.size 0 [] (w3.heap.size + 1) 0 [] := by
  have b1 := (Below.refl w3.heap.size w3).alloc (Nat.le_refl _) (.cells #[] 3)
  have s1 : (w3.alloc (.cells #[] 3)).heap.size = w3.heap.size + 1 := by simp
  have p2 := own_empty (w3.alloc (.cells #[] 3))
  rw [s1] at p2
  exact ⟨(own_empty w3).below ((Below.refl _ _).alloc (Nat.le_refl _) _), p2.base (Nat.le_succ _), by omega, b1.alloc b1.size _⟩
theorem Two.swap {w3 wr : World} {g c g' c' : Nat} {xs ys : List Int} (h : Two w3 wr g c xs g' c' ys) : Two w3 wr g' c' ys g c xs := ⟨h.oth, h.own, fun e => h.ne e.symm, h.below⟩
theorem Two.more {w3 wr w' : World} {g c g' c' gb cb : Nat} {xs ys : List Int} {x : Int} (y : Value) (h : Hid (Two w3 wr g c xs g' c' ys)) (ho : Own w' w3.heap.size (some ⟨gb, 0, none⟩) cb (xs ++ [x]))
    (hg : (wr.alloc (.cells #[y] 3)).grownBy w' (some g)) (hb : gb = g ∨ gb = (wr.alloc (.cells #[y] 3)).heap.size) : Hid (Two w3 w' gb cb (xs ++ [x]) g' c' ys) := by
  have h := h.out
  have ba := (Below.refl wr.heap.size wr).alloc (Nat.le_refl _) (.cells #[y] 3)
  have h1 := h.oth.below ba
  have h2 := h.below.trans (ba.mono h.below.size)
  refine ⟨ho, World.ownsRow.kept h1 hg (.inr (by have := h.ne; simpa [Value.ownBlock] using fun e => this e.symm)), ?_, h2.grown hg h2.size (fun k hk => by cases hk; exact h.own.ge)⟩
  rcases hb with rfl | rfl
  · exact h.ne
  · have := h.oth.lt
    simp; omega
theorem Two.next {w3 w' : World} {g c g' c' k : Nat} {l ys : List Int} {x : Int} (hx : l[k]? = some x) (h : Hid (Two w3 w' g c ((mw l).take k ++ [fm x]) g' c' ys)) : Hid (Two w3 w' g c ((mw l).take (k + 1)) g' c' ys) := by
  rw [mw_step hx]; exact h

set_option maxRecDepth 100000 in
set_option maxHeartbeats 4000000 in
theorem fnTradesOf_walk {A : Option Addr} {c : Nat} {xs : List Int} {w : World} (h : Came .u8 w A c xs) :
    Calls Try.prog 3 #[.slice A xs.length c] w fun e w' => e = .returned (.bool true) ∧ Below w.heap.size w w' := by
  by_cases hlen : 1048576 < xs.length
  · go_enter Try.func3, Try.ntmps3
    go_wp2
    go_ret
    exact ⟨rfl, Below.refl _ _⟩
  have HD := Lib.hid (DrawTradesOf_any A c xs w h)
  clear h
  go_enter Try.func3, Try.ntmps3
  go_wp2_with fail
  refine HD.out.mono ?_
  rintro e w1 ⟨A1, c1, b, A2, c2, s, rfl, hR1, hR2, hl1, hl2, b1⟩
  clear hlen
  cases hv : vB b && vB s with
  | false =>
    have HI := Lib.hid (TradesOf_no A1 A2 c1 c2 b s w1 hR1 hR2 (by omega) (by omega) hv)
    have HS := Lib.hid (fun (w2 : World) (hb : Below w1.heap.size w1 w2) => STradesOf_no A1 A2 c1 c2 b s w2 (hR1.below hb) (hR2.below hb) (by omega) (by omega) hv)
    clear hv hR1 hR2 HD
    go_wp2_with fail
    refine HI.out.mono ?_
    rintro e w2 ⟨rfl, b2⟩
    have B2 := b1.trans (b2.mono b1.size)
    go_wp2_with fail
    refine (HS.out w2 b2).mono ?_
    rintro e w3 ⟨rfl, b3⟩
    go_wp2
    go_ret
    exact ⟨rfl, B2.trans (b3.mono B2.size)⟩
  | true =>
    simp only [Bool.and_eq_true] at hv
    have HBb := Lib.hid (vB_Bd hv.1)
    have HBs := Lib.hid (vB_Bd hv.2)
    have HI := Lib.hid (TradesOf_yes A1 A2 c1 c2 b s w1 hR1 hR2 hv.1 hv.2)
    have HS := Lib.hid (fun (w2 : World) (hb : Below w1.heap.size w1 w2) => STradesOf_yes A1 A2 c1 c2 b s w2 (hR1.below hb) (hR2.below hb) hv.1 hv.2)
    obtain ⟨n, hn⟩ : ∃ n, n = trOf b s := ⟨_, rfl⟩
    obtain ⟨gg, hg⟩ : ∃ g, g = gnOf b s := ⟨_, rfl⟩
    rw [← hn, ← hg] at HI HS
    have hnl := trOf_le b s
    rw [← hn] at hnl
    have hg0 : 0 ≤ gg := by
      rw [hg]; exact (trG_le (dnL b) (upL s) (fun x hx => HBb.out.2 x (mem_dn.1 hx)) (fun x hx => HBs.out.2 x (mem_up.1 hx))).1
    have hmv : vB (mir s) = true ∧ vB (mir b) = true := by
      have key : ∀ l : List Int, vB l = true → vB (mir l) = true := fun l hl => by
        have h1 := vB_Bd hl
        simp only [vB, Bool.and_eq_true, List.all_eq_true, mir_len]
        exact ⟨inR_true.2 (by have := h1.1; omega), fun x hx => inR_true.2 (mir_bd h1.2 x hx)⟩
      exact ⟨key s hv.2, key b hv.1⟩
    have HM := Lib.hid (fun (A3 A4 : Option Addr) (c3 c4 : Nat) (w2 : World) (h3 : Rd w2 A3 c3 (mw s)) (h4 : Rd w2 A4 c4 (mw b)) => (by
      rw [mw_mir HBs.out.2] at h3
      rw [mw_mir HBb.out.2] at h4
      have := TradesOf_yes A3 A4 c3 c4 (mir s) (mir b) w2 h3 h4 hmv.1 hmv.2
      rw [(trOf_mir b s).1, (trOf_mir b s).2, ← hn, ← hg, mir_len, mir_len] at this
      exact this : Calls Try.prog 15 #[.slice A3 s.length c3, .slice A4 b.length c4] w2 (PairIs w2 (n : Int) gg)))
    have hnn : ((n : Int) != (n : Int)) = false := by simp
    have hgn : (gg != gg) = false := by simp
    have hn6 : n ≤ 7 := by omega
    clear hv hn hg hmv HD
    go_wp2_with fail
    refine HI.out.mono ?_
    rintro e w2 ⟨rfl, b2⟩
    have B2 := b1.trans (b2.mono b1.size)
    go_wp2_with fail
    refine (HS.out w2 b2).mono ?_
    rintro e w3 ⟨rfl, b3⟩
    have HB3 := Lib.hid (B2.trans (b3.mono B2.size))
    have HRB := Lib.hid ((hR1.below b2).below b3)
    have HRS := Lib.hid ((hR2.below b2).below b3)
    clear b1 b2 b3 B2 hR1 hR2 HS HI
    go_wp2_with fail
    go_loopw [9, 11] (fun av iv wr => ∃ (k g cc : Nat), k ≤ s.length ∧ av = .slice (some ⟨g, 0, none⟩) k cc ∧ iv = .int .i64 (k : Int) ∧ Hid (Two w3 wr g cc ((mw s).take k) (w3.heap.size + 1) 0 []))
      (fun _ iv _ => s.length - (intOf iv).toNat)
    case atStart => exact ⟨0, w3.heap.size, 0, Nat.zero_le _, rfl, rfl, Lib.hid (by simpa using Two.begin w3)⟩
    case round =>
      obtain ⟨k, g, cc, hk, rfl, rfl, HT⟩ := hrel
      by_cases hlt : k < s.length
      · obtain ⟨bx, ox, x, rfl, _, hx, hcx⟩ := (HRS.out.below HT.out.below).at_ hlt
        obtain ⟨y, hy⟩ : ∃ y, y = fm x := ⟨_, rfl⟩
        have hyw : IntKind.i64.wrap (30 - x) = y := hy.symm
        have HKL : Hid (((mw s).take k).length = k) := Lib.hid (by rw [List.length_take, mw_len]; omega)
        have HOA := Lib.hid (HT.out.own.below ((Below.refl _ _).alloc (Nat.le_refl _) (.cells #[.int .i64 y] 3)))
        have HSZ : Hid (w3.heap.size ≤ (wr.alloc (.cells #[.int .i64 y] 3)).heap.size) := Lib.hid (by have := HT.out.below.size; simp; omega)
        have HY := Lib.hid hy
        clear hy
        go_wp2_with (at_builtin; refine wpList_append_one rfl _ _ rfl w3.heap.size g k cc _ HKL.out rfl HOA.out wr.heap.size y rfl (cell_one_new _ _ _ 0 _ rfl) (by omega) HSZ.out ?_; intro gb cb w5 o5 hg5 hgb5)
        have HT5 := Two.next hx.out (by rw [← HY.out]; exact Two.more (.int .i64 y) HT o5 hg5 hgb5)
        clear o5 hg5 hgb5
        go_wp2
        go_roundw
        case rel => exact ⟨k + 1, gb, cb, by omega, rfl, by go_num, HT5⟩
        case measure => simp [intOf]; omega
      · obtain rfl : k = s.length := by omega
        have HT2 : Hid (Two w3 wr (w3.heap.size + 1) 0 [] g cc (mw s)) := Lib.hid (by have := HT.out; rw [mw_full] at this; exact this.swap)
        clear HT
        go_wp2
        go_loopw [10, 12] (fun av iv wr => ∃ (k g2 cc2 : Nat), k ≤ b.length ∧ av = .slice (some ⟨g2, 0, none⟩) k cc2 ∧ iv = .int .i64 (k : Int) ∧ Hid (Two w3 wr g2 cc2 ((mw b).take k) g cc (mw s)))
          (fun _ iv _ => b.length - (intOf iv).toNat)
        case atStart => exact ⟨0, w3.heap.size + 1, 0, Nat.zero_le _, rfl, rfl, Lib.hid (by simpa using HT2.out)⟩
        case round =>
          obtain ⟨k, g2, cc2, hk, rfl, rfl, HT⟩ := hrel
          by_cases hlt : k < b.length
          · obtain ⟨bx, ox, x, rfl, _, hx, hcx⟩ := (HRB.out.below HT.out.below).at_ hlt
            obtain ⟨y, hy⟩ : ∃ y, y = fm x := ⟨_, rfl⟩
            have hyw : IntKind.i64.wrap (30 - x) = y := hy.symm
            have HKL : Hid (((mw b).take k).length = k) := Lib.hid (by rw [List.length_take, mw_len]; omega)
            have HOA := Lib.hid (HT.out.own.below ((Below.refl _ _).alloc (Nat.le_refl _) (.cells #[.int .i64 y] 3)))
            have HSZ : Hid (w3.heap.size ≤ (wr.alloc (.cells #[.int .i64 y] 3)).heap.size) := Lib.hid (by have := HT.out.below.size; simp; omega)
            have HY := Lib.hid hy
            clear hy
            go_wp2_with (at_builtin; refine wpList_append_one rfl _ _ rfl w3.heap.size g2 k cc2 _ HKL.out rfl HOA.out wr.heap.size y rfl (cell_one_new _ _ _ 0 _ rfl) (by omega) HSZ.out ?_; intro gb cb w5 o5 hg5 hgb5)
            have HT5 := Two.next hx.out (by rw [← HY.out]; exact Two.more (.int .i64 y) HT o5 hg5 hgb5)
            clear o5 hg5 hgb5
            go_wp2
            go_roundw
            case rel => exact ⟨k + 1, gb, cb, by omega, rfl, by go_num, HT5⟩
            case measure => simp [intOf]; omega
          · obtain rfl : k = b.length := by omega
            have HT3 : Hid (Two w3 wr g2 cc2 (mw b) g cc (mw s)) := Lib.hid (by have := HT.out; rw [mw_full] at this; exact this)
            clear HT
            have HR3 := Lib.hid HT3.out.own.rd
            have HR4 := Lib.hid HT3.out.oth.rd
            have HBL := Lib.hid (HB3.out.trans (HT3.out.below.mono HB3.out.size))
            go_wp2_with fail
            refine (HM.out _ _ _ _ _ HR4.out HR3.out).mono ?_
            rintro e w6 ⟨rfl, b6⟩
            have HB6 := Lib.hid (HBL.out.trans (b6.mono HBL.out.size))
            have hnm : (n : Int) ≤ min (b.length : Int) (s.length : Int) := by omega
            clear b6
            go_wp2
            go_ret
            exact ⟨rfl, HB6.out⟩

end Go.Proofs.Ytpildecpabeanaa
