/- The landed script: the command that a word stands for. -/
import Derived.Test.YtfhmfjcpggddkaaGreatDoorM32
import Derived.Test.YtfhmfjcpggddkaaGreatDoorM38
import Derived.Test.YtfhmfjcpggddkaaGreatDoorM40
namespace Go.Proofs.YtfhmfjcpggddkaaGreatDoor
open Go.RowKit Lh

theorem plIs_some {st : Option Sc} {F : Nat → Prop} {p : Nat} {W : World} (h : PlIs st F p W) (hs : st ≠ none) : ∃ S r g cap, st = some S ∧ PlY S F p r g cap W := by
  rcases h with ⟨h1, _⟩ | h
  · exact absurd h1 hs
  · exact h
/-- a command's function does what the command is -/
def CloR (w : List UInt8) (q : Nat) (f : Nat) (caps : Array Value) (early : Bool) : Prop :=
  ∀ (w0 W : World) (a : Nat → Addr) (p m : Nat) (F : Nat → Prop) (st : Option Sc) (j B : Nat) (N : List Nat) (H : List ByteArray) (vn vh : Value) (hh : Int) (n : Nat),
    PlC w0 a p q m F W → PlIs st F p W → StB st j → j ≤ 100 → (early = false → st ≠ none) → CmOk ⟨w, H, N⟩ hh n → H.length < 1000000 →
    W.ownsRow B 3 1 vn N.length (N.map fun n => .int .i64 (n : Nat)) → W.ownsRow B 9 1 vh H.length (H.map Value.string) → (∀ b, F b → b < B) → p + 3 < B →
    Calls Tryz.prog f (#[.agg #[vn, vh]] ++ caps) W (CmdE w0 a p q m F st ⟨w, H, N⟩ W)
theorem clo_hosts (q : Nat) : CloR wHosts q 31 #[.pointer (some ⟨q, 0, none⟩)] true := by
  intro w0 W a p m F st j B N H vn vh hh n hP hI hB hj hst hc hl hn hv hFB hpB
  have hform : some (hh, n) = some (-1, 0) := hc.form.symm.trans (show formW wHosts = some (-1, 0) by decide)
  injection hform with hform
  injection hform with hh0 hn0
  subst hh0 hn0
  obtain rfl := List.length_eq_zero_iff.1 (show N.length = 0 from hc.num)
  have hne : H ≠ [] := hc.any (by decide)
  obtain ⟨hb, ch, rfl, hhb, hcl, hhc⟩ := hosts_at hv (List.length_pos_iff.2 hne)
  have hsz : ∀ s ∈ H, s.size ≤ 300 := fun s hs => by have := (nm_word (hc.nm s hs)).2.2.2; omega
  have hvn : ∃ x n c, vn = .slice x n c := by obtain ⟨x, c, rfl⟩ := own_shape hn; exact ⟨x, _, c, rfl⟩
  have hne2 : ∀ S, st = some S → S.hosts ≠ [] := fun S hS => (hB S hS).ok.ne
  exact cl_hosts w0 a p q m F st H vn hb ch W hP hI hne2 hvn hhc hcl (List.length_pos_iff.2 hne) hl hsz (by omega)
theorem clo_table (q : Nat) : CloR wTable q 33 #[.pointer (some ⟨q, 0, none⟩)] false := by
  intro w0 W a p m F st j B N H vn vh hh n hP hI hB hj hst hc hl hn hv hFB hpB
  have hform : some (hh, n) = some (0, 1) := hc.form.symm.trans (show formW wTable = some (0, 1) by decide)
  injection hform with hform
  injection hform with hh0 hn0
  subst hh0 hn0
  obtain ⟨S, r, g, cap, rfl, hY⟩ := plIs_some hI (hst rfl)
  have hS := hB S rfl
  obtain ⟨k, rfl⟩ := List.length_eq_one_iff.1 (show N.length = 1 from hc.num)
  obtain ⟨nb, cn, rfl, hnb, _, hnc⟩ := nums_at hn (by simp)
  have hk := hnc 0 (by simp)
  have hk9 := hc.hi k (by simp)
  have hnF : ¬ F nb := fun h => by have := hFB nb h; omega
  obtain rfl : H = [] := List.length_eq_zero_iff.1 (by have h1 : ((H.length : Nat) : Int) = 0 := hc.one (by decide); omega)
  have hvh : ∃ x n c, vh = .slice x n c := by obtain ⟨x, c, rfl⟩ := own_shape hv; exact ⟨x, _, c, rfl⟩
  exact cl_table w0 W a p q m F S r g cap j hP hY hS nb cn k vh hk hk9 hvh
theorem clo_moves (q : Nat) : CloR wMoves q 35 #[.pointer (some ⟨q, 0, none⟩)] false := by
  intro w0 W a p m F st j B N H vn vh hh n hP hI hB hj hst hc hl hn hv hFB hpB
  have hform : some (hh, n) = some (-1, 1) := hc.form.symm.trans (show formW wMoves = some (-1, 1) by decide)
  injection hform with hform
  injection hform with hh0 hn0
  subst hh0 hn0
  obtain ⟨S, r, g, cap, rfl, hY⟩ := plIs_some hI (hst rfl)
  have hS := hB S rfl
  obtain ⟨k, rfl⟩ := List.length_eq_one_iff.1 (show N.length = 1 from hc.num)
  obtain ⟨nb, cn, rfl, hnb, _, hnc⟩ := nums_at hn (by simp)
  have hk := hnc 0 (by simp)
  have hk9 := hc.hi k (by simp)
  have hnF : ¬ F nb := fun h => by have := hFB nb h; omega
  have hne : H ≠ [] := hc.any (by decide)
  obtain ⟨hb, ch, rfl, hhb, hcl, hhc⟩ := hosts_at hv (List.length_pos_iff.2 hne)
  have hsz : ∀ s ∈ H, s.size ≤ 300 := fun s hs => by have := (nm_word (hc.nm s hs)).2.2.2; omega
  exact cl_moves w0 W a p q m F S r g cap j hP hY hS nb cn hb ch k H hk hk9 hhc hcl hl hsz
theorem clo_ring (q : Nat) : CloR wRing q 38 #[.pointer (some ⟨q, 0, none⟩)] false := by
  intro w0 W a p m F st j B N H vn vh hh n hP hI hB hj hst hc hl hn hv hFB hpB
  have hform : some (hh, n) = some (0, 2) := hc.form.symm.trans (show formW wRing = some (0, 2) by decide)
  injection hform with hform
  injection hform with hh0 hn0
  subst hh0 hn0
  obtain ⟨S, r, g, cap, rfl, hY⟩ := plIs_some hI (hst rfl)
  have hS := hB S rfl
  obtain ⟨k, z, rfl⟩ := len_two (show N.length = 2 from hc.num)
  obtain ⟨nb, cn, rfl, hnb, _, hnc⟩ := nums_at hn (by simp)
  have hk := hnc 0 (by simp)
  have hz := hnc 1 (by simp)
  have hk9 := hc.hi k (by simp)
  have hz9 := hc.hi z (by simp)
  obtain rfl : H = [] := List.length_eq_zero_iff.1 (by have h1 : ((H.length : Nat) : Int) = 0 := hc.one (by decide); omega)
  have hvh : ∃ x n c, vh = .slice x n c := by obtain ⟨x, c, rfl⟩ := own_shape hv; exact ⟨x, _, c, rfl⟩
  exact cl_ring w0 W a p q m F S r g cap j hP hY hS nb cn k z vh hk hz hz9 hvh
theorem clo_rival (q : Nat) : CloR wRival q 40 #[.pointer (some ⟨q, 0, none⟩)] false := by
  intro w0 W a p m F st j B N H vn vh hh n hP hI hB hj hst hc hl hn hv hFB hpB
  have hform : some (hh, n) = some (0, 1) := hc.form.symm.trans (show formW wRival = some (0, 1) by decide)
  injection hform with hform
  injection hform with hh0 hn0
  subst hh0 hn0
  obtain ⟨S, r, g, cap, rfl, hY⟩ := plIs_some hI (hst rfl)
  have hS := hB S rfl
  obtain ⟨k, rfl⟩ := List.length_eq_one_iff.1 (show N.length = 1 from hc.num)
  obtain ⟨nb, cn, rfl, hnb, _, hnc⟩ := nums_at hn (by simp)
  have hk := hnc 0 (by simp)
  have hk9 := hc.hi k (by simp)
  have hnF : ¬ F nb := fun h => by have := hFB nb h; omega
  obtain rfl : H = [] := List.length_eq_zero_iff.1 (by have h1 : ((H.length : Nat) : Int) = 0 := hc.one (by decide); omega)
  have hvh : ∃ x n c, vh = .slice x n c := by obtain ⟨x, c, rfl⟩ := own_shape hv; exact ⟨x, _, c, rfl⟩
  exact cl_rival w0 W a p q m F S r g cap j hP hY hS nb cn k vh hk hk9 hvh
theorem clo_jump (q : Nat) : CloR wJump q 43 #[] true := by
  intro w0 W a p m F st j B N H vn vh hh n hP hI hB hj hst hc hl hn hv hFB hpB
  have hform : some (hh, n) = some (0, 2) := hc.form.symm.trans (show formW wJump = some (0, 2) by decide)
  injection hform with hform
  injection hform with hh0 hn0
  subst hh0 hn0
  obtain ⟨k, z, rfl⟩ := len_two (show N.length = 2 from hc.num)
  obtain ⟨nb, cn, rfl, hnb, _, hnc⟩ := nums_at hn (by simp)
  have hk := hnc 0 (by simp)
  have hz := hnc 1 (by simp)
  have hk9 := hc.hi k (by simp)
  have hz9 := hc.hi z (by simp)
  obtain rfl : H = [] := List.length_eq_zero_iff.1 (by have h1 : ((H.length : Nat) : Int) = 0 := hc.one (by decide); omega)
  have hvh : ∃ x n c, vh = .slice x n c := by obtain ⟨x, c, rfl⟩ := own_shape hv; exact ⟨x, _, c, rfl⟩
  have hne2 : ∀ S, st = some S → S.hosts ≠ [] := fun S hS => (hB S hS).ok.ne
  exact cl_jump w0 a p q m F st nb cn k z vh W hP hI hne2 hvh hk hz hk9
theorem clo_pick (q : Nat) : CloR wPick q 45 #[.pointer (some ⟨q, 0, none⟩)] false := by
  intro w0 W a p m F st j B N H vn vh hh n hP hI hB hj hst hc hl hn hv hFB hpB
  have hform : some (hh, n) = some (0, 1) := hc.form.symm.trans (show formW wPick = some (0, 1) by decide)
  injection hform with hform
  injection hform with hh0 hn0
  subst hh0 hn0
  obtain ⟨S, r, g, cap, rfl, hY⟩ := plIs_some hI (hst rfl)
  have hS := hB S rfl
  obtain ⟨k, rfl⟩ := List.length_eq_one_iff.1 (show N.length = 1 from hc.num)
  obtain ⟨nb, cn, rfl, hnb, _, hnc⟩ := nums_at hn (by simp)
  have hk := hnc 0 (by simp)
  have hk9 := hc.hi k (by simp)
  have hnF : ¬ F nb := fun h => by have := hFB nb h; omega
  obtain rfl : H = [] := List.length_eq_zero_iff.1 (by have h1 : ((H.length : Nat) : Int) = 0 := hc.one (by decide); omega)
  have hvh : ∃ x n c, vh = .slice x n c := by obtain ⟨x, c, rfl⟩ := own_shape hv; exact ⟨x, _, c, rfl⟩
  exact cl_pick w0 W a p q m F S r g cap j hP hY hS nb cn k vh hk hk9 hnF hvh
theorem clo_look (q : Nat) : CloR wLook q 47 #[.pointer (some ⟨q, 0, none⟩)] false := by
  intro w0 W a p m F st j B N H vn vh hh n hP hI hB hj hst hc hl hn hv hFB hpB
  have hform : some (hh, n) = some (1, 1) := hc.form.symm.trans (show formW wLook = some (1, 1) by decide)
  injection hform with hform
  injection hform with hh0 hn0
  subst hh0 hn0
  obtain ⟨S, r, g, cap, rfl, hY⟩ := plIs_some hI (hst rfl)
  have hS := hB S rfl
  obtain ⟨k, rfl⟩ := List.length_eq_one_iff.1 (show N.length = 1 from hc.num)
  obtain ⟨nb, cn, rfl, hnb, _, hnc⟩ := nums_at hn (by simp)
  have hk := hnc 0 (by simp)
  have hk9 := hc.hi k (by simp)
  have hnF : ¬ F nb := fun h => by have := hFB nb h; omega
  obtain ⟨h, rfl⟩ := List.length_eq_one_iff.1 (show H.length = 1 by have h1 : ((H.length : Nat) : Int) = 1 := hc.one (by decide); omega)
  obtain ⟨hb, ch, rfl, hhb, _, hhc⟩ := hosts_at hv (by simp)
  have hh := hhc 0 (by simp)
  have hhF : ¬ F hb := fun q => by have := hFB hb q; omega
  exact cl_look w0 W a p q m F S r g cap j hP hY hS nb cn hb ch k h hk hh hnF hhF
theorem clo_drain (q : Nat) : CloR wDrain q 50 #[.pointer (some ⟨q, 0, none⟩)] false := by
  intro w0 W a p m F st j B N H vn vh hh n hP hI hB hj hst hc hl hn hv hFB hpB
  have hform : some (hh, n) = some (1, 1) := hc.form.symm.trans (show formW wDrain = some (1, 1) by decide)
  injection hform with hform
  injection hform with hh0 hn0
  subst hh0 hn0
  obtain ⟨S, r, g, cap, rfl, hY⟩ := plIs_some hI (hst rfl)
  have hS := hB S rfl
  obtain ⟨k, rfl⟩ := List.length_eq_one_iff.1 (show N.length = 1 from hc.num)
  obtain ⟨nb, cn, rfl, hnb, _, hnc⟩ := nums_at hn (by simp)
  have hk := hnc 0 (by simp)
  have hk9 := hc.hi k (by simp)
  have hnF : ¬ F nb := fun h => by have := hFB nb h; omega
  obtain ⟨h, rfl⟩ := List.length_eq_one_iff.1 (show H.length = 1 by have h1 : ((H.length : Nat) : Int) = 1 := hc.one (by decide); omega)
  obtain ⟨hb, ch, rfl, hhb, _, hhc⟩ := hosts_at hv (by simp)
  have hh := hhc 0 (by simp)
  have hhF : ¬ F hb := fun q => by have := hFB hb q; omega
  exact cl_drain w0 W a p q m F S r g cap j hP hY hS nb cn hb ch k h hk hh hnF hhF
theorem clo_tick (q : Nat) : CloR wTick q 52 #[.pointer (some ⟨q, 0, none⟩)] false := by
  intro w0 W a p m F st j B N H vn vh hh n hP hI hB hj hst hc hl hn hv hFB hpB
  have hform : some (hh, n) = some (0, 1) := hc.form.symm.trans (show formW wTick = some (0, 1) by decide)
  injection hform with hform
  injection hform with hh0 hn0
  subst hh0 hn0
  obtain ⟨S, r, g, cap, rfl, hY⟩ := plIs_some hI (hst rfl)
  have hS := hB S rfl
  obtain ⟨k, rfl⟩ := List.length_eq_one_iff.1 (show N.length = 1 from hc.num)
  obtain ⟨nb, cn, rfl, hnb, _, hnc⟩ := nums_at hn (by simp)
  have hk := hnc 0 (by simp)
  have hk9 := hc.hi k (by simp)
  have hnF : ¬ F nb := fun h => by have := hFB nb h; omega
  obtain rfl : H = [] := List.length_eq_zero_iff.1 (by have h1 : ((H.length : Nat) : Int) = 0 := hc.one (by decide); omega)
  have hvh : ∃ x n c, vh = .slice x n c := by obtain ⟨x, c, rfl⟩ := own_shape hv; exact ⟨x, _, c, rfl⟩
  exact cl_tick w0 W a p q m F S r g cap j hP hY hS hj nb cn k vh hk hk9 hvh
theorem clo_up (q : Nat) : CloR wUp q 53 #[.pointer (some ⟨q, 0, none⟩)] false := by
  intro w0 W a p m F st j B N H vn vh hh n hP hI hB hj hst hc hl hn hv hFB hpB
  have hform : some (hh, n) = some (0, 0) := hc.form.symm.trans (show formW wUp = some (0, 0) by decide)
  injection hform with hform
  injection hform with hh0 hn0
  subst hh0 hn0
  obtain ⟨S, r, g, cap, rfl, hY⟩ := plIs_some hI (hst rfl)
  have hS := hB S rfl
  obtain rfl := List.length_eq_zero_iff.1 (show N.length = 0 from hc.num)
  obtain rfl : H = [] := List.length_eq_zero_iff.1 (by have h1 : ((H.length : Nat) : Int) = 0 := hc.one (by decide); omega)
  have hvh : ∃ x n c, vh = .slice x n c := by obtain ⟨x, c, rfl⟩ := own_shape hv; exact ⟨x, _, c, rfl⟩
  have hvn : ∃ x n c, vn = .slice x n c := by obtain ⟨x, c, rfl⟩ := own_shape hn; exact ⟨x, _, c, rfl⟩
  exact cl_up w0 W a p q m F S r g cap j hP hY hS vn vh hvn hvh
theorem clo_flows (q : Nat) : CloR wFlows q 56 #[.pointer (some ⟨q, 0, none⟩)] false := by
  intro w0 W a p m F st j B N H vn vh hh n hP hI hB hj hst hc hl hn hv hFB hpB
  have hform : some (hh, n) = some (0, 0) := hc.form.symm.trans (show formW wFlows = some (0, 0) by decide)
  injection hform with hform
  injection hform with hh0 hn0
  subst hh0 hn0
  obtain ⟨S, r, g, cap, rfl, hY⟩ := plIs_some hI (hst rfl)
  have hS := hB S rfl
  obtain rfl := List.length_eq_zero_iff.1 (show N.length = 0 from hc.num)
  obtain rfl : H = [] := List.length_eq_zero_iff.1 (by have h1 : ((H.length : Nat) : Int) = 0 := hc.one (by decide); omega)
  have hvh : ∃ x n c, vh = .slice x n c := by obtain ⟨x, c, rfl⟩ := own_shape hv; exact ⟨x, _, c, rfl⟩
  have hvn : ∃ x n c, vn = .slice x n c := by obtain ⟨x, c, rfl⟩ := own_shape hn; exact ⟨x, _, c, rfl⟩
  exact cl_flows w0 W a p q m F S r g cap j hP hY hS vn vh hvn hvh
theorem clo_export (q : Nat) : CloR wExport q 58 #[.pointer (some ⟨q, 0, none⟩)] false := by
  intro w0 W a p m F st j B N H vn vh hh n hP hI hB hj hst hc hl hn hv hFB hpB
  have hform : some (hh, n) = some (0, 0) := hc.form.symm.trans (show formW wExport = some (0, 0) by decide)
  injection hform with hform
  injection hform with hh0 hn0
  subst hh0 hn0
  obtain ⟨S, r, g, cap, rfl, hY⟩ := plIs_some hI (hst rfl)
  have hS := hB S rfl
  obtain rfl := List.length_eq_zero_iff.1 (show N.length = 0 from hc.num)
  obtain rfl : H = [] := List.length_eq_zero_iff.1 (by have h1 : ((H.length : Nat) : Int) = 0 := hc.one (by decide); omega)
  have hvh : ∃ x n c, vh = .slice x n c := by obtain ⟨x, c, rfl⟩ := own_shape hv; exact ⟨x, _, c, rfl⟩
  have hvn : ∃ x n c, vn = .slice x n c := by obtain ⟨x, c, rfl⟩ := own_shape hn; exact ⟨x, _, c, rfl⟩
  exact cl_export w0 W a p q m F S r g cap j hP hY hS vn vh hvn hvh
/-- what an entry of the map is -/
structure EntR (q : Nat) (w form : List UInt8) (more early : Bool) (f : Nat) (caps : Array Value) : Prop where
  form_ : formR w form more
  pos : more = true → 0 < form.length
  kind : ∀ x ∈ form, x = 72 ∨ x = 78 ∨ x = 70
  caps_ : caps = #[] ∨ caps = #[.pointer (some ⟨q, 0, none⟩)]
  ent : ∀ args w, (callFunc f args).run Tryz.prog w = .ok (.enter f args) w
  early_ : early = false ↔ w ≠ wHosts ∧ w ≠ wJump
  clo_ : CloR w q f caps early
theorem bt_inj {x y : List UInt8} (h : bt x = bt y) : x = y := by
  have := congrArg tx h
  exact this
/-- what is found -/
theorem tab_found {q : Nat} {w : List UInt8} {v : Value} (h : (bt w, v) ∈ cmTab q) : ∃ form more early f caps, v = cmA form more early (.func (.func f) #[] caps) ∧ EntR q w form more early f caps := by
  unfold cmTab at h
  simp only [List.mem_cons, Prod.mk.injEq, List.not_mem_nil, or_false] at h
  rcases h with ⟨h, rfl⟩ | ⟨h, rfl⟩ | ⟨h, rfl⟩ | ⟨h, rfl⟩ | ⟨h, rfl⟩ | ⟨h, rfl⟩ | ⟨h, rfl⟩ | ⟨h, rfl⟩ | ⟨h, rfl⟩ | ⟨h, rfl⟩ | ⟨h, rfl⟩ | ⟨h, rfl⟩ | ⟨h, rfl⟩
  · obtain rfl := bt_inj h
    exact ⟨[72], true, true, 31, #[.pointer (some ⟨q, 0, none⟩)], rfl, formR_hosts, by decide, by decide, Or.inr rfl, enters_of Tryz.func31 (by kernel_rfl) rfl, by decide, clo_hosts q⟩
  · obtain rfl := bt_inj h
    exact ⟨[78], false, false, 33, #[.pointer (some ⟨q, 0, none⟩)], rfl, (formR_N (by decide) (by decide)), by decide, by decide, Or.inr rfl, enters_of Tryz.func33 (by kernel_rfl) rfl, by decide, clo_table q⟩
  · obtain rfl := bt_inj h
    exact ⟨[78, 72], true, false, 35, #[.pointer (some ⟨q, 0, none⟩)], rfl, formR_moves, by decide, by decide, Or.inr rfl, enters_of Tryz.func35 (by kernel_rfl) rfl, by decide, clo_moves q⟩
  · obtain rfl := bt_inj h
    exact ⟨[78, 78], false, false, 38, #[.pointer (some ⟨q, 0, none⟩)], rfl, (formR_NN (by decide) (by decide)), by decide, by decide, Or.inr rfl, enters_of Tryz.func38 (by kernel_rfl) rfl, by decide, clo_ring q⟩
  · obtain rfl := bt_inj h
    exact ⟨[78], false, false, 40, #[.pointer (some ⟨q, 0, none⟩)], rfl, (formR_N (by decide) (by decide)), by decide, by decide, Or.inr rfl, enters_of Tryz.func40 (by kernel_rfl) rfl, by decide, clo_rival q⟩
  · obtain rfl := bt_inj h
    exact ⟨[78, 78], false, true, 43, #[], rfl, (formR_NN (by decide) (by decide)), by decide, by decide, Or.inl rfl, enters_of Tryz.func43 (by kernel_rfl) rfl, by decide, clo_jump q⟩
  · obtain rfl := bt_inj h
    exact ⟨[78], false, false, 45, #[.pointer (some ⟨q, 0, none⟩)], rfl, (formR_N (by decide) (by decide)), by decide, by decide, Or.inr rfl, enters_of Tryz.func45 (by kernel_rfl) rfl, by decide, clo_pick q⟩
  · obtain rfl := bt_inj h
    exact ⟨[72, 70], false, false, 47, #[.pointer (some ⟨q, 0, none⟩)], rfl, (formR_HF (by decide) (by decide)), by decide, by decide, Or.inr rfl, enters_of Tryz.func47 (by kernel_rfl) rfl, by decide, clo_look q⟩
  · obtain rfl := bt_inj h
    exact ⟨[72, 70], false, false, 50, #[.pointer (some ⟨q, 0, none⟩)], rfl, (formR_HF (by decide) (by decide)), by decide, by decide, Or.inr rfl, enters_of Tryz.func50 (by kernel_rfl) rfl, by decide, clo_drain q⟩
  · obtain rfl := bt_inj h
    exact ⟨[78], false, false, 52, #[.pointer (some ⟨q, 0, none⟩)], rfl, (formR_N (by decide) (by decide)), by decide, by decide, Or.inr rfl, enters_of Tryz.func52 (by kernel_rfl) rfl, by decide, clo_tick q⟩
  · obtain rfl := bt_inj h
    exact ⟨[], false, false, 53, #[.pointer (some ⟨q, 0, none⟩)], rfl, (formR_0 (by decide) (by decide)), by decide, by decide, Or.inr rfl, enters_of Tryz.func53 (by kernel_rfl) rfl, by decide, clo_up q⟩
  · obtain rfl := bt_inj h
    exact ⟨[], false, false, 56, #[.pointer (some ⟨q, 0, none⟩)], rfl, (formR_0 (by decide) (by decide)), by decide, by decide, Or.inr rfl, enters_of Tryz.func56 (by kernel_rfl) rfl, by decide, clo_flows q⟩
  · obtain rfl := bt_inj h
    exact ⟨[], false, false, 58, #[.pointer (some ⟨q, 0, none⟩)], rfl, (formR_0 (by decide) (by decide)), by decide, by decide, Or.inr rfl, enters_of Tryz.func58 (by kernel_rfl) rfl, by decide, clo_export q⟩
/-- what is not found is no command -/
theorem tab_none {q : Nat} {w : List UInt8} (h : ∀ v, (bt w, v) ∉ cmTab q) : formW w = none := by
  have hne : ∀ u : List UInt8, (∃ v, (bt u, v) ∈ cmTab q) → w ≠ u := fun u ⟨v, hv⟩ e => h v (e ▸ hv)
  have n1 := hne wHosts ⟨_, List.mem_of_getElem? (i := 0) rfl⟩
  have n2 := hne wTable ⟨_, List.mem_of_getElem? (i := 1) rfl⟩
  have n3 := hne wMoves ⟨_, List.mem_of_getElem? (i := 2) rfl⟩
  have n4 := hne wRing ⟨_, List.mem_of_getElem? (i := 3) rfl⟩
  have n5 := hne wRival ⟨_, List.mem_of_getElem? (i := 4) rfl⟩
  have n6 := hne wJump ⟨_, List.mem_of_getElem? (i := 5) rfl⟩
  have n7 := hne wPick ⟨_, List.mem_of_getElem? (i := 6) rfl⟩
  have n8 := hne wLook ⟨_, List.mem_of_getElem? (i := 7) rfl⟩
  have n9 := hne wDrain ⟨_, List.mem_of_getElem? (i := 8) rfl⟩
  have n10 := hne wTick ⟨_, List.mem_of_getElem? (i := 9) rfl⟩
  have n11 := hne wUp ⟨_, List.mem_of_getElem? (i := 10) rfl⟩
  have n12 := hne wFlows ⟨_, List.mem_of_getElem? (i := 11) rfl⟩
  have n13 := hne wExport ⟨_, List.mem_of_getElem? (i := 12) rfl⟩
  unfold formW
  rw [if_neg n1, if_neg n3, if_neg (by simp [n2, n5, n7, n10]), if_neg (by simp [n4, n6]), if_neg (by simp [n8, n9]), if_neg (by simp [n11, n12, n13])]
end Go.Proofs.YtfhmfjcpggddkaaGreatDoor
