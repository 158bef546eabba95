/- The reference's memory of layer 2: what a write does to its pieces; Load. Conditions: as each theorem names them. -/
import Derived.Test.YtfjccpalkdmniaaRf2
import Derived.Test.YtfjccpalkdmniaaMp0
namespace Go.Proofs.Ytfjccpalkdmniaa
open Go.ChangeShapes Go.WideShapes Go.ChangeAt Go.RowKit
set_option linter.unusedVariables false

theorem ext_getD {a b : List Int} (hl : a.length = b.length) (h : ∀ i, i < a.length → a.getD i 0 = b.getD i 0) : a = b := by
  apply List.ext_getElem hl
  intro i h1 h2
  have := h i h1
  simpa [List.getD, h1, h2] using this
theorem part_put_same {L : List (Int × Int)} {M l : List Int} (hlen : M.length = sumR L) {i k : Nat} (hi : i < L.length) (hk : k + l.length ≤ (at_ L i).2.toNat) : part L (put M (off L i + k) l) i = put (part L M i) k l := by
  have hroom := off_room L i hi
  have hpl := part_len hlen hi
  have hput := put_length M (off L i + k) l (by omega)
  have h1 : (part L (put M (off L i + k) l) i).length = (at_ L i).2.toNat := part_len (hput.trans hlen) hi
  have h2 : (put (part L M i) k l).length = (at_ L i).2.toNat := by rw [put_length _ _ _ (by omega), hpl]
  refine ext_getD (h1.trans h2.symm) fun j hj => ?_
  rw [h1] at hj
  rw [part_getD hj, put_getD _ _ _ (by omega), put_getD _ _ _ (by omega), part_getD hj]
  by_cases hc : k ≤ j ∧ j < k + l.length
  · rw [if_pos (by omega), if_pos hc]
    congr 1
    omega
  · rw [if_neg (by omega), if_neg hc]
theorem part_put_other {L : List (Int × Int)} {M l : List Int} (hlen : M.length = sumR L) {i j k : Nat} (hi : i < L.length) (hj : j < L.length) (hne : j ≠ i) (hk : k + l.length ≤ (at_ L i).2.toNat) : part L (put M (off L i + k) l) j = part L M j := by
  have hroom := off_room L i hi
  have hput := put_length M (off L i + k) l (by omega)
  have h1 : (part L (put M (off L i + k) l) j).length = (at_ L j).2.toNat := part_len (hput.trans hlen) hj
  have h2 : (part L M j).length = (at_ L j).2.toNat := part_len hlen hj
  refine ext_getD (h1.trans h2.symm) fun q hq => ?_
  rw [h1] at hq
  rw [part_getD hq, put_getD _ _ _ (by omega), part_getD hq, if_neg]
  rcases Nat.lt_or_gt_of_ne hne with hlt | hgt
  · have := off_lt_of hlt hi
    omega
  · have := off_lt_of hgt hj
    omega
theorem IsRef.put {w : World} {base rp lb bb cL cB : Nat} {aB : Option Addr} {D : Nat → Nat} {L : List (Int × Int)} {M : List Int} (h : IsRef w base rp lb bb cL cB aB D L M) {i k : Nat} {l : List Int} (hi : i < L.length) (hk : k + l.length ≤ (at_ L i).2.toNat) (hl : isBytes l) :
    IsRef (w.setRow (D i) (bv (Go.Proofs.Ytfjccpalkdmniaa.put (part L M i) k l))) base rp lb bb cL cB aB D L (Go.Proofs.Ytfjccpalkdmniaa.put M (off L i + k) l) := by
  have hc := Chg.setRow w (D i) (bv (Go.Proofs.Ytfjccpalkdmniaa.put (part L M i) k l))
  have hroom := off_room L i hi
  have hne := h.ne i hi
  have hll := h.len
  refine ⟨(hc.cell (World.block_lt_of_cell? _ _ h.o0) (fun e => hne.1 e.symm)).trans h.o0, (hc.cell (World.block_lt_of_cell? _ _ h.o1) (fun e => hne.1 e.symm)).trans h.o1, h.aB,
    fun j hj => ⟨(hc.cell (World.block_lt_of_cell? _ _ (h.regs j hj).1) (fun e => hne.2.1 e.symm)).trans (h.regs j hj).1, (hc.cell (World.block_lt_of_cell? _ _ (h.regs j hj).2) (fun e => hne.2.1 e.symm)).trans (h.regs j hj).2⟩,
    fun j hj => (hc.cell (World.block_lt_of_cell? _ _ (h.rows j hj)) (fun e => hne.2.2.1 e.symm)).trans (h.rows j hj), fun j hj => ?_, h.inj, h.ne, h.ok, h.n16, (put_length M _ l (by omega)).trans h.len, put_bytes h.rng hl⟩
  by_cases e : j = i
  · subst e
    rw [part_put_same h.len hj hk]
    exact setRow_heap _ _ _ _ _ _ (h.parts j hj)
  · rw [part_put_other h.len hi hj e hk]
    exact hc.keep (h.parts j hj) (fun e2 => e (h.inj j i hj hi e2))

set_option maxRecDepth 100000 in
set_option maxHeartbeats 4000000 in
theorem rload_1 (base rp lb bb cL cB : Nat) (aB : Option Addr) (D : Nat → Nat) (L : List (Int × Int)) (M : List Int) (a : Int) (w : World) (h : IsRef w base rp lb bb cL cB aB D L M) (ha : U64 a) :
    Calls Try.prog 18 #[.pointer (some ⟨rp, 0, none⟩), .int .u64 a, .int .i64 1] w fun e w' => e = .returned (.tuple #[.int .u64 (loadV L M a 1), .int .i64 (accE L a 1)]) ∧ Below w.heap.size w w' := by
  have H := hid_mk h
  have HW := hid_mk (show wid (1 : Int) = true by rfl)
  have hf := rfind_any base rp lb bb cL cB aB D L M a 1 w h ha (by omega)
  clear h
  go_enter Try.func18, Try.ntmps18
  go_wp2_with fail
  refine hf.mono ?_
  rintro e w' ⟨x, y, rfl, hF, hb⟩
  have HB := hid_mk hb
  have H2 := hid_mk (H.out.below hb)
  rcases hF with ⟨h1, rfl, rfl⟩ | ⟨i, k, hi, h1, rfl, rfl, hki, _⟩
  · have H1 := hid_mk h1
    clear h1 hb hf
    go_wp2_with fail
    go_ret2
    refine ⟨ret_eq ?_, HB.out⟩
    unfold loadV accE
    rw [HW.out, H1.out]
    rfl
  · have H1 := hid_mk h1
    have hd0 : decide ((i : Int) < 0) = false := by simp
    have h16i : (i : Int) < (L.length : Int) := by omega
    have o1 := H2.out.o1
    rw [H2.out.aB (by omega)] at o1
    have ro := H2.out.rows i hi
    have hat := okR_at H2.out.ok i hi
    have hpl := part_len H2.out.len hi (M := M)
    have hcell := fun q (hq : q < (part L M i).length) => cellB (H2.out.parts i hi) q hq
    have hby : ∀ q, q < (at_ L i).2.toNat → 0 ≤ M.getD (off L i + q) 0 ∧ M.getD (off L i + q) 0 < 256 := fun q hq => isBytes_at H2.out.rng _
    have hroom := off_room L i hi
    obtain ⟨m, hm⟩ : ∃ m, (at_ L i).2.toNat = m := ⟨_, rfl⟩
    have hc2 : ∀ q, q < m → w'.cell? ⟨D i, q, none⟩ = some (.int .u8 (M.getD (off L i + q) 0)) := fun q hq => by
      rw [hcell q (by omega), part_getD (by omega)]
    have HC := hid_mk hc2
    have HBY := hid_mk (hm ▸ hby)
    have hkm : k + 1 ≤ m := by omega
    have hm20 : (m : Int) ≤ 1048576 := by omega
    have hLl : ((M.drop (off L i + k)).take 1).length = 1 := by
      have := H2.out.len
      simp
      omega
    have HLL := hid_mk hLl
    have HLB := hid_mk (isBytes_take (isBytes_drop H2.out.rng (off L i + k)) 1)
    have HLG := hid_mk (fun u (hu : u < 1) => show ((M.drop (off L i + k)).take 1).getD u 0 = M.getD (off L i + (k + u)) 0 by
      simp only [List.getD_eq_getElem?_getD, List.getElem?_take, List.getElem?_drop]
      rw [if_pos hu, Nat.add_assoc])
    rw [hm] at ro
    generalize D i = d at *
    clear h1 hb hf hcell hby hroom hpl hat hc2 hLl hki hm
    go_wp2_with fail
    go_loop [10, 11] (fun s q => ∃ t : Nat, t ≤ 1 ∧ q = .int .i64 ((t : Int) - 1) ∧ s = .int .u64 (le (((M.drop (off L i + k)).take 1).drop t))) (fun _ q => (intOf q + 1).toNat)
    case atStart => exact ⟨1, Nat.le_refl _, rfl, by rw [List.drop_of_length_le (by rw [HLL.out]; exact Nat.le_refl _)]; rfl⟩
    case round =>
      obtain ⟨t, ht, rfl, rfl⟩ := hrel
      rcases Nat.eq_zero_or_pos t with ht0 | htp
      · subst ht0
        have hneg : decide (0 ≤ (0 : Int) - 1) = false := by simp
        go_wp2_with fail
        go_ret2
        refine ⟨ret_eq ?_, HB.out⟩
        unfold loadV accE
        rw [HW.out, H1.out]
        rfl
      · obtain ⟨u, rfl⟩ : ∃ u, t = u + 1 := ⟨t - 1, by omega⟩
        have hst := leL_step ((M.drop (off L i + k)).take 1) u (by rw [HLL.out]; omega)
        rw [HLG.out u (by omega)] at hst
        have HSTEP := hid_mk hst
        obtain ⟨hd0, hd1⟩ := le_bd HLB.out u (by rw [HLL.out]; omega) (by rw [HLL.out]; omega)
        obtain ⟨hf0, hf1⟩ := HBY.out (k + u) (by omega)
        have cc := HC.out (k + u) (by omega)
        have hkum : (k : Int) + (u : Int) < (m : Int) := by omega
        clear hst
        generalize M.getD (off L i + (k + u)) 0 = z at *
        go_wp2_with fail
        go_round
        case rel => exact ⟨u, by omega, by go_num, by rw [HSTEP.out]⟩
        case measure => simp [intOf]

set_option maxRecDepth 100000 in
set_option maxHeartbeats 4000000 in
theorem rload_2 (base rp lb bb cL cB : Nat) (aB : Option Addr) (D : Nat → Nat) (L : List (Int × Int)) (M : List Int) (a : Int) (w : World) (h : IsRef w base rp lb bb cL cB aB D L M) (ha : U64 a) :
    Calls Try.prog 18 #[.pointer (some ⟨rp, 0, none⟩), .int .u64 a, .int .i64 2] w fun e w' => e = .returned (.tuple #[.int .u64 (loadV L M a 2), .int .i64 (accE L a 2)]) ∧ Below w.heap.size w w' := by
  have H := hid_mk h
  have HW := hid_mk (show wid (2 : Int) = true by rfl)
  have hf := rfind_any base rp lb bb cL cB aB D L M a 2 w h ha (by omega)
  clear h
  go_enter Try.func18, Try.ntmps18
  go_wp2_with fail
  refine hf.mono ?_
  rintro e w' ⟨x, y, rfl, hF, hb⟩
  have HB := hid_mk hb
  have H2 := hid_mk (H.out.below hb)
  rcases hF with ⟨h1, rfl, rfl⟩ | ⟨i, k, hi, h1, rfl, rfl, hki, _⟩
  · have H1 := hid_mk h1
    clear h1 hb hf
    go_wp2_with fail
    go_ret2
    refine ⟨ret_eq ?_, HB.out⟩
    unfold loadV accE
    rw [HW.out, H1.out]
    rfl
  · have H1 := hid_mk h1
    have hd0 : decide ((i : Int) < 0) = false := by simp
    have h16i : (i : Int) < (L.length : Int) := by omega
    have o1 := H2.out.o1
    rw [H2.out.aB (by omega)] at o1
    have ro := H2.out.rows i hi
    have hat := okR_at H2.out.ok i hi
    have hpl := part_len H2.out.len hi (M := M)
    have hcell := fun q (hq : q < (part L M i).length) => cellB (H2.out.parts i hi) q hq
    have hby : ∀ q, q < (at_ L i).2.toNat → 0 ≤ M.getD (off L i + q) 0 ∧ M.getD (off L i + q) 0 < 256 := fun q hq => isBytes_at H2.out.rng _
    have hroom := off_room L i hi
    obtain ⟨m, hm⟩ : ∃ m, (at_ L i).2.toNat = m := ⟨_, rfl⟩
    have hc2 : ∀ q, q < m → w'.cell? ⟨D i, q, none⟩ = some (.int .u8 (M.getD (off L i + q) 0)) := fun q hq => by
      rw [hcell q (by omega), part_getD (by omega)]
    have HC := hid_mk hc2
    have HBY := hid_mk (hm ▸ hby)
    have hkm : k + 2 ≤ m := by omega
    have hm20 : (m : Int) ≤ 1048576 := by omega
    have hLl : ((M.drop (off L i + k)).take 2).length = 2 := by
      have := H2.out.len
      simp
      omega
    have HLL := hid_mk hLl
    have HLB := hid_mk (isBytes_take (isBytes_drop H2.out.rng (off L i + k)) 2)
    have HLG := hid_mk (fun u (hu : u < 2) => show ((M.drop (off L i + k)).take 2).getD u 0 = M.getD (off L i + (k + u)) 0 by
      simp only [List.getD_eq_getElem?_getD, List.getElem?_take, List.getElem?_drop]
      rw [if_pos hu, Nat.add_assoc])
    rw [hm] at ro
    generalize D i = d at *
    clear h1 hb hf hcell hby hroom hpl hat hc2 hLl hki hm
    go_wp2_with fail
    go_loop [10, 11] (fun s q => ∃ t : Nat, t ≤ 2 ∧ q = .int .i64 ((t : Int) - 1) ∧ s = .int .u64 (le (((M.drop (off L i + k)).take 2).drop t))) (fun _ q => (intOf q + 1).toNat)
    case atStart => exact ⟨2, Nat.le_refl _, rfl, by rw [List.drop_of_length_le (by rw [HLL.out]; exact Nat.le_refl _)]; rfl⟩
    case round =>
      obtain ⟨t, ht, rfl, rfl⟩ := hrel
      rcases Nat.eq_zero_or_pos t with ht0 | htp
      · subst ht0
        have hneg : decide (0 ≤ (0 : Int) - 1) = false := by simp
        go_wp2_with fail
        go_ret2
        refine ⟨ret_eq ?_, HB.out⟩
        unfold loadV accE
        rw [HW.out, H1.out]
        rfl
      · obtain ⟨u, rfl⟩ : ∃ u, t = u + 1 := ⟨t - 1, by omega⟩
        have hst := leL_step ((M.drop (off L i + k)).take 2) u (by rw [HLL.out]; omega)
        rw [HLG.out u (by omega)] at hst
        have HSTEP := hid_mk hst
        obtain ⟨hd0, hd1⟩ := le_bd HLB.out u (by rw [HLL.out]; omega) (by rw [HLL.out]; omega)
        obtain ⟨hf0, hf1⟩ := HBY.out (k + u) (by omega)
        have cc := HC.out (k + u) (by omega)
        have hkum : (k : Int) + (u : Int) < (m : Int) := by omega
        clear hst
        generalize M.getD (off L i + (k + u)) 0 = z at *
        go_wp2_with fail
        go_round
        case rel => exact ⟨u, by omega, by go_num, by rw [HSTEP.out]⟩
        case measure => simp [intOf]

set_option maxRecDepth 100000 in
set_option maxHeartbeats 4000000 in
theorem rload_4 (base rp lb bb cL cB : Nat) (aB : Option Addr) (D : Nat → Nat) (L : List (Int × Int)) (M : List Int) (a : Int) (w : World) (h : IsRef w base rp lb bb cL cB aB D L M) (ha : U64 a) :
    Calls Try.prog 18 #[.pointer (some ⟨rp, 0, none⟩), .int .u64 a, .int .i64 4] w fun e w' => e = .returned (.tuple #[.int .u64 (loadV L M a 4), .int .i64 (accE L a 4)]) ∧ Below w.heap.size w w' := by
  have H := hid_mk h
  have HW := hid_mk (show wid (4 : Int) = true by rfl)
  have hf := rfind_any base rp lb bb cL cB aB D L M a 4 w h ha (by omega)
  clear h
  go_enter Try.func18, Try.ntmps18
  go_wp2_with fail
  refine hf.mono ?_
  rintro e w' ⟨x, y, rfl, hF, hb⟩
  have HB := hid_mk hb
  have H2 := hid_mk (H.out.below hb)
  rcases hF with ⟨h1, rfl, rfl⟩ | ⟨i, k, hi, h1, rfl, rfl, hki, _⟩
  · have H1 := hid_mk h1
    clear h1 hb hf
    go_wp2_with fail
    go_ret2
    refine ⟨ret_eq ?_, HB.out⟩
    unfold loadV accE
    rw [HW.out, H1.out]
    rfl
  · have H1 := hid_mk h1
    have hd0 : decide ((i : Int) < 0) = false := by simp
    have h16i : (i : Int) < (L.length : Int) := by omega
    have o1 := H2.out.o1
    rw [H2.out.aB (by omega)] at o1
    have ro := H2.out.rows i hi
    have hat := okR_at H2.out.ok i hi
    have hpl := part_len H2.out.len hi (M := M)
    have hcell := fun q (hq : q < (part L M i).length) => cellB (H2.out.parts i hi) q hq
    have hby : ∀ q, q < (at_ L i).2.toNat → 0 ≤ M.getD (off L i + q) 0 ∧ M.getD (off L i + q) 0 < 256 := fun q hq => isBytes_at H2.out.rng _
    have hroom := off_room L i hi
    obtain ⟨m, hm⟩ : ∃ m, (at_ L i).2.toNat = m := ⟨_, rfl⟩
    have hc2 : ∀ q, q < m → w'.cell? ⟨D i, q, none⟩ = some (.int .u8 (M.getD (off L i + q) 0)) := fun q hq => by
      rw [hcell q (by omega), part_getD (by omega)]
    have HC := hid_mk hc2
    have HBY := hid_mk (hm ▸ hby)
    have hkm : k + 4 ≤ m := by omega
    have hm20 : (m : Int) ≤ 1048576 := by omega
    have hLl : ((M.drop (off L i + k)).take 4).length = 4 := by
      have := H2.out.len
      simp
      omega
    have HLL := hid_mk hLl
    have HLB := hid_mk (isBytes_take (isBytes_drop H2.out.rng (off L i + k)) 4)
    have HLG := hid_mk (fun u (hu : u < 4) => show ((M.drop (off L i + k)).take 4).getD u 0 = M.getD (off L i + (k + u)) 0 by
      simp only [List.getD_eq_getElem?_getD, List.getElem?_take, List.getElem?_drop]
      rw [if_pos hu, Nat.add_assoc])
    rw [hm] at ro
    generalize D i = d at *
    clear h1 hb hf hcell hby hroom hpl hat hc2 hLl hki hm
    go_wp2_with fail
    go_loop [10, 11] (fun s q => ∃ t : Nat, t ≤ 4 ∧ q = .int .i64 ((t : Int) - 1) ∧ s = .int .u64 (le (((M.drop (off L i + k)).take 4).drop t))) (fun _ q => (intOf q + 1).toNat)
    case atStart => exact ⟨4, Nat.le_refl _, rfl, by rw [List.drop_of_length_le (by rw [HLL.out]; exact Nat.le_refl _)]; rfl⟩
    case round =>
      obtain ⟨t, ht, rfl, rfl⟩ := hrel
      rcases Nat.eq_zero_or_pos t with ht0 | htp
      · subst ht0
        have hneg : decide (0 ≤ (0 : Int) - 1) = false := by simp
        go_wp2_with fail
        go_ret2
        refine ⟨ret_eq ?_, HB.out⟩
        unfold loadV accE
        rw [HW.out, H1.out]
        rfl
      · obtain ⟨u, rfl⟩ : ∃ u, t = u + 1 := ⟨t - 1, by omega⟩
        have hst := leL_step ((M.drop (off L i + k)).take 4) u (by rw [HLL.out]; omega)
        rw [HLG.out u (by omega)] at hst
        have HSTEP := hid_mk hst
        obtain ⟨hd0, hd1⟩ := le_bd HLB.out u (by rw [HLL.out]; omega) (by rw [HLL.out]; omega)
        obtain ⟨hf0, hf1⟩ := HBY.out (k + u) (by omega)
        have cc := HC.out (k + u) (by omega)
        have hkum : (k : Int) + (u : Int) < (m : Int) := by omega
        clear hst
        generalize M.getD (off L i + (k + u)) 0 = z at *
        go_wp2_with fail
        go_round
        case rel => exact ⟨u, by omega, by go_num, by rw [HSTEP.out]⟩
        case measure => simp [intOf]

set_option maxRecDepth 100000 in
set_option maxHeartbeats 4000000 in
theorem rload_8 (base rp lb bb cL cB : Nat) (aB : Option Addr) (D : Nat → Nat) (L : List (Int × Int)) (M : List Int) (a : Int) (w : World) (h : IsRef w base rp lb bb cL cB aB D L M) (ha : U64 a) :
    Calls Try.prog 18 #[.pointer (some ⟨rp, 0, none⟩), .int .u64 a, .int .i64 8] w fun e w' => e = .returned (.tuple #[.int .u64 (loadV L M a 8), .int .i64 (accE L a 8)]) ∧ Below w.heap.size w w' := by
  have H := hid_mk h
  have HW := hid_mk (show wid (8 : Int) = true by rfl)
  have hf := rfind_any base rp lb bb cL cB aB D L M a 8 w h ha (by omega)
  clear h
  go_enter Try.func18, Try.ntmps18
  go_wp2_with fail
  refine hf.mono ?_
  rintro e w' ⟨x, y, rfl, hF, hb⟩
  have HB := hid_mk hb
  have H2 := hid_mk (H.out.below hb)
  rcases hF with ⟨h1, rfl, rfl⟩ | ⟨i, k, hi, h1, rfl, rfl, hki, _⟩
  · have H1 := hid_mk h1
    clear h1 hb hf
    go_wp2_with fail
    go_ret2
    refine ⟨ret_eq ?_, HB.out⟩
    unfold loadV accE
    rw [HW.out, H1.out]
    rfl
  · have H1 := hid_mk h1
    have hd0 : decide ((i : Int) < 0) = false := by simp
    have h16i : (i : Int) < (L.length : Int) := by omega
    have o1 := H2.out.o1
    rw [H2.out.aB (by omega)] at o1
    have ro := H2.out.rows i hi
    have hat := okR_at H2.out.ok i hi
    have hpl := part_len H2.out.len hi (M := M)
    have hcell := fun q (hq : q < (part L M i).length) => cellB (H2.out.parts i hi) q hq
    have hby : ∀ q, q < (at_ L i).2.toNat → 0 ≤ M.getD (off L i + q) 0 ∧ M.getD (off L i + q) 0 < 256 := fun q hq => isBytes_at H2.out.rng _
    have hroom := off_room L i hi
    obtain ⟨m, hm⟩ : ∃ m, (at_ L i).2.toNat = m := ⟨_, rfl⟩
    have hc2 : ∀ q, q < m → w'.cell? ⟨D i, q, none⟩ = some (.int .u8 (M.getD (off L i + q) 0)) := fun q hq => by
      rw [hcell q (by omega), part_getD (by omega)]
    have HC := hid_mk hc2
    have HBY := hid_mk (hm ▸ hby)
    have hkm : k + 8 ≤ m := by omega
    have hm20 : (m : Int) ≤ 1048576 := by omega
    have hLl : ((M.drop (off L i + k)).take 8).length = 8 := by
      have := H2.out.len
      simp
      omega
    have HLL := hid_mk hLl
    have HLB := hid_mk (isBytes_take (isBytes_drop H2.out.rng (off L i + k)) 8)
    have HLG := hid_mk (fun u (hu : u < 8) => show ((M.drop (off L i + k)).take 8).getD u 0 = M.getD (off L i + (k + u)) 0 by
      simp only [List.getD_eq_getElem?_getD, List.getElem?_take, List.getElem?_drop]
      rw [if_pos hu, Nat.add_assoc])
    rw [hm] at ro
    generalize D i = d at *
    clear h1 hb hf hcell hby hroom hpl hat hc2 hLl hki hm
    go_wp2_with fail
    go_loop [10, 11] (fun s q => ∃ t : Nat, t ≤ 8 ∧ q = .int .i64 ((t : Int) - 1) ∧ s = .int .u64 (le (((M.drop (off L i + k)).take 8).drop t))) (fun _ q => (intOf q + 1).toNat)
    case atStart => exact ⟨8, Nat.le_refl _, rfl, by rw [List.drop_of_length_le (by rw [HLL.out]; exact Nat.le_refl _)]; rfl⟩
    case round =>
      obtain ⟨t, ht, rfl, rfl⟩ := hrel
      rcases Nat.eq_zero_or_pos t with ht0 | htp
      · subst ht0
        have hneg : decide (0 ≤ (0 : Int) - 1) = false := by simp
        go_wp2_with fail
        go_ret2
        refine ⟨ret_eq ?_, HB.out⟩
        unfold loadV accE
        rw [HW.out, H1.out]
        rfl
      · obtain ⟨u, rfl⟩ : ∃ u, t = u + 1 := ⟨t - 1, by omega⟩
        have hst := leL_step ((M.drop (off L i + k)).take 8) u (by rw [HLL.out]; omega)
        rw [HLG.out u (by omega)] at hst
        have HSTEP := hid_mk hst
        obtain ⟨hd0, hd1⟩ := le_bd HLB.out u (by rw [HLL.out]; omega) (by rw [HLL.out]; omega)
        obtain ⟨hf0, hf1⟩ := HBY.out (k + u) (by omega)
        have cc := HC.out (k + u) (by omega)
        have hkum : (k : Int) + (u : Int) < (m : Int) := by omega
        clear hst
        generalize M.getD (off L i + (k + u)) 0 = z at *
        go_wp2_with fail
        go_round
        case rel => exact ⟨u, by omega, by go_num, by rw [HSTEP.out]⟩
        case measure => simp [intOf]

theorem rload_any (base rp lb bb cL cB : Nat) (aB : Option Addr) (D : Nat → Nat) (L : List (Int × Int)) (M : List Int) (a n : Int) (w : World) (h : IsRef w base rp lb bb cL cB aB D L M) (ha : U64 a) :
    Calls Try.prog 18 #[.pointer (some ⟨rp, 0, none⟩), .int .u64 a, .int .i64 n] w fun e w' => e = .returned (.tuple #[.int .u64 (loadV L M a n), .int .i64 (accE L a n)]) ∧ Below w.heap.size w w' := by
  by_cases hn : wid n = true
  · rcases wid_iff.1 hn with rfl | rfl | rfl | rfl
    · exact rload_1 base rp lb bb cL cB aB D L M a w h ha
    · exact rload_2 base rp lb bb cL cB aB D L M a w h ha
    · exact rload_4 base rp lb bb cL cB aB D L M a w h ha
    · exact rload_8 base rp lb bb cL cB aB D L M a w h ha
  · have HW : Hid (wid n = false) := hid_mk (by simpa using hn)
    have hn4 : ¬ (n = 1 ∨ n = 2 ∨ n = 4 ∨ n = 8) := fun h => hn (wid_iff.2 h)
    clear hn h
    have b1 : (n != 1) = true := by simp; omega
    have b2 : (n != 2) = true := by simp; omega
    have b4 : (n != 4) = true := by simp; omega
    have b8 : (n != 8) = true := by simp; omega
    go_enter Try.func18, Try.ntmps18
    go_wp2_with fail
    go_ret2
    refine ⟨ret_eq ?_, Below.refl _ _⟩
    unfold loadV accE
    rw [HW.out]
    rfl
end Go.Proofs.Ytfjccpalkdmniaa
