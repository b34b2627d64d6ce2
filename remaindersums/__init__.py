"""Sets of remainders added; the functions stand in remaindersums.sets."""
